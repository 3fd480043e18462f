/-
  Contract: adjointref2.entry, of Sum.
-/
import Derived.Test.YtoagnhppjlcpkaaGreatJArrRPlaced
import Derived.Test.YtoagnhppjlcpkaaGreatJRAllC
import Derived.Test.YtoagnhppjlcpkaaGreatJLinMath
import Derived.Test.YtoagnhppjlcpkaaGreatJIdxMath
namespace Go.Proofs.YtoagnhppjlcpkaaGreat.V
set_option maxRecDepth 20000
open Go.RowKit

/-- A sum that wraps round at each step. -/
def accS (g : Nat → Int) : Nat → Int
  | 0 => 0
  | t + 1 => IntKind.i64.wrap (accS g t + g t)
/-- A list of indices. -/
def fAllC (N len : Nat) (ds : List Int) : Fact := ⟨fun v w => ∃ B A c, v = .slice A N c ∧ ListsC w B A N len (fun i => dig ds i), false⟩
theorem fAllC_good (N len : Nat) (ds : List Int) : (fAllC N len ds).Good := ⟨fun _ _ _ ⟨B, A, c, h1, h2⟩ hb => ⟨B, A, c, h1, h2.below hb⟩, fun h => by cases h⟩
/-- A list of r numbers, in a row of its own. -/
def fRowL (r : Nat) (xs : List Int) : Fact := ⟨fun v w => ∃ g, v = .slice (some ⟨g, 0, none⟩) r r ∧ Ints w (some ⟨g, 0, none⟩) r xs, false⟩
theorem fRowL_good (r : Nat) (xs : List Int) : (fRowL r xs).Good := ⟨fun _ _ _ ⟨g, h1, h2⟩ hb => ⟨g, h1, h2.below hb⟩, fun h => by cases h⟩

set_option maxRecDepth 100000 in
set_option maxHeartbeats 2000000 in
theorem rentry_sum (x : Int) (vd vl vh vs : Value) (pa : Option Addr) (pl pc : Nat) (ps : List Int) (b off cap : Nat) (da : Option Addr) (dl dc : Nat) (ds : List Int) (xa : Option Addr) (n1 xc : Nat) (xs : List Int) (aa : Option Addr) (al ac : Nat) (at' : List Int) (nn : Int) (w : World) (q : Nat → Nat)
    (h0 : w.cell? ⟨b, off, none⟩ = some (.slice da dl dc)) (h1 : w.cell? ⟨b, off + 1, none⟩ = some (.slice xa n1 xc)) (hps : Ints w pa pl ps) (hd : Ints w da dl ds) (hdc : dl ≤ dc) (hx : Ints w xa n1 xs) (hat : Ints w aa al at') (h6 : dl ≤ 6) (hp6 : pl ≤ 6)
    (hpb : ∀ y ∈ ps, 0 ≤ y ∧ y < dl) (hz : sizeE (taken ds ps) = 0) (hfl : (freeL ps dl).length ≤ al)
    (hq : ∀ t : Nat, t < (prod (taken ds ps)).toNat → placeN ds (setAll (setAll (List.replicate dl 0) ps (dig (taken ds ps) t) pl) (freeL ps dl) at' (freeL ps dl).length) = (q t : Int) ∧ q t < n1) :
    Calls Tryz.prog 24 #[.agg #[.int .i64 10, vd, .slice pa pl pc, vl, vh, vs, .int .i64 x], .slice (some ⟨b, off, none⟩) 1 cap, .slice aa al ac, .int .i64 nn] w fun e w' => e = .returned (.int .i64 (accS (fun t => xs[q t]?.getD 0) (prod (taken ds ps)).toNat)) ∧ Below w.heap.size w w' := by
  have HB1 := hide ((Below.refl w.heap.size w).alloc (Nat.le_refl _) (.cells #[.int .i64 10, vd, .slice pa pl pc, vl, vh, vs, .int .i64 x] 24))
  have HOP := hide (OpAt.new w 10 vd (.slice pa pl pc) vl vh vs x)
  obtain ⟨o0, o1, o2, o3, o4, o5, o6⟩ := HOP.out.cells
  have k0 := (HB1.out.cell (p := ⟨b, off, none⟩) (lt_of_cell h0)).trans h0
  have k1 := (HB1.out.cell (p := ⟨b, off + 1, none⟩) (lt_of_cell h1)).trans h1
  have hmd := hd.2.1
  have HPS := hide hps
  have HD := hide hd
  have HX := hide hx
  have HAT := hide hat
  have HPB := hide hpb
  have HZ := hide hz
  have HQ := hide hq
  obtain ⟨NC, hNC⟩ : ∃ NC, NC = (prod (taken ds ps)).toNat := ⟨_, rfl⟩
  rw [← hNC] at HQ ⊢
  have HNC := hide hNC
  have hN6 : NC ≤ 65536 := by rw [hNC]; rcases dims_cases hz with ⟨_, _, e⟩ | ⟨_, _, _, e⟩ <;> omega
  have HFB : Hid (∀ i, i < (freeL ps dl).length → 0 ≤ (freeL ps dl)[i]?.getD 0 ∧ (freeL ps dl)[i]?.getD 0 < (dl : Int)) := fun i hi => by have := freeL_rise ps dl i hi; exact ⟨this.1, this.2.1⟩
  have HPB2 : Hid (∀ i, i < pl → 0 ≤ ps[i]?.getD 0 ∧ ps[i]?.getD 0 < (dl : Int)) := fun i hi => HPB.out _ (mem_getD ps i (by rw [HPS.out.1]; exact hi))
  clear h0 h1 hps hd hx hat hpb hz hq hNC
  go_enter Tryz.func24, Tryz.ntmps24
  go_wp2_with fail
  refine region_made 7 8 [fIs (.slice (some ⟨b, off, none⟩) 1 cap), fIs (.pointer (some ⟨b, off, none⟩)), fIs (.pointer (some ⟨b, off, none⟩)), fIs (.slice da dl dc), fIs (.pointer (some ⟨w.heap.size, 2, none⟩)), fIs (.slice pa pl pc), fLst (freeL ps dl)] (by kernel_rfl) (by kernel_rfl) (by kernel_rfl) (fun _ ⟨_, _⟩ ⟨_, _⟩ _ e h => by cases e; exact h) ⟨fIs_good _, fIs_good _, fIs_good _, fIs_good _, fIs_good _, fIs_good _, fLst_good _, trivial⟩ ?mk ?rest
  case mk =>
    refine ⟨fun u wz hb hd => ?_, fun u wz hb hd => ?_, fun u wz hb hd => ?_, fun u wz hb hd => ?_, fun u wz hb hd => ?_, fun u wz hb hd => ?_, fun u wz hb hd => ?_, trivial⟩
    all_goals simp only [Act.put, List.setIfInBounds_toArray, List.set_cons_zero, List.set_cons_succ]
    · go_simp
      exact ⟨rfl, Below.refl _ _, fun h => by cases h⟩
    · have e0 : u 0 = .slice (some ⟨b, off, none⟩) 1 cap := hd 0 (by omega) (by kernel_rfl)
      rw [e0]
      go_simp
      exact ⟨rfl, Below.refl _ _, fun h => by cases h⟩
    · have e1 : u 1 = .pointer (some ⟨b, off, none⟩) := hd 1 (by omega) (by kernel_rfl)
      rw [e1]
      go_simp
      exact ⟨rfl, Below.refl _ _, fun h => by cases h⟩
    · have e2 : u 2 = .pointer (some ⟨b, off, none⟩) := hd 2 (by omega) (by kernel_rfl)
      rw [e2]
      have k0' := (hb.cell (p := ⟨b, off, none⟩) (lt_of_cell k0)).trans k0
      go_simp
      exact ⟨rfl, Below.refl _ _, fun h => by cases h⟩
    · go_simp
      exact ⟨rfl, Below.refl _ _, fun h => by cases h⟩
    · have e4 : u 4 = .pointer (some ⟨w.heap.size, 2, none⟩) := hd 4 (by omega) (by kernel_rfl)
      rw [e4]
      have o2' := (hb.cell (p := ⟨w.heap.size, 2, none⟩) (lt_of_cell o2)).trans o2
      go_simp
      exact ⟨rfl, Below.refl _ _, fun h => by cases h⟩
    · have e3 : u 3 = .slice da dl dc := hd 3 (by omega) (by kernel_rfl)
      have e5 : u 5 = .slice pa pl pc := hd 5 (by omega) (by kernel_rfl)
      rw [e3, e5]
      go_simp
      refine (free_any _ _ _ ds _ _ _ ps wz (HD.out.below (Below.on HB1.out hb)) (HPS.out.below (Below.on HB1.out hb)) h6).mono ?_
      rintro e w2 ⟨⟨v, rfl, hv⟩, hb2⟩
      obtain ⟨X, nx, cx, rfl, hl2, _⟩ := hv
      exact ⟨⟨X, nx, cx, rfl, hl2⟩, hb2, fun h => by cases h⟩
  case rest =>
    intro u wz hb hf hp
    have f0 : u 0 = .slice (some ⟨b, off, none⟩) 1 cap := hf 0 (by omega)
    have f1 : u 1 = .pointer (some ⟨b, off, none⟩) := hf 1 (by omega)
    have f2 : u 2 = .pointer (some ⟨b, off, none⟩) := hf 2 (by omega)
    have f3 : u 3 = .slice da dl dc := hf 3 (by omega)
    have f4 : u 4 = .pointer (some ⟨w.heap.size, 2, none⟩) := hf 4 (by omega)
    have f5 : u 5 = .slice pa pl pc := hf 5 (by omega)
    obtain ⟨FX, fn, fc, f6, hfx⟩ := hf 6 (by omega)
    refine UptoW.rest 1 7 (by rfl) (by kernel_rfl) ?_
    simp only [List.take, List.drop, putOps, Act.put, List.setIfInBounds_toArray, List.set_cons_zero, List.set_cons_succ, Nat.reduceAdd, f0, f1, f2, f3, f4, f5, f6]
    clear f0 f1 f2 f3 f4 f5 f6 hf hp
    have HBz := hide (Below.on HB1.out hb)
    refine wpList_plain rfl (fun K hK => ?_)
    go_simp
    refine hK _ _ (wpList_nil ?_)
    clear hK K
    replace k0 := (hb.cell (p := ⟨b, off, none⟩) (lt_of_cell k0)).trans k0
    replace k1 := (hb.cell (p := ⟨b, off + 1, none⟩) (lt_of_cell k1)).trans k1
    replace o2 := (hb.cell (p := ⟨w.heap.size, 2, none⟩) (lt_of_cell o2)).trans o2
    have HFX := hide hfx
    clear hb hfx o0 o1 o3 o4 o5 o6 HOP
    go_wp2_with fail
    refine region_made 10 11 [fIs (.slice (some ⟨b, off, none⟩) 1 cap), fIs (.pointer (some ⟨b, off, none⟩)), fIs (.pointer (some ⟨b, off, none⟩)), fIs (.slice da dl dc), fIs (.pointer (some ⟨w.heap.size, 2, none⟩)), fIs (.slice pa pl pc), fLst (taken ds ps), fAllC NC pl (taken ds ps), fIs (.int .i64 (NC : Int)), fIs (.int .i64 0)] (by kernel_rfl) (by kernel_rfl) (by kernel_rfl) (fun _ ⟨_, _⟩ ⟨_, _⟩ _ e h => by cases e; exact h) ⟨fIs_good _, fIs_good _, fIs_good _, fIs_good _, fIs_good _, fIs_good _, fLst_good _, fAllC_good _ _ _, fIs_good _, fIs_good _, trivial⟩ ?mk ?rest
    case mk =>
      refine ⟨fun u wz hb hd => ?_, fun u wz hb hd => ?_, fun u wz hb hd => ?_, fun u wz hb hd => ?_, fun u wz hb hd => ?_, fun u wz hb hd => ?_, fun u wz hb hd => ?_, fun u wz hb hd => ?_, fun u wz hb hd => ?_, fun u wz hb hd => ?_, trivial⟩
      all_goals simp only [Act.put, List.setIfInBounds_toArray, List.set_cons_zero, List.set_cons_succ]
      · go_simp
        exact ⟨rfl, Below.refl _ _, fun h => by cases h⟩
      · have e0 : u 0 = .slice (some ⟨b, off, none⟩) 1 cap := hd 0 (by omega) (by kernel_rfl)
        rw [e0]
        go_simp
        exact ⟨rfl, Below.refl _ _, fun h => by cases h⟩
      · have e1 : u 1 = .pointer (some ⟨b, off, none⟩) := hd 1 (by omega) (by kernel_rfl)
        rw [e1]
        go_simp
        exact ⟨rfl, Below.refl _ _, fun h => by cases h⟩
      · have e2 : u 2 = .pointer (some ⟨b, off, none⟩) := hd 2 (by omega) (by kernel_rfl)
        rw [e2]
        have k0' := (hb.cell (p := ⟨b, off, none⟩) (lt_of_cell k0)).trans k0
        go_simp
        exact ⟨rfl, Below.refl _ _, fun h => by cases h⟩
      · go_simp
        exact ⟨rfl, Below.refl _ _, fun h => by cases h⟩
      · have e4 : u 4 = .pointer (some ⟨w.heap.size, 2, none⟩) := hd 4 (by omega) (by kernel_rfl)
        rw [e4]
        have o2' := (hb.cell (p := ⟨w.heap.size, 2, none⟩) (lt_of_cell o2)).trans o2
        go_simp
        exact ⟨rfl, Below.refl _ _, fun h => by cases h⟩
      · have e3 : u 3 = .slice da dl dc := hd 3 (by omega) (by kernel_rfl)
        have e5 : u 5 = .slice pa pl pc := hd 5 (by omega) (by kernel_rfl)
        rw [e3, e5]
        go_simp
        refine (chosen_any _ _ _ ds _ _ _ ps wz (HD.out.below (Below.on HBz.out hb)) (HPS.out.below (Below.on HBz.out hb)) HPB.out hp6).mono ?_
        rintro e w2 ⟨⟨v, rfl, hv⟩, hb2⟩
        obtain ⟨X, nx, cx, rfl, hl2, _⟩ := hv
        exact ⟨⟨X, nx, cx, rfl, hl2⟩, hb2, fun h => by cases h⟩
      · obtain ⟨X, nx, cx, e6, h6'⟩ := hd 6 (by omega) (by kernel_rfl)
        rw [e6]
        go_simp
        have enx : nx = pl := by rw [← h6'.1.1, taken_length, HPS.out.1]
        subst enx
        refine (rall_anyC _ _ _ (taken ds ps) wz h6'.1 HZ.out).mono ?_
        rintro e w2 ⟨⟨A, c, rfl, hls⟩, hb2⟩
        rw [← HNC.out] at hls ⊢
        exact ⟨⟨_, A, c, rfl, hls⟩, hb2, fun h => by cases h⟩
      · obtain ⟨BA, AA, ca, e7, _⟩ := hd 7 (by omega) (by kernel_rfl)
        rw [e7]
        go_simp
        exact ⟨rfl, Below.refl _ _, fun h => by cases h⟩
      · go_simp
        exact ⟨rfl, Below.refl _ _, fun h => by cases h⟩
    case rest =>
      intro u wz hb hf hp
      have f0 : u 0 = .slice (some ⟨b, off, none⟩) 1 cap := hf 0 (by omega)
      have f1 : u 1 = .pointer (some ⟨b, off, none⟩) := hf 1 (by omega)
      have f2 : u 2 = .pointer (some ⟨b, off, none⟩) := hf 2 (by omega)
      have f3 : u 3 = .slice da dl dc := hf 3 (by omega)
      have f4 : u 4 = .pointer (some ⟨w.heap.size, 2, none⟩) := hf 4 (by omega)
      have f5 : u 5 = .slice pa pl pc := hf 5 (by omega)
      obtain ⟨_, _, _, f6, _⟩ := hf 6 (by omega)
      obtain ⟨BA, AA, ca, f7, hls⟩ := hf 7 (by omega)
      have f8 : u 8 = .int .i64 (NC : Int) := hf 8 (by omega)
      have f9 : u 9 = .int .i64 0 := hf 9 (by omega)
      refine UptoW.rest 0 10 (by rfl) (by kernel_rfl) ?_
      simp only [List.take, List.drop, putOps, Act.put, List.setIfInBounds_toArray, List.set_cons_zero, List.set_cons_succ, Nat.reduceAdd, f0, f1, f2, f3, f4, f5, f6, f7, f8, f9]
      clear f0 f1 f2 f3 f4 f5 f6 f7 f8 f9 hf hp
      refine wpList_nil ?_
      have HW2 := hide (Below.on HBz.out hb)
      have HFX2 := hide (HFX.out.below hb)
      have HLS := hide hls
      replace k0 := (hb.cell (p := ⟨b, off, none⟩) (lt_of_cell k0)).trans k0
      replace k1 := (hb.cell (p := ⟨b, off + 1, none⟩) (lt_of_cell k1)).trans k1
      replace o2 := (hb.cell (p := ⟨w.heap.size, 2, none⟩) (lt_of_cell o2)).trans o2
      have HK0 := hide k0
      have HK1 := hide k1
      have HO2 := hide o2
      clear hb hls HFX HBz HB1
      have hfn : fn = (freeL ps dl).length := HFX2.out.1.1.symm
      have hfn2 : (freeL ps dl).length = fn := hfn.symm
      have HFN := hide hfn
      clear hfn hfn2
      go_wp2_with fail
      go_loopw [9, 161] (fun v i wr => ∃ t : Nat, t ≤ NC ∧ i = .int .i64 t ∧ v = .int .i64 (accS (fun t => xs[q t]?.getD 0) t) ∧ Below wz.heap.size wz wr) (fun _ i _ => NC - (intOf i).toNat)
      case atStart => exact ⟨0, Nat.zero_le _, rfl, rfl, Below.refl _ _⟩
      case round =>
        obtain ⟨t, ht, rfl, rfl, hB⟩ := hrel
        have HB := hide hB
        clear hB k0 k1 o2
        by_cases hlt : t < NC
        · obtain ⟨ba, rfl, _, hcs⟩ := HLS.out.resolve_left (by omega)
          obtain ⟨gk, ck, _, y0, hgk, _⟩ := hcs t hlt
          have y1 := (HB.out.cell (p := ⟨ba, t, none⟩) (lt_of_cell y0)).trans y0
          have HGK := hide (hgk.below HB.out)
          have k0 := (HB.out.cell (p := ⟨b, off, none⟩) (lt_of_cell HK0.out)).trans HK0.out
          have k1 := (HB.out.cell (p := ⟨b, off + 1, none⟩) (lt_of_cell HK1.out)).trans HK1.out
          have o2 := (HB.out.cell (p := ⟨w.heap.size, 2, none⟩) (lt_of_cell HO2.out)).trans HO2.out
          obtain ⟨hq1, hq2⟩ := HQ.out t hlt
          have HQ1 := hide hq1
          obtain ⟨Q, hQ⟩ : ∃ Q, Q = q t := ⟨_, rfl⟩
          rw [← hQ] at hq2 HQ1
          have HQQ := hide hQ
          obtain ⟨SV, hSV⟩ : ∃ SV, SV = accS (fun t => xs[q t]?.getD 0) t := ⟨_, rfl⟩
          have HSV := hide hSV
          rw [← hSV]
          obtain ⟨XV, hXV⟩ : ∃ XV, XV = xs[Q]?.getD 0 := ⟨_, rfl⟩
          have HXV := hide hXV
          have i1 : (0 : Int) ≤ (t : Int) := Int.natCast_nonneg _
          have i2 : (t : Int) < (NC : Int) := by omega
          clear hcs y0 hgk hq1 hQ hSV hXV
          go_wp2_with fail
          refine region_made 17 18 [fIs (.int .i64 SV), fIs (.slice (some ⟨b, off, none⟩) 1 cap), fIs (.pointer (some ⟨b, off, none⟩)), fIs (.agg #[.slice da dl dc, .slice xa n1 xc]), fIs (.slice (some ⟨b, off, none⟩) 1 cap), fIs (.pointer (some ⟨b, off, none⟩)), fIs (.pointer (some ⟨b, off, none⟩)), fIs (.slice da dl dc), fIs (.int .i64 (dl : Int)), fIs (.pointer (some ⟨w.heap.size, 2, none⟩)), fIs (.slice pa pl pc), fIs (.slice (some ⟨gk, 0, none⟩) pl ck), fIs (.slice FX fn fc), fIs (.slice aa al ac), fRowL dl (setAll (setAll (List.replicate dl 0) ps (dig (taken ds ps) t) pl) (freeL ps dl) at' (freeL ps dl).length), fIs (.int .i64 XV), fIs (.int .i64 (IntKind.i64.wrap (SV + XV)))] (by kernel_rfl) (by kernel_rfl) (by kernel_rfl) (fun _ ⟨_, _⟩ ⟨_, _⟩ _ e h => by cases e; exact h) ⟨fIs_good _, fIs_good _, fIs_good _, fIs_good _, fIs_good _, fIs_good _, fIs_good _, fIs_good _, fIs_good _, fIs_good _, fIs_good _, fIs_good _, fIs_good _, fIs_good _, fRowL_good _ _, fIs_good _, fIs_good _, trivial⟩ ?mk ?rest
          case mk =>
            refine ⟨fun u wy hb hd => ?_, fun u wy hb hd => ?_, fun u wy hb hd => ?_, fun u wy hb hd => ?_, fun u wy hb hd => ?_, fun u wy hb hd => ?_, fun u wy hb hd => ?_, fun u wy hb hd => ?_, fun u wy hb hd => ?_, fun u wy hb hd => ?_, fun u wy hb hd => ?_, fun u wy hb hd => ?_, fun u wy hb hd => ?_, fun u wy hb hd => ?_, fun u wy hb hd => ?_, fun u wy hb hd => ?_, fun u wy hb hd => ?_, trivial⟩
            all_goals simp only [Act.put, List.setIfInBounds_toArray, List.set_cons_zero, List.set_cons_succ]
            · go_simp
              exact ⟨rfl, Below.refl _ _, fun h => by cases h⟩
            · go_simp
              exact ⟨rfl, Below.refl _ _, fun h => by cases h⟩
            · have e1 : u 1 = .slice (some ⟨b, off, none⟩) 1 cap := hd 1 (by omega) (by kernel_rfl)
              rw [e1]
              go_simp
              exact ⟨rfl, Below.refl _ _, fun h => by cases h⟩
            · have e2 : u 2 = .pointer (some ⟨b, off, none⟩) := hd 2 (by omega) (by kernel_rfl)
              rw [e2]
              have k0' := (hb.cell (p := ⟨b, off, none⟩) (lt_of_cell k0)).trans k0
              have k1' := (hb.cell (p := ⟨b, off + 1, none⟩) (lt_of_cell k1)).trans k1
              go_simp
              exact ⟨rfl, Below.refl _ _, fun h => by cases h⟩
            · go_simp
              exact ⟨rfl, Below.refl _ _, fun h => by cases h⟩
            · have e4 : u 4 = .slice (some ⟨b, off, none⟩) 1 cap := hd 4 (by omega) (by kernel_rfl)
              rw [e4]
              go_simp
              exact ⟨rfl, Below.refl _ _, fun h => by cases h⟩
            · have e5 : u 5 = .pointer (some ⟨b, off, none⟩) := hd 5 (by omega) (by kernel_rfl)
              rw [e5]
              go_simp
              exact ⟨rfl, Below.refl _ _, fun h => by cases h⟩
            · have e6 : u 6 = .pointer (some ⟨b, off, none⟩) := hd 6 (by omega) (by kernel_rfl)
              rw [e6]
              have k0' := (hb.cell (p := ⟨b, off, none⟩) (lt_of_cell k0)).trans k0
              go_simp
              exact ⟨rfl, Below.refl _ _, fun h => by cases h⟩
            · have e7 : u 7 = .slice da dl dc := hd 7 (by omega) (by kernel_rfl)
              rw [e7]
              go_simp
              exact ⟨rfl, Below.refl _ _, fun h => by cases h⟩
            · go_simp
              exact ⟨rfl, Below.refl _ _, fun h => by cases h⟩
            · have e9 : u 9 = .pointer (some ⟨w.heap.size, 2, none⟩) := hd 9 (by omega) (by kernel_rfl)
              rw [e9]
              have o2' := (hb.cell (p := ⟨w.heap.size, 2, none⟩) (lt_of_cell o2)).trans o2
              go_simp
              exact ⟨rfl, Below.refl _ _, fun h => by cases h⟩
            · go_simp
              exact ⟨rfl, Below.refl _ _, fun h => by cases h⟩
            · go_simp
              exact ⟨rfl, Below.refl _ _, fun h => by cases h⟩
            · go_simp
              exact ⟨rfl, Below.refl _ _, fun h => by cases h⟩
            · have e8 : u 8 = .int .i64 (dl : Int) := hd 8 (by omega) (by kernel_rfl)
              have e10 : u 10 = .slice pa pl pc := hd 10 (by omega) (by kernel_rfl)
              have e11 : u 11 = .slice (some ⟨gk, 0, none⟩) pl ck := hd 11 (by omega) (by kernel_rfl)
              have e12 : u 12 = .slice FX fn fc := hd 12 (by omega) (by kernel_rfl)
              have e13 : u 13 = .slice aa al ac := hd 13 (by omega) (by kernel_rfl)
              rw [e8, e10, e11, e12, e13]
              go_simp
              have hbw := Below.on HB.out hb
              have hww := Below.on HW2.out hbw
              have hpl : (freeL ps dl).length = fn := HFN.out.symm
              refine (placed_any dl _ _ _ ps _ _ _ (dig (taken ds ps) t) _ _ _ (freeL ps dl) _ _ _ at' wy h6 (HPS.out.below hww) (HGK.out.below hb) (HFX2.out.1.below hbw) (HAT.out.below hww) (Nat.le_refl _) (by omega) HPB2.out (fun i hi => HFB.out i (by omega))).mono ?_
              rintro e w2 ⟨⟨g, rfl, hg, _⟩, hb2⟩
              rw [← hpl] at hg
              exact ⟨⟨g, rfl, hg⟩, hb2, fun h => by cases h⟩
            · have e3 : u 3 = .agg #[.slice da dl dc, .slice xa n1 xc] := hd 3 (by omega) (by kernel_rfl)
              obtain ⟨g, e14, hg⟩ := hd 14 (by omega) (by kernel_rfl)
              rw [e3, e14]
              go_simp
              have hww := Below.on HW2.out (Below.on HB.out hb)
              refine (rget_any _ _ _ ds _ _ _ xs _ _ _ _ wy Q (HD.out.below hww) hdc (HX.out.below hww) hg HQ1.out hq2).mono ?_
              rintro e w2 ⟨rfl, hb2⟩
              rw [← HXV.out]
              exact ⟨rfl, hb2, fun h => by cases h⟩
            · have e0 : u 0 = .int .i64 SV := hd 0 (by omega) (by kernel_rfl)
              have e15 : u 15 = .int .i64 XV := hd 15 (by omega) (by kernel_rfl)
              rw [e0, e15]
              go_simp
              exact ⟨rfl, Below.refl _ _, fun h => by cases h⟩
          case rest =>
            intro u wy hb hf hp
            have f0 : u 0 = .int .i64 SV := hf 0 (by omega)
            have f1 : u 1 = .slice (some ⟨b, off, none⟩) 1 cap := hf 1 (by omega)
            have f2 : u 2 = .pointer (some ⟨b, off, none⟩) := hf 2 (by omega)
            have f3 : u 3 = .agg #[.slice da dl dc, .slice xa n1 xc] := hf 3 (by omega)
            have f4 : u 4 = .slice (some ⟨b, off, none⟩) 1 cap := hf 4 (by omega)
            have f5 : u 5 = .pointer (some ⟨b, off, none⟩) := hf 5 (by omega)
            have f6 : u 6 = .pointer (some ⟨b, off, none⟩) := hf 6 (by omega)
            have f7 : u 7 = .slice da dl dc := hf 7 (by omega)
            have f8 : u 8 = .int .i64 (dl : Int) := hf 8 (by omega)
            have f9 : u 9 = .pointer (some ⟨w.heap.size, 2, none⟩) := hf 9 (by omega)
            have f10 : u 10 = .slice pa pl pc := hf 10 (by omega)
            have f11 : u 11 = .slice (some ⟨gk, 0, none⟩) pl ck := hf 11 (by omega)
            have f12 : u 12 = .slice FX fn fc := hf 12 (by omega)
            have f13 : u 13 = .slice aa al ac := hf 13 (by omega)
            obtain ⟨_, f14, _⟩ := hf 14 (by omega)
            have f15 : u 15 = .int .i64 XV := hf 15 (by omega)
            have f16 : u 16 = .int .i64 (IntKind.i64.wrap (SV + XV)) := hf 16 (by omega)
            refine UptoW.rest 1 17 (by rfl) (by kernel_rfl) ?_
            simp only [List.take, List.drop, putOps, Act.put, List.setIfInBounds_toArray, List.set_cons_zero, List.set_cons_succ, Nat.reduceAdd, f0, f1, f2, f3, f4, f5, f6, f7, f8, f9, f10, f11, f12, f13, f14, f15, f16]
            clear f0 f1 f2 f3 f4 f5 f6 f7 f8 f9 f10 f11 f12 f13 f14 f15 f16 hf hp
            refine wpList_plain rfl (fun K hK => ?_)
            go_simp
            refine hK _ _ (wpList_nil ?_)
            clear hK K
            go_wp2
            go_roundw
            case rel => exact ⟨t + 1, by omega, by go_num, by rw [accS, ← HSV.out, ← HQQ.out, ← HXV.out], Below.on HB.out hb⟩
            case measure => simp [intOf]; omega
        · obtain rfl : t = NC := by omega
          go_wp2
          go_ret
          exact ⟨rfl, Below.on HW2.out HB.out⟩
end Go.Proofs.YtoagnhppjlcpkaaGreat.V

/-
  Plain mathematics: what is added at places, entry by entry: Pad and Sum.
-/
namespace Go.Proofs.YtoagnhppjlcpkaaGreat.V
set_option maxRecDepth 20000
open Go.RowKit

theorem accS_sum (g : Nat → Int) : ∀ k, accS g k = IntKind.i64.wrap (sumN g k)
  | 0 => by rw [accS, sumN, wrap_in 0 (by omega) (by omega)]
  | k + 1 => by rw [accS, accS_sum g k, wrap_addl, sumN]
theorem sumN_nil {f : Nat → Int} {n : Nat} (h : ∀ t, t < n → f t = 0) : sumN f n = 0 := by rw [sumN_ext n h, sumN_zero]
theorem sumN_one {f : Nat → Int} {n t0 : Nat} (h0 : t0 < n) (h : ∀ t, t < n → t ≠ t0 → f t = 0) : sumN f n = f t0 := by
  have e := sumN_delta t0 (f t0) (fun _ => 1) n
  rw [if_pos h0, Int.mul_one] at e
  rw [← e]
  refine sumN_ext n (fun t ht => ?_)
  by_cases c : t0 = t
  · subst c; rw [if_pos rfl, Int.mul_one]
  · rw [if_neg c, h t ht (fun x => c x.symm), Int.zero_mul]
theorem sum_fiber {n NC : Nat} (B : Nat → Prop) [DecidablePred B] (q : Nat → Nat) (x : Nat → Int) (h1 : ∀ t, t < NC → q t < n ∧ B (q t)) (h2 : ∀ t t', t < NC → t' < NC → q t = q t' → t = t') (h3 : ∀ j, j < n → B j → ∃ t, t < NC ∧ q t = j) : sumN (fun j => (if B j then 1 else 0) * x j) n = sumN (fun t => x (q t)) NC := by
  have e : ∀ j, j < n → (if B j then 1 else 0) * x j = sumN (fun t => if q t = j then x j else 0) NC := fun j hj => by
    by_cases hB : B j
    · obtain ⟨t0, ht, hq⟩ := h3 j hj hB
      rw [if_pos hB, sumN_one ht (fun t h hne => if_neg (fun e => hne (h2 t t0 h ht (e.trans hq.symm)))), if_pos hq, Int.one_mul]
    · rw [if_neg hB, sumN_nil (fun t h => if_neg (fun (e : q t = j) => hB (e ▸ (h1 t h).2))), Int.zero_mul]
  rw [sumN_ext n e, sumN_swap (fun t j => if q t = j then x j else 0) NC n]
  refine sumN_ext NC (fun t ht => ?_)
  rw [sumN_one (h1 t ht).1 (fun j _ hne => if_neg (fun e => hne e.symm)), if_pos rfl]
theorem addS_fiber {N n NC : Nat} {Q xs : List Int} (hQ : ∀ j, j < n → 0 ≤ Q[j]?.getD 0 ∧ Q[j]?.getD 0 < (N : Int)) (i : Nat) (hi : i < N) (q : Nat → Nat) (h1 : ∀ t, t < NC → q t < n ∧ Q[q t]?.getD 0 = (i : Int)) (h2 : ∀ t t', t < NC → t' < NC → q t = q t' → t = t') (h3 : ∀ j, j < n → Q[j]?.getD 0 = (i : Int) → ∃ t, t < NC ∧ q t = j) :
    (addS (List.replicate N 0) Q xs n)[i]?.getD 0 = accS (fun t => xs[q t]?.getD 0) NC := by
  rw [addS_at (fun x hx => by simp at hx; rw [hx.2]; omega) i (by simp; exact hi) n (fun j hj => by simpa using hQ j hj), accS_sum, repl0_at, Int.zero_add]
  congr 1
  exact sum_fiber (fun j => Q[j]?.getD 0 = (i : Int)) q (fun j => xs[j]?.getD 0) h1 h2 h3

theorem dig_place {L : List Int} (hE : sizeE L = 0) {i : Nat} (hi : i < (prod L).toNat) : placeN L (dig L i) = (i : Int) ∧ IdxOk L (dig L i) := by
  have hpos := pos_of hE hi
  have hio : IdxOk L (dig L i) := dig_bd L i hpos (by omega) (by omega)
  refine ⟨?_, hio⟩
  rw [place_dot hE (dig_length _ _) hio, ← lieN_dig L _ _ (stepsV_len L), lieN_whole L i hpos (by omega) (by omega)]
theorem placeN_S {xs ys : List Int} (hE : sizeE xs = 0) (hl : ys.length = xs.length) (h : IdxOk xs ys) : placeN xs ys = placeS xs ys xs.length := by
  rw [placeN, if_neg (by simp [hE]), if_neg (by simp [hl]), if_pos ((idxB_iff _ _).2 h)]
theorem place_inj {ds y y' : List Int} (hE : sizeE ds = 0) (hl : y.length = ds.length) (hl' : y'.length = ds.length) (h : IdxOk ds y) (h' : IdxOk ds y') (e : placeN ds y = placeN ds y') : y = y' := by
  rw [placeN_S hE hl h, placeN_S hE hl' h'] at e
  rw [← index_place h hl, ← index_place h' hl', e]
theorem place_nat {ds y : List Int} (hE : sizeE ds = 0) (hl : y.length = ds.length) (h : IdxOk ds y) : ∃ p : Nat, placeN ds y = (p : Int) ∧ p < (prod ds).toNat ∧ dig ds p = y := by
  have hb := place_bd h
  rw [← placeN_S hE hl h] at hb
  obtain ⟨p, hp⟩ : ∃ p : Nat, placeN ds y = (p : Int) := ⟨(placeN ds y).toNat, by omega⟩
  have hlt : p < (prod ds).toNat := by omega
  refine ⟨p, hp, hlt, ?_⟩
  have := dig_place hE hlt
  exact place_inj hE (dig_length _ _) hl this.2 h (this.1.trans hp.symm)
theorem reads_hit {ds D : List Int} {Y : Nat → List Int} {S : Int → List Int → Int} {T : List Int → List Int} (h : ThroughY ds D Y S T) (hE : sizeE ds = 0) {i j : Nat} (hi : i < (prod ds).toNat) (hj : j < (prod D).toNat) :
    (readsV (S 0 (stepsV ds)) D (T (stepsV ds)))[j]?.getD 0 = (i : Int) ↔ Y j = dig ds i := by
  obtain ⟨p, _, h2, h3⟩ := idx_read h hE j hj
  obtain ⟨hl, hio, _⟩ := h j hj
  have hd := dig_place hE hi
  rw [h3]
  constructor
  · intro e
    exact place_inj hE hl (dig_length _ _) hio hd.2 (h2.trans (e.trans hd.1.symm))
  · intro e
    rw [e, hd.1] at h2
    exact h2.symm
theorem list_at_ext {xs ys : List Int} (hl : xs.length = ys.length) (h : ∀ k, k < ys.length → xs[k]?.getD 0 = ys[k]?.getD 0) : xs = ys := by
  apply List.ext_getElem hl
  intro k h1 h2
  have := h k h2
  rw [List.getElem?_eq_getElem h1, List.getElem?_eq_getElem h2] at this
  simpa using this

/-! ### Pad -/
theorem pad_entry {ds lo hi st xs : List Int} {n i : Nat} (hz : sizeE ds = 0) (hl1 : lensB ds.length lo hi st = true) (hl2 : anyPad ds.length lo hi st = false) (hs2 : sizeE (padD ds lo hi st) = 0) (hn : (n : Int) = prod ds) (hi' : i < (prod (padD ds lo hi st)).toNat) (hx : Bnd xs)
    (hqq : ∀ j, j < n → 0 ≤ (readsV (cutAcc 0 (stepsV (padD ds lo hi st)) lo (padD ds lo hi st).length) ds (cutS (stepsV (padD ds lo hi st)) st))[j]?.getD 0 ∧ (readsV (cutAcc 0 (stepsV (padD ds lo hi st)) lo (padD ds lo hi st).length) ds (cutS (stepsV (padD ds lo hi st)) st))[j]?.getD 0 < ((prod (padD ds lo hi st)).toNat : Int)) :
    ((∀ k, k < (padD ds lo hi st).length → padOk (dig (padD ds lo hi st) i) lo st ds k) → ∃ p : Nat, p < n ∧ placeN ds (fillF (fun j => ((dig (padD ds lo hi st) i)[j]?.getD 0 - lo[j]?.getD 0) / st[j]?.getD 0) (padD ds lo hi st).length (padD ds lo hi st).length) = (p : Int) ∧ (addS (List.replicate (prod (padD ds lo hi st)).toNat 0) (readsV (cutAcc 0 (stepsV (padD ds lo hi st)) lo (padD ds lo hi st).length) ds (cutS (stepsV (padD ds lo hi st)) st)) xs n)[i]?.getD 0 = xs[p]?.getD 0) ∧
    (∀ k, k < (padD ds lo hi st).length → ¬ padOk (dig (padD ds lo hi st) i) lo st ds k → (addS (List.replicate (prod (padD ds lo hi st)).toNat 0) (readsV (cutAcc 0 (stepsV (padD ds lo hi st)) lo (padD ds lo hi st).length) ds (cutS (stepsV (padD ds lo hi st)) st)) xs n)[i]?.getD 0 = 0) := by
  obtain ⟨k1, k2, k3⟩ := pad_cut hz hl1 hl2
  have hpl := padD_length ds lo hi st
  have hth := idx_cut (by rw [k3]; exact hz) k2
  rw [k3, hpl] at hth
  have hit : ∀ j, j < n → ((readsV (cutAcc 0 (stepsV (padD ds lo hi st)) lo (padD ds lo hi st).length) ds (cutS (stepsV (padD ds lo hi st)) st))[j]?.getD 0 = (i : Int) ↔ (List.range ds.length).map (fun k => lo[k]?.getD 0 + (dig ds j)[k]?.getD 0 * st[k]?.getD 0) = dig (padD ds lo hi st) i) := fun j hj => by
    have := reads_hit hth hs2 hi' (j := j) (by omega)
    rw [← hpl] at this ⊢
    exact this
  generalize readsV (cutAcc 0 (stepsV (padD ds lo hi st)) lo (padD ds lo hi st).length) ds (cutS (stepsV (padD ds lo hi st)) st) = Q at *
  have hdl : (dig (padD ds lo hi st) i).length = ds.length := by rw [dig_length, hpl]
  generalize dig (padD ds lo hi st) i = at' at *
  rw [hpl]
  have hat : ∀ j, j < n → Q[j]?.getD 0 = (i : Int) → ∀ k, k < ds.length → at'[k]?.getD 0 = lo[k]?.getD 0 + (dig ds j)[k]?.getD 0 * st[k]?.getD 0 := fun j hj e k hk => by
    rw [← (hit j hj).1 e]
    simp [hk]
  have hst : ∀ k, k < ds.length → 1 ≤ st[k]?.getD 0 := fun k hk => (of_anyPad_false hl2 k hk).2.2.1
  constructor
  · intro hok
    have hio : IdxOk ds (fillF (fun j => (at'[j]?.getD 0 - lo[j]?.getD 0) / st[j]?.getD 0) ds.length ds.length) := fun k hk => by
      obtain ⟨h1, _, h3⟩ := hok k hk
      rw [fillF_full]
      simp only [List.getElem?_map, List.getElem?_range hk, Option.map_some, Option.getD_some]
      exact ⟨Int.ediv_nonneg h1 (by have := hst k hk; omega), h3⟩
    obtain ⟨p, hp1, hp2, hp3⟩ := place_nat hz (by rw [fillF_length]) hio
    refine ⟨p, by omega, hp1, ?_⟩
    have hd : ∀ k, k < ds.length → (dig ds p)[k]?.getD 0 = (at'[k]?.getD 0 - lo[k]?.getD 0) / st[k]?.getD 0 := fun k hk => by
      rw [hp3, fillF_full]
      simp [hk]
    have hQp : Q[p]?.getD 0 = (i : Int) := by
      rw [hit p (by omega)]
      refine list_at_ext (by simp; exact hdl.symm) (fun k hk => ?_)
      rw [hdl] at hk
      obtain ⟨_, h2, _⟩ := hok k hk
      simp only [List.getElem?_map, List.getElem?_range hk, Option.map_some, Option.getD_some]
      rw [hd k hk]
      have := Int.mul_ediv_add_emod (at'[k]?.getD 0 - lo[k]?.getD 0) (st[k]?.getD 0)
      rw [h2, Int.mul_comm] at this
      omega
    have := addS_fiber (NC := 1) (xs := xs) hqq i hi' (fun _ => p) (fun t _ => ⟨by omega, hQp⟩) (fun t t' h h' _ => by omega) (fun j hj e => ⟨0, by omega, ?_⟩)
    · rw [this, accS, accS, Int.zero_add]
      have := bnd_at hx p
      exact wrap_in _ this.1 this.2
    · have h1 : dig ds j = dig ds p := by
        refine list_at_ext (by rw [dig_length, dig_length]) (fun k hk => ?_)
        rw [dig_length] at hk
        have h2 := hat j hj e k hk
        rw [hd k hk, h2]
        have e2 : lo[k]?.getD 0 + (dig ds j)[k]?.getD 0 * st[k]?.getD 0 - lo[k]?.getD 0 = (dig ds j)[k]?.getD 0 * st[k]?.getD 0 := by omega
        rw [e2, Int.mul_ediv_cancel _ (by have := hst k hk; omega)]
      have a1 := (dig_place hz (i := j) (by omega)).1
      have a2 := (dig_place hz (i := p) (by omega)).1
      rw [h1, a2] at a1
      omega
  · intro k hk hno
    refine addS_fiber (NC := 0) (xs := xs) hqq i hi' (fun _ => 0) (fun t h => by omega) (fun t t' h h' _ => by omega) (fun j hj e => absurd ?_ hno)
    have h2 := hat j hj e k hk
    have hb := dig_bd ds j (pos_of hz (i := j) (by omega)) (by omega) (by omega) k hk
    unfold padOk
    rw [h2]
    have e2 : lo[k]?.getD 0 + (dig ds j)[k]?.getD 0 * st[k]?.getD 0 - lo[k]?.getD 0 = (dig ds j)[k]?.getD 0 * st[k]?.getD 0 := by omega
    have := hst k hk
    rw [e2, Int.mul_emod_left, Int.mul_ediv_cancel _ (by omega)]
    exact ⟨Int.mul_nonneg hb.1 (by omega), rfl, hb.2⟩
end Go.Proofs.YtoagnhppjlcpkaaGreat.V

/-
  Plain mathematics: an index that is put together of two parts; Sum, entry by entry.
-/
namespace Go.Proofs.YtoagnhppjlcpkaaGreat.V
set_option maxRecDepth 20000
open Go.RowKit

/-- The index whose numbers at P are vs, and at all others us. -/
def merge (dl : Nat) (P vs us : List Int) : List Int := setAll (setAll (List.replicate dl 0) P vs P.length) (freeL P dl) us (freeL P dl).length
theorem merge_length (dl : Nat) (P vs us : List Int) : (merge dl P vs us).length = dl := by unfold merge; rw [setAll_length, setAll_length, List.length_replicate]
theorem once_at {P : List Int} {n : Nat} (h : Once P n) (i : Nat) (hi : i < P.length) : 0 ≤ P[i]?.getD 0 ∧ P[i]?.getD 0 < n := (once_iff.1 h).1 _ (mem_getD P i hi)
theorem once_inj {P : List Int} {n : Nat} (h : Once P n) {i j : Nat} (hi : i < P.length) (hj : j < P.length) (e : P[i]?.getD 0 = P[j]?.getD 0) : i = j := by
  have hn := (once_iff.1 h).2
  rw [List.getElem?_eq_getElem hi, List.getElem?_eq_getElem hj] at e
  simp only [Option.getD_some] at e
  exact (List.getElem_inj hn).1 e
theorem free_once (P : List Int) (n : Nat) : Once (freeL P n) n := once_of_rise (freeL_rise P n)
theorem merge_free {dl : Nat} {P vs us : List Int} (k : Nat) (hk : k < (freeL P dl).length) : (merge dl P vs us)[((freeL P dl)[k]?.getD 0).toNat]?.getD 0 = us[k]?.getD 0 := by
  have hf := once_at (free_once P dl) k hk
  refine setAll_hit (by rw [setAll_length, List.length_replicate]; omega) rfl _ hk (fun i h1 h2 e => ?_)
  have hg := once_at (free_once P dl) i h2
  have := once_inj (free_once P dl) h2 hk (by omega)
  omega
theorem free_apart {P : List Int} {dl k a : Nat} (hk : k < (freeL P dl).length) (ha : a < P.length) : (freeL P dl)[k]?.getD 0 ≠ P[a]?.getD 0 := fun e => by
  obtain ⟨j, hj, e1, e2⟩ := mem_freeL.1 (mem_getD (freeL P dl) k hk)
  have h1 := mem_getD P a ha
  rw [← e, e1] at h1
  exact inB_not.1 e2 h1
theorem merge_in {dl : Nat} {P vs us : List Int} (hP : Once P dl) (a : Nat) (ha : a < P.length) : (merge dl P vs us)[(P[a]?.getD 0).toNat]?.getD 0 = vs[a]?.getD 0 := by
  have hf := once_at hP a ha
  unfold merge
  rw [setAll_miss _ (fun j hj e => ?_)]
  · refine setAll_hit (by rw [List.length_replicate]; omega) rfl _ ha (fun i h1 h2 e => ?_)
    have hg := once_at hP i h2
    have := once_inj hP h2 ha (by omega)
    omega
  · have hg := once_at (free_once P dl) j hj
    exact free_apart hj ha (by omega)
theorem part_cases {P : List Int} {dl : Nat} (d : Nat) (hd : d < dl) : (∃ a, a < P.length ∧ P[a]?.getD 0 = (d : Int)) ∨ (∃ k, k < (freeL P dl).length ∧ (freeL P dl)[k]?.getD 0 = (d : Int)) := by
  by_cases c : (d : Int) ∈ P
  · obtain ⟨a, ha, e⟩ := List.getElem_of_mem c
    exact .inl ⟨a, ha, by rw [List.getElem?_eq_getElem ha]; exact e⟩
  · obtain ⟨k, hk, e⟩ := List.getElem_of_mem (mem_freeL.2 ⟨d, hd, rfl, inB_not.2 c⟩)
    exact .inr ⟨k, hk, by rw [List.getElem?_eq_getElem hk]; exact e⟩
theorem merge_idx {ds P vs us : List Int} (hP : Once P ds.length) (hv : IdxOk (taken ds P) vs) (hu : IdxOk (taken ds (freeL P ds.length)) us) : IdxOk ds (merge ds.length P vs us) := fun d hd => by
  rcases part_cases (P := P) d hd with ⟨a, ha, e⟩ | ⟨k, hk, e⟩
  · have h1 := merge_in (vs := vs) (us := us) hP a ha
    have h2 := hv a (by rw [taken_length]; exact ha)
    rw [taken_at _ _ _ ha, e, Int.toNat_natCast] at h2
    rw [e, Int.toNat_natCast] at h1
    rw [h1]; exact h2
  · have h1 := merge_free (dl := ds.length) (P := P) (vs := vs) (us := us) k hk
    have h2 := hu k (by rw [taken_length]; exact hk)
    rw [taken_at _ _ _ hk, e, Int.toNat_natCast] at h2
    rw [e, Int.toNat_natCast] at h1
    rw [h1]; exact h2
theorem merge_eq {dl : Nat} {P vs us y : List Int} (hP : Once P dl) (hl : y.length = dl) (hv : ∀ a, a < P.length → y[(P[a]?.getD 0).toNat]?.getD 0 = vs[a]?.getD 0) (hu : ∀ k, k < (freeL P dl).length → y[((freeL P dl)[k]?.getD 0).toNat]?.getD 0 = us[k]?.getD 0) : merge dl P vs us = y := by
  refine list_at_ext (by rw [merge_length, hl]) (fun d hd => ?_)
  rw [hl] at hd
  rcases part_cases (P := P) d hd with ⟨a, ha, e⟩ | ⟨k, hk, e⟩
  · have h1 := merge_in (vs := vs) (us := us) hP a ha
    have h2 := hv a ha
    rw [e, Int.toNat_natCast] at h1 h2
    rw [h1, h2]
  · have h1 := merge_free (dl := dl) (P := P) (vs := vs) (us := us) k hk
    have h2 := hu k hk
    rw [e, Int.toNat_natCast] at h1 h2
    rw [h1, h2]
theorem size_part {ds P : List Int} {c : Int} (hz : sizeE ds = 0) (hl : P.length ≤ 6) (hb : ∀ y ∈ P, 0 ≤ y ∧ y < ds.length) (hp : prod ds = c * prod (taken ds P)) (hc : 1 ≤ c) : sizeE (taken ds P) = 0 := by
  have hm : ∀ x ∈ taken ds P, x ∈ ds := fun x hx => by
    simp only [taken, List.mem_map] at hx
    obtain ⟨y, hy, rfl⟩ := hx
    have := hb y hy
    exact mem_getD ds _ (by omega)
  obtain ⟨_, z2, z3, _⟩ := sizeE_ok hz
  unfold sizeE
  rw [if_neg (by rw [taken_length]; omega), if_neg ?_]
  · by_cases h0 : (0 : Int) ∈ taken ds P
    · rw [if_pos h0]
    · rw [if_neg h0, if_neg ?_]
      have h1 : ∀ x ∈ taken ds P, 1 ≤ x := fun x hx => by
        have := z2 x (hm x hx)
        have : x ≠ 0 := fun e => h0 (e ▸ hx)
        omega
      have h2 := prod_pos _ h1
      have h3 : 1 * prod (taken ds P) ≤ c * prod (taken ds P) := Int.mul_le_mul_of_nonneg_right hc (by omega)
      rcases dims_cases hz with ⟨_, _, e⟩ | ⟨_, _, e, _⟩ <;> omega
  · have : (taken ds P).any badDim = false := by
      rw [List.any_eq_false]
      intro x hx
      have := z2 x (hm x hx)
      simp [badDim]; omega
    rw [this]; simp

/-! ### Sum -/
theorem sum_entry {ds ps xs : List Int} {n i : Nat} (hz : sizeE ds = 0) (hr : RiseOk ps ds.length) (hs2 : sizeE (taken ds (freeL ps ds.length)) = 0) (hn : (n : Int) = prod ds) (hi' : i < (prod (taken ds (freeL ps ds.length))).toNat)
    (hqq : ∀ j, j < n → 0 ≤ (readsV 0 ds (sprS ds.length (stepsV (taken ds (freeL ps ds.length))) (freeL ps ds.length)))[j]?.getD 0 ∧ (readsV 0 ds (sprS ds.length (stepsV (taken ds (freeL ps ds.length))) (freeL ps ds.length)))[j]?.getD 0 < ((prod (taken ds (freeL ps ds.length))).toNat : Int)) :
    sizeE (taken ds ps) = 0 ∧ ∃ q : Nat → Nat, (∀ t : Nat, t < (prod (taken ds ps)).toNat → placeN ds (merge ds.length ps (dig (taken ds ps) t) (dig (taken ds (freeL ps ds.length)) i)) = (q t : Int) ∧ q t < n) ∧
      (addS (List.replicate (prod (taken ds (freeL ps ds.length))).toNat 0) (readsV 0 ds (sprS ds.length (stepsV (taken ds (freeL ps ds.length))) (freeL ps ds.length))) xs n)[i]?.getD 0 = accS (fun t => xs[q t]?.getD 0) (prod (taken ds ps)).toNat := by
  have hO := once_of_rise hr
  have hob := (once_iff.1 hO).1
  have h6 := (sizeE_ok hz).1
  have hpl : ps.length ≤ ds.length := by have := freeL_count ds.length ps (once_iff.1 hO).2 hob; omega
  have hpp : prod ds = prod (taken ds (freeL ps ds.length)) * prod (taken ds ps) := by
    have := (dot_parts (lo := []) (ps := ps) (ds := ds) ((onceB_iff _ _).2 hO)).2
    simpa [taken, prod] using this
  have hC : sizeE (taken ds ps) = 0 := size_part hz (by omega) hob hpp (by omega)
  refine ⟨hC, ?_⟩
  have hth := idx_spread (ds := taken ds (freeL ps ds.length)) (ps := freeL ps ds.length) hz (taken_length _ _).symm (freeL_rise ps ds.length) (anyMis_false (fun j hj => by unfold misAt; rw [taken_at _ _ _ hj]; simp))
  have hit : ∀ j, j < n → ((readsV 0 ds (sprS ds.length (stepsV (taken ds (freeL ps ds.length))) (freeL ps ds.length)))[j]?.getD 0 = (i : Int) ↔ (List.range (taken ds (freeL ps ds.length)).length).map (fun k => (dig ds j)[((freeL ps ds.length)[k]?.getD 0).toNat]?.getD 0) = dig (taken ds (freeL ps ds.length)) i) := fun j hj => reads_hit hth hs2 hi' (j := j) (by omega)
  rw [taken_length] at hit
  have hio : ∀ t : Nat, t < (prod (taken ds ps)).toNat → IdxOk ds (merge ds.length ps (dig (taken ds ps) t) (dig (taken ds (freeL ps ds.length)) i)) := fun t ht => merge_idx hO (dig_place hC ht).2 (dig_place hs2 hi').2
  have hdi : (dig (taken ds (freeL ps ds.length)) i).length = (freeL ps ds.length).length := by rw [dig_length, taken_length]
  have hch : ∀ t : Nat, ∃ p : Nat, t < (prod (taken ds ps)).toNat → placeN ds (merge ds.length ps (dig (taken ds ps) t) (dig (taken ds (freeL ps ds.length)) i)) = (p : Int) ∧ p < (prod ds).toNat ∧ dig ds p = merge ds.length ps (dig (taken ds ps) t) (dig (taken ds (freeL ps ds.length)) i) := fun t => by
    by_cases ht : t < (prod (taken ds ps)).toNat
    · obtain ⟨p, h1, h2, h3⟩ := place_nat hz (merge_length _ _ _ _) (hio t ht)
      exact ⟨p, fun _ => ⟨h1, h2, h3⟩⟩
    · exact ⟨0, fun h => absurd h ht⟩
  obtain ⟨q, hq⟩ : ∃ q : Nat → Nat, ∀ t : Nat, t < (prod (taken ds ps)).toNat → placeN ds (merge ds.length ps (dig (taken ds ps) t) (dig (taken ds (freeL ps ds.length)) i)) = (q t : Int) ∧ q t < (prod ds).toNat ∧ dig ds (q t) = merge ds.length ps (dig (taken ds ps) t) (dig (taken ds (freeL ps ds.length)) i) := ⟨fun t => Classical.choose (hch t), fun t => Classical.choose_spec (hch t)⟩
  clear hch
  refine ⟨q, fun t ht => ?_, addS_fiber hqq i hi' _ (fun t ht => ?_) (fun t t' ht ht' e => ?_) (fun j hj e => ?_)⟩
  · obtain ⟨h1, h2, _⟩ := hq t ht
    exact ⟨h1, by omega⟩
  · obtain ⟨_, h2, h3⟩ := hq t ht
    refine ⟨by omega, ?_⟩
    rw [hit _ (by omega), h3]
    refine list_at_ext (by simp; exact hdi.symm) (fun k hk => ?_)
    rw [hdi] at hk
    simp only [List.getElem?_map, List.getElem?_range hk, Option.map_some, Option.getD_some]
    exact merge_free k hk
  · have h1 := (hq t ht).2.2
    have h2 := (hq t' ht').2.2
    rw [e, h2] at h1
    have h3 : dig (taken ds ps) t = dig (taken ds ps) t' := by
      refine list_at_ext (by rw [dig_length, dig_length]) (fun a ha => ?_)
      rw [dig_length, taken_length] at ha
      rw [← merge_in (us := dig (taken ds (freeL ps ds.length)) i) hO a ha, ← merge_in (vs := dig (taken ds ps) t') (us := dig (taken ds (freeL ps ds.length)) i) hO a ha, h1]
    have a1 := (dig_place hC ht).1
    have a2 := (dig_place hC ht').1
    rw [h3, a2] at a1
    omega
  · have h1 := (hit j hj).1 e
    have hdj := dig_place hz (i := j) (by omega)
    have hti : IdxOk (taken ds ps) (taken (dig ds j) ps) := fun a ha => by
      rw [taken_length] at ha
      rw [taken_at _ _ _ ha, taken_at _ _ _ ha]
      have := once_at hO a ha
      exact hdj.2 _ (by omega)
    obtain ⟨t, t1, t2, t3⟩ := place_nat hC (by rw [taken_length, taken_length]) hti
    refine ⟨t, t2, ?_⟩
    have hm : merge ds.length ps (dig (taken ds ps) t) (dig (taken ds (freeL ps ds.length)) i) = dig ds j := merge_eq hO (dig_length _ _) (fun a ha => by rw [t3, taken_at _ _ _ ha]) (fun k hk => by
      rw [← h1]
      simp [hk])
    have h2 := (hq t t2).1
    rw [hm, hdj.1] at h2
    omega
end Go.Proofs.YtoagnhppjlcpkaaGreat.V

/-
  Plain mathematics: indices of two parts, one behind the other; Take and Put, entry by entry.
-/
namespace Go.Proofs.YtoagnhppjlcpkaaGreat.V
set_option maxRecDepth 20000
open Go.RowKit

/-- The index of an entry, in two parts. -/
theorem dig_two {a b : List Int} {n : Nat} (hz : sizeE (a ++ b) = 0) (hn : n < (prod (a ++ b)).toNat) :
    (∀ x ∈ a, 1 ≤ x) ∧ (∀ x ∈ b, 1 ≤ x) ∧ ∃ A B : Nat, prod a = (A : Int) ∧ prod b = (B : Int) ∧ 0 < B ∧ n / B < A ∧ dig (a ++ b) n = dig a ((n / B : Nat) : Int) ++ dig b ((n % B : Nat) : Int) := by
  have hpos := pos_of hz hn
  have ha : ∀ x ∈ a, 1 ≤ x := fun x hx => hpos x (by simp [hx])
  have hb : ∀ x ∈ b, 1 ≤ x := fun x hx => hpos x (by simp [hx])
  have pa := prod_pos a ha
  have pb := prod_pos b hb
  obtain ⟨A, hA⟩ : ∃ A : Nat, prod a = (A : Int) := ⟨(prod a).toNat, by omega⟩
  obtain ⟨B, hB⟩ : ∃ B : Nat, prod b = (B : Int) := ⟨(prod b).toNat, by omega⟩
  have hN : n < A * B := by
    rw [prod_append, hA, hB, ← Int.natCast_mul] at hn
    omega
  have hB0 : 0 < B := by omega
  refine ⟨ha, hb, A, B, hA, hB, hB0, Nat.div_lt_of_lt_mul (by rw [Nat.mul_comm]; exact hN), ?_⟩
  have key : ∀ (a : List Int) (n : Nat), (∀ x ∈ a, 1 ≤ x) → dig (a ++ b) n = dig a ((n / B : Nat) : Int) ++ dig b ((n % B : Nat) : Int) ∨ a = [] := fun a => by
    induction a with
    | nil => intro n _; exact .inr rfl
    | cons d a ih =>
      intro n hda
      refine .inl ?_
      have hda' : ∀ x ∈ a, 1 ≤ x := fun x hx => hda x (by simp [hx])
      have pa' := prod_pos a hda'
      obtain ⟨A', hA'⟩ : ∃ A' : Nat, prod a = (A' : Int) := ⟨(prod a).toNat, by omega⟩
      have e1 : prod (a ++ b) = ((A' * B : Nat) : Int) := by rw [prod_append, hA', hB, ← Int.natCast_mul]
      rw [List.cons_append, dig, dig, e1, hA', List.cons_append, ← Int.natCast_ediv, ← Int.natCast_emod, ← Int.natCast_ediv, ← Int.natCast_emod]
      have d1 : n / (A' * B) = n / B / A' := by rw [Nat.mul_comm, Nat.div_div_eq_div_mul]
      have d2 : n % (A' * B) / B = n / B % A' := by rw [Nat.mul_comm, Nat.mod_mul_right_div_self]
      have d3 : n % (A' * B) % B = n % B := Nat.mod_mul_left_mod n A' B
      rw [d1]
      congr 1
      rcases ih (n % (A' * B)) hda' with h | h
      · rw [h, d2, d3]
      · subst h
        simp only [prod] at hA'
        have : A' = 1 := by omega
        subst this
        rw [Nat.one_mul]
        simp only [List.nil_append, dig, List.nil_append]
  rcases key a n ha with h | h
  · exact h
  · subst h
    simp only [prod] at hA
    have : A = 1 := by omega
    subst this
    rw [List.nil_append, dig, List.nil_append, Nat.mod_eq_of_lt (by omega)]
theorem sub_all (xs : List Int) : sub xs 0 xs.length = xs := by simp [sub]
theorem sub_left (xs ys : List Int) : sub (xs ++ ys) 0 xs.length = xs := by simp [sub]
theorem sub_right (xs ys : List Int) : sub (xs ++ ys) xs.length ys.length = ys := by simp [sub]
/-- The place of an index in two parts. -/
theorem place_two {a b y z : List Int} {B : Nat} (hz : sizeE (a ++ b) = 0) (hza : sizeE a = 0) (hzb : sizeE b = 0) (hB : prod b = (B : Int)) (hl : y.length = a.length) (hl' : z.length = b.length) (hy : IdxOk a y) (hw : IdxOk b z) : placeN (a ++ b) (y ++ z) = placeN a y * B + placeN b z := by
  obtain ⟨p, p1, p2, p3⟩ := place_nat hza hl hy
  obtain ⟨q, q1, q2, q3⟩ := place_nat hzb hl' hw
  have hA := pos_of hza p2
  have hBp := pos_of hzb q2
  have pa := prod_pos a hA
  obtain ⟨A, hA'⟩ : ∃ A : Nat, prod a = (A : Int) := ⟨(prod a).toNat, by omega⟩
  have hpq : p * B + q < (prod (a ++ b)).toNat := by
    rw [prod_append, hA', hB, ← Int.natCast_mul]
    have h1 : p < A := by omega
    have h2 : q < B := by omega
    have h3 : (p + 1) * B ≤ A * B := Nat.mul_le_mul_right _ h1
    rw [Nat.add_mul, Nat.one_mul] at h3
    omega
  obtain ⟨_, _, A2, B2, e1, e2, _, _, e3⟩ := dig_two hz hpq
  have eB : B2 = B := by omega
  subst eB
  rw [row_div p q B2 (by omega), row_mod p q B2 (by omega), p3, q3] at e3
  rw [← e3, (dig_place hz hpq).1, p1, q1]
  push_cast
  rfl
end Go.Proofs.YtoagnhppjlcpkaaGreat.V

/-
  Contracts: adjointref2.Do of Take: just what is made.
-/
namespace Go.Proofs.YtoagnhppjlcpkaaGreat.V
set_option maxRecDepth 20000
open Go.RowKit

theorem size_parts {a b : List Int} (hz : sizeE (a ++ b) = 0) (hpos : ∀ x ∈ a ++ b, 1 ≤ x) : sizeE a = 0 ∧ sizeE b = 0 := by
  obtain ⟨z1, z2, z3, _⟩ := sizeE_ok hz
  have hp := (z3 hpos).1
  rw [prod_append] at hp
  rw [List.length_append] at z1
  have pa := prod_pos a (fun x hx => hpos x (by simp [hx]))
  have pb := prod_pos b (fun x hx => hpos x (by simp [hx]))
  have h1 : prod a * 1 ≤ prod a * prod b := Int.mul_le_mul_of_nonneg_left pb (by omega)
  have h2 : 1 * prod b ≤ prod a * prod b := Int.mul_le_mul_of_nonneg_right pa (by omega)
  have key : ∀ l : List Int, l.length ≤ 6 → (∀ x ∈ l, x ∈ a ++ b) → prod l ≤ 65536 → sizeE l = 0 := fun l hl hm hpl => by
    unfold sizeE
    rw [if_neg (by omega), if_neg ?_]
    · rw [if_neg (fun h => by have := hpos 0 (hm 0 h); omega), if_neg (by omega)]
    · have : l.any badDim = false := by
        rw [List.any_eq_false]
        intro x hx
        have := z2 x (hm x hx)
        simp [badDim]; omega
      rw [this]; simp
  exact ⟨key a (by omega) (fun x hx => by simp [hx]) (by omega), key b (by omega) (fun x hx => by simp [hx]) (by omega)⟩
theorem place_one {D r : Int} (hz : sizeE [D] = 0) (h0 : 0 ≤ r) (h1 : r < D) : IdxOk [D] [r] ∧ placeN [D] [r] = r := by
  have hio : IdxOk [D] [r] := fun k hk => by
    have : k = 0 := by simp at hk; omega
    subst this
    simp; omega
  refine ⟨hio, ?_⟩
  rw [place_dot (y := [r]) hz rfl hio, stepsV_cons (fun x hx => by simp at hx; omega)]
  simp [dotT, prod]
/-- Of what is taken: which entries are looked at. -/
theorem take_entry {ds gs : List Int} {D i : Nat} (hz1 : sizeE ds = 0) (hl0 : ds.length ≠ 0) (hD : ds[0]?.getD 0 = (D : Int)) (hz : sizeE (gs ++ ds.drop 1) = 0) (hi : i < (prod (gs ++ ds.drop 1)).toNat) {B : Nat} (hB : prod (ds.drop 1) = (B : Int)) :
    placeN gs (sub (dig (gs ++ ds.drop 1) i) 0 gs.length) = ((i / B : Nat) : Int) ∧ i / B < (prod gs).toNat ∧ ∀ r : Nat, r < D → placeN ds ((r : Int) :: sub (dig (gs ++ ds.drop 1) i) gs.length (ds.length - 1)) = ((r * B + i % B : Nat) : Int) ∧ r * B + i % B < (prod ds).toNat := by
  obtain ⟨hg, hr, A, B2, e1, e2, e3, e4, e5⟩ := dig_two hz hi
  have eB : B2 = B := by omega
  subst eB
  obtain ⟨sg, sr⟩ := size_parts hz (fun x hx => by rcases List.mem_append.1 hx with h | h; exact hg x h; exact hr x h)
  have lg : (dig gs ((i / B2 : Nat) : Int)).length = gs.length := dig_length _ _
  have lr : (dig (ds.drop 1) ((i % B2 : Nat) : Int)).length = ds.length - 1 := by rw [dig_length, List.length_drop]
  have s1 : sub (dig (gs ++ ds.drop 1) i) 0 gs.length = dig gs ((i / B2 : Nat) : Int) := by rw [e5, ← lg, sub_left]
  have s2 : sub (dig (gs ++ ds.drop 1) i) gs.length (ds.length - 1) = dig (ds.drop 1) ((i % B2 : Nat) : Int) := by rw [e5, ← lg, ← lr, sub_right]
  have hAg : i / B2 < (prod gs).toNat := by omega
  have hm : i % B2 < B2 := Nat.mod_lt _ e3
  have hmr : i % B2 < (prod (ds.drop 1)).toNat := by omega
  refine ⟨by rw [s1]; exact (dig_place sg hAg).1, hAg, fun r hr' => ?_⟩
  have hds : ds = [(D : Int)] ++ ds.drop 1 := by
    match ds, hl0 with
    | d :: t, _ =>
      simp only [List.getElem?_cons_zero, Option.getD_some] at hD
      rw [hD]; rfl
  have hall : ∀ x ∈ [(D : Int)] ++ ds.drop 1, 1 ≤ x := fun x hx => by
    rcases List.mem_append.1 hx with h | h
    · simp at h; omega
    · exact hr x h
  obtain ⟨s1', _⟩ := size_parts (hds ▸ hz1) hall
  obtain ⟨io1, po1⟩ := place_one (r := (r : Int)) s1' (by omega) (by omega)
  have hd2 := dig_place sr hmr
  have hpl := place_two (hds ▸ hz1) s1' sr e2 (y := [(r : Int)]) (z := dig (ds.drop 1) ((i % B2 : Nat) : Int)) rfl (dig_length _ _) io1 hd2.2
  have hio : placeN ds ((r : Int) :: sub (dig (gs ++ ds.drop 1) i) gs.length (ds.length - 1)) = ((r * B2 + i % B2 : Nat) : Int) := by
    have h := hpl
    rw [← hds, po1, hd2.1] at h
    rw [s2]
    have e : (r : Int) :: dig (ds.drop 1) ((i % B2 : Nat) : Int) = [(r : Int)] ++ dig (ds.drop 1) ((i % B2 : Nat) : Int) := rfl
    rw [e, h]
    push_cast
    rfl
  refine ⟨hio, ?_⟩
  have hp : prod ds = ((D * B2 : Nat) : Int) := by
    have := congrArg prod hds
    rw [prod_append, e2] at this
    rw [this]
    simp [prod]
  rw [hp, Int.toNat_natCast]
  have h3 : (r + 1) * B2 ≤ D * B2 := Nat.mul_le_mul_right _ hr'
  rw [Nat.add_mul, Nat.one_mul] at h3
  omega
theorem rdo_18 (x : Int) (ea : Option Addr) (el ec : Nat) (es : List Int) (pa : Option Addr) (pl pc : Nat) (ps : List Int) (la : Option Addr) (ll lc : Nat) (lo : List Int) (ha : Option Addr) (hl hc : Nat) (hi : List Int) (ta : Option Addr) (tl tc : Nat) (st : List Int) (b off cap : Nat) (da : Option Addr) (dl dc : Nat) (ds : List Int) (xa : Option Addr) (n xc : Nat) (xs : List Int) (fa : Option Addr) (fl fc : Nat) (gs : List Int) (ya : Option Addr) (m yc : Nat) (ys : List Int) (w : World)
    (he : Lst w ea el ec es) (hp : Lst w pa pl pc ps) (hlo : Lst w la ll lc lo) (hhi : Lst w ha hl hc hi) (hst : Lst w ta tl tc st) (b0 : el ≤ 1048576) (b1 : pl ≤ 1048576) (b2 : ll ≤ 1048576) (b3 : hl ≤ 1048576) (b4 : tl ≤ 1048576) (c0 : w.cell? ⟨b, off, none⟩ = some (.slice da dl dc)) (c1 : w.cell? ⟨b, off + 1, none⟩ = some (.slice xa n xc)) (c2 : w.cell? ⟨b, off + 2, none⟩ = some (.slice fa fl fc)) (c3 : w.cell? ⟨b, off + 3, none⟩ = some (.slice ya m yc)) (hd : Lst w da dl dc ds) (hx : Ints w xa n xs) (hf : Lst w fa fl fc gs) (hy : Ints w ya m ys) (hE : doE 18 es ps lo hi st 2 (pairV ds n gs m) = 0) {D long : Nat} (hD : ds[0]?.getD 0 = (D : Int)) (hlong : prod (ds.drop 1) = (long : Int)) :
    Calls Tryz.prog 8 #[.agg #[.int .i64 18, .slice ea el ec, .slice pa pl pc, .slice la ll lc, .slice ha hl hc, .slice ta tl tc, .int .i64 x], .slice (some ⟨b, off, none⟩) 2 cap] w fun e w' => DoesR (gs ++ ds.drop 1) (takeL xs ys long D (m * long)) (prod (gs ++ ds.drop 1)).toNat e w' ∧ Below w.heap.size w w' := by
  have hcg := doE_congr (k := 18) (es := es) (ps := ps) (lo := lo) (hi := hi) (st := st) (two_congr da dl dc ds xa n xc fa fl fc gs ya m yc)
  have hA := arrs_two c0 c1 c2 c3 hd hf
  obtain ⟨ha1, ha2, hs1, hs2, hs3⟩ := pairV_parts hE
  have hsh : shapeP 18 es ps lo hi st [ds, gs] = takeP ds gs := rfl
  rw [hsh] at hs1 hs2 hs3
  have hz1 := (arrE_ok ha1).1
  have hz2 := (arrE_ok ha2).1
  have hn := (arrE_ok ha1).2.1
  have hm := (arrE_ok ha2).2.1
  have hT : ds.length ≠ 0 ∧ (takeP ds gs).1 = gs ++ ds.drop 1 := by
    unfold takeP at hs1 ⊢
    by_cases c : ds.length = 0
    · rw [if_pos c] at hs1; exact absurd hs1 (by simp)
    · rw [if_neg c]; exact ⟨c, rfl⟩
  obtain ⟨hl0, hq1⟩ := hT
  rw [hq1] at hs2 hs3
  have hD6 := ((sizeE_ok hz1).2.1 _ (mem_getD ds 0 (by omega))).2
  rw [hD] at hD6
  have hdl := hd.1.1
  have hfl := hf.1.1
  have hg6 : (gs ++ ds.drop 1).length ≤ 6 := (sizeE_ok hs2).1
  have hLl : (gs ++ ds.drop 1).length = gs.length + (ds.length - 1) := by simp
  have eN : (prod (gs ++ ds.drop 1)).toNat = m * long := by
    have : prod (gs ++ ds.drop 1) = ((m * long : Nat) : Int) := by rw [prod_append, ← hm, hlong, ← Int.natCast_mul]
    rw [this]; omega
  refine rdo_gen 18 x ea el ec es pa pl pc ps la ll lc lo ha hl hc hi ta tl tc st (some ⟨b, off, none⟩) 2 cap (twoV2 da dl dc ds xa n xc fa fl fc gs ya m yc) (gs ++ ds.drop 1) (takeL xs ys long D (m * long)) w he hp hlo hhi hst b0 b1 b2 b3 b4 hA (by omega) (by rw [hcg]; exact hE) hs3.symm (by rw [takeL_length, eN]) (fun y hy' => ?_) ?_
  · simp only [takeL, List.mem_map] at hy'
    obtain ⟨i, _, rfl⟩ := hy'
    split
    · exact bnd_at hx.2.2.1 _
    · omega
  · intro W hW i hi' g c hat hlc
    obtain ⟨t1, t2, t3⟩ := take_entry hz1 hl0 hD hs2 hi' hlong
    have hval : (takeL xs ys long D (m * long))[i]?.getD 0 = takeEnt xs ys D (i / long) (fun r => r * long + i % long) := by
      rw [takeL_at _ _ _ _ _ _ (by omega)]; rfl
    rw [hval]
    have e1 : (gs ++ ds.drop 1).length - fl = ds.length - 1 := by omega
    refine rentry_take x (.slice ea el ec) (.slice pa pl pc) (.slice la ll lc) (.slice ha hl hc) (.slice ta tl tc) b off cap da dl dc ds xa n xc xs fa fl fc gs ya m yc ys g (gs ++ ds.drop 1).length c (dig (gs ++ ds.drop 1) i) i W D (i / long) (fun r => r * long + i % long) ((hW.cell (p := ⟨b, off, none⟩) (lt_of_cell c0)).trans c0) ((hW.cell (p := ⟨b, off + 1, none⟩) (lt_of_cell c1)).trans c1) ((hW.cell (p := ⟨b, off + 2, none⟩) (lt_of_cell c2)).trans c2) ((hW.cell (p := ⟨b, off + 3, none⟩) (lt_of_cell c3)).trans c3) (hd.1.below hW) hd.2.1 (hx.below hW) (hf.1.below hW) hf.2.1 (hy.below hW) hat hlc (by omega) hD (by omega) (by omega) (by omega) (by rw [← hfl]; exact t1) (by omega) (fun r hr => ?_)
    rw [e1, ← hfl]
    obtain ⟨u1, u2⟩ := t3 r hr
    exact ⟨u1, by omega⟩
end Go.Proofs.YtoagnhppjlcpkaaGreat.V

/-
  Contract: adjointref2.putEntry.
-/
namespace Go.Proofs.YtoagnhppjlcpkaaGreat.V
set_option maxRecDepth 20000
open Go.RowKit

theorem accS_in (g : Nat → Int) : ∀ t, IntKind.i64.wrap (accS g t) = accS g t
  | 0 => by rw [accS, wrap_in 0 (by omega) (by omega)]
  | t + 1 => by rw [accS, wrap_wrap]

set_option maxRecDepth 100000 in
set_option maxHeartbeats 2000000 in
theorem putE_any (da : Option Addr) (dl dc : Nat) (ds : List Int) (xa : Option Addr) (n xc : Nat) (xs : List Int) (fa : Option Addr) (fl fc : Nat) (gs : List Int) (ya : Option Addr) (m yc : Nat) (ys : List Int) (g l c : Nat) (at' : List Int) (w : World) (q : Nat → Nat)
    (hd : Ints w da dl ds) (hdc : dl ≤ dc) (hx : Ints w xa n xs) (hf : Ints w fa fl gs) (hfc : fl ≤ fc) (hy : Ints w ya m ys) (ha : Ints w (some ⟨g, 0, none⟩) l at') (hl1 : 1 ≤ l) (hl6 : l ≤ 6) (hlc : l ≤ c) (hf6 : fl ≤ 6) (hz : sizeE gs = 0)
    (hq1 : ∀ t : Nat, t < (prod gs).toNat → placeN gs (dig gs t) = (t : Int) ∧ t < m) (hq2 : ∀ t : Nat, t < (prod gs).toNat → placeN ds (dig gs t ++ sub at' 1 (l - 1)) = (q t : Int) ∧ q t < n) :
    Calls Tryz.prog 48 #[.agg #[.slice da dl dc, .slice xa n xc], .agg #[.slice fa fl fc, .slice ya m yc], .slice (some ⟨g, 0, none⟩) l c] w fun e w' => e = .returned (.int .i64 (accS (fun t => if ys[t]?.getD 0 = at'[0]?.getD 0 then xs[q t]?.getD 0 else 0) (prod gs).toNat)) ∧ Below w.heap.size w w' := by
  have HB2 := hide (((Below.refl w.heap.size w).alloc (Nat.le_refl _) (.cells #[.slice da dl dc, .slice xa n xc] 28)).alloc (by simp) (.cells #[.slice fa fl fc, .slice ya m yc] 28))
  have HA0 := hide ((ArrAt.new w (.slice da dl dc) (.slice xa n xc)).alloc (.cells #[.slice fa fl fc, .slice ya m yc] 28))
  have ha1 := ArrAt.new (w.alloc (.cells #[.slice da dl dc, .slice xa n xc] 28)) (.slice fa fl fc) (.slice ya m yc)
  simp only [World.size_alloc] at ha1
  have HA1 := hide ha1
  obtain ⟨⟨a0, a1⟩, _⟩ := HA0.out.cells
  obtain ⟨⟨b0, b1⟩, _⟩ := HA1.out.cells
  have HSB : Hid (Lst w (if c = 1 then some ⟨g, 0, none⟩ else some ⟨g, 0 + 1, none⟩) (l - 1) (c - 1) (sub at' 1 (l - 1))) := ⟨ints_if (ints_sub ha 1 (l - 1) (by omega)) (by omega), by omega, fun e => by split at e <;> cases e⟩
  obtain ⟨SX, hSX⟩ : ∃ SX : Option Addr, SX = (if c = 1 then some ⟨g, 0, none⟩ else some ⟨g, 0 + 1, none⟩) := ⟨_, rfl⟩
  rw [← hSX] at HSB
  have HSX := hide hSX
  clear hSX
  obtain ⟨gb, goff, ge, _, hgc⟩ := ha.at (by omega)
  cases ge
  have hg0 := hgc 0 (by omega)
  rw [Nat.add_zero] at hg0
  have HG0 := hide hg0
  have HD := hide hd
  have HX := hide hx
  have HF := hide hf
  have HY := hide hy
  have HAT := hide ha
  have HZ := hide hz
  have HQ1 := hide hq1
  have HQ2 := hide hq2
  obtain ⟨NC, hNC⟩ : ∃ NC, NC = (prod gs).toNat := ⟨_, rfl⟩
  rw [← hNC] at HQ1 HQ2 ⊢
  have HNC := hide hNC
  have hN6 : NC ≤ 65536 := by rw [hNC]; rcases dims_cases hz with ⟨_, _, e⟩ | ⟨_, _, _, e⟩ <;> omega
  obtain ⟨A0v, hA0v⟩ : ∃ A0v, A0v = at'[0]?.getD 0 := ⟨_, rfl⟩
  have HAV := hide hA0v
  rw [← hA0v] at HG0 ⊢
  clear hd hx hf hy ha hz hq1 hq2 hNC ha1 hgc hg0 hA0v HA0
  go_enter Tryz.func48, Tryz.ntmps48
  go_wp2_with (go_at_call 23; refine (rall_anyC _ _ _ gs _ (HF.out.below HB2.out) HZ.out).mono ?_; rintro e w2 ⟨⟨AA, ca, rfl, hls⟩, hb⟩; rw [← HNC.out] at hls ⊢; have HLS := hide hls; have HW2 := hide (Below.on HB2.out hb); have hk := (hb.cell (p := ⟨w.heap.size, 0, none⟩) (lt_of_cell a0)).trans a0; have hk1 := (hb.cell (p := ⟨w.heap.size, 1, none⟩) (lt_of_cell a1)).trans a1; have hk2 := (hb.cell (p := ⟨w.heap.size + 1, 0, none⟩) (lt_of_cell b0)).trans b0; have hk3 := (hb.cell (p := ⟨w.heap.size + 1, 1, none⟩) (lt_of_cell b1)).trans b1; have HK0 := hide hk; have HK1 := hide hk1; have HK2 := hide hk2; have HK3 := hide hk3; clear hls hb a0 a1 b0 b1 hk hk1 hk2 hk3)
  go_loopw [7, 14] (fun v i wr => ∃ t : Nat, t ≤ NC ∧ i = .int .i64 t ∧ v = .int .i64 (accS (fun t => if ys[t]?.getD 0 = A0v then xs[q t]?.getD 0 else 0) t) ∧ Below w2.heap.size w2 wr) (fun _ i _ => NC - (intOf i).toNat)
  case atStart => exact ⟨0, Nat.zero_le _, rfl, rfl, Below.refl _ _⟩
  case round =>
    obtain ⟨t, ht, rfl, rfl, hB⟩ := hrel
    have HB := hide hB
    clear hB
    by_cases hlt : t < NC
    · obtain ⟨ba, rfl, _, hcs⟩ := HLS.out.resolve_left (by omega)
      obtain ⟨gk, ck, _, y0, hgk, hck⟩ := hcs t hlt
      have y1 := (HB.out.cell (p := ⟨ba, t, none⟩) (lt_of_cell y0)).trans y0
      have HGK := hide (show Lst wr (some ⟨gk, 0, none⟩) fl ck (dig gs t) from ⟨hgk.below HB.out, hck, fun e => by cases e⟩)
      have b0 := (HB.out.cell (p := ⟨w.heap.size + 1, 0, none⟩) (lt_of_cell HK2.out)).trans HK2.out
      have b1 := (HB.out.cell (p := ⟨w.heap.size + 1, 1, none⟩) (lt_of_cell HK3.out)).trans HK3.out
      have hww := Below.on HW2.out HB.out
      have zg := (hww.cell (p := ⟨g, 0, none⟩) (lt_of_cell HG0.out)).trans HG0.out
      have HWW := hide hww
      obtain ⟨hq1, hq1m⟩ := HQ1.out t hlt
      have HQA := hide hq1
      obtain ⟨hq2, hq2n⟩ := HQ2.out t hlt
      have HQB := hide hq2
      obtain ⟨Q, hQ⟩ : ∃ Q, Q = q t := ⟨_, rfl⟩
      rw [← hQ] at hq2n HQB
      have HQQ := hide hQ
      obtain ⟨SV, hSV⟩ : ∃ SV, SV = accS (fun t => if ys[t]?.getD 0 = A0v then xs[q t]?.getD 0 else 0) t := ⟨_, rfl⟩
      have HSV := hide hSV
      rw [← hSV]
      obtain ⟨YV, hYV⟩ : ∃ YV, YV = ys[t]?.getD 0 := ⟨_, rfl⟩
      have HYV := hide hYV
      obtain ⟨XV, hXV⟩ : ∃ XV, XV = xs[Q]?.getD 0 := ⟨_, rfl⟩
      have HXV := hide hXV
      have i1 : (0 : Int) ≤ (t : Int) := Int.natCast_nonneg _
      have i2 : (t : Int) < (NC : Int) := by omega
      have i3 : (0 : Int) < (l : Int) := by omega
      have i7 : 0 < l := by omega
      have i8 : 1 ≤ c := by omega
      clear hcs y0 hgk hck hq1 hq2 hQ hSV hXV hYV hww
      go_wp2_with fail
      refine region_made 6 7 [fIs (.agg #[.slice fa fl fc, .slice ya m yc]), fIs (.slice (some ⟨gk, 0, none⟩) fl ck), fIs (.int .i64 YV), fIs (.slice (some ⟨g, 0, none⟩) l c), fIs (.pointer (some ⟨g, 0, none⟩)), fIs (.int .i64 A0v)] (by kernel_rfl) (by kernel_rfl) (by kernel_rfl) (fun _ ⟨_, _⟩ ⟨_, _⟩ _ e h => by cases e; exact h) ⟨fIs_good _, fIs_good _, fIs_good _, fIs_good _, fIs_good _, fIs_good _, trivial⟩ ?mk ?rest
      case mk =>
        refine ⟨fun u wy hb hd => ?_, fun u wy hb hd => ?_, fun u wy hb hd => ?_, fun u wy hb hd => ?_, fun u wy hb hd => ?_, fun u wy hb hd => ?_, trivial⟩
        all_goals simp only [Act.put, List.setIfInBounds_toArray, List.set_cons_zero, List.set_cons_succ]
        · have b0' := (hb.cell (p := ⟨w.heap.size + 1, 0, none⟩) (lt_of_cell b0)).trans b0
          have b1' := (hb.cell (p := ⟨w.heap.size + 1, 1, none⟩) (lt_of_cell b1)).trans b1
          go_simp
          exact ⟨rfl, Below.refl _ _, fun h => by cases h⟩
        · go_simp
          exact ⟨rfl, Below.refl _ _, fun h => by cases h⟩
        · have e0 : u 0 = .agg #[.slice fa fl fc, .slice ya m yc] := hd 0 (by omega) (by kernel_rfl)
          have e1 : u 1 = .slice (some ⟨gk, 0, none⟩) fl ck := hd 1 (by omega) (by kernel_rfl)
          rw [e0, e1]
          go_simp
          have hw3 := Below.on HWW.out hb
          refine (rget_any _ _ _ gs _ _ _ ys _ _ _ _ wy t (HF.out.below hw3) hfc (HY.out.below hw3) (HGK.out.1.below hb) HQA.out hq1m).mono ?_
          rintro e w3 ⟨rfl, hb2⟩
          rw [← HYV.out]
          exact ⟨rfl, hb2, fun h => by cases h⟩
        · go_simp
          exact ⟨rfl, Below.refl _ _, fun h => by cases h⟩
        · have e3 : u 3 = .slice (some ⟨g, 0, none⟩) l c := hd 3 (by omega) (by kernel_rfl)
          rw [e3]
          go_simp
          exact ⟨rfl, Below.refl _ _, fun h => by cases h⟩
        · have e4 : u 4 = .pointer (some ⟨g, 0, none⟩) := hd 4 (by omega) (by kernel_rfl)
          rw [e4]
          have zg' := (hb.cell (p := ⟨g, 0, none⟩) (lt_of_cell zg)).trans zg
          go_simp
          exact ⟨rfl, Below.refl _ _, fun h => by cases h⟩
      case rest =>
        intro u wy hb hf hp
        have f0 : u 0 = .agg #[.slice fa fl fc, .slice ya m yc] := hf 0 (by omega)
        have f1 : u 1 = .slice (some ⟨gk, 0, none⟩) fl ck := hf 1 (by omega)
        have f2 : u 2 = .int .i64 YV := hf 2 (by omega)
        have f3 : u 3 = .slice (some ⟨g, 0, none⟩) l c := hf 3 (by omega)
        have f4 : u 4 = .pointer (some ⟨g, 0, none⟩) := hf 4 (by omega)
        have f5 : u 5 = .int .i64 A0v := hf 5 (by omega)
        refine UptoW.rest 1 6 (by rfl) (by kernel_rfl) ?_
        simp only [List.take, List.drop, putOps, Act.put, List.setIfInBounds_toArray, List.set_cons_zero, List.set_cons_succ, Nat.reduceAdd, f0, f1, f2, f3, f4, f5]
        clear f0 f1 f2 f3 f4 f5 hf hp
        have HWY := hide (Below.on HWW.out hb)
        have HBY := hide (Below.on HB.out hb)
        have HGY := hide (HGK.out.below hb)
        refine wpList_plain rfl (fun K hK => ?_)
        go_simp
        refine hK _ _ (wpList_nil ?_)
        clear hK K
        clear hb b0 b1 zg y1
        by_cases cc : YV = A0v
        · have qq : (YV == A0v) = true := by simp [cc]
          have HCC := hide cc
          clear cc
          have a0 := (HBY.out.cell (p := ⟨w.heap.size, 0, none⟩) (lt_of_cell HK0.out)).trans HK0.out
          have a1 := (HBY.out.cell (p := ⟨w.heap.size, 1, none⟩) (lt_of_cell HK1.out)).trans HK1.out
          have i4 : (1 : Int) ≤ (l : Int) := by omega
          have i6 : (1 : Int) ≤ (c : Int) := by omega
          go_wp2_with fail
          refine region_made 8 9 [fIs (.int .i64 SV), fIs (.agg #[.slice da dl dc, .slice xa n xc]), fIs (.slice (some ⟨gk, 0, none⟩) fl ck), fIs (.slice (some ⟨g, 0, none⟩) l c), fIs (.slice SX (l - 1) (c - 1)), fLst (dig gs t ++ sub at' 1 (l - 1)), fIs (.int .i64 XV), fIs (.int .i64 (IntKind.i64.wrap (SV + XV)))] (by kernel_rfl) (by kernel_rfl) (by kernel_rfl) (fun _ ⟨_, _⟩ ⟨_, _⟩ _ e h => by cases e; exact h) ⟨fIs_good _, fIs_good _, fIs_good _, fIs_good _, fIs_good _, fLst_good _, fIs_good _, fIs_good _, trivial⟩ ?mk ?rest
          case mk =>
            refine ⟨fun u wz hb hd => ?_, fun u wz hb hd => ?_, fun u wz hb hd => ?_, fun u wz hb hd => ?_, fun u wz hb hd => ?_, fun u wz hb hd => ?_, fun u wz hb hd => ?_, fun u wz hb hd => ?_, trivial⟩
            all_goals simp only [Act.put, List.setIfInBounds_toArray, List.set_cons_zero, List.set_cons_succ]
            · go_simp
              exact ⟨rfl, Below.refl _ _, fun h => by cases h⟩
            · have a0' := (hb.cell (p := ⟨w.heap.size, 0, none⟩) (lt_of_cell a0)).trans a0
              have a1' := (hb.cell (p := ⟨w.heap.size, 1, none⟩) (lt_of_cell a1)).trans a1
              go_simp
              exact ⟨rfl, Below.refl _ _, fun h => by cases h⟩
            · go_simp
              exact ⟨rfl, Below.refl _ _, fun h => by cases h⟩
            · go_simp
              exact ⟨rfl, Below.refl _ _, fun h => by cases h⟩
            · have e3 : u 3 = .slice (some ⟨g, 0, none⟩) l c := hd 3 (by omega) (by kernel_rfl)
              rw [e3]
              go_simp
              exact ⟨(show Value.slice (if c = 1 then some ⟨g, 0, none⟩ else some ⟨g, 1, none⟩) (l - 1) (c - 1) = .slice SX (l - 1) (c - 1) by rw [HSX.out]), Below.refl _ _, fun h => by cases h⟩
            · have e2 : u 2 = .slice (some ⟨gk, 0, none⟩) fl ck := hd 2 (by omega) (by kernel_rfl)
              have e4 : u 4 = .slice SX (l - 1) (c - 1) := hd 4 (by omega) (by kernel_rfl)
              rw [e2, e4]
              go_simp
              have hw3 := Below.on HWY.out hb
              refine (both_any _ _ _ (dig gs t) _ _ _ (sub at' 1 (l - 1)) wz (HGY.out.below hb) (HSB.out.below hw3) (by omega)).mono ?_
              rintro e w3 ⟨⟨vv, rfl, hv⟩, hb2⟩
              obtain ⟨X, nx, cx, rfl, hl2, _⟩ := hv
              exact ⟨⟨X, nx, cx, rfl, hl2⟩, hb2, fun h => by cases h⟩
            · have e1 : u 1 = .agg #[.slice da dl dc, .slice xa n xc] := hd 1 (by omega) (by kernel_rfl)
              obtain ⟨X, nx, cx, e5, h5⟩ := hd 5 (by omega) (by kernel_rfl)
              rw [e1, e5]
              go_simp
              have hw3 := Below.on HWY.out hb
              refine (rget_any _ _ _ ds _ _ _ xs _ _ _ _ wz Q (HD.out.below hw3) hdc (HX.out.below hw3) h5.1 HQB.out hq2n).mono ?_
              rintro e w3 ⟨rfl, hb2⟩
              rw [← HXV.out]
              exact ⟨rfl, hb2, fun h => by cases h⟩
            · have e0 : u 0 = .int .i64 SV := hd 0 (by omega) (by kernel_rfl)
              have e6 : u 6 = .int .i64 XV := hd 6 (by omega) (by kernel_rfl)
              rw [e0, e6]
              go_simp
              exact ⟨rfl, Below.refl _ _, fun h => by cases h⟩
          case rest =>
            intro u wz hb hf hp
            have f0 : u 0 = .int .i64 SV := hf 0 (by omega)
            have f1 : u 1 = .agg #[.slice da dl dc, .slice xa n xc] := hf 1 (by omega)
            have f2 : u 2 = .slice (some ⟨gk, 0, none⟩) fl ck := hf 2 (by omega)
            have f3 : u 3 = .slice (some ⟨g, 0, none⟩) l c := hf 3 (by omega)
            have f4 : u 4 = .slice SX (l - 1) (c - 1) := hf 4 (by omega)
            obtain ⟨_, _, _, f5, _⟩ := hf 5 (by omega)
            have f6 : u 6 = .int .i64 XV := hf 6 (by omega)
            have f7 : u 7 = .int .i64 (IntKind.i64.wrap (SV + XV)) := hf 7 (by omega)
            refine UptoW.rest 1 8 (by rfl) (by kernel_rfl) ?_
            simp only [List.take, List.drop, putOps, Act.put, List.setIfInBounds_toArray, List.set_cons_zero, List.set_cons_succ, Nat.reduceAdd, f0, f1, f2, f3, f4, f5, f6, f7]
            clear f0 f1 f2 f3 f4 f5 f6 f7 hf hp
            have HBX := hide (Below.on HBY.out hb)
            refine wpList_plain rfl (fun K hK => ?_)
            go_simp
            refine hK _ _ (wpList_nil ?_)
            clear hK K
            go_wp2
            go_roundw
            case rel => exact ⟨t + 1, by omega, by go_num, by rw [accS, ← HSV.out, ← HYV.out, if_pos HCC.out, ← HQQ.out, ← HXV.out], HBX.out⟩
            case measure => simp [intOf]; omega
        · have qq : (YV == A0v) = false := by simp [cc]
          have HCC := hide cc
          clear cc
          go_wp2
          go_roundw
          case rel => exact ⟨t + 1, by omega, by go_num, by rw [accS, ← HSV.out, ← HYV.out, if_neg HCC.out, Int.add_zero, HSV.out, accS_in], HBY.out⟩
          case measure => simp [intOf]; omega
    · obtain rfl : t = NC := by omega
      go_wp2
      go_ret
      exact ⟨rfl, Below.on HW2.out HB.out⟩
end Go.Proofs.YtoagnhppjlcpkaaGreat.V

/-
  Contracts: adjointref2.Do of Put: just what is made.
-/
namespace Go.Proofs.YtoagnhppjlcpkaaGreat.V
set_option maxRecDepth 20000
open Go.RowKit

theorem rdo_19 (x : Int) (ea : Option Addr) (el ec : Nat) (es : List Int) (pa : Option Addr) (pl pc : Nat) (ps : List Int) (la : Option Addr) (ll lc : Nat) (lo : List Int) (ha : Option Addr) (hl hc : Nat) (hi : List Int) (ta : Option Addr) (tl tc : Nat) (st : List Int) (b off cap : Nat) (da : Option Addr) (dl dc : Nat) (ds : List Int) (xa : Option Addr) (n xc : Nat) (xs : List Int) (fa : Option Addr) (fl fc : Nat) (gs : List Int) (ya : Option Addr) (m yc : Nat) (ys : List Int) (w : World)
    (he : Lst w ea el ec es) (hp : Lst w pa pl pc ps) (hlo : Lst w la ll lc lo) (hhi : Lst w ha hl hc hi) (hst : Lst w ta tl tc st) (b0 : el ≤ 1048576) (b1 : pl ≤ 1048576) (b2 : ll ≤ 1048576) (b3 : hl ≤ 1048576) (b4 : tl ≤ 1048576) (c0 : w.cell? ⟨b, off, none⟩ = some (.slice da dl dc)) (c1 : w.cell? ⟨b, off + 1, none⟩ = some (.slice xa n xc)) (c2 : w.cell? ⟨b, off + 2, none⟩ = some (.slice fa fl fc)) (c3 : w.cell? ⟨b, off + 3, none⟩ = some (.slice ya m yc)) (hd : Lst w da dl dc ds) (hx : Ints w xa n xs) (hf : Lst w fa fl fc gs) (hy : Ints w ya m ys) (hE : doE 19 es ps lo hi st 2 (pairV ds n gs m) = 0) {D long : Nat} (hes : es = [(D : Int)]) (htk : ds.take gs.length = gs) (hlong : prod (ds.drop gs.length) = (long : Int)) :
    Calls Tryz.prog 8 #[.agg #[.int .i64 19, .slice ea el ec, .slice pa pl pc, .slice la ll lc, .slice ha hl hc, .slice ta tl tc, .int .i64 x], .slice (some ⟨b, off, none⟩) 2 cap] w fun e w' => DoesR (es ++ ds.drop gs.length) (putL xs ys long (D * long) m) (prod (es ++ ds.drop gs.length)).toNat e w' ∧ Below w.heap.size w w' := by
  have hcg := doE_congr (k := 19) (es := es) (ps := ps) (lo := lo) (hi := hi) (st := st) (two_congr da dl dc ds xa n xc fa fl fc gs ya m yc)
  have hA := arrs_two c0 c1 c2 c3 hd hf
  obtain ⟨ha1, ha2, hs1, hs2, hs3⟩ := pairV_parts hE
  have hsh : shapeP 19 es ps lo hi st [ds, gs] = putP es ds gs := rfl
  rw [hsh] at hs1 hs2 hs3
  have hz1 := (arrE_ok ha1).1
  have hz2 := (arrE_ok ha2).1
  have hn := (arrE_ok ha1).2.1
  have hm := (arrE_ok ha2).2.1
  have hq1 : (putP es ds gs).1 = es ++ ds.drop gs.length := by
    unfold putP at hs1 ⊢
    by_cases c : es.length ≠ 1
    · rw [if_pos c] at hs1; exact absurd hs1 (by simp)
    rw [if_neg c] at hs1 ⊢
    by_cases c2 : ds.length < gs.length
    · rw [if_pos c2] at hs1; exact absurd hs1 (by simp)
    rw [if_neg c2] at hs1 ⊢
    by_cases c3 : ds.take gs.length = gs
    · rw [if_pos c3]
    · rw [if_neg c3] at hs1; exact absurd hs1 (by simp)
  rw [hq1] at hs2 hs3
  have hds : ds = gs ++ ds.drop gs.length := by
    conv => lhs; rw [← List.take_append_drop gs.length ds, htk]
  have hdl := hd.1.1
  have hfl := hf.1.1
  have hL6 : (es ++ ds.drop gs.length).length ≤ 6 := (sizeE_ok hs2).1
  have hg6 := (sizeE_ok hz2).1
  have eN : (prod (es ++ ds.drop gs.length)).toNat = D * long := by
    have : prod (es ++ ds.drop gs.length) = ((D * long : Nat) : Int) := by rw [prod_append, hes, hlong]; simp [prod]
    rw [this]; omega
  have hprod : prod ds = prod gs * (long : Int) := by
    have := congrArg prod hds
    rw [prod_append, hlong] at this
    exact this
  refine rdo_gen 19 x ea el ec es pa pl pc ps la ll lc lo ha hl hc hi ta tl tc st (some ⟨b, off, none⟩) 2 cap (twoV2 da dl dc ds xa n xc fa fl fc gs ya m yc) (es ++ ds.drop gs.length) (putL xs ys long (D * long) m) w he hp hlo hhi hst b0 b1 b2 b3 b4 hA (by omega) (by rw [hcg]; exact hE) hs3.symm (by rw [putL_length, eN]) (fun y hy' => ?_) ?_
  · simp only [putL, List.mem_map] at hy'
    obtain ⟨i, _, rfl⟩ := hy'
    exact wrap_bd _
  · intro W hW i hi' g c hat hlc
    obtain ⟨he1, hr1, A, B, e1, e2, e3, e4, e5⟩ := dig_two hs2 hi'
    have eB : B = long := by omega
    subst eB
    obtain ⟨se, sr⟩ := size_parts hs2 (fun x hx => by rcases List.mem_append.1 hx with h | h; exact he1 x h; exact hr1 x h)
    have hm0 : i % B < (prod (ds.drop gs.length)).toNat := by have := Nat.mod_lt i e3; omega
    have hdr := dig_place sr hm0
    have hA' : A = D := by rw [hes] at e1; simp [prod] at e1; omega
    have hdig1 : dig es ((i / B : Nat) : Int) = [((i / B : Nat) : Int)] := by
      rw [hes]
      simp [dig, prod]
    rw [hdig1] at e5
    have hat0 : (dig (es ++ ds.drop gs.length) i)[0]?.getD 0 = ((i / B : Nat) : Int) := by rw [e5]; simp
    have hll : (es ++ ds.drop gs.length).length = 1 + (ds.drop gs.length).length := by rw [List.length_append, hes]; rfl
    have hsub : sub (dig (es ++ ds.drop gs.length) i) 1 ((es ++ ds.drop gs.length).length - 1) = dig (ds.drop gs.length) ((i % B : Nat) : Int) := by
      rw [e5, hll]
      have h1 := sub_right [((i / B : Nat) : Int)] (dig (ds.drop gs.length) ((i % B : Nat) : Int))
      rw [dig_length] at h1
      have h2 : 1 + (ds.drop gs.length).length - 1 = (ds.drop gs.length).length := by omega
      rw [h2]
      exact h1
    have hq2 : ∀ t : Nat, t < (prod gs).toNat → placeN ds (dig gs t ++ sub (dig (es ++ ds.drop gs.length) i) 1 ((es ++ ds.drop gs.length).length - 1)) = ((t * B + i % B : Nat) : Int) ∧ t * B + i % B < n := fun t ht => by
      have hdt := dig_place hz2 ht
      have h := place_two (hds ▸ hz1) hz2 sr e2 (dig_length _ _) (dig_length _ _) hdt.2 hdr.2
      rw [← hds, hdt.1, hdr.1] at h
      rw [hsub, h]
      refine ⟨by push_cast; rfl, ?_⟩
      have h3 : (t + 1) * B ≤ (prod gs).toNat * B := Nat.mul_le_mul_right _ ht
      rw [Nat.add_mul, Nat.one_mul] at h3
      have h4 : n = (prod gs).toNat * B := by
        have : (n : Int) = (((prod gs).toNat * B : Nat) : Int) := by
          rw [hn, hprod]
          push_cast
          rw [Int.toNat_of_nonneg (by omega)]
        omega
      have := Nat.mod_lt i e3
      omega
    have hval : (putL xs ys B (D * B) m)[i]?.getD 0 = accS (fun t => if ys[t]?.getD 0 = (dig (es ++ ds.drop gs.length) i)[0]?.getD 0 then xs[t * B + i % B]?.getD 0 else 0) (prod gs).toNat := by
      rw [putL_at _ _ _ _ _ _ (by omega), accS_sum, hat0]
      have : (prod gs).toNat = m := by omega
      rw [this]
    rw [hval]
    refine rentry_put x (.slice ea el ec) (.slice pa pl pc) (.slice la ll lc) (.slice ha hl hc) (.slice ta tl tc) b off cap da dl dc xa n xc fa fl fc ya m yc (some ⟨g, 0, none⟩) (es ++ ds.drop gs.length).length c i _ W ((hW.cell (p := ⟨b, off, none⟩) (lt_of_cell c0)).trans c0) ((hW.cell (p := ⟨b, off + 1, none⟩) (lt_of_cell c1)).trans c1) ((hW.cell (p := ⟨b, off + 2, none⟩) (lt_of_cell c2)).trans c2) ((hW.cell (p := ⟨b, off + 3, none⟩) (lt_of_cell c3)).trans c3) (fun W2 hW2 => ?_)
    have hW1 := hW.trans (hW2.mono hW.size)
    exact putE_any da dl dc ds xa n xc xs fa fl fc gs ya m yc ys g (es ++ ds.drop gs.length).length c (dig (es ++ ds.drop gs.length) i) W2 (fun t => t * B + i % B) (hd.1.below hW1) hd.2.1 (hx.below hW1) (hf.1.below hW1) hf.2.1 (hy.below hW1) (hat.below hW2) (by omega) hL6 hlc (by omega) hz2 (fun t ht => ⟨(dig_place hz2 ht).1, by omega⟩) hq2
end Go.Proofs.YtoagnhppjlcpkaaGreat.V

/-
  Contract: adjointref2.dotEntry.
-/
namespace Go.Proofs.YtoagnhppjlcpkaaGreat.V
set_option maxRecDepth 20000
open Go.RowKit

set_option maxRecDepth 100000 in
set_option maxHeartbeats 4000000 in
theorem dotE_any (x : Int) (vd : Value) (pa : Option Addr) (pl pc : Nat) (ps : List Int) (la : Option Addr) (ll lc : Nat) (lo : List Int) (ha : Option Addr) (hl hc : Nat) (hi : List Int) (ta : Option Addr) (tl tc : Nat) (st : List Int) (da : Option Addr) (dl dc : Nat) (ds : List Int) (xa : Option Addr) (n xc : Nat) (xs : List Int) (fa : Option Addr) (fl fc : Nat) (gs : List Int) (ya : Option Addr) (m yc : Nat) (ys : List Int) (g l c : Nat) (at' : List Int) (w : World) (q1 q2 : Nat → Nat)
    (hp : Lst w pa pl pc ps) (hlo : Lst w la ll lc lo) (hhi : Lst w ha hl hc hi) (hst : Lst w ta tl tc st) (hd : Ints w da dl ds) (hdc : dl ≤ dc) (hx : Ints w xa n xs) (hf : Ints w fa fl gs) (hfc : fl ≤ fc) (hy : Ints w ya m ys) (hat : Ints w (some ⟨g, 0, none⟩) l at')
    (h6 : dl ≤ 6) (hf6 : fl ≤ 6) (hp6 : pl ≤ 6) (hl6 : ll ≤ 6) (hh6 : hl ≤ 6) (ht6 : tl ≤ 6) (hlc : l ≤ c) (hlen : ll + (freeL (ps ++ lo) dl).length ≤ l) (hlj : (freeL (st ++ hi) fl).length ≤ l - (ll + (freeL (ps ++ lo) dl).length)) (hpl : tl = pl) (hhl : hl = ll)
    (hpb : ∀ y ∈ ps, 0 ≤ y ∧ y < dl) (hab : ∀ i, i < (ps ++ lo).length → 0 ≤ (ps ++ lo)[i]?.getD 0 ∧ (ps ++ lo)[i]?.getD 0 < (dl : Int)) (hbb : ∀ i, i < (st ++ hi).length → 0 ≤ (st ++ hi)[i]?.getD 0 ∧ (st ++ hi)[i]?.getD 0 < (fl : Int)) (hz : sizeE (taken ds ps) = 0)
    (hq1 : ∀ t : Nat, t < (prod (taken ds ps)).toNat → placeN ds (merge dl (ps ++ lo) (dig (taken ds ps) t ++ (sub at' 0 ll)) (sub at' ll (freeL (ps ++ lo) dl).length)) = (q1 t : Int) ∧ q1 t < n) (hq2 : ∀ t : Nat, t < (prod (taken ds ps)).toNat → placeN gs (merge fl (st ++ hi) (dig (taken ds ps) t ++ (sub at' 0 ll)) (sub at' (ll + (freeL (ps ++ lo) dl).length) (l - (ll + (freeL (ps ++ lo) dl).length)))) = (q2 t : Int) ∧ q2 t < m) :
    Calls Tryz.prog 45 #[.agg #[.int .i64 16, vd, .slice pa pl pc, .slice la ll lc, .slice ha hl hc, .slice ta tl tc, .int .i64 x], .agg #[.slice da dl dc, .slice xa n xc], .agg #[.slice fa fl fc, .slice ya m yc], .slice (some ⟨g, 0, none⟩) l c] w fun e w' => e = .returned (.int .i64 (accS (fun t => IntKind.i64.wrap (xs[q1 t]?.getD 0 * ys[q2 t]?.getD 0)) (prod (taken ds ps)).toNat)) ∧ Below w.heap.size w w' := by
  have HB3 := hide ((((Below.refl w.heap.size w).alloc (Nat.le_refl _) (.cells #[.int .i64 16, vd, .slice pa pl pc, .slice la ll lc, .slice ha hl hc, .slice ta tl tc, .int .i64 x] 24)).alloc (by simp) (.cells #[.slice da dl dc, .slice xa n xc] 28)).alloc (by simp; omega) (.cells #[.slice fa fl fc, .slice ya m yc] 28))
  have HOP := hide (((OpAt.new w 16 vd (.slice pa pl pc) (.slice la ll lc) (.slice ha hl hc) (.slice ta tl tc) x).alloc (.cells #[.slice da dl dc, .slice xa n xc] 28)).alloc (.cells #[.slice fa fl fc, .slice ya m yc] 28))
  have ha0 := (ArrAt.new (w.alloc (.cells #[.int .i64 16, vd, .slice pa pl pc, .slice la ll lc, .slice ha hl hc, .slice ta tl tc, .int .i64 x] 24)) (.slice da dl dc) (.slice xa n xc)).alloc (.cells #[.slice fa fl fc, .slice ya m yc] 28)
  have ha1 := ArrAt.new ((w.alloc (.cells #[.int .i64 16, vd, .slice pa pl pc, .slice la ll lc, .slice ha hl hc, .slice ta tl tc, .int .i64 x] 24)).alloc (.cells #[.slice da dl dc, .slice xa n xc] 28)) (.slice fa fl fc) (.slice ya m yc)
  simp only [World.size_alloc] at ha0 ha1
  have HA0 := hide ha0
  have HA1 := hide ha1
  obtain ⟨o0, o1, o2, o3, o4, o5, o6⟩ := HOP.out.cells
  obtain ⟨⟨a0, a1⟩, _⟩ := HA0.out.cells
  obtain ⟨⟨b0, b1⟩, _⟩ := HA1.out.cells
  have HPS := hide hp
  have HLO := hide hlo
  have HHI := hide hhi
  have HST := hide hst
  have HD := hide hd
  have HX := hide hx
  have HF := hide hf
  have HY := hide hy
  have HAT := hide hat
  have HPB := hide hpb
  have HAB := hide hab
  have HBB := hide hbb
  have HZ := hide hz
  have HQ1 := hide hq1
  have HQ2 := hide hq2
  have HPL := hide hpl
  have HHL := hide hhl
  obtain ⟨NC, hNC⟩ : ∃ NC, NC = (prod (taken ds ps)).toNat := ⟨_, rfl⟩
  rw [← hNC] at HQ1 HQ2 ⊢
  have HNC := hide hNC
  have hN6 : NC ≤ 65536 := by rw [hNC]; rcases dims_cases hz with ⟨_, _, e⟩ | ⟨_, _, _, e⟩ <;> omega
  obtain ⟨af, haf⟩ : ∃ af, af = (freeL (ps ++ lo) dl).length := ⟨_, rfl⟩
  rw [← haf] at hlen hlj
  have HAF := hide haf
  clear hp hlo hhi hst hd hx hf hy hat hpb hab hbb hz hq1 hq2 hNC ha0 ha1 hpl hhl haf
  go_enter Tryz.func45, Tryz.ntmps45
  go_wp2_with fail
  refine region_made 10 3 [fIs (.pointer (some ⟨w.heap.size, 2, none⟩)), fIs (.slice pa pl pc), fIs (.pointer (some ⟨w.heap.size, 3, none⟩)), fIs (.slice la ll lc), fLst (ps ++ lo), fIs (.pointer (some ⟨w.heap.size, 5, none⟩)), fIs (.slice ta tl tc), fIs (.pointer (some ⟨w.heap.size, 4, none⟩)), fIs (.slice ha hl hc), fLst (st ++ hi)] (by kernel_rfl) (by kernel_rfl) (by kernel_rfl) (fun _ ⟨_, _⟩ ⟨_, _⟩ _ e h => by cases e; exact h) ⟨fIs_good _, fIs_good _, fIs_good _, fIs_good _, fLst_good _, fIs_good _, fIs_good _, fIs_good _, fIs_good _, fLst_good _, trivial⟩ ?mk ?rest
  case mk =>
    refine ⟨fun u wz hb hd => ?_, fun u wz hb hd => ?_, fun u wz hb hd => ?_, fun u wz hb hd => ?_, fun u wz hb hd => ?_, fun u wz hb hd => ?_, fun u wz hb hd => ?_, fun u wz hb hd => ?_, fun u wz hb hd => ?_, fun u wz hb hd => ?_, trivial⟩
    all_goals simp only [Act.put, List.setIfInBounds_toArray, List.set_cons_zero, List.set_cons_succ]
    · go_simp
      exact ⟨rfl, Below.refl _ _, fun h => by cases h⟩
    · have e0 : u 0 = .pointer (some ⟨w.heap.size, 2, none⟩) := hd 0 (by omega) (by kernel_rfl)
      rw [e0]
      have o2' := (hb.cell (p := ⟨w.heap.size, 2, none⟩) (lt_of_cell o2)).trans o2
      go_simp
      exact ⟨rfl, Below.refl _ _, fun h => by cases h⟩
    · go_simp
      exact ⟨rfl, Below.refl _ _, fun h => by cases h⟩
    · have e2 : u 2 = .pointer (some ⟨w.heap.size, 3, none⟩) := hd 2 (by omega) (by kernel_rfl)
      rw [e2]
      have o3' := (hb.cell (p := ⟨w.heap.size, 3, none⟩) (lt_of_cell o3)).trans o3
      go_simp
      exact ⟨rfl, Below.refl _ _, fun h => by cases h⟩
    · have e1 : u 1 = .slice pa pl pc := hd 1 (by omega) (by kernel_rfl)
      have e3 : u 3 = .slice la ll lc := hd 3 (by omega) (by kernel_rfl)
      rw [e1, e3]
      go_simp
      have hw3 := Below.on HB3.out hb
      refine (both_any _ _ _ ps _ _ _ lo wz (HPS.out.below hw3) (HLO.out.below hw3) (by omega)).mono ?_
      rintro e w3 ⟨⟨vv, rfl, hv⟩, hb2⟩
      obtain ⟨X, nx, cx, rfl, hl2, _⟩ := hv
      exact ⟨⟨X, nx, cx, rfl, hl2⟩, hb2, fun h => by cases h⟩
    · go_simp
      exact ⟨rfl, Below.refl _ _, fun h => by cases h⟩
    · have e5 : u 5 = .pointer (some ⟨w.heap.size, 5, none⟩) := hd 5 (by omega) (by kernel_rfl)
      rw [e5]
      have o5' := (hb.cell (p := ⟨w.heap.size, 5, none⟩) (lt_of_cell o5)).trans o5
      go_simp
      exact ⟨rfl, Below.refl _ _, fun h => by cases h⟩
    · go_simp
      exact ⟨rfl, Below.refl _ _, fun h => by cases h⟩
    · have e7 : u 7 = .pointer (some ⟨w.heap.size, 4, none⟩) := hd 7 (by omega) (by kernel_rfl)
      rw [e7]
      have o4' := (hb.cell (p := ⟨w.heap.size, 4, none⟩) (lt_of_cell o4)).trans o4
      go_simp
      exact ⟨rfl, Below.refl _ _, fun h => by cases h⟩
    · have e6 : u 6 = .slice ta tl tc := hd 6 (by omega) (by kernel_rfl)
      have e8 : u 8 = .slice ha hl hc := hd 8 (by omega) (by kernel_rfl)
      rw [e6, e8]
      go_simp
      have hw3 := Below.on HB3.out hb
      refine (both_any _ _ _ st _ _ _ hi wz (HST.out.below hw3) (HHI.out.below hw3) (by omega)).mono ?_
      rintro e w3 ⟨⟨vv, rfl, hv⟩, hb2⟩
      obtain ⟨X, nx, cx, rfl, hl2, _⟩ := hv
      exact ⟨⟨X, nx, cx, rfl, hl2⟩, hb2, fun h => by cases h⟩
  case rest =>
    intro u wz hb hf hp
    have f0 : u 0 = .pointer (some ⟨w.heap.size, 2, none⟩) := hf 0 (by omega)
    have f1 : u 1 = .slice pa pl pc := hf 1 (by omega)
    have f2 : u 2 = .pointer (some ⟨w.heap.size, 3, none⟩) := hf 2 (by omega)
    have f3 : u 3 = .slice la ll lc := hf 3 (by omega)
    obtain ⟨X4, n4a, c4, f4, l4⟩ := hf 4 (by omega)
    have f5 : u 5 = .pointer (some ⟨w.heap.size, 5, none⟩) := hf 5 (by omega)
    have f6 : u 6 = .slice ta tl tc := hf 6 (by omega)
    have f7 : u 7 = .pointer (some ⟨w.heap.size, 4, none⟩) := hf 7 (by omega)
    have f8 : u 8 = .slice ha hl hc := hf 8 (by omega)
    obtain ⟨X9, n9, c9, f9, l9⟩ := hf 9 (by omega)
    refine UptoW.rest 2 10 (by rfl) (by kernel_rfl) ?_
    simp only [List.take, List.drop, putOps, Act.put, List.setIfInBounds_toArray, List.set_cons_zero, List.set_cons_succ, Nat.reduceAdd, f0, f1, f2, f3, f4, f5, f6, f7, f8, f9]
    clear f0 f1 f2 f3 f4 f5 f6 f7 f8 f9 hf hp
    refine wpList_plain rfl (fun K hK => ?_)
    go_simp
    refine hK _ _ ?_
    clear hK K
    refine wpList_plain rfl (fun K hK => ?_)
    go_simp
    refine hK _ _ (wpList_nil ?_)
    clear hK K
    have HW1 := hide (Below.on HB3.out hb)
    have HIA := hide l4
    have HIB := hide l9
    replace o2 := (hb.cell (p := ⟨w.heap.size, 2, none⟩) (lt_of_cell o2)).trans o2
    replace o3 := (hb.cell (p := ⟨w.heap.size, 3, none⟩) (lt_of_cell o3)).trans o3
    replace o4 := (hb.cell (p := ⟨w.heap.size, 4, none⟩) (lt_of_cell o4)).trans o4
    replace o5 := (hb.cell (p := ⟨w.heap.size, 5, none⟩) (lt_of_cell o5)).trans o5
    replace a0 := (hb.cell (p := ⟨w.heap.size + 1, 0, none⟩) (lt_of_cell a0)).trans a0
    replace a1 := (hb.cell (p := ⟨w.heap.size + 1, 1, none⟩) (lt_of_cell a1)).trans a1
    replace b0 := (hb.cell (p := ⟨w.heap.size + 1 + 1, 0, none⟩) (lt_of_cell b0)).trans b0
    replace b1 := (hb.cell (p := ⟨w.heap.size + 1 + 1, 1, none⟩) (lt_of_cell b1)).trans b1
    clear hb l4 l9 o0 o1 o6 HOP HA0 HA1
    go_wp2_with fail
    refine region_made 8 3 [fIs (.pointer (some ⟨w.heap.size + 1, 0, none⟩)), fIs (.slice da dl dc), fIs (.slice X4 n4a c4), fLst (freeL (ps ++ lo) dl), fIs (.pointer (some ⟨w.heap.size + 1 + 1, 0, none⟩)), fIs (.slice fa fl fc), fIs (.slice X9 n9 c9), fLst (freeL (st ++ hi) fl)] (by kernel_rfl) (by kernel_rfl) (by kernel_rfl) (fun _ ⟨_, _⟩ ⟨_, _⟩ _ e h => by cases e; exact h) ⟨fIs_good _, fIs_good _, fIs_good _, fLst_good _, fIs_good _, fIs_good _, fIs_good _, fLst_good _, trivial⟩ ?mk ?rest
    case mk =>
      refine ⟨fun u wy hb hd => ?_, fun u wy hb hd => ?_, fun u wy hb hd => ?_, fun u wy hb hd => ?_, fun u wy hb hd => ?_, fun u wy hb hd => ?_, fun u wy hb hd => ?_, fun u wy hb hd => ?_, trivial⟩
      all_goals simp only [Act.put, List.setIfInBounds_toArray, List.set_cons_zero, List.set_cons_succ]
      · go_simp
        exact ⟨rfl, Below.refl _ _, fun h => by cases h⟩
      · have e0 : u 0 = .pointer (some ⟨w.heap.size + 1, 0, none⟩) := hd 0 (by omega) (by kernel_rfl)
        rw [e0]
        have a0' := (hb.cell (p := ⟨w.heap.size + 1, 0, none⟩) (lt_of_cell a0)).trans a0
        go_simp
        exact ⟨rfl, Below.refl _ _, fun h => by cases h⟩
      · go_simp
        exact ⟨rfl, Below.refl _ _, fun h => by cases h⟩
      · have e1 : u 1 = .slice da dl dc := hd 1 (by omega) (by kernel_rfl)
        have e2 : u 2 = .slice X4 n4a c4 := hd 2 (by omega) (by kernel_rfl)
        rw [e1, e2]
        go_simp
        have hw3 := Below.on HW1.out hb
        refine (free_any _ _ _ ds _ _ _ (ps ++ lo) wy (HD.out.below hw3) (HIA.out.1.below hb) h6).mono ?_
        rintro e w3 ⟨⟨vv, rfl, hv⟩, hb2⟩
        obtain ⟨X, nx, cx, rfl, hl2, _⟩ := hv
        exact ⟨⟨X, nx, cx, rfl, hl2⟩, hb2, fun h => by cases h⟩
      · go_simp
        exact ⟨rfl, Below.refl _ _, fun h => by cases h⟩
      · have e4 : u 4 = .pointer (some ⟨w.heap.size + 1 + 1, 0, none⟩) := hd 4 (by omega) (by kernel_rfl)
        rw [e4]
        have b0' := (hb.cell (p := ⟨w.heap.size + 1 + 1, 0, none⟩) (lt_of_cell b0)).trans b0
        go_simp
        exact ⟨rfl, Below.refl _ _, fun h => by cases h⟩
      · go_simp
        exact ⟨rfl, Below.refl _ _, fun h => by cases h⟩
      · have e5 : u 5 = .slice fa fl fc := hd 5 (by omega) (by kernel_rfl)
        have e6 : u 6 = .slice X9 n9 c9 := hd 6 (by omega) (by kernel_rfl)
        rw [e5, e6]
        go_simp
        have hw3 := Below.on HW1.out hb
        refine (free_any _ _ _ gs _ _ _ (st ++ hi) wy (HF.out.below hw3) (HIB.out.1.below hb) hf6).mono ?_
        rintro e w3 ⟨⟨vv, rfl, hv⟩, hb2⟩
        obtain ⟨X, nx, cx, rfl, hl2, _⟩ := hv
        exact ⟨⟨X, nx, cx, rfl, hl2⟩, hb2, fun h => by cases h⟩
    case rest =>
      intro u wy hb hf hp
      have f0 : u 0 = .pointer (some ⟨w.heap.size + 1, 0, none⟩) := hf 0 (by omega)
      have f1 : u 1 = .slice da dl dc := hf 1 (by omega)
      have f2 : u 2 = .slice X4 n4a c4 := hf 2 (by omega)
      obtain ⟨Y3, m3, d3, f3, k3⟩ := hf 3 (by omega)
      have f4 : u 4 = .pointer (some ⟨w.heap.size + 1 + 1, 0, none⟩) := hf 4 (by omega)
      have f5 : u 5 = .slice fa fl fc := hf 5 (by omega)
      have f6 : u 6 = .slice X9 n9 c9 := hf 6 (by omega)
      obtain ⟨Y7, m7, d7, f7, k7⟩ := hf 7 (by omega)
      refine UptoW.rest 2 8 (by rfl) (by kernel_rfl) ?_
      simp only [List.take, List.drop, putOps, Act.put, List.setIfInBounds_toArray, List.set_cons_zero, List.set_cons_succ, Nat.reduceAdd, f0, f1, f2, f3, f4, f5, f6, f7]
      clear f0 f1 f2 f3 f4 f5 f6 f7 hf hp
      refine wpList_plain rfl (fun K hK => ?_)
      go_simp
      refine hK _ _ ?_
      clear hK K
      refine wpList_plain rfl (fun K hK => ?_)
      go_simp
      refine hK _ _ (wpList_nil ?_)
      clear hK K
      have HW2 := hide (Below.on HW1.out hb)
      have HFA := hide k3
      have HFB := hide k7
      have HIA2 := hide (HIA.out.below hb)
      have HIB2 := hide (HIB.out.below hb)
      replace o2 := (hb.cell (p := ⟨w.heap.size, 2, none⟩) (lt_of_cell o2)).trans o2
      replace o3 := (hb.cell (p := ⟨w.heap.size, 3, none⟩) (lt_of_cell o3)).trans o3
      replace o4 := (hb.cell (p := ⟨w.heap.size, 4, none⟩) (lt_of_cell o4)).trans o4
      replace o5 := (hb.cell (p := ⟨w.heap.size, 5, none⟩) (lt_of_cell o5)).trans o5
      replace a0 := (hb.cell (p := ⟨w.heap.size + 1, 0, none⟩) (lt_of_cell a0)).trans a0
      replace a1 := (hb.cell (p := ⟨w.heap.size + 1, 1, none⟩) (lt_of_cell a1)).trans a1
      replace b0 := (hb.cell (p := ⟨w.heap.size + 1 + 1, 0, none⟩) (lt_of_cell b0)).trans b0
      replace b1 := (hb.cell (p := ⟨w.heap.size + 1 + 1, 1, none⟩) (lt_of_cell b1)).trans b1
      clear hb k3 k7 HIA HIB
      have em3 : m3 = af := by rw [HAF.out]; exact HFA.out.1.1.symm
      subst em3
      have hml := HAT.out.2.1
      obtain ⟨E, hE⟩ : ∃ E, E = ll + m3 := ⟨_, rfl⟩
      have k1 : (ll : Int) ≤ (c : Int) := by omega
      have k2 : (ll : Int) ≤ (E : Int) := by omega
      have k3 : (E : Int) ≤ (c : Int) := by omega
      have k4 : (E : Int) ≤ (l : Int) := by omega
      have k5 : IntKind.i64.wrap ((ll : Int) + (m3 : Int)) = (E : Int) := by rw [wrap_in _ (by omega) (by omega)]; omega
      have n1 : ll ≤ c := by omega
      have n2 : ll ≤ E := by omega
      have n3 : E ≤ c := by omega
      have n4 : E ≤ l := by omega
      have n5 : (0 : Int) ≤ (ll : Int) := by omega
      have n6 : (0 : Int) ≤ (E : Int) := by omega
      have HE := hide hE
      have HLEN := hide hlen
      have HLJ := hide hlj
      clear hE hlen hlj
      have HSP := hide (show Ints w (some ⟨g, 0, none⟩) ll (sub at' 0 ll) from ints_sub HAT.out 0 ll (by omega))
      have HSI : Hid (Ints w (some ⟨g, ll, none⟩) (E - ll) (sub at' ll (E - ll))) := by have h := ints_sub HAT.out ll (E - ll) (by omega); rw [Nat.zero_add] at h; exact h
      have HSJ : Hid (Ints w (some ⟨g, E, none⟩) (l - E) (sub at' E (l - E))) := by have h := ints_sub HAT.out E (l - E) (by omega); rw [Nat.zero_add] at h; exact h
      simp only [Exit.then]
      rename_i hKc
      refine hKc _ _ ?_
      clear hKc
      refine wp_seq_k (fun K hK => ?_)
      go_cut [13] (fun v wc => v = .slice (some ⟨g, 0, none⟩) ll c ∧ wc = wy)
      case first =>
        go_wp2
        go_meet
        exact ⟨rfl, rfl⟩
      case rest =>
        obtain ⟨rfl, hwc⟩ := hcut
        obtain rfl := hwc.symm
        refine hK _ _ ?_
        clear hK K
        refine wp_seq_k (fun K hK => ?_)
        go_cut [14] (fun v wc => (∃ SI, v = .slice SI (E - ll) (c - ll) ∧ Ints w SI (E - ll) (sub at' ll (E - ll))) ∧ wc = wy)
        case first =>
          by_cases hc0 : c = ll
          · subst hc0
            go_wp2
            go_meet
            exact ⟨⟨some ⟨g, 0, none⟩, by rw [show E - c = 0 by omega, Nat.sub_self], ⟨HSI.out.1, HSI.out.2.1, HSI.out.2.2.1, .inl (by omega)⟩⟩, rfl⟩
          · go_wp2
            go_meet
            exact ⟨⟨_, rfl, HSI.out⟩, rfl⟩
        case rest =>
          obtain ⟨⟨SI, rfl, hsi⟩, hwc⟩ := hcut
          obtain rfl := hwc.symm
          have HSI2 := hide hsi
          refine hK _ _ ?_
          clear hK K hsi HSI
          refine wp_seq_k (fun K hK => ?_)
          go_cut [15] (fun v wc => (∃ SJ, v = .slice SJ (l - E) (c - E) ∧ Ints w SJ (l - E) (sub at' E (l - E))) ∧ wc = wy)
          case first =>
            by_cases hc0 : c = E
            · subst hc0
              go_wp2
              go_meet
              exact ⟨⟨some ⟨g, 0, none⟩, by rw [show l - c = 0 by omega, Nat.sub_self], ⟨HSJ.out.1, HSJ.out.2.1, HSJ.out.2.2.1, .inl (by omega)⟩⟩, rfl⟩
            · go_wp2
              go_meet
              exact ⟨⟨_, rfl, HSJ.out⟩, rfl⟩
          case rest =>
            obtain ⟨⟨SJ, rfl, hsj⟩, hwc⟩ := hcut
            obtain rfl := hwc.symm
            have HSJ2 := hide hsj
            refine hK _ _ ?_
            clear hK K hsj HSJ k2 k3 k4 k5 n5 n6
            go_wp2_with (first
              | (go_at_call 23; refine (rall_anyC _ _ _ (taken ds ps) _ HTK.out.1 HZ.out).mono ?_; rintro e w6 ⟨⟨AA, ca, rfl, hls⟩, hb⟩; rw [← HNC.out] at hls ⊢; have HLS := hide hls; have HW6 := hide (Below.on HW5.out hb); clear hls hb)
              | (go_at_call 41; refine (chosen_any _ _ _ ds _ _ _ ps _ (HD.out.below HW2.out) (HPS.out.1.below HW2.out) HPB.out hp6).mono ?_; rintro e w5 ⟨⟨vv, rfl, hv⟩, hb⟩; obtain ⟨X, nx, cx, rfl, hl2, _⟩ := hv; have enx : nx = pl := (by rw [← hl2.1.1, taken_length, HPS.out.1.1]); subst enx; have HTK := hide hl2; have HW5 := hide (Below.on (Below.refl _ _) hb); clear hl2 hb))
            go_loopw [16, 68] (fun v i wr => ∃ t : Nat, t ≤ NC ∧ i = .int .i64 t ∧ v = .int .i64 (accS (fun t => IntKind.i64.wrap (xs[q1 t]?.getD 0 * ys[q2 t]?.getD 0)) t) ∧ Below w6.heap.size w6 wr) (fun _ i _ => NC - (intOf i).toNat)
            case atStart => exact ⟨0, Nat.zero_le _, rfl, rfl, Below.refl _ _⟩
            case round =>
              obtain ⟨t, ht, rfl, rfl, hB⟩ := hrel
              have HB := hide hB
              clear hB
              by_cases hlt : t < NC
              · obtain ⟨ba, rfl, _, hcs⟩ := HLS.out.resolve_left (by omega)
                obtain ⟨gk, ck, _, y0, hgk, hck⟩ := hcs t hlt
                have y1 := (HB.out.cell (p := ⟨ba, t, none⟩) (lt_of_cell y0)).trans y0
                have HGK := hide (show Lst wr (some ⟨gk, 0, none⟩) nx ck (dig (taken ds ps) t) from ⟨hgk.below HB.out, hck, fun e => by cases e⟩)
                have hyr := Below.on HW6.out HB.out
                have HYR := hide hyr
                have HWR := hide (Below.on HW2.out hyr)
                replace a0 := (hyr.cell (p := ⟨w.heap.size + 1, 0, none⟩) (lt_of_cell a0)).trans a0
                replace a1 := (hyr.cell (p := ⟨w.heap.size + 1, 1, none⟩) (lt_of_cell a1)).trans a1
                replace b0 := (hyr.cell (p := ⟨w.heap.size + 1 + 1, 0, none⟩) (lt_of_cell b0)).trans b0
                replace b1 := (hyr.cell (p := ⟨w.heap.size + 1 + 1, 1, none⟩) (lt_of_cell b1)).trans b1
                obtain ⟨hqa, hqan⟩ := HQ1.out t hlt
                have HQA := hide hqa
                obtain ⟨hqb, hqbn⟩ := HQ2.out t hlt
                have HQB := hide hqb
                obtain ⟨Q1, hQ1⟩ : ∃ Q1, Q1 = q1 t := ⟨_, rfl⟩
                rw [← hQ1] at hqan HQA
                have HQQ1 := hide hQ1
                obtain ⟨Q2, hQ2⟩ : ∃ Q2, Q2 = q2 t := ⟨_, rfl⟩
                rw [← hQ2] at hqbn HQB
                have HQQ2 := hide hQ2
                obtain ⟨SV, hSV⟩ : ∃ SV, SV = accS (fun t => IntKind.i64.wrap (xs[q1 t]?.getD 0 * ys[q2 t]?.getD 0)) t := ⟨_, rfl⟩
                have HSV := hide hSV
                rw [← hSV]
                obtain ⟨XV, hXV⟩ : ∃ XV, XV = xs[Q1]?.getD 0 := ⟨_, rfl⟩
                have HXV := hide hXV
                obtain ⟨YV, hYV⟩ : ∃ YV, YV = ys[Q2]?.getD 0 := ⟨_, rfl⟩
                have HYV := hide hYV
                have i1 : (0 : Int) ≤ (t : Int) := Int.natCast_nonneg _
                have i2 : (t : Int) < (NC : Int) := by omega
                clear hcs y0 hgk hck hqa hqb hQ1 hQ2 hSV hXV hYV hyr
                go_wp2_with fail
                refine region_made 27 28 [fIs (.int .i64 SV), fIs (.agg #[.slice da dl dc, .slice xa n xc]), fIs (.pointer (some ⟨w.heap.size + 1, 0, none⟩)), fIs (.slice da dl dc), fIs (.int .i64 (dl : Int)), fIs (.slice X4 n4a c4), fIs (.slice (some ⟨gk, 0, none⟩) nx ck), fIs (.slice (some ⟨g, 0, none⟩) ll c), fLst (dig (taken ds ps) t ++ (sub at' 0 ll)), fIs (.slice Y3 m3 d3), fIs (.slice SI (E - ll) (c - ll)), fRowL dl (merge dl (ps ++ lo) (dig (taken ds ps) t ++ (sub at' 0 ll)) (sub at' ll (freeL (ps ++ lo) dl).length)), fIs (.int .i64 XV), fIs (.agg #[.slice fa fl fc, .slice ya m yc]), fIs (.pointer (some ⟨w.heap.size + 1 + 1, 0, none⟩)), fIs (.slice fa fl fc), fIs (.int .i64 (fl : Int)), fIs (.slice X9 n9 c9), fIs (.slice (some ⟨gk, 0, none⟩) nx ck), fIs (.slice (some ⟨g, 0, none⟩) ll c), fLst (dig (taken ds ps) t ++ (sub at' 0 ll)), fIs (.slice Y7 m7 d7), fIs (.slice SJ (l - E) (c - E)), fRowL fl (merge fl (st ++ hi) (dig (taken ds ps) t ++ (sub at' 0 ll)) (sub at' (ll + (freeL (ps ++ lo) dl).length) (l - (ll + (freeL (ps ++ lo) dl).length)))), fIs (.int .i64 YV), fIs (.int .i64 (IntKind.i64.wrap (XV * YV))), fIs (.int .i64 (IntKind.i64.wrap (SV + IntKind.i64.wrap (XV * YV))))] (by kernel_rfl) (by kernel_rfl) (by kernel_rfl) (fun _ ⟨_, _⟩ ⟨_, _⟩ _ e h => by cases e; exact h) ⟨fIs_good _, fIs_good _, fIs_good _, fIs_good _, fIs_good _, fIs_good _, fIs_good _, fIs_good _, fLst_good _, fIs_good _, fIs_good _, fRowL_good _ _, fIs_good _, fIs_good _, fIs_good _, fIs_good _, fIs_good _, fIs_good _, fIs_good _, fIs_good _, fLst_good _, fIs_good _, fIs_good _, fRowL_good _ _, fIs_good _, fIs_good _, fIs_good _, trivial⟩ ?mk ?rest
                case mk =>
                  refine ⟨fun u wv hb hd => ?_, fun u wv hb hd => ?_, fun u wv hb hd => ?_, fun u wv hb hd => ?_, fun u wv hb hd => ?_, fun u wv hb hd => ?_, fun u wv hb hd => ?_, fun u wv hb hd => ?_, fun u wv hb hd => ?_, fun u wv hb hd => ?_, fun u wv hb hd => ?_, fun u wv hb hd => ?_, fun u wv hb hd => ?_, fun u wv hb hd => ?_, fun u wv hb hd => ?_, fun u wv hb hd => ?_, fun u wv hb hd => ?_, fun u wv hb hd => ?_, fun u wv hb hd => ?_, fun u wv hb hd => ?_, fun u wv hb hd => ?_, fun u wv hb hd => ?_, fun u wv hb hd => ?_, fun u wv hb hd => ?_, fun u wv hb hd => ?_, fun u wv hb hd => ?_, fun u wv hb hd => ?_, trivial⟩
                  all_goals simp only [Act.put, List.setIfInBounds_toArray, List.set_cons_zero, List.set_cons_succ]
                  · go_simp
                    exact ⟨rfl, Below.refl _ _, fun h => by cases h⟩
                  · have a0' := (hb.cell (p := ⟨w.heap.size + 1, 0, none⟩) (lt_of_cell a0)).trans a0
                    have a1' := (hb.cell (p := ⟨w.heap.size + 1, 1, none⟩) (lt_of_cell a1)).trans a1
                    go_simp
                    exact ⟨rfl, Below.refl _ _, fun h => by cases h⟩
                  · go_simp
                    exact ⟨rfl, Below.refl _ _, fun h => by cases h⟩
                  · have e2 : u 2 = .pointer (some ⟨w.heap.size + 1, 0, none⟩) := hd 2 (by omega) (by kernel_rfl)
                    rw [e2]
                    have a0' := (hb.cell (p := ⟨w.heap.size + 1, 0, none⟩) (lt_of_cell a0)).trans a0
                    go_simp
                    exact ⟨rfl, Below.refl _ _, fun h => by cases h⟩
                  · have e3 : u 3 = .slice da dl dc := hd 3 (by omega) (by kernel_rfl)
                    rw [e3]
                    go_simp
                    exact ⟨rfl, Below.refl _ _, fun h => by cases h⟩
                  · go_simp
                    exact ⟨rfl, Below.refl _ _, fun h => by cases h⟩
                  · go_simp
                    exact ⟨rfl, Below.refl _ _, fun h => by cases h⟩
                  · go_simp
                    exact ⟨rfl, Below.refl _ _, fun h => by cases h⟩
                  · have e6 : u 6 = .slice (some ⟨gk, 0, none⟩) nx ck := hd 6 (by omega) (by kernel_rfl)
                    have e7 : u 7 = .slice (some ⟨g, 0, none⟩) ll c := hd 7 (by omega) (by kernel_rfl)
                    rw [e6, e7]
                    go_simp
                    have hw3 := Below.on HWR.out hb
                    have hsp : Lst w (some ⟨g, 0, none⟩) ll c (sub at' 0 ll) := ⟨HSP.out, by omega, fun e => by cases e⟩
                    refine (both_any _ _ _ (dig (taken ds ps) t) _ _ _ (sub at' 0 ll) wv (HGK.out.below hb) (hsp.below hw3) (by omega)).mono ?_
                    rintro e w7 ⟨⟨vv, rfl, hv⟩, hb2⟩
                    obtain ⟨X, n7, c7, rfl, hl2, _⟩ := hv
                    exact ⟨⟨X, n7, c7, rfl, hl2⟩, hb2, fun h => by cases h⟩
                  · go_simp
                    exact ⟨rfl, Below.refl _ _, fun h => by cases h⟩
                  · go_simp
                    exact ⟨rfl, Below.refl _ _, fun h => by cases h⟩
                  · have e4 : u 4 = .int .i64 (dl : Int) := hd 4 (by omega) (by kernel_rfl)
                    have e5 : u 5 = .slice X4 n4a c4 := hd 5 (by omega) (by kernel_rfl)
                    obtain ⟨X80, n80, c80, e80, h80⟩ := hd 8 (by omega) (by kernel_rfl)
                    have e9 : u 9 = .slice Y3 m3 d3 := hd 9 (by omega) (by kernel_rfl)
                    have e10 : u 10 = .slice SI (E - ll) (c - ll) := hd 10 (by omega) (by kernel_rfl)
                    rw [e4, e5, e80, e9, e10]
                    go_simp
                    have hw3 := Below.on HWR.out hb
                    have hy3 := Below.on HYR.out hb
                    have e1 : (ps ++ lo).length = n4a := HIA2.out.1.1
                    have e2 : (freeL (ps ++ lo) dl).length = m3 := HFA.out.1.1
                    have e3 := h80.1.1
                    rw [List.length_append, dig_length, taken_length, HSP.out.1] at e3
                    have e4 := HPS.out.1.1
                    have e5 : (ps ++ lo).length = _ := List.length_append
                    have e6 := HLO.out.1.1
                    have e7 := HST.out.1.1
                    have e8 := HPL.out
                    have e9 := HHL.out
                    have e10 := HE.out
                    have e11 := HLJ.out
                    have e12 := HLEN.out
                    refine (placed_any dl _ _ _ (ps ++ lo) _ _ _ (dig (taken ds ps) t ++ (sub at' 0 ll)) _ _ _ (freeL (ps ++ lo) dl) _ _ _ (sub at' ll (E - ll)) wv h6 (HIA2.out.1.below hy3) h80.1 (HFA.out.1.below hy3) (HSI2.out.below hw3) (by omega) (by omega) (fun i hii => HAB.out i (by omega)) (fun i hii => by have := freeL_rise (ps ++ lo) dl i (by omega); exact ⟨this.1, this.2.1⟩)).mono ?_
                    rintro e w7 ⟨⟨gg, rfl, hgg, _⟩, hb2⟩
                    rw [← e1, ← e2] at hgg
                    replace hgg : Ints w7 (some ⟨gg, 0, none⟩) dl (merge dl (ps ++ lo) (dig (taken ds ps) t ++ (sub at' 0 ll)) (sub at' ll (E - ll))) := hgg
                    rw [show E - ll = (freeL (ps ++ lo) dl).length by omega] at hgg
                    exact ⟨⟨gg, rfl, hgg⟩, hb2, fun h => by cases h⟩
                  · have e1 : u 1 = .agg #[.slice da dl dc, .slice xa n xc] := hd 1 (by omega) (by kernel_rfl)
                    obtain ⟨g11, e11, h11⟩ := hd 11 (by omega) (by kernel_rfl)
                    rw [e1, e11]
                    go_simp
                    have hw3 := Below.on HWR.out hb
                    refine (rget_any _ _ _ ds _ _ _ xs _ _ _ _ wv Q1 (HD.out.below hw3) hdc (HX.out.below hw3) h11 HQA.out hqan).mono ?_
                    rintro e w7 ⟨rfl, hb2⟩
                    rw [← HXV.out]
                    exact ⟨rfl, hb2, fun h => by cases h⟩
                  · have b0' := (hb.cell (p := ⟨w.heap.size + 1 + 1, 0, none⟩) (lt_of_cell b0)).trans b0
                    have b1' := (hb.cell (p := ⟨w.heap.size + 1 + 1, 1, none⟩) (lt_of_cell b1)).trans b1
                    go_simp
                    exact ⟨rfl, Below.refl _ _, fun h => by cases h⟩
                  · go_simp
                    exact ⟨rfl, Below.refl _ _, fun h => by cases h⟩
                  · have e14 : u 14 = .pointer (some ⟨w.heap.size + 1 + 1, 0, none⟩) := hd 14 (by omega) (by kernel_rfl)
                    rw [e14]
                    have b0' := (hb.cell (p := ⟨w.heap.size + 1 + 1, 0, none⟩) (lt_of_cell b0)).trans b0
                    go_simp
                    exact ⟨rfl, Below.refl _ _, fun h => by cases h⟩
                  · have e15 : u 15 = .slice fa fl fc := hd 15 (by omega) (by kernel_rfl)
                    rw [e15]
                    go_simp
                    exact ⟨rfl, Below.refl _ _, fun h => by cases h⟩
                  · go_simp
                    exact ⟨rfl, Below.refl _ _, fun h => by cases h⟩
                  · go_simp
                    exact ⟨rfl, Below.refl _ _, fun h => by cases h⟩
                  · go_simp
                    exact ⟨rfl, Below.refl _ _, fun h => by cases h⟩
                  · have e18 : u 18 = .slice (some ⟨gk, 0, none⟩) nx ck := hd 18 (by omega) (by kernel_rfl)
                    have e19 : u 19 = .slice (some ⟨g, 0, none⟩) ll c := hd 19 (by omega) (by kernel_rfl)
                    rw [e18, e19]
                    go_simp
                    have hw3 := Below.on HWR.out hb
                    have hsp : Lst w (some ⟨g, 0, none⟩) ll c (sub at' 0 ll) := ⟨HSP.out, by omega, fun e => by cases e⟩
                    refine (both_any _ _ _ (dig (taken ds ps) t) _ _ _ (sub at' 0 ll) wv (HGK.out.below hb) (hsp.below hw3) (by omega)).mono ?_
                    rintro e w7 ⟨⟨vv, rfl, hv⟩, hb2⟩
                    obtain ⟨X, n7, c7, rfl, hl2, _⟩ := hv
                    exact ⟨⟨X, n7, c7, rfl, hl2⟩, hb2, fun h => by cases h⟩
                  · go_simp
                    exact ⟨rfl, Below.refl _ _, fun h => by cases h⟩
                  · go_simp
                    exact ⟨rfl, Below.refl _ _, fun h => by cases h⟩
                  · have e16 : u 16 = .int .i64 (fl : Int) := hd 16 (by omega) (by kernel_rfl)
                    have e17 : u 17 = .slice X9 n9 c9 := hd 17 (by omega) (by kernel_rfl)
                    obtain ⟨X80, n80, c80, e80, h80⟩ := hd 20 (by omega) (by kernel_rfl)
                    have e21 : u 21 = .slice Y7 m7 d7 := hd 21 (by omega) (by kernel_rfl)
                    have e22 : u 22 = .slice SJ (l - E) (c - E) := hd 22 (by omega) (by kernel_rfl)
                    rw [e16, e17, e80, e21, e22]
                    go_simp
                    have hw3 := Below.on HWR.out hb
                    have hy3 := Below.on HYR.out hb
                    have e1 : (st ++ hi).length = n9 := HIB2.out.1.1
                    have e2 : (freeL (st ++ hi) fl).length = m7 := HFB.out.1.1
                    have e3 := h80.1.1
                    rw [List.length_append, dig_length, taken_length, HSP.out.1] at e3
                    have e4 := HPS.out.1.1
                    have e5 : (st ++ hi).length = _ := List.length_append
                    have e6 := HHI.out.1.1
                    have e7 := HST.out.1.1
                    have e8 := HPL.out
                    have e9 := HHL.out
                    have e10 := HE.out
                    have e11 := HLJ.out
                    have e12 := HLEN.out
                    refine (placed_any fl _ _ _ (st ++ hi) _ _ _ (dig (taken ds ps) t ++ (sub at' 0 ll)) _ _ _ (freeL (st ++ hi) fl) _ _ _ (sub at' E (l - E)) wv hf6 (HIB2.out.1.below hy3) h80.1 (HFB.out.1.below hy3) (HSJ2.out.below hw3) (by omega) (by omega) (fun i hii => HBB.out i (by omega)) (fun i hii => by have := freeL_rise (st ++ hi) fl i (by omega); exact ⟨this.1, this.2.1⟩)).mono ?_
                    rintro e w7 ⟨⟨gg, rfl, hgg, _⟩, hb2⟩
                    rw [← e1, ← e2] at hgg
                    replace hgg : Ints w7 (some ⟨gg, 0, none⟩) fl (merge fl (st ++ hi) (dig (taken ds ps) t ++ (sub at' 0 ll)) (sub at' E (l - E))) := hgg
                    rw [show E = ll + (freeL (ps ++ lo) dl).length by have := HFA.out.1.1; omega] at hgg
                    exact ⟨⟨gg, rfl, hgg⟩, hb2, fun h => by cases h⟩
                  · have e13 : u 13 = .agg #[.slice fa fl fc, .slice ya m yc] := hd 13 (by omega) (by kernel_rfl)
                    obtain ⟨g11, e11, h11⟩ := hd 23 (by omega) (by kernel_rfl)
                    rw [e13, e11]
                    go_simp
                    have hw3 := Below.on HWR.out hb
                    refine (rget_any _ _ _ gs _ _ _ ys _ _ _ _ wv Q2 (HF.out.below hw3) hfc (HY.out.below hw3) h11 HQB.out hqbn).mono ?_
                    rintro e w7 ⟨rfl, hb2⟩
                    rw [← HYV.out]
                    exact ⟨rfl, hb2, fun h => by cases h⟩
                  · have e12 : u 12 = .int .i64 XV := hd 12 (by omega) (by kernel_rfl)
                    have e24 : u 24 = .int .i64 YV := hd 24 (by omega) (by kernel_rfl)
                    rw [e12, e24]
                    go_simp
                    exact ⟨rfl, Below.refl _ _, fun h => by cases h⟩
                  · have e0 : u 0 = .int .i64 SV := hd 0 (by omega) (by kernel_rfl)
                    have e25 : u 25 = .int .i64 (IntKind.i64.wrap (XV * YV)) := hd 25 (by omega) (by kernel_rfl)
                    rw [e0, e25]
                    go_simp
                    exact ⟨rfl, Below.refl _ _, fun h => by cases h⟩
                case rest =>
                  intro u wv hb hf hp
                  have f0 : u 0 = .int .i64 SV := hf 0 (by omega)
                  have f1 : u 1 = .agg #[.slice da dl dc, .slice xa n xc] := hf 1 (by omega)
                  have f2 : u 2 = .pointer (some ⟨w.heap.size + 1, 0, none⟩) := hf 2 (by omega)
                  have f3 : u 3 = .slice da dl dc := hf 3 (by omega)
                  have f4 : u 4 = .int .i64 (dl : Int) := hf 4 (by omega)
                  have f5 : u 5 = .slice X4 n4a c4 := hf 5 (by omega)
                  have f6 : u 6 = .slice (some ⟨gk, 0, none⟩) nx ck := hf 6 (by omega)
                  have f7 : u 7 = .slice (some ⟨g, 0, none⟩) ll c := hf 7 (by omega)
                  obtain ⟨_, _, _, f8, _⟩ := hf 8 (by omega)
                  have f9 : u 9 = .slice Y3 m3 d3 := hf 9 (by omega)
                  have f10 : u 10 = .slice SI (E - ll) (c - ll) := hf 10 (by omega)
                  obtain ⟨_, f11, _⟩ := hf 11 (by omega)
                  have f12 : u 12 = .int .i64 XV := hf 12 (by omega)
                  have f13 : u 13 = .agg #[.slice fa fl fc, .slice ya m yc] := hf 13 (by omega)
                  have f14 : u 14 = .pointer (some ⟨w.heap.size + 1 + 1, 0, none⟩) := hf 14 (by omega)
                  have f15 : u 15 = .slice fa fl fc := hf 15 (by omega)
                  have f16 : u 16 = .int .i64 (fl : Int) := hf 16 (by omega)
                  have f17 : u 17 = .slice X9 n9 c9 := hf 17 (by omega)
                  have f18 : u 18 = .slice (some ⟨gk, 0, none⟩) nx ck := hf 18 (by omega)
                  have f19 : u 19 = .slice (some ⟨g, 0, none⟩) ll c := hf 19 (by omega)
                  obtain ⟨_, _, _, f20, _⟩ := hf 20 (by omega)
                  have f21 : u 21 = .slice Y7 m7 d7 := hf 21 (by omega)
                  have f22 : u 22 = .slice SJ (l - E) (c - E) := hf 22 (by omega)
                  obtain ⟨_, f23, _⟩ := hf 23 (by omega)
                  have f24 : u 24 = .int .i64 YV := hf 24 (by omega)
                  have f25 : u 25 = .int .i64 (IntKind.i64.wrap (XV * YV)) := hf 25 (by omega)
                  have f26 : u 26 = .int .i64 (IntKind.i64.wrap (SV + IntKind.i64.wrap (XV * YV))) := hf 26 (by omega)
                  refine UptoW.rest 1 27 (by rfl) (by kernel_rfl) ?_
                  simp only [List.take, List.drop, putOps, Act.put, List.setIfInBounds_toArray, List.set_cons_zero, List.set_cons_succ, Nat.reduceAdd, f0, f1, f2, f3, f4, f5, f6, f7, f8, f9, f10, f11, f12, f13, f14, f15, f16, f17, f18, f19, f20, f21, f22, f23, f24, f25, f26]
                  clear f0 f1 f2 f3 f4 f5 f6 f7 f8 f9 f10 f11 f12 f13 f14 f15 f16 f17 f18 f19 f20 f21 f22 f23 f24 f25 f26 hf hp
                  refine wpList_plain rfl (fun K hK => ?_)
                  go_simp
                  refine hK _ _ (wpList_nil ?_)
                  clear hK K
                  go_wp2
                  go_roundw
                  case rel => exact ⟨t + 1, by omega, by go_num, by rw [accS, ← HSV.out, ← HQQ1.out, ← HQQ2.out, ← HXV.out, ← HYV.out], Below.on HB.out hb⟩
                  case measure => simp [intOf]; omega
              · obtain rfl : t = NC := by omega
                go_wp2
                go_ret
                exact ⟨rfl, Below.on HW2.out (Below.on HW6.out HB.out)⟩
end Go.Proofs.YtoagnhppjlcpkaaGreat.V

/-
  Plain mathematics: Dot, entry by entry.
-/
namespace Go.Proofs.YtoagnhppjlcpkaaGreat.V
set_option maxRecDepth 20000
open Go.RowKit

theorem turn_at {π d : List Int} {n : Nat} (hp : PermOk π n) (b : Nat) (hb : b < n) : (taken d (invL π))[(π[b]?.getD 0).toNat]?.getD 0 = d[b]?.getD 0 := by
  have hl := hp.1
  have hpb := hp.2 b hb
  obtain ⟨k, hk⟩ : ∃ k : Nat, π[b]?.getD 0 = (k : Int) := ⟨(π[b]?.getD 0).toNat, by omega⟩
  have hkn : k < n := by omega
  obtain ⟨j, h1, h2, h3⟩ := perm_at hp k hkn
  have ej := perm_inj hp hb h1 (hk.trans h3.symm)
  subst ej
  rw [hk, Int.toNat_natCast]
  exact taken_getD _ _ k b (by rw [invL_length]; omega) (by rw [invL_getD π k (by omega), hl, h2])
theorem free_swap (ps lo : List Int) (n : Nat) : freeL (ps ++ lo) n = freeL (lo ++ ps) n := freeL_congr n (fun k _ => by
  unfold inB
  rw [List.any_append, List.any_append, Bool.or_comm])
theorem at_left (a b : List Int) (k : Nat) (h : k < a.length) : (a ++ b)[k]?.getD 0 = a[k]?.getD 0 := by rw [List.getElem?_append_left h]
theorem at_right (a b : List Int) (k : Nat) : (a ++ b)[a.length + k]?.getD 0 = b[k]?.getD 0 := by rw [List.getElem?_append_right (by omega)]; congr 2; omega
/-- How a Dot looks at one of its arrays. -/
theorem dot_look {ds lo ps : List Int} (hz : sizeE ds = 0) (hO : onceB (lo ++ ps) ds.length = true) {t r g u v k : Nat} (ht : prod (taken ds lo) = (t : Int)) (hr : prod (taken ds (freeL (lo ++ ps) ds.length)) = (r : Int)) (hg : prod (taken ds ps) = (g : Int)) (hu : u < t) (hv : v < r) (hk : k < g) :
    ∃ p : Nat, placeN ds (merge ds.length (ps ++ lo) (dig (taken ds ps) k ++ dig (taken ds lo) u) (dig (taken ds (freeL (lo ++ ps) ds.length)) v)) = (p : Int) ∧ p < (prod ds).toNat ∧
      (readsV 0 (taken ds (lo ++ freeL (lo ++ ps) ds.length ++ ps)) (taken (stepsV ds) (lo ++ freeL (lo ++ ps) ds.length ++ ps)))[(u * r + v) * g + k]?.getD 0 = (p : Int) := by
  obtain ⟨p1, p2⟩ := dot_parts hO
  have hT : taken ds (lo ++ freeL (lo ++ ps) ds.length ++ ps) = taken ds lo ++ taken ds (freeL (lo ++ ps) ds.length) ++ taken ds ps := by rw [taken_append, taken_append]
  have hzT : sizeE (taken ds lo ++ taken ds (freeL (lo ++ ps) ds.length) ++ taken ds ps) = 0 := by rw [← hT, sizeE_perm (taken_perm p1)]; exact hz
  have hpT : prod (taken ds lo ++ taken ds (freeL (lo ++ ps) ds.length) ++ taken ds ps) = ((t * r * g : Nat) : Int) := by rw [prod_append, prod_append, ht, hr, hg, ← Int.natCast_mul, ← Int.natCast_mul]
  have hlt : (u * r + v) * g + k < t * r * g := row_lt (row_lt hu hv) hk
  have hj : (u * r + v) * g + k < (prod (taken ds lo ++ taken ds (freeL (lo ++ ps) ds.length) ++ taken ds ps)).toNat := by rw [hpT]; omega
  obtain ⟨a1, a2, A1, B1, e1, e2, _, _, e5⟩ := dig_two hzT hj
  have eB : B1 = g := by omega
  subst eB
  rw [row_div _ _ _ hk, row_mod _ _ _ hk] at e5
  obtain ⟨zAB, zC⟩ := size_parts hzT (fun x hx => by rcases List.mem_append.1 hx with h | h; exact a1 x h; exact a2 x h)
  have hj2 : u * r + v < (prod (taken ds lo ++ taken ds (freeL (lo ++ ps) ds.length))).toNat := by
    rw [prod_append, ht, hr, ← Int.natCast_mul]
    have := row_lt hu hv
    omega
  obtain ⟨_, _, A2, B2, f1, f2, _, _, f5⟩ := dig_two zAB hj2
  have eB2 : B2 = r := by omega
  subst eB2
  rw [row_div _ _ _ hv, row_mod _ _ _ hv] at f5
  rw [f5] at e5
  have hth := idx_turn hz p1
  obtain ⟨p, g1, g2, g3⟩ := idx_read hth hz ((u * B2 + v) * B1 + k) (by rw [hT]; exact hj)
  refine ⟨p, ?_, g1, g3⟩
  rw [← g2]
  congr 1
  have hOn : Once (ps ++ lo) ds.length := by
    have h1 := once_iff.1 ((onceB_iff _ _).1 hO)
    refine once_iff.2 ⟨fun x hx => h1.1 x (by rcases List.mem_append.1 hx with h | h <;> simp [h]), ?_⟩
    exact (List.perm_append_comm.nodup_iff).1 h1.2
  have hpl := p1.1
  have hfs := free_swap ps lo ds.length
  have hl0 : (dig (taken ds lo) (u : Int)).length = lo.length := by rw [dig_length, taken_length]
  have hl1 : (dig (taken ds (freeL (lo ++ ps) ds.length)) (v : Int)).length = (freeL (lo ++ ps) ds.length).length := by rw [dig_length, taken_length]
  have hl2 : (dig (taken ds ps) (k : Int)).length = ps.length := by rw [dig_length, taken_length]
  simp only [List.length_append] at hpl
  refine merge_eq hOn (by rw [taken_length, invL_length]; simp only [List.length_append]; exact hpl) (fun a ha => ?_) (fun a ha => ?_)
  · rw [hT, e5]
    by_cases c : a < ps.length
    · have x1 : (ps ++ lo)[a]?.getD 0 = (lo ++ freeL (lo ++ ps) ds.length ++ ps)[(lo ++ freeL (lo ++ ps) ds.length).length + a]?.getD 0 := by rw [at_left _ _ _ c, at_right]
      rw [x1, turn_at p1 _ (by rw [List.length_append]; omega)]
      have x2 : (lo ++ freeL (lo ++ ps) ds.length).length = (dig (taken ds lo) (u : Int) ++ dig (taken ds (freeL (lo ++ ps) ds.length)) (v : Int)).length := by rw [List.length_append, List.length_append, hl0, hl1]
      conv => lhs; rw [x2, at_right]
      rw [at_left _ _ _ (by rw [hl2]; exact c)]
    · rw [List.length_append] at ha
      obtain ⟨b, rfl⟩ : ∃ b, a = ps.length + b := ⟨a - ps.length, by omega⟩
      have x1 : (ps ++ lo)[ps.length + b]?.getD 0 = (lo ++ freeL (lo ++ ps) ds.length ++ ps)[b]?.getD 0 := by rw [at_right, at_left _ _ _ (by rw [List.length_append]; omega), at_left _ _ _ (by omega)]
      rw [x1, turn_at p1 _ (by omega)]
      conv => rhs; rw [← hl2, at_right]
      rw [at_left _ _ _ (by rw [List.length_append, hl0]; omega), at_left _ _ _ (by rw [hl0]; omega)]
  · rw [hfs] at ha ⊢
    rw [hT, e5]
    have x1 : (freeL (lo ++ ps) ds.length)[a]?.getD 0 = (lo ++ freeL (lo ++ ps) ds.length ++ ps)[lo.length + a]?.getD 0 := by rw [at_left _ _ _ (by rw [List.length_append]; omega), at_right]
    rw [x1, turn_at p1 _ (by omega), at_left _ _ _ (by rw [List.length_append, hl0, hl1]; omega)]
    conv => lhs; rw [← hl0, at_right]
end Go.Proofs.YtoagnhppjlcpkaaGreat.V

/-
  Contracts: adjointref2.Do of Dot: just what is made.
-/
namespace Go.Proofs.YtoagnhppjlcpkaaGreat.V
set_option maxRecDepth 20000
open Go.RowKit

theorem look_at {xs Q : List Int} {j : Nat} (h : j < Q.length) : (lookL xs Q)[j]?.getD 0 = xs[(Q[j]?.getD 0).toNat]?.getD 0 := by
  simp [lookL, List.getElem?_eq_getElem h]
theorem rdo_16 (x : Int) (ea : Option Addr) (el ec : Nat) (es : List Int) (pa : Option Addr) (pl pc : Nat) (ps : List Int) (la : Option Addr) (ll lc : Nat) (lo : List Int) (ha : Option Addr) (hl hc : Nat) (hi : List Int) (ta : Option Addr) (tl tc : Nat) (st : List Int) (b off cap : Nat) (da : Option Addr) (dl dc : Nat) (ds : List Int) (xa : Option Addr) (n xc : Nat) (xs : List Int) (fa : Option Addr) (fl fc : Nat) (gs : List Int) (ya : Option Addr) (m yc : Nat) (ys : List Int) (w : World)
    (he : Lst w ea el ec es) (hp : Lst w pa pl pc ps) (hlo : Lst w la ll lc lo) (hhi : Lst w ha hl hc hi) (hst : Lst w ta tl tc st) (b0 : el ≤ 1048576) (b1 : pl ≤ 1048576) (b2 : ll ≤ 1048576) (b3 : hl ≤ 1048576) (b4 : tl ≤ 1048576) (c0 : w.cell? ⟨b, off, none⟩ = some (.slice da dl dc)) (c1 : w.cell? ⟨b, off + 1, none⟩ = some (.slice xa n xc)) (c2 : w.cell? ⟨b, off + 2, none⟩ = some (.slice fa fl fc)) (c3 : w.cell? ⟨b, off + 3, none⟩ = some (.slice ya m yc)) (hd : Lst w da dl dc ds) (hx : Ints w xa n xs) (hf : Lst w fa fl fc gs) (hy : Ints w ya m ys) (hE : doE 16 es ps lo hi st 2 (pairV ds n gs m) = 0) {t r c g' : Nat} (ht : prod (taken ds lo) = (t : Int)) (hr : prod (taken ds (freeL (lo ++ ps) ds.length)) = (r : Int)) (hcc : prod (taken gs (freeL (hi ++ st) gs.length)) = (c : Int)) (hg' : prod (taken ds ps) = (g' : Int)) :
    Calls Tryz.prog 8 #[.agg #[.int .i64 16, .slice ea el ec, .slice pa pl pc, .slice la ll lc, .slice ha hl hc, .slice ta tl tc, .int .i64 x], .slice (some ⟨b, off, none⟩) 2 cap] w fun e w' => DoesR (dotL ps st lo hi ds gs) (dotF (lookL xs (readsV 0 (taken ds (lo ++ freeL (lo ++ ps) ds.length ++ ps)) (taken (stepsV ds) (lo ++ freeL (lo ++ ps) ds.length ++ ps)))) (lookL ys (readsV 0 (taken gs (hi ++ freeL (hi ++ st) gs.length ++ st)) (taken (stepsV gs) (hi ++ freeL (hi ++ st) gs.length ++ st)))) g' r c (t * r * c)) (prod (dotL ps st lo hi ds gs)).toNat e w' ∧ Below w.heap.size w w' := by
  have hcg := doE_congr (k := 16) (es := es) (ps := ps) (lo := lo) (hi := hi) (st := st) (two_congr da dl dc ds xa n xc fa fl fc gs ya m yc)
  have hA := arrs_two c0 c1 c2 c3 hd hf
  obtain ⟨ha1, ha2, hs1, hs2, hs3⟩ := pairV_parts hE
  have hsh : shapeP 16 es ps lo hi st [ds, gs] = dotP ps st lo hi ds gs := rfl
  rw [hsh] at hs1 hs2 hs3
  have hz1 := (arrE_ok ha1).1
  have hz2 := (arrE_ok ha2).1
  have hn := (arrE_ok ha1).2.1
  have hm := (arrE_ok ha2).2.1
  have hdB : dotB ps st lo hi ds gs = true ∧ (dotP ps st lo hi ds gs).1 = dotL ps st lo hi ds gs := by
    unfold dotP at hs1 ⊢
    by_cases c : dotB ps st lo hi ds gs = true
    · rw [if_pos c]; exact ⟨c, rfl⟩
    · rw [if_neg c] at hs1; exact absurd hs1 (by simp)
  obtain ⟨hB, hq1⟩ := hdB
  rw [hq1] at hs2 hs3
  have hB' := hB
  unfold dotB at hB'
  simp only [Bool.and_eq_true, decide_eq_true_eq] at hB'
  obtain ⟨o1, o2, q2, q3⟩ := hB'
  obtain ⟨p1, p2⟩ := dot_parts o1
  obtain ⟨p3, p4⟩ := dot_parts o2
  have en : n = t * r * g' := by rw [p2, ht, hr, hg', ← Int.natCast_mul, ← Int.natCast_mul] at hn; omega
  have em : m = t * c * g' := by rw [p4, ← q2, ← q3, ht, hcc, hg', ← Int.natCast_mul, ← Int.natCast_mul] at hm; omega
  have eN : (prod (dotL ps st lo hi ds gs)).toNat = t * r * c := by
    have : prod (dotL ps st lo hi ds gs) = ((t * r * c : Nat) : Int) := by unfold dotL; rw [prod_append, prod_append, ht, hr, hcc, ← Int.natCast_mul, ← Int.natCast_mul]
    rw [this]; omega
  have l1 : (prod (taken ds (lo ++ freeL (lo ++ ps) ds.length ++ ps))).toNat = n := by rw [prod_perm (taken_perm p1)]; omega
  have l2 : (prod (taken gs (hi ++ freeL (hi ++ st) gs.length ++ st))).toNat = m := by rw [prod_perm (taken_perm p3)]; omega
  have k1 : (readsV 0 (taken ds (lo ++ freeL (lo ++ ps) ds.length ++ ps)) (taken (stepsV ds) (lo ++ freeL (lo ++ ps) ds.length ++ ps))).length = n := by rw [readsV_length, l1]
  have k2 : (readsV 0 (taken gs (hi ++ freeL (hi ++ st) gs.length ++ st)) (taken (stepsV gs) (hi ++ freeL (hi ++ st) gs.length ++ st))).length = m := by rw [readsV_length, l2]
  have hdl := hd.1.1
  have hfl := hf.1.1
  have hpl := hp.1.1
  have hlol := hlo.1.1
  have hhil := hhi.1.1
  have hstl := hst.1.1
  have hr61 := (sizeE_ok hz1).1
  have hr62 := (sizeE_ok hz2).1
  have pl1 := p1.1
  have pl2 := p3.1
  simp only [List.length_append] at pl1 pl2
  have hlen1 : lo.length = hi.length := by have := congrArg List.length q2; rwa [taken_length, taken_length] at this
  have hlen2 : ps.length = st.length := by have := congrArg List.length q3; rwa [taken_length, taken_length] at this
  refine rdo_gen 16 x ea el ec es pa pl pc ps la ll lc lo ha hl hc hi ta tl tc st (some ⟨b, off, none⟩) 2 cap (twoV2 da dl dc ds xa n xc fa fl fc gs ya m yc) (dotL ps st lo hi ds gs) (dotF (lookL xs (readsV 0 (taken ds (lo ++ freeL (lo ++ ps) ds.length ++ ps)) (taken (stepsV ds) (lo ++ freeL (lo ++ ps) ds.length ++ ps)))) (lookL ys (readsV 0 (taken gs (hi ++ freeL (hi ++ st) gs.length ++ st)) (taken (stepsV gs) (hi ++ freeL (hi ++ st) gs.length ++ st)))) g' r c (t * r * c)) w he hp hlo hhi hst b0 b1 b2 b3 b4 hA (by omega) (by rw [hcg]; exact hE) hs3.symm (by rw [dotF_length, eN]) (fun y hy' => ?_) ?_
  · simp only [dotF, List.mem_map] at hy'
    obtain ⟨i, _, rfl⟩ := hy'
    rw [innS_sum]; exact wrap_bd _
  intro W hW i hi' g cc hat hlc
  rw [eN] at hi'
  have hc0 := (pos_of_lt_mul hi').2
  have d1 : i / c < t * r := div_row hi'
  have d2 : i / c / r < t := div_row d1
  have hr0 := (pos_of_lt_mul d1).2
  have dv : i / c % r < r := Nat.mod_lt _ hr0
  have dw : i % c < c := Nat.mod_lt _ hc0
  have dd : i / c / r * r + i / c % r = i / c := Nat.div_add_mod' _ _
  have hzL : sizeE (taken ds lo ++ taken ds (freeL (lo ++ ps) ds.length) ++ taken gs (freeL (hi ++ st) gs.length)) = 0 := hs2
  obtain ⟨a1, a2, A1, B1, e1, e2, _, _, e5⟩ := dig_two (n := i) hzL (by show i < (prod (dotL ps st lo hi ds gs)).toNat; rw [eN]; exact hi')
  have eB : B1 = c := by omega
  subst eB
  obtain ⟨zAB, _⟩ := size_parts hzL (fun x hx => by rcases List.mem_append.1 hx with h | h; exact a1 x h; exact a2 x h)
  obtain ⟨_, _, A2, B2, f1, f2, _, _, f5⟩ := dig_two (n := i / B1) zAB (by rw [prod_append, ht, hr, ← Int.natCast_mul]; omega)
  have eB2 : B2 = r := by omega
  subst eB2
  rw [f5] at e5
  have hdigL : dig (dotL ps st lo hi ds gs) i = dig (taken ds lo) ((i / B1 / B2 : Nat) : Int) ++ dig (taken ds (freeL (lo ++ ps) ds.length)) ((i / B1 % B2 : Nat) : Int) ++ dig (taken gs (freeL (hi ++ st) gs.length)) ((i % B1 : Nat) : Int) := e5
  have hlA : (dig (taken ds lo) ((i / B1 / B2 : Nat) : Int)).length = lo.length := by rw [dig_length, taken_length]
  have hlF : (dig (taken ds (freeL (lo ++ ps) ds.length)) ((i / B1 % B2 : Nat) : Int)).length = (freeL (lo ++ ps) ds.length).length := by rw [dig_length, taken_length]
  have hlG : (dig (taken gs (freeL (hi ++ st) gs.length)) ((i % B1 : Nat) : Int)).length = (freeL (hi ++ st) gs.length).length := by rw [dig_length, taken_length]
  have hLl : (dotL ps st lo hi ds gs).length = lo.length + (freeL (lo ++ ps) ds.length).length + (freeL (hi ++ st) gs.length).length := by
    show (taken ds lo ++ taken ds (freeL (lo ++ ps) ds.length) ++ taken gs (freeL (hi ++ st) gs.length)).length = _
    rw [List.length_append, List.length_append, taken_length, taken_length, taken_length]
  have sP : sub (dig (dotL ps st lo hi ds gs) i) 0 lo.length = dig (taken ds lo) ((i / B1 / B2 : Nat) : Int) := by
    rw [hdigL, List.append_assoc, ← hlA, sub_left]
  have sI : sub (dig (dotL ps st lo hi ds gs) i) lo.length (freeL (lo ++ ps) ds.length).length = dig (taken ds (freeL (lo ++ ps) ds.length)) ((i / B1 % B2 : Nat) : Int) := by
    rw [hdigL, ← hlA, ← hlF]
    simp [sub]
  have sJ : sub (dig (dotL ps st lo hi ds gs) i) (lo.length + (freeL (lo ++ ps) ds.length).length) (freeL (hi ++ st) gs.length).length = dig (taken gs (freeL (hi ++ st) gs.length)) ((i % B1 : Nat) : Int) := by
    have x2 : lo.length + (freeL (lo ++ ps) ds.length).length = (dig (taken ds lo) ((i / B1 / B2 : Nat) : Int) ++ dig (taken ds (freeL (lo ++ ps) ds.length)) ((i / B1 % B2 : Nat) : Int)).length := by rw [List.length_append, hlA, hlF]
    rw [hdigL, x2, ← hlG, sub_right]
  have look1 : ∀ k : Nat, k < g' → ∃ p : Nat, placeN ds (merge ds.length (ps ++ lo) (dig (taken ds ps) k ++ dig (taken ds lo) ((i / B1 / B2 : Nat) : Int)) (dig (taken ds (freeL (lo ++ ps) ds.length)) ((i / B1 % B2 : Nat) : Int))) = (p : Int) ∧ p < (prod ds).toNat ∧ (readsV 0 (taken ds (lo ++ freeL (lo ++ ps) ds.length ++ ps)) (taken (stepsV ds) (lo ++ freeL (lo ++ ps) ds.length ++ ps)))[i / B1 * g' + k]?.getD 0 = (p : Int) := fun k hk => by
    have := dot_look hz1 o1 ht hr hg' d2 dv hk
    rw [dd] at this
    exact this
  have hB0 := q3 ▸ hg'
  have look2 : ∀ k : Nat, k < g' → ∃ p : Nat, placeN gs (merge gs.length (st ++ hi) (dig (taken ds ps) k ++ dig (taken ds lo) ((i / B1 / B2 : Nat) : Int)) (dig (taken gs (freeL (hi ++ st) gs.length)) ((i % B1 : Nat) : Int))) = (p : Int) ∧ p < (prod gs).toNat ∧ (readsV 0 (taken gs (hi ++ freeL (hi ++ st) gs.length ++ st)) (taken (stepsV gs) (hi ++ freeL (hi ++ st) gs.length ++ st)))[(i / B1 / B2 * B1 + i % B1) * g' + k]?.getD 0 = (p : Int) := fun k hk => by
    have := dot_look hz2 o2 (q2 ▸ ht) hcc hB0 d2 dw hk
    rw [← q2, ← q3] at this
    exact this
  have hb1 : ∀ k, k < g' → i / B1 * g' + k < n := fun k hk => by rw [en]; exact row_lt d1 hk
  have hb2 : ∀ k, k < g' → (i / B1 / B2 * B1 + i % B1) * g' + k < m := fun k hk => by rw [em]; exact row_lt (row_lt d2 dw) hk
  have hval : (dotF (lookL xs (readsV 0 (taken ds (lo ++ freeL (lo ++ ps) ds.length ++ ps)) (taken (stepsV ds) (lo ++ freeL (lo ++ ps) ds.length ++ ps)))) (lookL ys (readsV 0 (taken gs (hi ++ freeL (hi ++ st) gs.length ++ st)) (taken (stepsV gs) (hi ++ freeL (hi ++ st) gs.length ++ st)))) g' B2 B1 (t * B2 * B1))[i]?.getD 0 = accS (fun k => IntKind.i64.wrap (xs[((readsV 0 (taken ds (lo ++ freeL (lo ++ ps) ds.length ++ ps)) (taken (stepsV ds) (lo ++ freeL (lo ++ ps) ds.length ++ ps)))[i / B1 * g' + k]?.getD 0).toNat]?.getD 0 * ys[((readsV 0 (taken gs (hi ++ freeL (hi ++ st) gs.length ++ st)) (taken (stepsV gs) (hi ++ freeL (hi ++ st) gs.length ++ st)))[(i / B1 / B2 * B1 + i % B1) * g' + k]?.getD 0).toNat]?.getD 0)) (prod (taken ds ps)).toNat := by
    rw [dotF_at _ _ _ _ _ _ _ hi', innS_sum, accS_sum, hg', Int.toNat_natCast]
    refine wrap_sum g' (fun k hk => ?_)
    rw [wrap_wrap, sub_at _ _ _ _ hk, sub_at _ _ _ _ hk, look_at (by rw [k1]; exact hb1 k hk), look_at (by rw [k2]; exact hb2 k hk)]
  rw [hval]
  refine rentry_dot x (.slice ea el ec) (.slice pa pl pc) (.slice la ll lc) (.slice ha hl hc) (.slice ta tl tc) b off cap da dl dc xa n xc fa fl fc ya m yc (some ⟨g, 0, none⟩) (dotL ps st lo hi ds gs).length cc i _ W ((hW.cell (p := ⟨b, off, none⟩) (lt_of_cell c0)).trans c0) ((hW.cell (p := ⟨b, off + 1, none⟩) (lt_of_cell c1)).trans c1) ((hW.cell (p := ⟨b, off + 2, none⟩) (lt_of_cell c2)).trans c2) ((hW.cell (p := ⟨b, off + 3, none⟩) (lt_of_cell c3)).trans c3) (fun W2 hW2 => ?_)
  have hW1 := hW.trans (hW2.mono hW.size)
  have hO1 := once_iff.1 ((onceB_iff _ _).1 o1)
  have hO2 := once_iff.1 ((onceB_iff _ _).1 o2)
  have fs1 := free_swap ps lo ds.length
  have fs2 := free_swap st hi gs.length
  subst hdl
  subst hfl
  subst hlol
  have hC : sizeE (taken ds ps) = 0 := by
    have hz3 : sizeE (taken ds lo ++ taken ds (freeL (lo ++ ps) ds.length) ++ taken ds ps) = 0 := by rw [← taken_append, ← taken_append, sizeE_perm (taken_perm p1)]; exact hz1
    refine size_part hz1 (by omega) (fun y hy => hO1.1 y (by simp [hy])) (c := prod (taken ds lo) * prod (taken ds (freeL (lo ++ ps) ds.length))) p2 ?_
    rw [ht, hr, ← Int.natCast_mul]
    have : 0 < t * B2 := Nat.lt_of_le_of_lt (Nat.zero_le _) d1
    omega
  refine dotE_any x (.slice ea el ec) pa pl pc ps la lo.length lc lo ha hl hc hi ta tl tc st da ds.length dc ds xa n xc xs fa gs.length fc gs ya m yc ys g (dotL ps st lo hi ds gs).length cc (dig (dotL ps st lo hi ds gs) i) W2 (fun k => ((readsV 0 (taken ds (lo ++ freeL (lo ++ ps) ds.length ++ ps)) (taken (stepsV ds) (lo ++ freeL (lo ++ ps) ds.length ++ ps)))[i / B1 * g' + k]?.getD 0).toNat) (fun k => ((readsV 0 (taken gs (hi ++ freeL (hi ++ st) gs.length ++ st)) (taken (stepsV gs) (hi ++ freeL (hi ++ st) gs.length ++ st)))[(i / B1 / B2 * B1 + i % B1) * g' + k]?.getD 0).toNat) (hp.below hW1) (hlo.below hW1) (hhi.below hW1) (hst.below hW1) (hd.1.below hW1) hd.2.1 (hx.below hW1) (hf.1.below hW1) hf.2.1 (hy.below hW1) (hat.below hW2) hr61 hr62 (by omega) (by omega) (by omega) (by omega) hlc (by rw [fs1]; omega) (by rw [fs1, fs2]; omega) (by omega) (by omega) (fun y hy => hO1.1 y (by simp [hy])) (fun j hj => hO1.1 _ (by have := mem_getD (ps ++ lo) j hj; rcases List.mem_append.1 this with h | h <;> simp [h])) (fun j hj => hO2.1 _ (by have := mem_getD (st ++ hi) j hj; rcases List.mem_append.1 this with h | h <;> simp [h])) hC (fun k hk => ?_) (fun k hk => ?_)
  · obtain ⟨p, x1, x2, x3⟩ := look1 k (by rw [hg'] at hk; omega)
    rw [fs1, sP, sI, x1]
    simp only [x3, Int.toNat_natCast]
    exact ⟨trivial, by omega⟩
  · obtain ⟨p, x1, x2, x3⟩ := look2 k (by rw [hg'] at hk; omega)
    have hrest : (dotL ps st lo hi ds gs).length - (lo.length + (freeL (lo ++ ps) ds.length).length) = (freeL (hi ++ st) gs.length).length := by omega
    rw [fs1, sP, hrest, sJ, x1]
    simp only [x3, Int.toNat_natCast]
    exact ⟨trivial, by omega⟩
end Go.Proofs.YtoagnhppjlcpkaaGreat.V
