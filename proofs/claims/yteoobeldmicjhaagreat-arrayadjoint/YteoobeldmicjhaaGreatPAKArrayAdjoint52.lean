/-
  Contracts: adjointref2.Do of what looks at an array through a view: just what is made. Contract: adjointref2.entry, of Sum. Plain mathematics: what is added at places, entry by entry: Pad and Sum.
-/
import Derived.Test.YteoobeldmicjhaaGreatPAKArrayAdjoint50
import Derived.Test.YteoobeldmicjhaaGreatPAKArrayAdjoint51
import Derived.Test.YteoobeldmicjhaaGreatPAKArrayAdjoint47
import Derived.Test.YteoobeldmicjhaaGreatPAKArrayAdjoint41
import Derived.Test.YteoobeldmicjhaaGreatPAKArrayAdjoint44
import Derived.Test.YteoobeldmicjhaaGreatPAKArrayAdjoint16
import Derived.Test.YteoobeldmicjhaaGreatPAKArrayAdjoint42
namespace Go.Proofs.YteoobeldmicjhaaGreat.V
set_option maxRecDepth 20000
open Go.RowKit

/-- What the document's Do answers, where it tells no error. -/
def DoesR (L f : List Int) (N : Nat) (e : Ending) (W' : World) : Prop :=
  ∃ (Z : Option Addr) (nz cz : Nat) (G : Option Addr) (cg : Nat), e = .returned (.tuple #[.agg #[.slice Z nz cz, .slice G N cg], .int .i64 0]) ∧ (Ints W' Z nz L ∧ nz ≤ cz) ∧ Ints W' G N f
theorem dig_pos {L : List Int} (hz : sizeE L = 0) {n : Nat} (hn : n < (prod L).toNat) : ∀ j, j < L.length → 0 ≤ (dig L n)[j]?.getD 0 ∧ (dig L n)[j]?.getD 0 < L[j]?.getD 0 :=
  dig_bd L n (pos_of hz hn) (by omega) (by omega)
theorem spr_parts {ds es ps : List Int} (h : sprE 0 ds (stepsV ds) es ps = 0) : (ps.length = ds.length ∧ riseB ps es.length = true) ∧ anyMis ds es ps = false := by
  have hW : wrongE 0 ds (stepsV ds) = 0 := by
    unfold sprE at h
    by_cases c : wrongE 0 ds (stepsV ds) = 0
    · exact c
    · rw [if_pos c] at h; exact absurd h c
  unfold sprE at h
  rw [if_neg (by simp [hW])] at h
  have hE : sizeE es = 0 := by
    by_cases c : sizeE es = 0
    · exact c
    · rw [if_pos c] at h; exact absurd h c
  rw [if_neg (by simp [hE])] at h
  have hl : ps.length = ds.length ∧ riseB ps es.length = true := by
    by_cases c : ps.length = ds.length ∧ riseB ps es.length = true
    · exact c
    · rw [if_neg c] at h; omega
  rw [if_pos hl] at h
  refine ⟨hl, ?_⟩
  cases c : anyMis ds es ps with
  | false => rfl
  | true => rw [c] at h; simp at h
theorem lens_of {n : Nat} {lo hi st : List Int} (h : lensB n lo hi st = true) : lo.length = n ∧ hi.length = n ∧ st.length = n := by
  simpa [lensB, and_assoc] using h
theorem cut_small {ds lo hi st : List Int} (hz : sizeE ds = 0) (hs : sizeE (cutD ds lo hi st) = 0) (hb : anyBad ds lo hi st = false) {n : Nat} (hn : n < (prod (cutD ds lo hi st)).toNat) (k : Nat) (hk : k < ds.length) : 0 ≤ (dig (cutD ds lo hi st) n)[k]?.getD 0 * st[k]?.getD 0 ∧ 0 ≤ lo[k]?.getD 0 ∧ lo[k]?.getD 0 + (dig (cutD ds lo hi st) n)[k]?.getD 0 * st[k]?.getD 0 ≤ 4096 := by
  have h1 := dig_pos hs hn k (by rw [cutD_length]; exact hk)
  rw [cutD_getD ds lo hi st k hk] at h1
  have h2 := badCut_false (of_anyBad_false hb k hk)
  have h3 := kept_lt h2.2.2.2.1 h1.2
  have h4 : 0 ≤ (dig (cutD ds lo hi st) n)[k]?.getD 0 * st[k]?.getD 0 := Int.mul_nonneg h1.1 (by omega)
  have h5 := ((sizeE_ok hz).2.1 _ (mem_getD ds k hk)).2
  omega
end Go.Proofs.YteoobeldmicjhaaGreat.V
namespace Go.Proofs.YteoobeldmicjhaaGreat.V
set_option maxRecDepth 20000
open Go.RowKit

/-- A sum that wraps round at each step. -/
def accS (g : Nat → Int) : Nat → Int
  | 0 => 0
  | t + 1 => IntKind.i64.wrap (accS g t + g t)
/-- A list of indices. -/
def fAllC (N len : Nat) (ds : List Int) : Fact := ⟨fun v w => ∃ B A c, v = .slice A N c ∧ ListsC w B A N len (fun i => dig ds i), false⟩
theorem fAllC_good (N len : Nat) (ds : List Int) : (fAllC N len ds).Good := ⟨fun _ _ _ ⟨B, A, c, h1, h2⟩ hb => ⟨B, A, c, h1, h2.below hb⟩, fun h => by cases h⟩
/-- A list of r numbers, in a row of its own. -/
def fRowL (r : Nat) (xs : List Int) : Fact := ⟨fun v w => ∃ g, v = .slice (some ⟨g, 0, none⟩) r r ∧ Ints w (some ⟨g, 0, none⟩) r xs, false⟩
theorem fRowL_good (r : Nat) (xs : List Int) : (fRowL r xs).Good := ⟨fun _ _ _ ⟨g, h1, h2⟩ hb => ⟨g, h1, h2.below hb⟩, fun h => by cases h⟩

set_option maxRecDepth 100000 in
set_option maxHeartbeats 2000000 in
theorem rentry_sum (x : Int) (vd vl vh vs : Value) (pa : Option Addr) (pl pc : Nat) (ps : List Int) (b off cap : Nat) (da : Option Addr) (dl dc : Nat) (ds : List Int) (xa : Option Addr) (n1 xc : Nat) (xs : List Int) (aa : Option Addr) (al ac : Nat) (at' : List Int) (nn : Int) (w : World) (q : Nat → Nat)
    (h0 : w.cell? ⟨b, off, none⟩ = some (.slice da dl dc)) (h1 : w.cell? ⟨b, off + 1, none⟩ = some (.slice xa n1 xc)) (hps : Ints w pa pl ps) (hd : Ints w da dl ds) (hdc : dl ≤ dc) (hx : Ints w xa n1 xs) (hat : Ints w aa al at') (h6 : dl ≤ 6) (hp6 : pl ≤ 6)
    (hpb : ∀ y ∈ ps, 0 ≤ y ∧ y < dl) (hz : sizeE (taken ds ps) = 0) (hfl : (freeL ps dl).length ≤ al)
    (hq : ∀ t : Nat, t < (prod (taken ds ps)).toNat → placeN ds (setAll (setAll (List.replicate dl 0) ps (dig (taken ds ps) t) pl) (freeL ps dl) at' (freeL ps dl).length) = (q t : Int) ∧ q t < n1) :
    Calls Tryz.prog 19 #[.agg #[.int .i64 10, vd, .slice pa pl pc, vl, vh, vs, .int .i64 x], .slice (some ⟨b, off, none⟩) 1 cap, .slice aa al ac, .int .i64 nn] w fun e w' => e = .returned (.int .i64 (accS (fun t => xs[q t]?.getD 0) (prod (taken ds ps)).toNat)) ∧ Below w.heap.size w w' := by
  have HB1 := hide ((Below.refl w.heap.size w).alloc (Nat.le_refl _) (.cells #[.int .i64 10, vd, .slice pa pl pc, vl, vh, vs, .int .i64 x] 31))
  have HOP := hide (OpAt.new w 10 vd (.slice pa pl pc) vl vh vs x)
  obtain ⟨o0, o1, o2, o3, o4, o5, o6⟩ := HOP.out.cells
  have k0 := (HB1.out.cell (p := ⟨b, off, none⟩) (lt_of_cell h0)).trans h0
  have k1 := (HB1.out.cell (p := ⟨b, off + 1, none⟩) (lt_of_cell h1)).trans h1
  have hmd := hd.2.1
  have HPS := hide hps
  have HD := hide hd
  have HX := hide hx
  have HAT := hide hat
  have HPB := hide hpb
  have HZ := hide hz
  have HQ := hide hq
  obtain ⟨NC, hNC⟩ : ∃ NC, NC = (prod (taken ds ps)).toNat := ⟨_, rfl⟩
  rw [← hNC] at HQ ⊢
  have HNC := hide hNC
  have hN6 : NC ≤ 65536 := by rw [hNC]; rcases dims_cases hz with ⟨_, _, e⟩ | ⟨_, _, _, e⟩ <;> omega
  have HFB : Hid (∀ i, i < (freeL ps dl).length → 0 ≤ (freeL ps dl)[i]?.getD 0 ∧ (freeL ps dl)[i]?.getD 0 < (dl : Int)) := fun i hi => by have := freeL_rise ps dl i hi; exact ⟨this.1, this.2.1⟩
  have HPB2 : Hid (∀ i, i < pl → 0 ≤ ps[i]?.getD 0 ∧ ps[i]?.getD 0 < (dl : Int)) := fun i hi => HPB.out _ (mem_getD ps i (by rw [HPS.out.1]; exact hi))
  clear h0 h1 hps hd hx hat hpb hz hq hNC
  go_enter Tryz.func19, Tryz.ntmps19
  go_wp2_with fail
  refine region_made 7 8 [fIs (.slice (some ⟨b, off, none⟩) 1 cap), fIs (.pointer (some ⟨b, off, none⟩)), fIs (.pointer (some ⟨b, off, none⟩)), fIs (.slice da dl dc), fIs (.pointer (some ⟨w.heap.size, 2, none⟩)), fIs (.slice pa pl pc), fLst (freeL ps dl)] (by kernel_rfl) (by kernel_rfl) (by kernel_rfl) (fun _ ⟨_, _⟩ ⟨_, _⟩ _ e h => by cases e; exact h) ⟨fIs_good _, fIs_good _, fIs_good _, fIs_good _, fIs_good _, fIs_good _, fLst_good _, trivial⟩ ?mk ?rest
  case mk =>
    refine ⟨fun u wz hb hd => ?_, fun u wz hb hd => ?_, fun u wz hb hd => ?_, fun u wz hb hd => ?_, fun u wz hb hd => ?_, fun u wz hb hd => ?_, fun u wz hb hd => ?_, trivial⟩
    all_goals simp only [Act.put, List.setIfInBounds_toArray, List.set_cons_zero, List.set_cons_succ]
    · go_simp
      exact ⟨rfl, Below.refl _ _, fun h => by cases h⟩
    · have e0 : u 0 = .slice (some ⟨b, off, none⟩) 1 cap := hd 0 (by omega) (by kernel_rfl)
      rw [e0]
      go_simp
      exact ⟨rfl, Below.refl _ _, fun h => by cases h⟩
    · have e1 : u 1 = .pointer (some ⟨b, off, none⟩) := hd 1 (by omega) (by kernel_rfl)
      rw [e1]
      go_simp
      exact ⟨rfl, Below.refl _ _, fun h => by cases h⟩
    · have e2 : u 2 = .pointer (some ⟨b, off, none⟩) := hd 2 (by omega) (by kernel_rfl)
      rw [e2]
      have k0' := (hb.cell (p := ⟨b, off, none⟩) (lt_of_cell k0)).trans k0
      go_simp
      exact ⟨rfl, Below.refl _ _, fun h => by cases h⟩
    · go_simp
      exact ⟨rfl, Below.refl _ _, fun h => by cases h⟩
    · have e4 : u 4 = .pointer (some ⟨w.heap.size, 2, none⟩) := hd 4 (by omega) (by kernel_rfl)
      rw [e4]
      have o2' := (hb.cell (p := ⟨w.heap.size, 2, none⟩) (lt_of_cell o2)).trans o2
      go_simp
      exact ⟨rfl, Below.refl _ _, fun h => by cases h⟩
    · have e3 : u 3 = .slice da dl dc := hd 3 (by omega) (by kernel_rfl)
      have e5 : u 5 = .slice pa pl pc := hd 5 (by omega) (by kernel_rfl)
      rw [e3, e5]
      go_simp
      refine (free_any _ _ _ ds _ _ _ ps wz (HD.out.below (Below.on HB1.out hb)) (HPS.out.below (Below.on HB1.out hb)) h6).mono ?_
      rintro e w2 ⟨⟨v, rfl, hv⟩, hb2⟩
      obtain ⟨X, nx, cx, rfl, hl2, _⟩ := hv
      exact ⟨⟨X, nx, cx, rfl, hl2⟩, hb2, fun h => by cases h⟩
  case rest =>
    intro u wz hb hf hp
    have f0 : u 0 = .slice (some ⟨b, off, none⟩) 1 cap := hf 0 (by omega)
    have f1 : u 1 = .pointer (some ⟨b, off, none⟩) := hf 1 (by omega)
    have f2 : u 2 = .pointer (some ⟨b, off, none⟩) := hf 2 (by omega)
    have f3 : u 3 = .slice da dl dc := hf 3 (by omega)
    have f4 : u 4 = .pointer (some ⟨w.heap.size, 2, none⟩) := hf 4 (by omega)
    have f5 : u 5 = .slice pa pl pc := hf 5 (by omega)
    obtain ⟨FX, fn, fc, f6, hfx⟩ := hf 6 (by omega)
    refine UptoW.rest 1 7 (by rfl) (by kernel_rfl) ?_
    simp only [List.take, List.drop, putOps, Act.put, List.setIfInBounds_toArray, List.set_cons_zero, List.set_cons_succ, Nat.reduceAdd, f0, f1, f2, f3, f4, f5, f6]
    clear f0 f1 f2 f3 f4 f5 f6 hf hp
    have HBz := hide (Below.on HB1.out hb)
    refine wpList_plain rfl (fun K hK => ?_)
    go_simp
    refine hK _ _ (wpList_nil ?_)
    clear hK K
    replace k0 := (hb.cell (p := ⟨b, off, none⟩) (lt_of_cell k0)).trans k0
    replace k1 := (hb.cell (p := ⟨b, off + 1, none⟩) (lt_of_cell k1)).trans k1
    replace o2 := (hb.cell (p := ⟨w.heap.size, 2, none⟩) (lt_of_cell o2)).trans o2
    have HFX := hide hfx
    clear hb hfx o0 o1 o3 o4 o5 o6 HOP
    go_wp2_with fail
    refine region_made 10 11 [fIs (.slice (some ⟨b, off, none⟩) 1 cap), fIs (.pointer (some ⟨b, off, none⟩)), fIs (.pointer (some ⟨b, off, none⟩)), fIs (.slice da dl dc), fIs (.pointer (some ⟨w.heap.size, 2, none⟩)), fIs (.slice pa pl pc), fLst (taken ds ps), fAllC NC pl (taken ds ps), fIs (.int .i64 (NC : Int)), fIs (.int .i64 0)] (by kernel_rfl) (by kernel_rfl) (by kernel_rfl) (fun _ ⟨_, _⟩ ⟨_, _⟩ _ e h => by cases e; exact h) ⟨fIs_good _, fIs_good _, fIs_good _, fIs_good _, fIs_good _, fIs_good _, fLst_good _, fAllC_good _ _ _, fIs_good _, fIs_good _, trivial⟩ ?mk ?rest
    case mk =>
      refine ⟨fun u wz hb hd => ?_, fun u wz hb hd => ?_, fun u wz hb hd => ?_, fun u wz hb hd => ?_, fun u wz hb hd => ?_, fun u wz hb hd => ?_, fun u wz hb hd => ?_, fun u wz hb hd => ?_, fun u wz hb hd => ?_, fun u wz hb hd => ?_, trivial⟩
      all_goals simp only [Act.put, List.setIfInBounds_toArray, List.set_cons_zero, List.set_cons_succ]
      · go_simp
        exact ⟨rfl, Below.refl _ _, fun h => by cases h⟩
      · have e0 : u 0 = .slice (some ⟨b, off, none⟩) 1 cap := hd 0 (by omega) (by kernel_rfl)
        rw [e0]
        go_simp
        exact ⟨rfl, Below.refl _ _, fun h => by cases h⟩
      · have e1 : u 1 = .pointer (some ⟨b, off, none⟩) := hd 1 (by omega) (by kernel_rfl)
        rw [e1]
        go_simp
        exact ⟨rfl, Below.refl _ _, fun h => by cases h⟩
      · have e2 : u 2 = .pointer (some ⟨b, off, none⟩) := hd 2 (by omega) (by kernel_rfl)
        rw [e2]
        have k0' := (hb.cell (p := ⟨b, off, none⟩) (lt_of_cell k0)).trans k0
        go_simp
        exact ⟨rfl, Below.refl _ _, fun h => by cases h⟩
      · go_simp
        exact ⟨rfl, Below.refl _ _, fun h => by cases h⟩
      · have e4 : u 4 = .pointer (some ⟨w.heap.size, 2, none⟩) := hd 4 (by omega) (by kernel_rfl)
        rw [e4]
        have o2' := (hb.cell (p := ⟨w.heap.size, 2, none⟩) (lt_of_cell o2)).trans o2
        go_simp
        exact ⟨rfl, Below.refl _ _, fun h => by cases h⟩
      · have e3 : u 3 = .slice da dl dc := hd 3 (by omega) (by kernel_rfl)
        have e5 : u 5 = .slice pa pl pc := hd 5 (by omega) (by kernel_rfl)
        rw [e3, e5]
        go_simp
        refine (chosen_any _ _ _ ds _ _ _ ps wz (HD.out.below (Below.on HBz.out hb)) (HPS.out.below (Below.on HBz.out hb)) HPB.out hp6).mono ?_
        rintro e w2 ⟨⟨v, rfl, hv⟩, hb2⟩
        obtain ⟨X, nx, cx, rfl, hl2, _⟩ := hv
        exact ⟨⟨X, nx, cx, rfl, hl2⟩, hb2, fun h => by cases h⟩
      · obtain ⟨X, nx, cx, e6, h6'⟩ := hd 6 (by omega) (by kernel_rfl)
        rw [e6]
        go_simp
        have enx : nx = pl := by rw [← h6'.1.1, taken_length, HPS.out.1]
        subst enx
        refine (rall_anyC _ _ _ (taken ds ps) wz h6'.1 HZ.out).mono ?_
        rintro e w2 ⟨⟨A, c, rfl, hls⟩, hb2⟩
        rw [← HNC.out] at hls ⊢
        exact ⟨⟨_, A, c, rfl, hls⟩, hb2, fun h => by cases h⟩
      · obtain ⟨BA, AA, ca, e7, _⟩ := hd 7 (by omega) (by kernel_rfl)
        rw [e7]
        go_simp
        exact ⟨rfl, Below.refl _ _, fun h => by cases h⟩
      · go_simp
        exact ⟨rfl, Below.refl _ _, fun h => by cases h⟩
    case rest =>
      intro u wz hb hf hp
      have f0 : u 0 = .slice (some ⟨b, off, none⟩) 1 cap := hf 0 (by omega)
      have f1 : u 1 = .pointer (some ⟨b, off, none⟩) := hf 1 (by omega)
      have f2 : u 2 = .pointer (some ⟨b, off, none⟩) := hf 2 (by omega)
      have f3 : u 3 = .slice da dl dc := hf 3 (by omega)
      have f4 : u 4 = .pointer (some ⟨w.heap.size, 2, none⟩) := hf 4 (by omega)
      have f5 : u 5 = .slice pa pl pc := hf 5 (by omega)
      obtain ⟨_, _, _, f6, _⟩ := hf 6 (by omega)
      obtain ⟨BA, AA, ca, f7, hls⟩ := hf 7 (by omega)
      have f8 : u 8 = .int .i64 (NC : Int) := hf 8 (by omega)
      have f9 : u 9 = .int .i64 0 := hf 9 (by omega)
      refine UptoW.rest 0 10 (by rfl) (by kernel_rfl) ?_
      simp only [List.take, List.drop, putOps, Act.put, List.setIfInBounds_toArray, List.set_cons_zero, List.set_cons_succ, Nat.reduceAdd, f0, f1, f2, f3, f4, f5, f6, f7, f8, f9]
      clear f0 f1 f2 f3 f4 f5 f6 f7 f8 f9 hf hp
      refine wpList_nil ?_
      have HW2 := hide (Below.on HBz.out hb)
      have HFX2 := hide (HFX.out.below hb)
      have HLS := hide hls
      replace k0 := (hb.cell (p := ⟨b, off, none⟩) (lt_of_cell k0)).trans k0
      replace k1 := (hb.cell (p := ⟨b, off + 1, none⟩) (lt_of_cell k1)).trans k1
      replace o2 := (hb.cell (p := ⟨w.heap.size, 2, none⟩) (lt_of_cell o2)).trans o2
      have HK0 := hide k0
      have HK1 := hide k1
      have HO2 := hide o2
      clear hb hls HFX HBz HB1
      have hfn : fn = (freeL ps dl).length := HFX2.out.1.1.symm
      have hfn2 : (freeL ps dl).length = fn := hfn.symm
      have HFN := hide hfn
      clear hfn hfn2
      go_wp2_with fail
      go_loopw [9, 161] (fun v i wr => ∃ t : Nat, t ≤ NC ∧ i = .int .i64 t ∧ v = .int .i64 (accS (fun t => xs[q t]?.getD 0) t) ∧ Below wz.heap.size wz wr) (fun _ i _ => NC - (intOf i).toNat)
      case atStart => exact ⟨0, Nat.zero_le _, rfl, rfl, Below.refl _ _⟩
      case round =>
        obtain ⟨t, ht, rfl, rfl, hB⟩ := hrel
        have HB := hide hB
        clear hB k0 k1 o2
        by_cases hlt : t < NC
        · obtain ⟨ba, rfl, _, hcs⟩ := HLS.out.resolve_left (by omega)
          obtain ⟨gk, ck, _, y0, hgk, _⟩ := hcs t hlt
          have y1 := (HB.out.cell (p := ⟨ba, t, none⟩) (lt_of_cell y0)).trans y0
          have HGK := hide (hgk.below HB.out)
          have k0 := (HB.out.cell (p := ⟨b, off, none⟩) (lt_of_cell HK0.out)).trans HK0.out
          have k1 := (HB.out.cell (p := ⟨b, off + 1, none⟩) (lt_of_cell HK1.out)).trans HK1.out
          have o2 := (HB.out.cell (p := ⟨w.heap.size, 2, none⟩) (lt_of_cell HO2.out)).trans HO2.out
          obtain ⟨hq1, hq2⟩ := HQ.out t hlt
          have HQ1 := hide hq1
          obtain ⟨Q, hQ⟩ : ∃ Q, Q = q t := ⟨_, rfl⟩
          rw [← hQ] at hq2 HQ1
          have HQQ := hide hQ
          obtain ⟨SV, hSV⟩ : ∃ SV, SV = accS (fun t => xs[q t]?.getD 0) t := ⟨_, rfl⟩
          have HSV := hide hSV
          rw [← hSV]
          obtain ⟨XV, hXV⟩ : ∃ XV, XV = xs[Q]?.getD 0 := ⟨_, rfl⟩
          have HXV := hide hXV
          have i1 : (0 : Int) ≤ (t : Int) := Int.natCast_nonneg _
          have i2 : (t : Int) < (NC : Int) := by omega
          clear hcs y0 hgk hq1 hQ hSV hXV
          go_wp2_with fail
          refine region_made 17 18 [fIs (.int .i64 SV), fIs (.slice (some ⟨b, off, none⟩) 1 cap), fIs (.pointer (some ⟨b, off, none⟩)), fIs (.agg #[.slice da dl dc, .slice xa n1 xc]), fIs (.slice (some ⟨b, off, none⟩) 1 cap), fIs (.pointer (some ⟨b, off, none⟩)), fIs (.pointer (some ⟨b, off, none⟩)), fIs (.slice da dl dc), fIs (.int .i64 (dl : Int)), fIs (.pointer (some ⟨w.heap.size, 2, none⟩)), fIs (.slice pa pl pc), fIs (.slice (some ⟨gk, 0, none⟩) pl ck), fIs (.slice FX fn fc), fIs (.slice aa al ac), fRowL dl (setAll (setAll (List.replicate dl 0) ps (dig (taken ds ps) t) pl) (freeL ps dl) at' (freeL ps dl).length), fIs (.int .i64 XV), fIs (.int .i64 (IntKind.i64.wrap (SV + XV)))] (by kernel_rfl) (by kernel_rfl) (by kernel_rfl) (fun _ ⟨_, _⟩ ⟨_, _⟩ _ e h => by cases e; exact h) ⟨fIs_good _, fIs_good _, fIs_good _, fIs_good _, fIs_good _, fIs_good _, fIs_good _, fIs_good _, fIs_good _, fIs_good _, fIs_good _, fIs_good _, fIs_good _, fIs_good _, fRowL_good _ _, fIs_good _, fIs_good _, trivial⟩ ?mk ?rest
          case mk =>
            refine ⟨fun u wy hb hd => ?_, fun u wy hb hd => ?_, fun u wy hb hd => ?_, fun u wy hb hd => ?_, fun u wy hb hd => ?_, fun u wy hb hd => ?_, fun u wy hb hd => ?_, fun u wy hb hd => ?_, fun u wy hb hd => ?_, fun u wy hb hd => ?_, fun u wy hb hd => ?_, fun u wy hb hd => ?_, fun u wy hb hd => ?_, fun u wy hb hd => ?_, fun u wy hb hd => ?_, fun u wy hb hd => ?_, fun u wy hb hd => ?_, trivial⟩
            all_goals simp only [Act.put, List.setIfInBounds_toArray, List.set_cons_zero, List.set_cons_succ]
            · go_simp
              exact ⟨rfl, Below.refl _ _, fun h => by cases h⟩
            · go_simp
              exact ⟨rfl, Below.refl _ _, fun h => by cases h⟩
            · have e1 : u 1 = .slice (some ⟨b, off, none⟩) 1 cap := hd 1 (by omega) (by kernel_rfl)
              rw [e1]
              go_simp
              exact ⟨rfl, Below.refl _ _, fun h => by cases h⟩
            · have e2 : u 2 = .pointer (some ⟨b, off, none⟩) := hd 2 (by omega) (by kernel_rfl)
              rw [e2]
              have k0' := (hb.cell (p := ⟨b, off, none⟩) (lt_of_cell k0)).trans k0
              have k1' := (hb.cell (p := ⟨b, off + 1, none⟩) (lt_of_cell k1)).trans k1
              go_simp
              exact ⟨rfl, Below.refl _ _, fun h => by cases h⟩
            · go_simp
              exact ⟨rfl, Below.refl _ _, fun h => by cases h⟩
            · have e4 : u 4 = .slice (some ⟨b, off, none⟩) 1 cap := hd 4 (by omega) (by kernel_rfl)
              rw [e4]
              go_simp
              exact ⟨rfl, Below.refl _ _, fun h => by cases h⟩
            · have e5 : u 5 = .pointer (some ⟨b, off, none⟩) := hd 5 (by omega) (by kernel_rfl)
              rw [e5]
              go_simp
              exact ⟨rfl, Below.refl _ _, fun h => by cases h⟩
            · have e6 : u 6 = .pointer (some ⟨b, off, none⟩) := hd 6 (by omega) (by kernel_rfl)
              rw [e6]
              have k0' := (hb.cell (p := ⟨b, off, none⟩) (lt_of_cell k0)).trans k0
              go_simp
              exact ⟨rfl, Below.refl _ _, fun h => by cases h⟩
            · have e7 : u 7 = .slice da dl dc := hd 7 (by omega) (by kernel_rfl)
              rw [e7]
              go_simp
              exact ⟨rfl, Below.refl _ _, fun h => by cases h⟩
            · go_simp
              exact ⟨rfl, Below.refl _ _, fun h => by cases h⟩
            · have e9 : u 9 = .pointer (some ⟨w.heap.size, 2, none⟩) := hd 9 (by omega) (by kernel_rfl)
              rw [e9]
              have o2' := (hb.cell (p := ⟨w.heap.size, 2, none⟩) (lt_of_cell o2)).trans o2
              go_simp
              exact ⟨rfl, Below.refl _ _, fun h => by cases h⟩
            · go_simp
              exact ⟨rfl, Below.refl _ _, fun h => by cases h⟩
            · go_simp
              exact ⟨rfl, Below.refl _ _, fun h => by cases h⟩
            · go_simp
              exact ⟨rfl, Below.refl _ _, fun h => by cases h⟩
            · have e8 : u 8 = .int .i64 (dl : Int) := hd 8 (by omega) (by kernel_rfl)
              have e10 : u 10 = .slice pa pl pc := hd 10 (by omega) (by kernel_rfl)
              have e11 : u 11 = .slice (some ⟨gk, 0, none⟩) pl ck := hd 11 (by omega) (by kernel_rfl)
              have e12 : u 12 = .slice FX fn fc := hd 12 (by omega) (by kernel_rfl)
              have e13 : u 13 = .slice aa al ac := hd 13 (by omega) (by kernel_rfl)
              rw [e8, e10, e11, e12, e13]
              go_simp
              have hbw := Below.on HB.out hb
              have hww := Below.on HW2.out hbw
              have hpl : (freeL ps dl).length = fn := HFN.out.symm
              refine (placed_any dl _ _ _ ps _ _ _ (dig (taken ds ps) t) _ _ _ (freeL ps dl) _ _ _ at' wy h6 (HPS.out.below hww) (HGK.out.below hb) (HFX2.out.1.below hbw) (HAT.out.below hww) (Nat.le_refl _) (by omega) HPB2.out (fun i hi => HFB.out i (by omega))).mono ?_
              rintro e w2 ⟨⟨g, rfl, hg, _⟩, hb2⟩
              rw [← hpl] at hg
              exact ⟨⟨g, rfl, hg⟩, hb2, fun h => by cases h⟩
            · have e3 : u 3 = .agg #[.slice da dl dc, .slice xa n1 xc] := hd 3 (by omega) (by kernel_rfl)
              obtain ⟨g, e14, hg⟩ := hd 14 (by omega) (by kernel_rfl)
              rw [e3, e14]
              go_simp
              have hww := Below.on HW2.out (Below.on HB.out hb)
              refine (rget_any _ _ _ ds _ _ _ xs _ _ _ _ wy Q (HD.out.below hww) hdc (HX.out.below hww) hg HQ1.out hq2).mono ?_
              rintro e w2 ⟨rfl, hb2⟩
              rw [← HXV.out]
              exact ⟨rfl, hb2, fun h => by cases h⟩
            · have e0 : u 0 = .int .i64 SV := hd 0 (by omega) (by kernel_rfl)
              have e15 : u 15 = .int .i64 XV := hd 15 (by omega) (by kernel_rfl)
              rw [e0, e15]
              go_simp
              exact ⟨rfl, Below.refl _ _, fun h => by cases h⟩
          case rest =>
            intro u wy hb hf hp
            have f0 : u 0 = .int .i64 SV := hf 0 (by omega)
            have f1 : u 1 = .slice (some ⟨b, off, none⟩) 1 cap := hf 1 (by omega)
            have f2 : u 2 = .pointer (some ⟨b, off, none⟩) := hf 2 (by omega)
            have f3 : u 3 = .agg #[.slice da dl dc, .slice xa n1 xc] := hf 3 (by omega)
            have f4 : u 4 = .slice (some ⟨b, off, none⟩) 1 cap := hf 4 (by omega)
            have f5 : u 5 = .pointer (some ⟨b, off, none⟩) := hf 5 (by omega)
            have f6 : u 6 = .pointer (some ⟨b, off, none⟩) := hf 6 (by omega)
            have f7 : u 7 = .slice da dl dc := hf 7 (by omega)
            have f8 : u 8 = .int .i64 (dl : Int) := hf 8 (by omega)
            have f9 : u 9 = .pointer (some ⟨w.heap.size, 2, none⟩) := hf 9 (by omega)
            have f10 : u 10 = .slice pa pl pc := hf 10 (by omega)
            have f11 : u 11 = .slice (some ⟨gk, 0, none⟩) pl ck := hf 11 (by omega)
            have f12 : u 12 = .slice FX fn fc := hf 12 (by omega)
            have f13 : u 13 = .slice aa al ac := hf 13 (by omega)
            obtain ⟨_, f14, _⟩ := hf 14 (by omega)
            have f15 : u 15 = .int .i64 XV := hf 15 (by omega)
            have f16 : u 16 = .int .i64 (IntKind.i64.wrap (SV + XV)) := hf 16 (by omega)
            refine UptoW.rest 1 17 (by rfl) (by kernel_rfl) ?_
            simp only [List.take, List.drop, putOps, Act.put, List.setIfInBounds_toArray, List.set_cons_zero, List.set_cons_succ, Nat.reduceAdd, f0, f1, f2, f3, f4, f5, f6, f7, f8, f9, f10, f11, f12, f13, f14, f15, f16]
            clear f0 f1 f2 f3 f4 f5 f6 f7 f8 f9 f10 f11 f12 f13 f14 f15 f16 hf hp
            refine wpList_plain rfl (fun K hK => ?_)
            go_simp
            refine hK _ _ (wpList_nil ?_)
            clear hK K
            go_wp2
            go_roundw
            case rel => exact ⟨t + 1, by omega, by go_num, by rw [accS, ← HSV.out, ← HQQ.out, ← HXV.out], Below.on HB.out hb⟩
            case measure => simp [intOf]; omega
        · obtain rfl : t = NC := by omega
          go_wp2
          go_ret
          exact ⟨rfl, Below.on HW2.out HB.out⟩
end Go.Proofs.YteoobeldmicjhaaGreat.V
namespace Go.Proofs.YteoobeldmicjhaaGreat.V
set_option maxRecDepth 20000
open Go.RowKit

theorem accS_sum (g : Nat → Int) : ∀ k, accS g k = IntKind.i64.wrap (sumN g k)
  | 0 => by rw [accS, sumN, wrap_in 0 (by omega) (by omega)]
  | k + 1 => by rw [accS, accS_sum g k, wrap_addl, sumN]
theorem sumN_nil {f : Nat → Int} {n : Nat} (h : ∀ t, t < n → f t = 0) : sumN f n = 0 := by rw [sumN_ext n h, sumN_zero]
theorem sumN_one {f : Nat → Int} {n t0 : Nat} (h0 : t0 < n) (h : ∀ t, t < n → t ≠ t0 → f t = 0) : sumN f n = f t0 := by
  have e := sumN_delta t0 (f t0) (fun _ => 1) n
  rw [if_pos h0, Int.mul_one] at e
  rw [← e]
  refine sumN_ext n (fun t ht => ?_)
  by_cases c : t0 = t
  · subst c; rw [if_pos rfl, Int.mul_one]
  · rw [if_neg c, h t ht (fun x => c x.symm), Int.zero_mul]
theorem sum_fiber {n NC : Nat} (B : Nat → Prop) [DecidablePred B] (q : Nat → Nat) (x : Nat → Int) (h1 : ∀ t, t < NC → q t < n ∧ B (q t)) (h2 : ∀ t t', t < NC → t' < NC → q t = q t' → t = t') (h3 : ∀ j, j < n → B j → ∃ t, t < NC ∧ q t = j) : sumN (fun j => (if B j then 1 else 0) * x j) n = sumN (fun t => x (q t)) NC := by
  have e : ∀ j, j < n → (if B j then 1 else 0) * x j = sumN (fun t => if q t = j then x j else 0) NC := fun j hj => by
    by_cases hB : B j
    · obtain ⟨t0, ht, hq⟩ := h3 j hj hB
      rw [if_pos hB, sumN_one ht (fun t h hne => if_neg (fun e => hne (h2 t t0 h ht (e.trans hq.symm)))), if_pos hq, Int.one_mul]
    · rw [if_neg hB, sumN_nil (fun t h => if_neg (fun (e : q t = j) => hB (e ▸ (h1 t h).2))), Int.zero_mul]
  rw [sumN_ext n e, sumN_swap (fun t j => if q t = j then x j else 0) NC n]
  refine sumN_ext NC (fun t ht => ?_)
  rw [sumN_one (h1 t ht).1 (fun j _ hne => if_neg (fun e => hne e.symm)), if_pos rfl]
theorem addS_fiber {N n NC : Nat} {Q xs : List Int} (hQ : ∀ j, j < n → 0 ≤ Q[j]?.getD 0 ∧ Q[j]?.getD 0 < (N : Int)) (i : Nat) (hi : i < N) (q : Nat → Nat) (h1 : ∀ t, t < NC → q t < n ∧ Q[q t]?.getD 0 = (i : Int)) (h2 : ∀ t t', t < NC → t' < NC → q t = q t' → t = t') (h3 : ∀ j, j < n → Q[j]?.getD 0 = (i : Int) → ∃ t, t < NC ∧ q t = j) :
    (addS (List.replicate N 0) Q xs n)[i]?.getD 0 = accS (fun t => xs[q t]?.getD 0) NC := by
  rw [addS_at (fun x hx => by simp at hx; rw [hx.2]; omega) i (by simp; exact hi) n (fun j hj => by simpa using hQ j hj), accS_sum, repl0_at, Int.zero_add]
  congr 1
  exact sum_fiber (fun j => Q[j]?.getD 0 = (i : Int)) q (fun j => xs[j]?.getD 0) h1 h2 h3

theorem dig_place {L : List Int} (hE : sizeE L = 0) {i : Nat} (hi : i < (prod L).toNat) : placeN L (dig L i) = (i : Int) ∧ IdxOk L (dig L i) := by
  have hpos := pos_of hE hi
  have hio : IdxOk L (dig L i) := dig_bd L i hpos (by omega) (by omega)
  refine ⟨?_, hio⟩
  rw [place_dot hE (dig_length _ _) hio, ← lieN_dig L _ _ (stepsV_len L), lieN_whole L i hpos (by omega) (by omega)]
theorem placeN_S {xs ys : List Int} (hE : sizeE xs = 0) (hl : ys.length = xs.length) (h : IdxOk xs ys) : placeN xs ys = placeS xs ys xs.length := by
  rw [placeN, if_neg (by simp [hE]), if_neg (by simp [hl]), if_pos ((idxB_iff _ _).2 h)]
theorem place_inj {ds y y' : List Int} (hE : sizeE ds = 0) (hl : y.length = ds.length) (hl' : y'.length = ds.length) (h : IdxOk ds y) (h' : IdxOk ds y') (e : placeN ds y = placeN ds y') : y = y' := by
  rw [placeN_S hE hl h, placeN_S hE hl' h'] at e
  rw [← index_place h hl, ← index_place h' hl', e]
theorem place_nat {ds y : List Int} (hE : sizeE ds = 0) (hl : y.length = ds.length) (h : IdxOk ds y) : ∃ p : Nat, placeN ds y = (p : Int) ∧ p < (prod ds).toNat ∧ dig ds p = y := by
  have hb := place_bd h
  rw [← placeN_S hE hl h] at hb
  obtain ⟨p, hp⟩ : ∃ p : Nat, placeN ds y = (p : Int) := ⟨(placeN ds y).toNat, by omega⟩
  have hlt : p < (prod ds).toNat := by omega
  refine ⟨p, hp, hlt, ?_⟩
  have := dig_place hE hlt
  exact place_inj hE (dig_length _ _) hl this.2 h (this.1.trans hp.symm)
theorem reads_hit {ds D : List Int} {Y : Nat → List Int} {S : Int → List Int → Int} {T : List Int → List Int} (h : ThroughY ds D Y S T) (hE : sizeE ds = 0) {i j : Nat} (hi : i < (prod ds).toNat) (hj : j < (prod D).toNat) :
    (readsV (S 0 (stepsV ds)) D (T (stepsV ds)))[j]?.getD 0 = (i : Int) ↔ Y j = dig ds i := by
  obtain ⟨p, _, h2, h3⟩ := idx_read h hE j hj
  obtain ⟨hl, hio, _⟩ := h j hj
  have hd := dig_place hE hi
  rw [h3]
  constructor
  · intro e
    exact place_inj hE hl (dig_length _ _) hio hd.2 (h2.trans (e.trans hd.1.symm))
  · intro e
    rw [e, hd.1] at h2
    exact h2.symm
theorem list_at_ext {xs ys : List Int} (hl : xs.length = ys.length) (h : ∀ k, k < ys.length → xs[k]?.getD 0 = ys[k]?.getD 0) : xs = ys := by
  apply List.ext_getElem hl
  intro k h1 h2
  have := h k h2
  rw [List.getElem?_eq_getElem h1, List.getElem?_eq_getElem h2] at this
  simpa using this

/-! ### Pad -/
theorem pad_entry {ds lo hi st xs : List Int} {n i : Nat} (hz : sizeE ds = 0) (hl1 : lensB ds.length lo hi st = true) (hl2 : anyPad ds.length lo hi st = false) (hs2 : sizeE (padD ds lo hi st) = 0) (hn : (n : Int) = prod ds) (hi' : i < (prod (padD ds lo hi st)).toNat) (hx : Bnd xs)
    (hqq : ∀ j, j < n → 0 ≤ (readsV (cutAcc 0 (stepsV (padD ds lo hi st)) lo (padD ds lo hi st).length) ds (cutS (stepsV (padD ds lo hi st)) st))[j]?.getD 0 ∧ (readsV (cutAcc 0 (stepsV (padD ds lo hi st)) lo (padD ds lo hi st).length) ds (cutS (stepsV (padD ds lo hi st)) st))[j]?.getD 0 < ((prod (padD ds lo hi st)).toNat : Int)) :
    ((∀ k, k < (padD ds lo hi st).length → padOk (dig (padD ds lo hi st) i) lo st ds k) → ∃ p : Nat, p < n ∧ placeN ds (fillF (fun j => ((dig (padD ds lo hi st) i)[j]?.getD 0 - lo[j]?.getD 0) / st[j]?.getD 0) (padD ds lo hi st).length (padD ds lo hi st).length) = (p : Int) ∧ (addS (List.replicate (prod (padD ds lo hi st)).toNat 0) (readsV (cutAcc 0 (stepsV (padD ds lo hi st)) lo (padD ds lo hi st).length) ds (cutS (stepsV (padD ds lo hi st)) st)) xs n)[i]?.getD 0 = xs[p]?.getD 0) ∧
    (∀ k, k < (padD ds lo hi st).length → ¬ padOk (dig (padD ds lo hi st) i) lo st ds k → (addS (List.replicate (prod (padD ds lo hi st)).toNat 0) (readsV (cutAcc 0 (stepsV (padD ds lo hi st)) lo (padD ds lo hi st).length) ds (cutS (stepsV (padD ds lo hi st)) st)) xs n)[i]?.getD 0 = 0) := by
  obtain ⟨k1, k2, k3⟩ := pad_cut hz hl1 hl2
  have hpl := padD_length ds lo hi st
  have hth := idx_cut (by rw [k3]; exact hz) k2
  rw [k3, hpl] at hth
  have hit : ∀ j, j < n → ((readsV (cutAcc 0 (stepsV (padD ds lo hi st)) lo (padD ds lo hi st).length) ds (cutS (stepsV (padD ds lo hi st)) st))[j]?.getD 0 = (i : Int) ↔ (List.range ds.length).map (fun k => lo[k]?.getD 0 + (dig ds j)[k]?.getD 0 * st[k]?.getD 0) = dig (padD ds lo hi st) i) := fun j hj => by
    have := reads_hit hth hs2 hi' (j := j) (by omega)
    rw [← hpl] at this ⊢
    exact this
  generalize readsV (cutAcc 0 (stepsV (padD ds lo hi st)) lo (padD ds lo hi st).length) ds (cutS (stepsV (padD ds lo hi st)) st) = Q at *
  have hdl : (dig (padD ds lo hi st) i).length = ds.length := by rw [dig_length, hpl]
  generalize dig (padD ds lo hi st) i = at' at *
  rw [hpl]
  have hat : ∀ j, j < n → Q[j]?.getD 0 = (i : Int) → ∀ k, k < ds.length → at'[k]?.getD 0 = lo[k]?.getD 0 + (dig ds j)[k]?.getD 0 * st[k]?.getD 0 := fun j hj e k hk => by
    rw [← (hit j hj).1 e]
    simp [hk]
  have hst : ∀ k, k < ds.length → 1 ≤ st[k]?.getD 0 := fun k hk => (of_anyPad_false hl2 k hk).2.2.1
  constructor
  · intro hok
    have hio : IdxOk ds (fillF (fun j => (at'[j]?.getD 0 - lo[j]?.getD 0) / st[j]?.getD 0) ds.length ds.length) := fun k hk => by
      obtain ⟨h1, _, h3⟩ := hok k hk
      rw [fillF_full]
      simp only [List.getElem?_map, List.getElem?_range hk, Option.map_some, Option.getD_some]
      exact ⟨Int.ediv_nonneg h1 (by have := hst k hk; omega), h3⟩
    obtain ⟨p, hp1, hp2, hp3⟩ := place_nat hz (by rw [fillF_length]) hio
    refine ⟨p, by omega, hp1, ?_⟩
    have hd : ∀ k, k < ds.length → (dig ds p)[k]?.getD 0 = (at'[k]?.getD 0 - lo[k]?.getD 0) / st[k]?.getD 0 := fun k hk => by
      rw [hp3, fillF_full]
      simp [hk]
    have hQp : Q[p]?.getD 0 = (i : Int) := by
      rw [hit p (by omega)]
      refine list_at_ext (by simp; exact hdl.symm) (fun k hk => ?_)
      rw [hdl] at hk
      obtain ⟨_, h2, _⟩ := hok k hk
      simp only [List.getElem?_map, List.getElem?_range hk, Option.map_some, Option.getD_some]
      rw [hd k hk]
      have := Int.mul_ediv_add_emod (at'[k]?.getD 0 - lo[k]?.getD 0) (st[k]?.getD 0)
      rw [h2, Int.mul_comm] at this
      omega
    have := addS_fiber (NC := 1) (xs := xs) hqq i hi' (fun _ => p) (fun t _ => ⟨by omega, hQp⟩) (fun t t' h h' _ => by omega) (fun j hj e => ⟨0, by omega, ?_⟩)
    · rw [this, accS, accS, Int.zero_add]
      have := bnd_at hx p
      exact wrap_in _ this.1 this.2
    · have h1 : dig ds j = dig ds p := by
        refine list_at_ext (by rw [dig_length, dig_length]) (fun k hk => ?_)
        rw [dig_length] at hk
        have h2 := hat j hj e k hk
        rw [hd k hk, h2]
        have e2 : lo[k]?.getD 0 + (dig ds j)[k]?.getD 0 * st[k]?.getD 0 - lo[k]?.getD 0 = (dig ds j)[k]?.getD 0 * st[k]?.getD 0 := by omega
        rw [e2, Int.mul_ediv_cancel _ (by have := hst k hk; omega)]
      have a1 := (dig_place hz (i := j) (by omega)).1
      have a2 := (dig_place hz (i := p) (by omega)).1
      rw [h1, a2] at a1
      omega
  · intro k hk hno
    refine addS_fiber (NC := 0) (xs := xs) hqq i hi' (fun _ => 0) (fun t h => by omega) (fun t t' h h' _ => by omega) (fun j hj e => absurd ?_ hno)
    have h2 := hat j hj e k hk
    have hb := dig_bd ds j (pos_of hz (i := j) (by omega)) (by omega) (by omega) k hk
    unfold padOk
    rw [h2]
    have e2 : lo[k]?.getD 0 + (dig ds j)[k]?.getD 0 * st[k]?.getD 0 - lo[k]?.getD 0 = (dig ds j)[k]?.getD 0 * st[k]?.getD 0 := by omega
    have := hst k hk
    rw [e2, Int.mul_emod_left, Int.mul_ediv_cancel _ (by omega)]
    exact ⟨Int.mul_nonneg hb.1 (by omega), rfl, hb.2⟩
end Go.Proofs.YteoobeldmicjhaaGreat.V
