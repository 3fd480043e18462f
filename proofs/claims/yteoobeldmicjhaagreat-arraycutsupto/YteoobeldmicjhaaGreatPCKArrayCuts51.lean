/-
  Contract: adjointref2.joinEntry. Contract: array.work of Join; the dimensions of a Join, in three parts. Plain mathematics: the dimensions of a Join, and its entries. Contracts: array.Do and adjointref2.Do of Join: just what is made. Plain mathematics: what was joined is cut out again as it was. ArrayCuts: where an error is told. ArrayCuts: the lists that a part is cut out by.
-/
import Derived.Test.YteoobeldmicjhaaGreatPCKArrayCuts50
import Derived.Test.YteoobeldmicjhaaGreatPCKArrayCuts43
import Derived.Test.YteoobeldmicjhaaGreatPCKArrayCuts44
import Derived.Test.YteoobeldmicjhaaGreatPCKArrayCuts41
import Derived.Test.YteoobeldmicjhaaGreatPCKArrayCuts48
namespace Go.Proofs.YteoobeldmicjhaaGreat.V
set_option maxRecDepth 20000
open Go.RowKit

set_option maxRecDepth 100000 in
set_option maxHeartbeats 4000000 in
theorem joinE_any (x : Int) (vd vl vh vs : Value) (pb po pl pc p : Nat) (b off m cap : Nat) (v : Nat → ArrV) (K : Nat → Nat) (g l c : Nat) (at' : List Int) (w : World) (S0 n0 q : Nat) (Xs : List Int)
    (hpl : 1 ≤ pl) (hpc : w.cell? ⟨pb, po, none⟩ = some (.int .i64 (p : Int))) (hat : Ints w (some ⟨g, 0, none⟩) l at') (hp : p < l) (h6 : l ≤ 6) (hn0 : at'[p]?.getD 0 = (n0 : Int)) (hn6 : n0 ≤ 4096)
    (hv : ∀ s, s ≤ S0 → (w.cell? ⟨b, off + s * 2, none⟩ = some (v s).d ∧ w.cell? ⟨b, off + s * 2 + 1, none⟩ = some (v s).x) ∧ Ints w (v s).da (v s).dl (v s).ds ∧ (v s).dl ≤ (v s).dc ∧ p < (v s).dl ∧ (v s).ds[p]?.getD 0 = (K s : Int))
    (hX : Ints w (v S0).xa (v S0).xl Xs) (hS : S0 < m) (hm : m ≤ 1048576) (hbef : beg K S0 ≤ n0) (hin : n0 < beg K S0 + K S0)
    (hq : placeN (v S0).ds (setAll (setAll (List.replicate l 0) (freeL [(p : Int)] l) (taken at' (freeL [(p : Int)] l)) (freeL [(p : Int)] l).length) [(p : Int)] [((n0 - beg K S0 : Nat) : Int)] 1) = (q : Int)) (hqx : q < (v S0).xl) :
    Calls Tryz.prog 36 #[.agg #[.int .i64 17, vd, .slice (some ⟨pb, po, none⟩) pl pc, vl, vh, vs, .int .i64 x], .slice (some ⟨b, off, none⟩) m cap, .slice (some ⟨g, 0, none⟩) l c] w fun e w' => e = .returned (.int .i64 (Xs[q]?.getD 0)) ∧ Below w.heap.size w w' := by
  have HB1 := hide ((Below.refl w.heap.size w).alloc (Nat.le_refl _) (.cells #[.int .i64 17, vd, .slice (some ⟨pb, po, none⟩) pl pc, vl, vh, vs, .int .i64 x] 31))
  have HOP := hide (OpAt.new w 17 vd (.slice (some ⟨pb, po, none⟩) pl pc) vl vh vs x)
  obtain ⟨o0, o1, o2, o3, o4, o5, o6⟩ := HOP.out.cells
  have hml := hat.2.1
  have HAT := hide hat
  have HV := hide hv
  have HX := hide hX
  have HQ := hide hq
  have HN0 := hide hn0
  have HBF := hide hbef
  have HIN := hide hin
  obtain ⟨_, _, hge, _, hgc⟩ := hat.at (by omega)
  cases hge
  have hgp := hgc p hp
  rw [hn0, Nat.zero_add] at hgp
  have y0 := (HB1.out.cell (p := ⟨pb, po, none⟩) (lt_of_cell hpc)).trans hpc
  have y1 := (HB1.out.cell (p := ⟨g, p, none⟩) (lt_of_cell hgp)).trans hgp
  have i0 : (0 : Int) < (pl : Int) := by omega
  have i0n : 0 < pl := hpl
  have i1 : (0 : Int) ≤ (p : Int) := Int.natCast_nonneg _
  have i2 : (p : Int) < (l : Int) := by omega
  clear hpc hat hv hX hq hn0 hgc hgp hbef hin
  go_enter Tryz.func36, Tryz.ntmps36
  go_wp2
  go_loopw [8, 21] (fun nv i wr => ∃ s : Nat, s ≤ S0 ∧ i = .int .i64 s ∧ nv = .int .i64 ((n0 - beg K s : Nat) : Int) ∧ Below w.heap.size w wr) (fun _ i _ => m - (intOf i).toNat)
  case atStart => exact ⟨0, Nat.zero_le _, rfl, by simp [beg], HB1.out⟩
  case round =>
    obtain ⟨s, hs, rfl, rfl, hB⟩ := hrel
    have HB := hide hB
    clear hB y0 y1 o0 o1 o2 o3 o4 o5 o6 HOP
    obtain ⟨⟨c0, c1⟩, hdi, hdc, hpd, hKs⟩ := HV.out s hs
    have k0 := (HB.out.cell (p := ⟨b, off + s * 2, none⟩) (lt_of_cell c0)).trans c0
    have k1 := (HB.out.cell (p := ⟨b, off + s * 2 + 1, none⟩) (lt_of_cell c1)).trans c1
    have hbs : beg K s ≤ n0 := Nat.le_trans (beg_mono K hs) HBF.out
    have HBS := hide hbs
    obtain ⟨NS, hNS⟩ : ∃ NS, NS = n0 - beg K s := ⟨_, rfl⟩
    rw [← hNS]
    have HNS := hide hNS
    have hNS6 : NS ≤ 4096 := by omega
    have i3 : (0 : Int) ≤ (s : Int) := Int.natCast_nonneg _
    have i4 : (s : Int) < (m : Int) := by omega
    by_cases hse : s = S0
    · subst hse
      obtain ⟨⟨da, dl, dc, ds, xa, xl, xc⟩, hvs⟩ : ∃ u, u = v s := ⟨_, rfl⟩
      rw [← hvs] at c0 c1 k0 k1 hdi hdc hpd hKs HX HQ hqx
      simp only [ArrV.d, ArrV.x] at c0 c1 k0 k1 hdi hdc hpd hKs hqx
      have HX2 : Hid (Ints w xa xl Xs) := HX.out
      have HQ2 : Hid (placeN ds (setAll (setAll (List.replicate l 0) (freeL [(p : Int)] l) (taken at' (freeL [(p : Int)] l)) (freeL [(p : Int)] l).length) [(p : Int)] [(NS : Int)] 1) = (q : Int)) := by rw [Hid, hNS]; exact HQ.out
      obtain ⟨bd, od, rfl, _, hcd⟩ := (hdi.below HB.out).at (by omega)
      have d0 := hcd p hpd
      rw [hKs] at d0
      have HDI := hide hdi
      have hdm := hdi.2.1
      have d0a := alloc_cell (o := .cells #[.slice (some ⟨bd, od, none⟩) dl dc, .slice xa xl xc] 25) d0
      have HNB := hide (ArrAt.new wr (.slice (some ⟨bd, od, none⟩) dl dc) (.slice xa xl xc))
      obtain ⟨⟨e0, e1⟩, _⟩ := HNB.out.cells
      have HBN := hide (HB.out.alloc HB.out.size (.cells #[.slice (some ⟨bd, od, none⟩) dl dc, .slice xa xl xc] 25))
      have i5 : (p : Int) < (dl : Int) := by omega
      have qk : decide (NS < K s) = true := decide_eq_true (by have := HIN.out; omega)
      have hfb := fun i (hi : i < (freeL [(p : Int)] l).length) => freeL_rise [(p : Int)] l i hi
      have HFB := hide hfb
      obtain ⟨XV, hXV⟩ : ∃ XV, XV = Xs[q]?.getD 0 := ⟨_, rfl⟩
      have HXV := hide hXV
      clear hfb hXV hdi hKs c0 c1 hcd d0 HX HQ hNS
      go_wp2_with fail
      refine region_made 19 20 [fIs (.agg #[.slice (some ⟨bd, od, none⟩) dl dc, .slice xa xl xc]), fIs (.slice (some ⟨g, 0, none⟩) l c), fIs (.int .i64 (l : Int)), fIs (.slice (some ⟨g, 0, none⟩) l c), fIs (.int .i64 (p : Int)), fLst [(p : Int)], fLst (freeL [(p : Int)] l), fIs (.slice (some ⟨g, 0, none⟩) l c), fIs (.slice (some ⟨g, 0, none⟩) l c), fIs (.int .i64 (p : Int)), fLst [(p : Int)], fLst (freeL [(p : Int)] l), fLst (taken at' (freeL [(p : Int)] l)), fIs (.int .i64 (p : Int)), fLst [(p : Int)], fIs (.int .i64 (NS : Int)), fLst [(NS : Int)], fRowL l (setAll (setAll (List.replicate l 0) (freeL [(p : Int)] l) (taken at' (freeL [(p : Int)] l)) (freeL [(p : Int)] l).length) [(p : Int)] [(NS : Int)] 1), fIs (.int .i64 XV)] (by kernel_rfl) (by kernel_rfl) (by kernel_rfl) ?hQ ⟨fIs_good _, fIs_good _, fIs_good _, fIs_good _, fIs_good _, fLst_good _, fLst_good _, fIs_good _, fIs_good _, fIs_good _, fLst_good _, fLst_good _, fLst_good _, fIs_good _, fLst_good _, fIs_good _, fLst_good _, fRowL_good _ _, fIs_good _, trivial⟩ ?mk ?rest
      case hQ =>
        intro ch a a2 w2 e h
        have h2 : a2 = { a with tmps := a2.tmps } := by cases a2; cases a; simp only at e ⊢; rw [e]
        rw [h2]
        exact h
      case mk =>
        refine ⟨fun u wz hb hd => ?_, fun u wz hb hd => ?_, fun u wz hb hd => ?_, fun u wz hb hd => ?_, fun u wz hb hd => ?_, fun u wz hb hd => ?_, fun u wz hb hd => ?_, fun u wz hb hd => ?_, fun u wz hb hd => ?_, fun u wz hb hd => ?_, fun u wz hb hd => ?_, fun u wz hb hd => ?_, fun u wz hb hd => ?_, fun u wz hb hd => ?_, fun u wz hb hd => ?_, fun u wz hb hd => ?_, fun u wz hb hd => ?_, fun u wz hb hd => ?_, fun u wz hb hd => ?_, trivial⟩
        all_goals simp only [Act.put, List.setIfInBounds_toArray, List.set_cons_zero, List.set_cons_succ]
        · have e0' := (hb.cell (p := ⟨wr.heap.size, 0, none⟩) (lt_of_cell e0)).trans e0
          have e1' := (hb.cell (p := ⟨wr.heap.size, 1, none⟩) (lt_of_cell e1)).trans e1
          go_simp
          exact ⟨rfl, Below.refl _ _, fun h => by cases h⟩
        · go_simp
          exact ⟨rfl, Below.refl _ _, fun h => by cases h⟩
        · have e1 : u 1 = .slice (some ⟨g, 0, none⟩) l c := hd 1 (by omega) (by kernel_rfl)
          rw [e1]
          go_simp
          exact ⟨rfl, Below.refl _ _, fun h => by cases h⟩
        · go_simp
          exact ⟨rfl, Below.refl _ _, fun h => by cases h⟩
        · go_simp
          exact ⟨rfl, Below.refl _ _, fun h => by cases h⟩
        · have e4 : u 4 = .int .i64 (p : Int) := hd 4 (by omega) (by kernel_rfl)
          rw [e4]
          go_simp
          exact ⟨⟨_, _, _, rfl, lst_one wz _ ⟨by omega, by omega⟩ _⟩, (Below.refl _ _).alloc (Nat.le_refl _) _, fun h => by cases h⟩
        · have e3 : u 3 = .slice (some ⟨g, 0, none⟩) l c := hd 3 (by omega) (by kernel_rfl)
          obtain ⟨Y9, m9, d9, e9, h9⟩ := hd 5 (by omega) (by kernel_rfl)
          rw [e3, e9]
          go_simp
          have hw3 := Below.on HBN.out hb
          refine (free_any _ _ _ at' _ _ _ [(p : Int)] wz (HAT.out.below hw3) h9.1 h6).mono ?_
          rintro e w3 ⟨⟨vv, rfl, hv⟩, hb2⟩
          obtain ⟨X, nx, cx, rfl, hl2, _⟩ := hv
          exact ⟨⟨X, nx, cx, rfl, hl2⟩, hb2, fun h => by cases h⟩
        · go_simp
          exact ⟨rfl, Below.refl _ _, fun h => by cases h⟩
        · go_simp
          exact ⟨rfl, Below.refl _ _, fun h => by cases h⟩
        · go_simp
          exact ⟨rfl, Below.refl _ _, fun h => by cases h⟩
        · have e9 : u 9 = .int .i64 (p : Int) := hd 9 (by omega) (by kernel_rfl)
          rw [e9]
          go_simp
          exact ⟨⟨_, _, _, rfl, lst_one wz _ ⟨by omega, by omega⟩ _⟩, (Below.refl _ _).alloc (Nat.le_refl _) _, fun h => by cases h⟩
        · have e8 : u 8 = .slice (some ⟨g, 0, none⟩) l c := hd 8 (by omega) (by kernel_rfl)
          obtain ⟨Y9, m9, d9, e9, h9⟩ := hd 10 (by omega) (by kernel_rfl)
          rw [e8, e9]
          go_simp
          have hw3 := Below.on HBN.out hb
          refine (free_any _ _ _ at' _ _ _ [(p : Int)] wz (HAT.out.below hw3) h9.1 h6).mono ?_
          rintro e w3 ⟨⟨vv, rfl, hv⟩, hb2⟩
          obtain ⟨X, nx, cx, rfl, hl2, _⟩ := hv
          exact ⟨⟨X, nx, cx, rfl, hl2⟩, hb2, fun h => by cases h⟩
        · have e7 : u 7 = .slice (some ⟨g, 0, none⟩) l c := hd 7 (by omega) (by kernel_rfl)
          obtain ⟨Y9, m9, d9, e9, h9⟩ := hd 11 (by omega) (by kernel_rfl)
          rw [e7, e9]
          go_simp
          have hw3 := Below.on HBN.out hb
          have hm9 := h9.1.1
          have hln := freeL_len [(p : Int)] l
          refine (chosen_any _ _ _ at' _ _ _ (freeL [(p : Int)] l) wz (HAT.out.below hw3) h9.1 (fun y hy => by obtain ⟨k, hk, e1, _⟩ := mem_freeL.1 hy; omega) (by omega)).mono ?_
          rintro e w3 ⟨⟨vv, rfl, hv⟩, hb2⟩
          obtain ⟨X, nx, cx, rfl, hl2, _⟩ := hv
          exact ⟨⟨X, nx, cx, rfl, hl2⟩, hb2, fun h => by cases h⟩
        · go_simp
          exact ⟨rfl, Below.refl _ _, fun h => by cases h⟩
        · have e13 : u 13 = .int .i64 (p : Int) := hd 13 (by omega) (by kernel_rfl)
          rw [e13]
          go_simp
          exact ⟨⟨_, _, _, rfl, lst_one wz _ ⟨by omega, by omega⟩ _⟩, (Below.refl _ _).alloc (Nat.le_refl _) _, fun h => by cases h⟩
        · go_simp
          exact ⟨rfl, Below.refl _ _, fun h => by cases h⟩
        · have e15 : u 15 = .int .i64 (NS : Int) := hd 15 (by omega) (by kernel_rfl)
          rw [e15]
          go_simp
          exact ⟨⟨_, _, _, rfl, lst_one wz _ ⟨by omega, by omega⟩ _⟩, (Below.refl _ _).alloc (Nat.le_refl _) _, fun h => by cases h⟩
        · have e2 : u 2 = .int .i64 (l : Int) := hd 2 (by omega) (by kernel_rfl)
          obtain ⟨Y6, m6, d6, e6, h6a⟩ := hd 6 (by omega) (by kernel_rfl)
          obtain ⟨Y12, m12, d12, e12, h12⟩ := hd 12 (by omega) (by kernel_rfl)
          obtain ⟨Y14, m14, d14, e14, h14⟩ := hd 14 (by omega) (by kernel_rfl)
          obtain ⟨Y16, m16, d16, e16, h16⟩ := hd 16 (by omega) (by kernel_rfl)
          rw [e2, e6, e12, e14, e16]
          go_simp
          have l6 := h6a.1.1
          have l12 := h12.1.1
          rw [taken_length] at l12
          have l14 := h14.1.1
          have l16 := h16.1.1
          simp only [List.length_cons, List.length_nil] at l14 l16
          refine (placed_any l _ _ _ (freeL [(p : Int)] l) _ _ _ (taken at' (freeL [(p : Int)] l)) _ _ _ [(p : Int)] _ _ _ [(NS : Int)] wz h6 h6a.1 h12.1 h14.1 h16.1 (by omega) (by omega) (fun i hii => by have := HFB.out i (by omega); exact ⟨this.1, this.2.1⟩) (fun i hii => by have : i = 0 := (by omega); subst this; simp; omega)).mono ?_
          rintro e w3 ⟨⟨gg, rfl, hgg, _⟩, hb2⟩
          rw [← l6, ← l14] at hgg
          exact ⟨⟨gg, rfl, hgg⟩, hb2, fun h => by cases h⟩
        · have e0 : u 0 = .agg #[.slice (some ⟨bd, od, none⟩) dl dc, .slice xa xl xc] := hd 0 (by omega) (by kernel_rfl)
          obtain ⟨g11, e17, h17⟩ := hd 17 (by omega) (by kernel_rfl)
          rw [e0, e17]
          go_simp
          have hw3 := Below.on HBN.out hb
          refine (rget_any _ _ _ ds _ _ _ Xs _ _ _ _ wz q (HDI.out.below hw3) hdc (HX2.out.below hw3) h17 HQ2.out hqx).mono ?_
          rintro e w3 ⟨rfl, hb2⟩
          rw [← HXV.out]
          exact ⟨rfl, hb2, fun h => by cases h⟩
      case rest =>
        intro u wz hb hf hp
        have f0 : u 0 = .agg #[.slice (some ⟨bd, od, none⟩) dl dc, .slice xa xl xc] := hf 0 (by omega)
        have f1 : u 1 = .slice (some ⟨g, 0, none⟩) l c := hf 1 (by omega)
        have f2 : u 2 = .int .i64 (l : Int) := hf 2 (by omega)
        have f3 : u 3 = .slice (some ⟨g, 0, none⟩) l c := hf 3 (by omega)
        have f4 : u 4 = .int .i64 (p : Int) := hf 4 (by omega)
        obtain ⟨_, _, _, f5, _⟩ := hf 5 (by omega)
        obtain ⟨_, _, _, f6, _⟩ := hf 6 (by omega)
        have f7 : u 7 = .slice (some ⟨g, 0, none⟩) l c := hf 7 (by omega)
        have f8 : u 8 = .slice (some ⟨g, 0, none⟩) l c := hf 8 (by omega)
        have f9 : u 9 = .int .i64 (p : Int) := hf 9 (by omega)
        obtain ⟨_, _, _, f10, _⟩ := hf 10 (by omega)
        obtain ⟨_, _, _, f11, _⟩ := hf 11 (by omega)
        obtain ⟨_, _, _, f12, _⟩ := hf 12 (by omega)
        have f13 : u 13 = .int .i64 (p : Int) := hf 13 (by omega)
        obtain ⟨_, _, _, f14, _⟩ := hf 14 (by omega)
        have f15 : u 15 = .int .i64 (NS : Int) := hf 15 (by omega)
        obtain ⟨_, _, _, f16, _⟩ := hf 16 (by omega)
        obtain ⟨_, f17, _⟩ := hf 17 (by omega)
        have f18 : u 18 = .int .i64 XV := hf 18 (by omega)
        refine UptoW.rest 1 19 (by rfl) (by kernel_rfl) ?_
        simp only [List.take, List.drop, putOps, Act.put, List.setIfInBounds_toArray, List.set_cons_zero, List.set_cons_succ, Nat.reduceAdd, f0, f1, f2, f3, f4, f5, f6, f7, f8, f9, f10, f11, f12, f13, f14, f15, f16, f17, f18]
        clear f0 f1 f2 f3 f4 f5 f6 f7 f8 f9 f10 f11 f12 f13 f14 f15 f16 f17 f18 hf hp
        have HBZ := hide (Below.on HBN.out hb)
        refine wpList_plain rfl (fun K hK => ?_)
        go_simp
        refine hK _ _ (wpList_nil ?_)
        clear hK K hb
        go_wp2
        go_ret
        exact ⟨congrArg (fun z => Ending.returned (Value.int .i64 z)) HXV.out, HBZ.out⟩
    · obtain ⟨⟨da, dl, dc, ds, xa, xl, xc⟩, hvs⟩ : ∃ u, u = v s := ⟨_, rfl⟩
      rw [← hvs] at c0 c1 k0 k1 hdi hdc hpd hKs
      simp only [ArrV.d, ArrV.x] at c0 c1 k0 k1 hdi hdc hpd hKs
      obtain ⟨bd, od, rfl, _, hcd⟩ := (hdi.below HB.out).at (by omega)
      have d0 := hcd p hpd
      rw [hKs] at d0
      have hdm := hdi.2.1
      have d0a := alloc_cell (o := .cells #[.slice (some ⟨bd, od, none⟩) dl dc, .slice xa xl xc] 25) d0
      have HNB := hide (ArrAt.new wr (.slice (some ⟨bd, od, none⟩) dl dc) (.slice xa xl xc))
      obtain ⟨⟨e0, e1⟩, _⟩ := HNB.out.cells
      have HBN := hide (HB.out.alloc HB.out.size (.cells #[.slice (some ⟨bd, od, none⟩) dl dc, .slice xa xl xc] 25))
      have i5 : (p : Int) < (dl : Int) := by omega
      have hb2 : beg K (s + 1) ≤ n0 := Nat.le_trans (beg_mono K (show s + 1 ≤ S0 by omega)) HBF.out
      rw [beg] at hb2
      have qk : decide (NS < K s) = false := decide_eq_false (by omega)
      have w1 : IntKind.i64.wrap ((NS : Int) - (K s : Int)) = ((NS - K s : Nat) : Int) := by rw [wrap_in _ (by omega) (by omega)]; omega
      clear hdi hKs c0 c1 hcd d0 hNS
      go_wp2
      go_roundw
      case rel => exact ⟨s + 1, by omega, by go_num, by rw [beg, HNS.out, Nat.sub_sub], HBN.out⟩
      case measure => simp [intOf]; omega
end Go.Proofs.YteoobeldmicjhaaGreat.V
namespace Go.Proofs.YteoobeldmicjhaaGreat.V
set_option maxRecDepth 20000
open Go.RowKit

set_option maxRecDepth 100000 in
set_option maxHeartbeats 4000000 in
theorem work_join (x : Int) (vd vl vh vs : Value) (Z : Option Addr) (nz cz g n : Nat) (pb po pl pc : Nat) (pv : Int) (b off m cap : Nat) (f : List Int) (w : World)
    (h0 : w.cell? ⟨pb, po, none⟩ = some (.int .i64 pv)) (hpl : 0 < pl) (hrow : w.rowIs g 2 n (fun _ => .int .i64 0))
    (hcall : ∀ W, Below w.heap.size w W → W.rowIs g 2 n (fun _ => .int .i64 0) → Calls Tryz.prog 45 #[.agg #[.slice Z nz cz, .slice (some ⟨g, 0, none⟩) n n], .int .i64 pv, .slice (some ⟨b, off, none⟩) m cap] W fun e W' => e = .returned (.tuple #[]) ∧ W'.rowIs g 2 n (fun j => .int .i64 (f[j]?.getD 0)) ∧ Save g W W') :
    Calls Tryz.prog 24 #[.agg #[.slice Z nz cz, .slice (some ⟨g, 0, none⟩) n n], .agg #[.int .i64 17, vd, .slice (some ⟨pb, po, none⟩) pl pc, vl, vh, vs, .int .i64 x], .slice (some ⟨b, off, none⟩) m cap] w fun e w' => e = .returned (.tuple #[]) ∧ w'.rowIs g 2 n (fun j => .int .i64 (f[j]?.getD 0)) ∧ Save g w w' := by
  have hgl : g < w.heap.size := hrow.lt
  have HB1 := hide ((Below.refl w.heap.size w).alloc (Nat.le_refl _) (.cells #[.slice Z nz cz, .slice (some ⟨g, 0, none⟩) n n] 25))
  have HB2 := hide (HB1.out.alloc HB1.out.size (.cells #[.int .i64 17, vd, .slice (some ⟨pb, po, none⟩) pl pc, vl, vh, vs, .int .i64 x] 31))
  have HAR := hide ((ArrAt.new w (.slice Z nz cz) (.slice (some ⟨g, 0, none⟩) n n)).alloc (.cells #[.int .i64 17, vd, .slice (some ⟨pb, po, none⟩) pl pc, vl, vh, vs, .int .i64 x] 31))
  have hop := OpAt.new (w.alloc (.cells #[.slice Z nz cz, .slice (some ⟨g, 0, none⟩) n n] 25)) 17 vd (.slice (some ⟨pb, po, none⟩) pl pc) vl vh vs x
  simp only [World.size_alloc] at hop
  have HOP := hide hop
  obtain ⟨⟨r0, r1⟩, _⟩ := HAR.out.cells
  obtain ⟨o0, o1, o2, o3, o4, o5, o6⟩ := HOP.out.cells
  have kp := (HB2.out.cell (p := ⟨pb, po, none⟩) (lt_of_cell h0)).trans h0
  have i0 : (0 : Int) < (pl : Int) := by omega
  have HR := hide hrow
  have HCL := hide hcall
  clear h0 hrow hop hcall
  go_enter Tryz.func24, Tryz.ntmps24
  go_wp2_with fail
  refine region_made 6 8 [fIs (.agg #[.slice Z nz cz, .slice (some ⟨g, 0, none⟩) n n]), fIs (.pointer (some ⟨w.heap.size + 1, 2, none⟩)), fIs (.slice (some ⟨pb, po, none⟩) pl pc), fIs (.pointer (some ⟨pb, po, none⟩)), fIs (.int .i64 pv), fIs (.slice (some ⟨b, off, none⟩) m cap)] (by kernel_rfl) (by kernel_rfl) (by kernel_rfl) (fun _ ⟨_, _⟩ ⟨_, _⟩ _ e h => by cases e; exact h) ⟨fIs_good _, fIs_good _, fIs_good _, fIs_good _, fIs_good _, fIs_good _, trivial⟩ ?mk ?rest
  case mk =>
    refine ⟨fun u wz hb hd => ?_, fun u wz hb hd => ?_, fun u wz hb hd => ?_, fun u wz hb hd => ?_, fun u wz hb hd => ?_, fun u wz hb hd => ?_, trivial⟩
    all_goals simp only [Act.put, List.setIfInBounds_toArray, List.set_cons_zero, List.set_cons_succ]
    · have r0' := (hb.cell (p := ⟨w.heap.size, 0, none⟩) (lt_of_cell r0)).trans r0
      have r1' := (hb.cell (p := ⟨w.heap.size, 1, none⟩) (lt_of_cell r1)).trans r1
      go_simp
      exact ⟨rfl, Below.refl _ _, fun h => by cases h⟩
    · go_simp
      exact ⟨rfl, Below.refl _ _, fun h => by cases h⟩
    · have e1 : u 1 = .pointer (some ⟨w.heap.size + 1, 2, none⟩) := hd 1 (by omega) (by kernel_rfl)
      rw [e1]
      have o2' := (hb.cell (p := ⟨w.heap.size + 1, 2, none⟩) (lt_of_cell o2)).trans o2
      go_simp
      exact ⟨rfl, Below.refl _ _, fun h => by cases h⟩
    · have e2 : u 2 = .slice (some ⟨pb, po, none⟩) pl pc := hd 2 (by omega) (by kernel_rfl)
      rw [e2]
      go_simp
      exact ⟨rfl, Below.refl _ _, fun h => by cases h⟩
    · have e3 : u 3 = .pointer (some ⟨pb, po, none⟩) := hd 3 (by omega) (by kernel_rfl)
      rw [e3]
      have kp' := (hb.cell (p := ⟨pb, po, none⟩) (lt_of_cell kp)).trans kp
      go_simp
      exact ⟨rfl, Below.refl _ _, fun h => by cases h⟩
    · go_simp
      exact ⟨rfl, Below.refl _ _, fun h => by cases h⟩
  case rest =>
    intro u wz hb hf hp
    have f0 : u 0 = .agg #[.slice Z nz cz, .slice (some ⟨g, 0, none⟩) n n] := hf 0 (by omega)
    have f1 : u 1 = .pointer (some ⟨w.heap.size + 1, 2, none⟩) := hf 1 (by omega)
    have f2 : u 2 = .slice (some ⟨pb, po, none⟩) pl pc := hf 2 (by omega)
    have f3 : u 3 = .pointer (some ⟨pb, po, none⟩) := hf 3 (by omega)
    have f4 : u 4 = .int .i64 pv := hf 4 (by omega)
    have f5 : u 5 = .slice (some ⟨b, off, none⟩) m cap := hf 5 (by omega)
    refine UptoW.rest 1 6 (by rfl) (by kernel_rfl) ?_
    simp only [List.take, List.drop, putOps, Act.put, List.setIfInBounds_toArray, List.set_cons_zero, List.set_cons_succ, Nat.reduceAdd, f0, f1, f2, f3, f4, f5]
    clear f0 f1 f2 f3 f4 f5 hf hp
    have HBz := hide (Below.on HB2.out hb)
    refine wpList_plain rfl (fun K hK => ?_)
    go_simp
    refine (HCL.out wz HBz.out (HR.out.of_block (HBz.out.block g hgl))).mono ?_
    rintro e w4 ⟨rfl, hr4, hsv⟩
    refine hK _ _ (wpList_nil ?_)
    have HR4 := hide hr4
    have HSV := hide hsv
    clear hK K hr4 hsv
    go_wp2
    exact bodyPost_end (v := .tuple #[]) (by simp [results, Tryz.results24, go_sem]) rfl ⟨rfl, HR4.out, ⟨fun c hc hne => (HSV.out.1 c (Nat.lt_of_lt_of_le hc HBz.out.size) hne).trans (HBz.out.block c hc), (HBz.out.mono (Nat.zero_le _)).trans HSV.out.2⟩⟩

theorem beg_mul (K : Nat → Nat) (B : Nat) : ∀ s, beg (fun s => K s * B) s = beg K s * B
  | 0 => by simp [beg]
  | s + 1 => by rw [beg, beg, beg_mul K B s, Nat.add_mul]
theorem split_at (ds : List Int) (p : Nat) (h : p < ds.length) : ds = ds.take p ++ ([ds[p]?.getD 0] ++ ds.drop (p + 1)) := by
  rw [List.getElem?_eq_getElem h]
  simp
theorem beg_find (K : Nat → Nat) : ∀ (m n : Nat), n < beg K m → ∃ s, s < m ∧ beg K s ≤ n ∧ n < beg K s + K s
  | 0, n, h => by simp [beg] at h
  | m + 1, n, h => by
    by_cases c : n < beg K m
    · obtain ⟨s, h1, h2, h3⟩ := beg_find K m n c
      exact ⟨s, by omega, h2, h3⟩
    · rw [beg] at h
      exact ⟨m, by omega, by omega, h⟩
theorem jF_find {X : Nat → List Int} {lg : Nat → Nat} {s r o : Nat} (h1 : beg lg s ≤ o) (h2 : o < beg lg s + lg s) : ∀ m, s < m → jF X lg m r o = (X s)[r * lg s + (o - beg lg s)]?.getD 0
  | 0, h => by omega
  | m + 1, h => by
    rw [jF]
    by_cases e : s = m
    · subst e; rw [if_pos ⟨h1, h2⟩]
    · have := beg_mono lg (s := s + 1) (t := m) (by omega)
      rw [beg] at this
      rw [if_neg (by omega), jF_find h1 h2 m (by omega)]
end Go.Proofs.YteoobeldmicjhaaGreat.V
namespace Go.Proofs.YteoobeldmicjhaaGreat.V
set_option maxRecDepth 20000
open Go.RowKit

/-- The dimensions of arrays that can be joined, in three parts. -/
structure Joined (v : Nat → ArrV) (m p : Nat) (L f rs : List Int) (K : Nat → Nat) (fr B : Nat) : Prop where
  pos : 1 ≤ m
  lenf : f.length = p
  dims : ∀ s, s < m → (v s).ds = f ++ ([(K s : Int)] ++ rs)
  made : L = f ++ ([((beg K m : Nat) : Int)] ++ rs)
  prodf : prod f = (fr : Int)
  prodr : prod rs = (B : Int)
  right : ∀ s, s < m → arrE (v s).ds (v s).xl = 0
  size : sizeE L = 0
theorem joinS_beg {v : Nat → ArrV} {K : Nat → Nat} {p : Nat} : ∀ m, (∀ s, s < m → (v s).ds[p]?.getD 0 = (K s : Int)) → joinS p (dimsOf m v) = ((beg K m : Nat) : Int)
  | 0, _ => rfl
  | m + 1, h => by
    have e : dimsOf (m + 1) v = dimsOf m v ++ [(v m).ds] := by simp [dimsOf, List.range_succ]
    rw [e, joinS_snoc, joinS_beg m (fun s hs => h s (by omega)), h m (by omega), beg]
    push_cast
    rfl
theorem joined_of {es ps lo hi st : List Int} {m : Nat} {v : Nat → ArrV} (hE : doE 17 es ps lo hi st m v = 0) :
    ∃ (p : Nat) (f rs : List Int) (K : Nat → Nat) (fr B : Nat), ps = [(p : Int)] ∧ Joined v m p (dimsP 17 es ps lo hi st (dimsOf m v)).1 f rs K fr B := by
  obtain ⟨c1, c2, c3⟩ := doE_ok hE
  have hm : 1 ≤ m := by rcases takes_ok c1 with ⟨h, _⟩ | ⟨_, h, _⟩ | ⟨h, _⟩ | ⟨_, h, _⟩ | ⟨_, h⟩ <;> omega
  obtain ⟨s1, s2, s3⟩ := dimsP_parts c3
  have hsh : shapeP 17 es ps lo hi st (dimsOf m v) = joinP ps (dimsOf m v) := rfl
  rw [hsh] at s1 s2 s3
  have hd0 : (dimsOf m v)[0]?.getD [] = (v 0).ds := dimsOf_at m v 0 (by omega)
  have hc : ps.length = 1 ∧ 0 ≤ joinAt ps ∧ joinAt ps < ((v 0).ds.length : Int) ∧ ((dimsOf m v).drop 1).all (joinB (joinAt ps).toNat (v 0).ds) = true ∧ (joinP ps (dimsOf m v)).1 = (v 0).ds.set (joinAt ps).toNat (joinS (joinAt ps).toNat (dimsOf m v)) := by
    unfold joinP at s1 ⊢
    rw [hd0] at s1 ⊢
    by_cases c : ps.length = 1 ∧ 0 ≤ joinAt ps ∧ joinAt ps < ((v 0).ds.length : Int) ∧ ((dimsOf m v).drop 1).all (joinB (joinAt ps).toNat (v 0).ds) = true
    · rw [if_pos c]; exact ⟨c.1, c.2.1, c.2.2.1, c.2.2.2, rfl⟩
    · rw [if_neg c] at s1; exact absurd s1 (by simp)
  obtain ⟨h1, h2, h3, h4, h5⟩ := hc
  obtain ⟨p, hp⟩ : ∃ p : Nat, joinAt ps = (p : Int) := ⟨(joinAt ps).toNat, by omega⟩
  rw [hp, Int.toNat_natCast] at h4 h5
  have hps : ps = [(p : Int)] := by
    match ps, h1 with
    | [a], _ => simpa [joinAt] using hp
  have hpl : p < (v 0).ds.length := by omega
  have hr := arrsE_ok m c2
  have hB : ∀ s, s < m → (v s).ds.length = (v 0).ds.length ∧ (v s).ds.take p = (v 0).ds.take p ∧ (v s).ds.drop (p + 1) = (v 0).ds.drop (p + 1) := fun s hs => by
    by_cases h0 : s = 0
    · subst h0; exact ⟨rfl, rfl, rfl⟩
    · have hmem : (v s).ds ∈ (dimsOf m v).drop 1 := by
        refine List.mem_iff_getElem?.2 ⟨s - 1, ?_⟩
        rw [List.getElem?_drop]
        have e : 1 + (s - 1) = s := by omega
        rw [e]
        simp [dimsOf, hs]
      have := List.all_eq_true.1 h4 _ hmem
      simpa [joinB, and_assoc] using this
  have hnn : ∀ s, s < m → ∀ x ∈ (v s).ds, 0 ≤ x := fun s hs => size_nn (arrE_ok (hr s hs)).1
  have hK : ∀ s, s < m → (v s).ds[p]?.getD 0 = ((((v s).ds[p]?.getD 0).toNat : Nat) : Int) := fun s hs => by
    have := hnn s hs _ (mem_getD (v s).ds p (by rw [(hB s hs).1]; exact hpl))
    omega
  have hn0 := hnn 0 (by omega)
  obtain ⟨fr, hfr⟩ := nat_prod (l := (v 0).ds.take p) (fun x hx => hn0 x (List.mem_of_mem_take hx))
  obtain ⟨B, hBB⟩ := nat_prod (l := (v 0).ds.drop (p + 1)) (fun x hx => hn0 x (List.mem_of_mem_drop hx))
  refine ⟨p, (v 0).ds.take p, (v 0).ds.drop (p + 1), fun s => ((v s).ds[p]?.getD 0).toNat, fr, B, hps, hm, by rw [List.length_take]; omega, fun s hs => ?_, ?_, hfr, hBB, hr, by rw [s3]; exact s2⟩
  · have h := split_at (v s).ds p (by rw [(hB s hs).1]; exact hpl)
    rw [(hB s hs).2.1, (hB s hs).2.2] at h
    conv => lhs; rw [h]
    rw [hK s hs]
    simp
  · rw [s3, h5, joinS_beg m hK]
    rw [List.set_eq_take_append_cons_drop, if_pos hpl]
    rfl
theorem Joined.numbers {v : Nat → ArrV} {m p : Nat} {L f rs : List Int} {K : Nat → Nat} {fr B : Nat} (h : Joined v m p L f rs K fr B) : prod L = ((fr * (beg K m * B) : Nat) : Int) ∧ ∀ s, s < m → (v s).xl = fr * (K s * B) := by
  have e : ∀ k : Nat, prod (f ++ ([(k : Int)] ++ rs)) = ((fr * (k * B) : Nat) : Int) := fun k => by
    rw [prod_append, prod_append, h.prodf, h.prodr]
    simp [prod]
  refine ⟨by rw [h.made, e], fun s hs => ?_⟩
  have := (arrE_ok (h.right s hs)).2.1
  rw [h.dims s hs, e] at this
  omega
/-- Which entry of which array an entry of a Join is. -/
theorem join_entry {v : Nat → ArrV} {m p : Nat} {L f rs : List Int} {K : Nat → Nat} {fr B i : Nat} (h : Joined v m p L f rs K fr B) (hi : i < (prod L).toNat) :
    ∃ (S0 n0 q : Nat), S0 < m ∧ (dig L i)[p]?.getD 0 = (n0 : Int) ∧ beg K S0 ≤ n0 ∧ n0 < beg K S0 + K S0 ∧ n0 ≤ 4096 ∧ q < (v S0).xl ∧
      placeN (v S0).ds ((dig L i).set p ((n0 - beg K S0 : Nat) : Int)) = (q : Int) ∧ ∀ X : Nat → List Int, jF X (fun s => K s * B) m (i / (beg K m * B)) (i % (beg K m * B)) = (X S0)[q]?.getD 0 := by
  have hz := h.size
  obtain ⟨hL, hx⟩ := h.numbers
  have hmade := h.made
  rw [hmade] at hz hi
  obtain ⟨a1, a2, A, B1, e1, e2, e3, e4, e5⟩ := dig_two hz hi
  obtain ⟨zf, zr⟩ := size_parts hz (fun x hx => by rcases List.mem_append.1 hx with g | g; exact a1 x g; exact a2 x g)
  have eB1 : B1 = beg K m * B := by
    rw [prod_append, h.prodr] at e2
    simp only [prod, Int.mul_one] at e2
    rw [← Int.natCast_mul] at e2
    omega
  subst eB1
  have hmod : i % (beg K m * B) < beg K m * B := Nat.mod_lt _ e3
  obtain ⟨b1, b2, A2, B2, f1, f2, f3, f4, f5⟩ := dig_two zr (n := i % (beg K m * B)) (by rw [e2]; omega)
  have eB2 : B2 = B := by have := h.prodr; omega
  subst eB2
  obtain ⟨zk, zrs⟩ := size_parts zr (fun x hx => by rcases List.mem_append.1 hx with g | g; exact b1 x g; exact b2 x g)
  obtain ⟨n0, hn0⟩ : ∃ n0, n0 = i % (beg K m * B2) / B2 := ⟨_, rfl⟩
  obtain ⟨o, ho⟩ : ∃ o, o = i % (beg K m * B2) % B2 := ⟨_, rfl⟩
  rw [← hn0, ← ho] at f5
  rw [← hn0] at f4
  have hob : o < B2 := by rw [ho]; exact Nat.mod_lt _ f3
  have hA2 : A2 = beg K m := by simp [prod] at f1; omega
  have hdk : dig [((beg K m : Nat) : Int)] ((n0 : Nat) : Int) = [(n0 : Int)] := by simp [dig, prod]
  rw [hdk] at f5
  rw [f5] at e5
  have hsum : i % (beg K m * B2) = n0 * B2 + o := by
    rw [hn0, ho]
    exact (Nat.div_add_mod' _ _).symm
  obtain ⟨S0, g1, g2, g3⟩ := beg_find K m n0 (by omega)
  have hlf := h.lenf
  have hl1 : (dig f ((i / (beg K m * B2) : Nat) : Int)).length = p := by rw [dig_length, hlf]
  have hkm : beg K m ≤ 4096 := by
    have := ((sizeE_ok hz).2.1 ((beg K m : Nat) : Int) (by simp)).2
    omega
  have hat : (dig L i)[p]?.getD 0 = (n0 : Int) := by
    rw [hmade, e5, List.getElem?_append_right (by omega), hl1]
    simp
  have hset : (dig L i).set p ((n0 - beg K S0 : Nat) : Int) = dig f ((i / (beg K m * B2) : Nat) : Int) ++ ([((n0 - beg K S0 : Nat) : Int)] ++ dig rs ((o : Nat) : Int)) := by
    rw [hmade, e5, List.set_append_right _ _ (by omega), hl1, Nat.sub_self]
    rfl
  have hds := h.dims S0 g1
  have hzs := (arrE_ok (h.right S0 g1)).1
  rw [hds] at hzs
  have hpos : ∀ x ∈ f ++ ([(K S0 : Int)] ++ rs), 1 ≤ x := fun x hx => by
    rcases List.mem_append.1 hx with g | g
    · exact a1 x g
    · rcases List.mem_append.1 g with g | g
      · simp at g; omega
      · exact b2 x g
  obtain ⟨_, zks⟩ := size_parts hzs hpos
  obtain ⟨zk1, _⟩ := size_parts zks (fun x hx => hpos x (by simp only [List.mem_append]; exact .inr (List.mem_append.1 hx)))
  have hfr := h.prodf
  have d1 := dig_place zf (i := i / (beg K m * B2)) (by omega)
  have d2 := dig_place zrs (i := o) (by have := h.prodr; omega)
  obtain ⟨io1, po1⟩ := place_one (r := ((n0 - beg K S0 : Nat) : Int)) zk1 (by omega) (by omega)
  have t1 := place_two zks zk1 zrs h.prodr (y := [((n0 - beg K S0 : Nat) : Int)]) (z := dig rs ((o : Nat) : Int)) rfl (dig_length _ _) io1 d2.2
  rw [po1, d2.1] at t1
  have io2 : IdxOk ([(K S0 : Int)] ++ rs) ([((n0 - beg K S0 : Nat) : Int)] ++ dig rs ((o : Nat) : Int)) := fun k hk => by
    match k with
    | 0 => simp; omega
    | k + 1 =>
      have := d2.2 k (by simp at hk; omega)
      simpa using this
  have hpb : prod ([(K S0 : Int)] ++ rs) = ((K S0 * B2 : Nat) : Int) := by rw [prod_append, h.prodr]; simp [prod]
  have t2 := place_two hzs zf zks hpb (y := dig f ((i / (beg K m * B2) : Nat) : Int)) (z := [((n0 - beg K S0 : Nat) : Int)] ++ dig rs ((o : Nat) : Int)) (dig_length _ _) (by simp [dig_length]) d1.2 io2
  rw [d1.1, t1] at t2
  have hq : i / (beg K m * B2) * (K S0 * B2) + ((n0 - beg K S0) * B2 + o) < fr * (K S0 * B2) := by
    refine row_lt (by omega) (row_lt (by omega) hob)
  refine ⟨S0, n0, i / (beg K m * B2) * (K S0 * B2) + ((n0 - beg K S0) * B2 + o), g1, hat, g2, g3, by omega, by rw [hx S0 g1]; exact hq, ?_, fun X => ?_⟩
  · rw [hset, hds, t2]
    push_cast
    rfl
  · have hb := beg_mul K B2 S0
    have x1 : beg K S0 * B2 ≤ n0 * B2 := Nat.mul_le_mul_right _ g2
    have x2 : (n0 + 1) * B2 ≤ (beg K S0 + K S0) * B2 := Nat.mul_le_mul_right _ g3
    rw [Nat.add_mul, Nat.one_mul, Nat.add_mul] at x2
    rw [jF_find (s := S0) (by rw [hb, hsum]; omega) (by rw [hb, hsum]; show _ < beg K S0 * B2 + K S0 * B2; omega) m g1, hb]
    congr 2
    rw [hsum, Nat.sub_mul]
    omega
end Go.Proofs.YteoobeldmicjhaaGreat.V
namespace Go.Proofs.YteoobeldmicjhaaGreat.V
set_option maxRecDepth 20000
open Go.RowKit

theorem join_index {at' : List Int} {l p : Nat} (hl : at'.length = l) (hp : p < l) (n' : Int) : setAll (setAll (List.replicate l 0) (freeL [(p : Int)] l) (taken at' (freeL [(p : Int)] l)) (freeL [(p : Int)] l).length) [(p : Int)] [n'] 1 = at'.set p n' := by
  have e : ∀ Z : List Int, setAll Z [(p : Int)] [n'] 1 = Z.set p n' := fun Z => by simp [setAll]
  rw [e]
  refine list_at_ext (by rw [List.length_set, List.length_set, setAll_length, List.length_replicate, hl]) (fun k hk => ?_)
  rw [List.length_set, hl] at hk
  by_cases c : p = k
  · subst c
    rw [List.getElem?_set_self (by rw [setAll_length, List.length_replicate]; exact hp), List.getElem?_set_self (by rw [hl]; exact hp)]
  · rw [List.getElem?_set_ne c, List.getElem?_set_ne c]
    obtain ⟨a, ha, e1⟩ := List.getElem_of_mem (mem_freeL.2 ⟨k, hk, rfl, inB_not.2 (show (k : Int) ∉ [(p : Int)] by simp; omega)⟩)
    have e2 : (freeL [(p : Int)] l)[a]?.getD 0 = (k : Int) := by rw [List.getElem?_eq_getElem ha]; exact e1
    have h := setAll_hit (zs := List.replicate l 0) (ps := freeL [(p : Int)] l) (vs := taken at' (freeL [(p : Int)] l)) (q := k) (j := a) (by simp; exact hk) (by rw [e2]; simp) (freeL [(p : Int)] l).length ha (fun i h1 h2 e3 => by
      have hg := once_at (free_once [(p : Int)] l) i h2
      have := once_inj (free_once [(p : Int)] l) h2 ha (by rw [e2]; omega)
      omega)
    rw [h, taken_at _ _ _ ha, e2, Int.toNat_natCast]
/-- What a Join makes. -/
def joinL (X : Nat → List Int) (K : Nat → Nat) (B m N : Nat) : List Int := (List.range N).map fun j => jF X (fun s => K s * B) m (j / (beg K m * B)) (j % (beg K m * B))
theorem joinL_length (X : Nat → List Int) (K : Nat → Nat) (B m N : Nat) : (joinL X K B m N).length = N := by simp [joinL]
theorem joinL_at (X : Nat → List Int) (K : Nat → Nat) (B m N j : Nat) (h : j < N) : (joinL X K B m N)[j]?.getD 0 = jF X (fun s => K s * B) m (j / (beg K m * B)) (j % (beg K m * B)) := by simp [joinL, h]
theorem bnd_joinL {v : Nat → ArrV} {X : Nat → List Int} {m p : Nat} {L f rs : List Int} {K : Nat → Nat} {fr B : Nat} (hJ : Joined v m p L f rs K fr B) (hX : ∀ j, j < m → Bnd (X j)) : Bnd (joinL X K B m (prod L).toNat) := fun y hy => by
  simp only [joinL, List.mem_map, List.mem_range] at hy
  obtain ⟨i, hi, rfl⟩ := hy
  obtain ⟨S0, n0, q, g1, _, _, _, _, _, _, g7⟩ := join_entry hJ hi
  rw [g7 X]
  exact bnd_at (hX S0 g1) q
theorem rdo_17 (x : Int) (ea : Option Addr) (el ec : Nat) (es : List Int) (pa : Option Addr) (pl pc : Nat) (ps : List Int) (la : Option Addr) (ll lc : Nat) (lo : List Int) (ha : Option Addr) (hl hc : Nat) (hi : List Int) (ta : Option Addr) (tl tc : Nat) (st : List Int) (b off m cap : Nat) (v : Nat → ArrV) (X : Nat → List Int) (w : World)
    (he : Lst w ea el ec es) (hp : Lst w pa pl pc ps) (hlo : Lst w la ll lc lo) (hhi : Lst w ha hl hc hi) (hst : Lst w ta tl tc st) (b0 : el ≤ 1048576) (b1 : pl ≤ 1048576) (b2 : ll ≤ 1048576) (b3 : hl ≤ 1048576) (b4 : tl ≤ 1048576) (hA : ∀ j, j < m → w.cell? ⟨b, off + j * 2, none⟩ = some (v j).d ∧ w.cell? ⟨b, off + j * 2 + 1, none⟩ = some (v j).x ∧ Lst w (v j).da (v j).dl (v j).dc (v j).ds) (hX : ∀ j, j < m → Ints w (v j).xa (v j).xl (X j)) (hm : m ≤ 1048576) (hE : doE 17 es ps lo hi st m v = 0) {p : Nat} {L f rs : List Int} {K : Nat → Nat} {fr B : Nat} (hps : ps = [(p : Int)]) (hL : L = (dimsP 17 es ps lo hi st (dimsOf m v)).1) (hJ : Joined v m p L f rs K fr B) :
    Calls Tryz.prog 8 #[.agg #[.int .i64 17, .slice ea el ec, .slice pa pl pc, .slice la ll lc, .slice ha hl hc, .slice ta tl tc, .int .i64 x], .slice (some ⟨b, off, none⟩) m cap] w fun e w' => DoesR L (joinL X K B m (prod L).toNat) (prod L).toNat e w' ∧ Below w.heap.size w w' := by
  have hpl := hp.1.1
  rw [hps] at hpl
  simp only [List.length_cons, List.length_nil] at hpl
  obtain ⟨pb, po, rfl, _, hpc⟩ := hp.1.at (by omega)
  have hp0 := hpc 0 (by omega)
  rw [hps] at hp0
  simp only [List.getElem?_cons_zero, Option.getD_some, Nat.add_zero] at hp0
  have h6 := (sizeE_ok hJ.size).1
  have hlf := hJ.lenf
  have hLl : L.length = p + (1 + rs.length) := by rw [hJ.made, List.length_append, List.length_append, hlf]; rfl
  refine rdo_gen 17 x ea el ec es (some ⟨pb, po, none⟩) pl pc ps la ll lc lo ha hl hc hi ta tl tc st (some ⟨b, off, none⟩) m cap v L (joinL X K B m (prod L).toNat) w he hp hlo hhi hst b0 b1 b2 b3 b4 (.inr ⟨b, off, rfl, hA⟩) hm hE hL (joinL_length _ _ _ _ _) (bnd_joinL hJ (fun j hj => (hX j hj).2.2.1)) ?_
  intro W hW i hi' g c hat hlc
  obtain ⟨S0, n0, q, g1, g2, g3, g4, g5, g6, g7, g8⟩ := join_entry hJ hi'
  rw [joinL_at _ _ _ _ _ _ hi', g8 X]
  refine rentry_join x (.slice ea el ec) (.slice (some ⟨pb, po, none⟩) pl pc) (.slice la ll lc) (.slice ha hl hc) (.slice ta tl tc) (.slice (some ⟨b, off, none⟩) m cap) (some ⟨g, 0, none⟩) L.length c i _ W (fun W2 hW2 => ?_)
  have hW1 := hW.trans (hW2.mono hW.size)
  refine joinE_any x (.slice ea el ec) (.slice la ll lc) (.slice ha hl hc) (.slice ta tl tc) pb po pl pc p b off m cap v K g L.length c (dig L i) W2 S0 n0 q (X S0) (by omega) ((hW1.cell (p := ⟨pb, po, none⟩) (lt_of_cell hp0)).trans hp0) (hat.below hW2) (by omega) h6 g2 g5 (fun s hs => ?_) ((hX S0 g1).below hW1) g1 hm g3 g4 ?_ g6
  · obtain ⟨a1, a2, a3⟩ := hA s (by omega)
    refine ⟨⟨(hW1.cell (p := ⟨b, off + s * 2, none⟩) (lt_of_cell a1)).trans a1, (hW1.cell (p := ⟨b, off + s * 2 + 1, none⟩) (lt_of_cell a2)).trans a2⟩, a3.1.below hW1, a3.2.1, ?_, ?_⟩
    · have := a3.1.1
      rw [hJ.dims s (by omega)] at this
      simp only [List.length_append, List.length_cons, List.length_nil, hlf] at this
      omega
    · rw [hJ.dims s (by omega), List.getElem?_append_right (by omega), hlf]
      simp
  · rw [join_index (dig_length _ _) (by omega)]
    exact g7
theorem do_17 (x : Int) (ea : Option Addr) (el ec : Nat) (es : List Int) (pa : Option Addr) (pl pc : Nat) (ps : List Int) (la : Option Addr) (ll lc : Nat) (lo : List Int) (ha : Option Addr) (hl hc : Nat) (hi : List Int) (ta : Option Addr) (tl tc : Nat) (st : List Int) (b off m cap : Nat) (v : Nat → ArrV) (X : Nat → List Int) (w : World)
    (he : Lst w ea el ec es) (hp : Lst w pa pl pc ps) (hlo : Lst w la ll lc lo) (hhi : Lst w ha hl hc hi) (hst : Lst w ta tl tc st) (b0 : el ≤ 1048576) (b1 : pl ≤ 1048576) (b2 : ll ≤ 1048576) (b3 : hl ≤ 1048576) (b4 : tl ≤ 1048576) (hA : ∀ j, j < m → w.cell? ⟨b, off + j * 2, none⟩ = some (v j).d ∧ w.cell? ⟨b, off + j * 2 + 1, none⟩ = some (v j).x ∧ Lst w (v j).da (v j).dl (v j).dc (v j).ds) (hX : ∀ j, j < m → Ints w (v j).xa (v j).xl (X j)) (hXc : ∀ j, j < m → (v j).xl ≤ (v j).xc) (hm : m ≤ 1048576) (hE : doE 17 es ps lo hi st m v = 0) {p : Nat} {L f rs : List Int} {K : Nat → Nat} {fr B : Nat} (hps : ps = [(p : Int)]) (hL : L = (dimsP 17 es ps lo hi st (dimsOf m v)).1) (hJ : Joined v m p L f rs K fr B) :
    Calls Tryz.prog 9 #[.agg #[.int .i64 17, .slice ea el ec, .slice pa pl pc, .slice la ll lc, .slice ha hl hc, .slice ta tl tc, .int .i64 x], .slice (some ⟨b, off, none⟩) m cap] w fun e w' => DoesTo w L (joinL X K B m (prod L).toNat) (prod L).toNat e w' ∧ Below w.heap.size w w' := by
  have hpl := hp.1.1
  rw [hps] at hpl
  simp only [List.length_cons, List.length_nil] at hpl
  obtain ⟨pb, po, rfl, _, hpc⟩ := hp.1.at (by omega)
  have hp0 := hpc 0 (by omega)
  rw [hps] at hp0
  simp only [List.getElem?_cons_zero, Option.getD_some, Nat.add_zero] at hp0
  have h6 := (sizeE_ok hJ.size).1
  have hlf := hJ.lenf
  have hLl : L.length = p + (1 + rs.length) := by rw [hJ.made, List.length_append, List.length_append, hlf]; rfl
  obtain ⟨hN, hxl⟩ := hJ.numbers
  obtain ⟨haL, hNN⟩ := arrE_of hJ.size
  have hN6 := (arrE_ok haL).2.2
  refine Do_good 17 x ea el ec es (some ⟨pb, po, none⟩) pl pc ps la ll lc lo ha hl hc hi ta tl tc st (some ⟨b, off, none⟩) m cap v L (prod L).toNat (joinL X K B m (prod L).toNat) w he hp hlo hhi hst b0 b1 b2 b3 b4 (.inr ⟨b, off, rfl, hA⟩) hm hE hL hNN (joinL_length _ _ _ _ _) (bnd_joinL hJ (fun j hj => (hX j hj).2.2.1)) ?_
  intro hpos W2 Z nz cz g hW2 hg hZ hzc hrow
  have hnz := hZ.1
  obtain ⟨bz, oz, rfl, _, _⟩ := hZ.at (by omega)
  have hLp : L[p]?.getD 0 = ((beg K m : Nat) : Int) := by
    rw [hJ.made, List.getElem?_append_right (by omega), hlf]
    simp
  have hdr : L.drop (p + 1) = rs := by
    rw [hJ.made, List.drop_append, List.drop_eq_nil_of_le (by omega), List.nil_append, show p + 1 - f.length = 1 by omega]
    rfl
  have hbk : b < w.heap.size := lt_of_cell (hA 0 hJ.pos).1
  have hrsl : rs.length ≤ 5 := by omega
  have hrsb : ∀ y ∈ rs, 0 ≤ y ∧ y ≤ 4096 := fun y hy => (sizeE_ok hJ.size).2.1 y (by rw [hJ.made]; simp [hy])
  refine work_join x (.slice ea el ec) (.slice la ll lc) (.slice ha hl hc) (.slice ta tl tc) (some ⟨bz, oz, none⟩) nz cz g (prod L).toNat pb po pl pc (p : Int) b off m cap (joinL X K B m (prod L).toNat) W2 ((hW2.cell (p := ⟨pb, po, none⟩) (lt_of_cell hp0)).trans hp0) (by omega) hrow (fun W3 hW3 hrow3 => ?_)
  have g3 := hW2.trans (hW3.mono hW2.size)
  refine (join_any g (prod L).toNat p B (beg K m * B) fr (beg K m) bz oz nz cz L b off m cap v X K W3 (hZ.below hW3) hzc (by omega) (by omega) (by rw [hdr]; exact hJ.prodr) (fun k _ => ?_) hLp rfl (fun s hs => ?_) (beg_mul K B m) (by rw [hN, Int.toNat_natCast]) hpos hN6 hm (by omega) hrow3).mono ?_
  · rw [hdr]
    have := prod_small5 (rs.take k) (fun y hy => hrsb y (List.mem_of_mem_take hy)) (by rw [List.length_take]; omega)
    omega
  · obtain ⟨a1, a2, a3⟩ := hA s hs
    have hdl : p < (v s).dl := by
      have := a3.1.1
      rw [hJ.dims s hs] at this
      simp only [List.length_append, List.length_cons, List.length_nil, hlf] at this
      omega
    refine ⟨⟨(g3.cell (p := ⟨b, off + s * 2, none⟩) (lt_of_cell a1)).trans a1, (g3.cell (p := ⟨b, off + s * 2 + 1, none⟩) (lt_of_cell a2)).trans a2⟩, ⟨a3.1.below g3, hdl, ?_, off_new (W := w) a3.1 (by omega) hg⟩, (hX s hs).below g3, hXc s hs, hxl s hs, fun h0 => off_new (W := w) (hX s hs) h0 hg⟩
    rw [hJ.dims s hs, List.getElem?_append_right (by omega), hlf]
    simp
  · rintro e w4 ⟨rfl, hr4, hsv⟩
    exact ⟨rfl, hr4.congr (fun j hj => by rw [joinL_at _ _ _ _ _ _ hj]), hsv⟩
end Go.Proofs.YteoobeldmicjhaaGreat.V
namespace Go.Proofs.YteoobeldmicjhaaGreat.V
set_option maxRecDepth 20000
open Go.RowKit

/-- The Cut that takes array s out of a Join. -/
def cutLo (n p b : Nat) : List Int := (List.replicate n 0).set p (b : Int)
def cutHi (L : List Int) (p b : Nat) : List Int := L.set p (b : Int)
theorem cutLo_at (n p b k : Nat) (hk : k < n) : (cutLo n p b)[k]?.getD 0 = if k = p then (b : Int) else 0 := by
  unfold cutLo
  rw [List.getElem?_set]
  by_cases c : p = k
  · subst c; rw [if_pos rfl, if_pos (by simpa using hk), if_pos rfl]; rfl
  · rw [if_neg c, if_neg (fun h => c h.symm)]; simp [hk]
theorem cutHi_at (L : List Int) (p b k : Nat) (hk : k < L.length) : (cutHi L p b)[k]?.getD 0 = if k = p then (b : Int) else L[k]?.getD 0 := by
  unfold cutHi
  rw [List.getElem?_set]
  by_cases c : p = k
  · subst c; rw [if_pos rfl, if_pos hk, if_pos rfl]; rfl
  · rw [if_neg c, if_neg (fun h => c h.symm)]
theorem ones_at (n k : Nat) (hk : k < n) : (List.replicate n (1 : Int))[k]?.getD 0 = 1 := by simp [hk]
theorem Joined.len {v : Nat → ArrV} {m p : Nat} {L f rs : List Int} {K : Nat → Nat} {fr B : Nat} (h : Joined v m p L f rs K fr B) : L.length = p + (1 + rs.length) ∧ ∀ s, s < m → (v s).ds.length = L.length := by
  have e : L.length = p + (1 + rs.length) := by rw [h.made, List.length_append, List.length_append, h.lenf]; rfl
  refine ⟨e, fun s hs => ?_⟩
  rw [e, h.dims s hs, List.length_append, List.length_append, h.lenf]; rfl
/-- The dimensions of a part are the Join's but for one. -/
theorem Joined.dim {v : Nat → ArrV} {m p : Nat} {L f rs : List Int} {K : Nat → Nat} {fr B : Nat} (h : Joined v m p L f rs K fr B) {s : Nat} (hs : s < m) {k : Nat} (_hk : k < L.length) : (v s).ds[k]?.getD 0 = if k = p then (K s : Int) else L[k]?.getD 0 := by
  have e := h.len.1
  have e2 := h.len.2 s hs
  have hlf := h.lenf
  rw [h.dims s hs, h.made]
  by_cases c : k = p
  · subst c
    rw [if_pos rfl, List.getElem?_append_right (by omega), hlf]
    simp
  · rw [if_neg c]
    by_cases c2 : k < p
    · rw [List.getElem?_append_left (by omega), List.getElem?_append_left (by omega)]
    · have ex : ∀ y : Int, (f ++ ([y] ++ rs))[k]? = ([y] ++ rs)[k - p]? := fun y => by rw [List.getElem?_append_right (by omega), hlf]
      rw [ex, ex]
      obtain ⟨d, hd⟩ : ∃ d, k - p = d + 1 := ⟨k - p - 1, by omega⟩
      rw [hd]
      rfl
theorem Joined.at {v : Nat → ArrV} {m p : Nat} {L f rs : List Int} {K : Nat → Nat} {fr B : Nat} (h : Joined v m p L f rs K fr B) : L[p]?.getD 0 = ((beg K m : Nat) : Int) := by
  rw [h.made, List.getElem?_append_right (by have := h.lenf; omega), h.lenf]
  simp
theorem cuts_dims {v : Nat → ArrV} {m p : Nat} {L f rs : List Int} {K : Nat → Nat} {fr B : Nat} (h : Joined v m p L f rs K fr B) {s : Nat} (hs : s < m) :
    cutD L (cutLo L.length p (beg K s)) (cutHi L p (beg K s + K s)) (List.replicate L.length 1) = (v s).ds ∧ lensB L.length (cutLo L.length p (beg K s)) (cutHi L p (beg K s + K s)) (List.replicate L.length 1) = true ∧ anyBad L (cutLo L.length p (beg K s)) (cutHi L p (beg K s + K s)) (List.replicate L.length 1) = false := by
  have hnn := size_nn h.size
  refine ⟨?_, lensB_true.2 ⟨by simp [cutLo], by simp [cutHi], by simp⟩, ?_⟩
  · refine List.ext_getElem? fun k => ?_
    by_cases hk : k < L.length
    · have h1 := cutD_getD L (cutLo L.length p (beg K s)) (cutHi L p (beg K s + K s)) (List.replicate L.length 1) k hk
      have h2 := h.dim hs hk
      rw [cutLo_at _ _ _ _ hk, cutHi_at _ _ _ _ hk, ones_at _ _ hk, keptN] at h1
      have hl1 : k < (cutD L (cutLo L.length p (beg K s)) (cutHi L p (beg K s + K s)) (List.replicate L.length 1)).length := by rw [cutD_length]; exact hk
      have hl2 : k < (v s).ds.length := by rw [h.len.2 s hs]; exact hk
      rw [List.getElem?_eq_getElem hl1] at h1 ⊢
      rw [List.getElem?_eq_getElem hl2] at h2 ⊢
      simp only [Option.getD_some] at h1 h2
      rw [h1, h2]
      by_cases c : k = p
      · subst c
        simp only [if_true]
        congr 1
        rw [Int.ediv_one]; push_cast; omega
      · simp only [if_neg c]
        congr 1
        rw [Int.ediv_one]; omega
    · rw [List.getElem?_eq_none (by rw [cutD_length]; omega), List.getElem?_eq_none (by rw [h.len.2 s hs]; omega)]
  · unfold anyBad
    rw [List.any_eq_false]
    intro k hk
    have hk := List.mem_range.1 hk
    unfold badAt
    rw [cutLo_at _ _ _ _ hk, cutHi_at _ _ _ _ hk, ones_at _ _ hk]
    have hx := hnn _ (mem_getD L k hk)
    by_cases c : k = p
    · subst c
      have := h.at
      have hb : beg K s + K s ≤ beg K m := beg_mono K (s := s + 1) (by omega)
      simp only [if_true]
      rw [this]
      simp [badCut]
      omega
    · simp only [if_neg c]
      simp [badCut]
      omega
theorem cuts_doE {v : Nat → ArrV} {m p : Nat} {L f rs : List Int} {K : Nat → Nat} {fr B : Nat} (h : Joined v m p L f rs K fr B) {s : Nat} (hs : s < m) :
    doE 13 [] [] (cutLo L.length p (beg K s)) (cutHi L p (beg K s + K s)) (List.replicate L.length 1) 1 (oneV L (prod L).toNat) = 0 := by
  obtain ⟨a1, a2, a3⟩ := cuts_dims h hs
  have hc := cut_whole h.size a2 a3
  have h1 : takesE 13 1 = 0 := by kernel_rfl
  have h2 : arrsE (oneV L (prod L).toNat) 1 = 0 := arrsE_all 1 (fun j hj => (arrE_of h.size).1)
  have h3 : dimsOf 1 (oneV L (prod L).toNat) = [L] := rfl
  have h5 : shapeP 13 [] [] (cutLo L.length p (beg K s)) (cutHi L p (beg K s + K s)) (List.replicate L.length 1) [L] = ((v s).ds, 0) := by
    have h4 : shapeP 13 [] [] (cutLo L.length p (beg K s)) (cutHi L p (beg K s + K s)) (List.replicate L.length 1) [L] = (okL (cutE 0 L (stepsV L) (cutLo L.length p (beg K s)) (cutHi L p (beg K s + K s)) (List.replicate L.length 1)) (cutD L (cutLo L.length p (beg K s)) (cutHi L p (beg K s + K s)) (List.replicate L.length 1)), cutE 0 L (stepsV L) (cutLo L.length p (beg K s)) (cutHi L p (beg K s + K s)) (List.replicate L.length 1)) := rfl
    rw [h4, hc, a1]; rfl
  have h6 : sizesE [L] = 0 := sizesE_all _ (fun t ht => by
    match t, ht with
    | 0, _ => exact h.size)
  unfold doE
  rw [if_neg (by rw [h1]; simp), if_neg (by rw [h2]; simp), h3]
  unfold dimsP
  rw [if_neg (by simp [h1]), if_neg (by rw [h6]; simp), h5, if_neg (by simp), if_neg (by rw [(arrE_ok (h.right s hs)).1]; simp)]
/-- Only one array holds a place. -/
theorem beg_one {K : Nat → Nat} {s t n : Nat} (h1 : beg K s ≤ n) (h2 : n < beg K s + K s) (h3 : beg K t ≤ n) (h4 : n < beg K t + K t) : s = t := by
  rcases Nat.lt_trichotomy s t with h | h | h
  · have : beg K s + K s ≤ beg K t := beg_mono K (s := s + 1) (by omega)
    omega
  · exact h
  · have : beg K t + K t ≤ beg K s := beg_mono K (s := t + 1) (by omega)
    omega
/-- WHAT WAS JOINED IS CUT OUT AGAIN AS IT WAS. -/
theorem cuts_back {v : Nat → ArrV} {X : Nat → List Int} {m p : Nat} {L f rs : List Int} {K : Nat → Nat} {fr B : Nat} (h : Joined v m p L f rs K fr B) {s : Nat} (hs : s < m) (hX : (X s).length = (v s).xl) :
    lookL (joinL X K B m (prod L).toNat) (readsV (cutAcc 0 (stepsV L) (cutLo L.length p (beg K s)) L.length) (cutD L (cutLo L.length p (beg K s)) (cutHi L p (beg K s + K s)) (List.replicate L.length 1)) (cutS (stepsV L) (List.replicate L.length 1))) = X s := by
  obtain ⟨a1, a2, a3⟩ := cuts_dims h hs
  have hzs := (arrE_ok (h.right s hs)).1
  have hxn := (arrE_ok (h.right s hs)).2.1
  have hthr := idx_cut (by rw [a1]; exact hzs) a3
  rw [a1] at hthr ⊢
  have hlen : (readsV (cutAcc 0 (stepsV L) (cutLo L.length p (beg K s)) L.length) (v s).ds (cutS (stepsV L) (List.replicate L.length 1))).length = (prod (v s).ds).toNat := readsV_length _ _ _
  have hpl : p < L.length := by have := h.len.1; omega
  refine list_at_ext (by rw [lookL_length, hlen, hX]; omega) fun i hi => ?_
  have hi : i < (prod (v s).ds).toNat := by omega
  rw [lookL_at _ _ _ (by rw [hlen]; exact hi)]
  obtain ⟨q0, q1, q2, q3⟩ := idx_read hthr h.size i hi
  obtain ⟨t1, t2, _⟩ := hthr i hi
  obtain ⟨q', r1, r2, r3⟩ := place_nat h.size t1 t2
  have eq' : q' = q0 := Int.ofNat.inj (r1.symm.trans q2)
  subst eq'
  have q3' : (readsV (cutAcc 0 (stepsV L) (cutLo L.length p (beg K s)) L.length) (v s).ds (cutS (stepsV L) (List.replicate L.length 1)))[i]?.getD 0 = (q' : Int) := q3
  rw [q3', Int.toNat_natCast, joinL_at _ _ _ _ _ _ q1]
  obtain ⟨S0, n0, q, g1, g2, g3, g4, g5, g6, g7, g8⟩ := join_entry h q1
  rw [g8 X]
  have hdp := dig_place hzs hi
  have hyk : ∀ k, k < L.length → (dig L q')[k]?.getD 0 = (if k = p then ((beg K s : Nat) : Int) else 0) + (dig (v s).ds i)[k]?.getD 0 := fun k hk => by
    rw [r3]
    simp only [List.getElem?_map, List.getElem?_range hk, Option.map_some, Option.getD_some]
    rw [cutLo_at _ _ _ _ hk, ones_at _ _ hk, Int.mul_one]
  have hyp := hyk p hpl
  rw [if_pos rfl, g2] at hyp
  have hds : (v s).ds.length = L.length := h.len.2 s hs
  have hb := hdp.2 p (by omega)
  rw [h.dim hs hpl, if_pos rfl] at hb
  obtain rfl : S0 = s := beg_one g3 g4 (by omega) (by omega)
  have hset : (dig L q').set p ((n0 - beg K S0 : Nat) : Int) = dig (v S0).ds i := by
    refine list_at_ext (by rw [List.length_set, dig_length, dig_length, hds]) fun k hk => ?_
    rw [dig_length, hds] at hk
    rw [List.getElem?_set]
    by_cases c : p = k
    · subst c
      rw [if_pos rfl, if_pos (by rw [dig_length]; exact hk)]
      simp only [Option.getD_some]
      omega
    · rw [if_neg c, hyk k hk, if_neg (fun h => c h.symm)]; omega
  rw [hset, hdp.1] at g7
  have : q = i := by omega
  rw [this]
end Go.Proofs.YteoobeldmicjhaaGreat.V
namespace Go.Proofs.YteoobeldmicjhaaGreat.V
set_option maxRecDepth 20000
open Go.RowKit

set_option maxRecDepth 100000 in
set_option maxHeartbeats 2000000 in
theorem cuts_err (A : Option Addr) (m cap : Nat) (v : Nat → ArrV) (at0 : Int) (w : World) (hat : -9223372036854775808 ≤ at0 ∧ at0 ≤ 9223372036854775807) (hA : Arrs w A m v) (hm : m ≤ 1048576) (hE : doE 17 [] [at0] [] [] [] m v ≠ 0) :
    Calls Tryz.prog 4 #[.slice A m cap, .int .i64 at0] w fun e w' => e = .returned (.bool true) ∧ Below w.heap.size w w' := by
  have HA := hide hA
  have HE := hide hE
  have hEb : (doE 17 [] [at0] [] [] [] m v != 0) = true := by simp [hE]
  clear hA hE
  go_enter Tryz.func4, Tryz.ntmps4
  go_wp2_with (first
    | (go_at_call 8; have hb4 := HB3.out.alloc HB3.out.size (.cells #[.int .i64 at0] 3); refine (rDo_bad 17 0 none 0 0 [] (some ⟨w1.heap.size, 0, none⟩) 1 1 [at0] none 0 0 [] none 0 0 [] none 0 0 [] A m cap v _ (lst_none _) ⟨ints_one at0 hat _ rfl, by omega, fun e => by cases e⟩ (lst_none _) (lst_none _) (lst_none _) (by omega) (by omega) (by omega) (by omega) (by omega) (HA.out.below hb4) hm HE.out).mono ?_; rintro e w2 ⟨rfl, hb⟩; have HB5 := hide (Below.on hb4 hb); clear hb4 hb)
    | (go_at_call 7; refine (alive2_any _).mono ?_; rintro e w1 ⟨rfl, hb⟩; have HB3 := hide hb; clear hb))
  go_ret
  exact ⟨rfl, HB5.out.alloc HB5.out.size _⟩
end Go.Proofs.YteoobeldmicjhaaGreat.V
namespace Go.Proofs.YteoobeldmicjhaaGreat.V
set_option maxRecDepth 20000
open Go.RowKit

theorem cut_lists {W : World} {G3 G7 G11 c3 c7 c11 nz p n0 n1 : Nat} {F3 F7 F11 : Nat → Value} {L : List Int} {v0 v1 : Int} (h3 : W.rowIs G3 3 c3 F3) (h7 : W.rowIs G7 3 c7 F7) (h11 : W.rowIs G11 3 c11 F11)
    (k3 : ∀ j, j < nz → F3 j = .int .i64 ((List.replicate nz (0 : Int))[j]?.getD 0)) (k7 : ∀ j, j < nz → F7 j = .int .i64 (L[j]?.getD 0)) (k11 : ∀ j, j < nz → F11 j = .int .i64 1) (hL : L.length = nz) (l3 : nz ≤ c3) (l7 : nz ≤ c7) (l11 : nz ≤ c11) (hn1 : G3 ≠ G7) (hn2 : G3 ≠ G11) (hn3 : G7 ≠ G11)
    (hLb : ∀ x ∈ L, -9223372036854775808 ≤ x ∧ x ≤ 9223372036854775807) (e0 : v0 = (n0 : Int)) (e1 : v1 = (n1 : Int)) (hb1 : n1 ≤ 9223372036854775807) (hb0 : n0 ≤ 9223372036854775807) (hz : nz ≤ 6) :
    Lst ((W.setCell ⟨G3, p, none⟩ (.int .i64 v0)).setCell ⟨G7, p, none⟩ (.int .i64 v1)) (some ⟨G3, 0, none⟩) nz c3 (cutLo nz p n0) ∧ Lst ((W.setCell ⟨G3, p, none⟩ (.int .i64 v0)).setCell ⟨G7, p, none⟩ (.int .i64 v1)) (some ⟨G7, 0, none⟩) nz c7 (cutHi L p n1) ∧ Lst ((W.setCell ⟨G3, p, none⟩ (.int .i64 v0)).setCell ⟨G7, p, none⟩ (.int .i64 v1)) (some ⟨G11, 0, none⟩) nz c11 (List.replicate nz 1) := by
  subst e0
  subst e1
  have q1 : (cutLo nz p n0).length = nz := by simp [cutLo]
  have q2 : (cutHi L p n1).length = nz := by simp [cutHi, hL]
  have r3 := (h3.set p (.int .i64 (n0 : Int))).setOther (a := ⟨G7, p, none⟩) hn1 (.int .i64 (n1 : Int))
  have r7 := (h7.setOther (a := ⟨G3, p, none⟩) (Ne.symm hn1) (.int .i64 (n0 : Int))).set p (.int .i64 (n1 : Int))
  have r11 := (h11.setOther (a := ⟨G3, p, none⟩) (Ne.symm hn2) (.int .i64 (n0 : Int))).setOther (a := ⟨G7, p, none⟩) (Ne.symm hn3) (.int .i64 (n1 : Int))
  have a3 := lst_of_rowC (cutLo nz p n0) r3 (by omega) (fun j hj => by
    rw [q1] at hj
    rw [cutLo_at nz p n0 j hj]
    by_cases e : j = p
    · simp [e]
    · simp only [if_neg e]
      rw [k3 j hj]; simp [hj]) (fun x hx => by
    unfold cutLo at hx
    rcases List.mem_or_eq_of_mem_set hx with h | h
    · have := List.eq_of_mem_replicate h; omega
    · omega) (by omega)
  have a7 := lst_of_rowC (cutHi L p n1) r7 (by omega) (fun j hj => by
    rw [q2] at hj
    rw [cutHi_at L p n1 j (by omega)]
    by_cases e : j = p
    · simp [e]
    · simp only [if_neg e]
      exact k7 j hj) (fun x hx => by
    unfold cutHi at hx
    rcases List.mem_or_eq_of_mem_set hx with h | h
    · exact hLb x h
    · omega) (by omega)
  have a11 := lst_of_rowC (List.replicate nz (1 : Int)) r11 (by simpa using l11) (fun j hj => by
    have hj' : j < nz := by simpa using hj
    rw [k11 j hj', ones_at nz j hj']) (fun x hx => by have := List.eq_of_mem_replicate hx; omega) (by simp; omega)
  rw [q1] at a3
  rw [q2] at a7
  rw [List.length_replicate] at a11
  exact ⟨a3, a7, a11⟩
end Go.Proofs.YteoobeldmicjhaaGreat.V
