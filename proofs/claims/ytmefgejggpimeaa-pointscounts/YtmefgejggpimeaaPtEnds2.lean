/-
  Contracts: points.Ends where something is wrong; the document's Ends.
-/
import Derived.Test.YtmefgejggpimeaaPtEnds
import Derived.Test.YtmefgejggpimeaaPtRefs
import Derived.Test.YtmefgejggpimeaaPtNewL
namespace Go.Proofs.Ytmefgejggpimeaa.V
open Go.RowKit
set_option linter.unusedVariables false

set_option maxHeartbeats 2000000 in
theorem ends_bad (ba : Option Addr) (bl bc : Nat) (box : List Int) (ra : Option Addr) (rl rc : Nat) (rs : List (List Int × Int)) (w : World) (h : Ints w ba bl box) (hr : Rws w ra rl rs) (hE : ptE box rs ≠ 0) :
    Calls Try.prog 12 #[.agg #[.slice ba bl bc, .slice ra rl rc]] w fun e w' => e = .returned (.tuple #[.slice none 0 0, .slice none 0 0, .int .i64 (ptE box rs)]) ∧ Below w.heap.size w w' := by
  have B1 : Below w.heap.size w ((((w.alloc (.cells #[.slice ba bl bc, .slice ra rl rc] 25)).alloc (.cells #[.slice none 0 0] 22)).alloc (.cells #[.slice none 0 0] 22)).alloc (.cells #[.int .i64 0] 26)) := bl_on (bl_new _) (bl_on (bl_new _) (bl_on (bl_new _) (bl_new _)))
  have R2 := ((Boxed.new (w.alloc (.cells #[.slice ba bl bc, .slice ra rl rc] 25)) 22 (.slice none 0 0)).alloc (.cells #[.slice none 0 0] 22)).alloc (.cells #[.int .i64 0] 26)
  have R3 := (Boxed.new ((w.alloc (.cells #[.slice ba bl bc, .slice ra rl rc] 25)).alloc (.cells #[.slice none 0 0] 22)) 22 (.slice none 0 0)).alloc (.cells #[.int .i64 0] 26)
  have R4 := Boxed.new (((w.alloc (.cells #[.slice ba bl bc, .slice ra rl rc] 25)).alloc (.cells #[.slice none 0 0] 22)).alloc (.cells #[.slice none 0 0] 22)) 26 (.int .i64 0)
  simp only [World.size_alloc] at R2 R3 R4
  have HW := hide (ptWrong_any ba bl bc box ra rl rc rs _ (h.below B1) (hr.below B1))
  have HB := hide B1
  have HR2 := hide R2
  have HR3 := hide R3
  have HR4 := hide R4
  have c2 : (ptE box rs != 0) = true := by simpa using hE
  clear h hr B1 hE R2 R3 R4
  go_enter Try.func12, Try.ntmps12
  go_wp2_with (go_at_call 10; refine HW.out.mono ?_; rintro e w1 ⟨rfl, hb⟩; have HB1 := hide (bl_on HB.out hb); have Q2 := hide ((hb.block _ HR2.out.lt).trans HR2.out); have Q3 := hide ((hb.block _ HR3.out.lt).trans HR3.out); have Q4 := hide ((hb.block _ HR4.out.lt).trans HR4.out); have q2 := Boxed.cell Q2.out; have q3 := Boxed.cell Q3.out; have q4 := Boxed.cell Q4.out; have f2 := Boxed.frozen Q2.out; have f3 := Boxed.frozen Q3.out; have f4 := Boxed.frozen Q4.out; have z4 := Boxed.lt Q4.out; clear hb)
  go_region
  all_goals go_wp2_with fail
  obtain ⟨E, hE⟩ : ∃ E, E = ptE box rs := ⟨_, rfl⟩
  rw [← hE]
  have XB := (((HB1.out.setCell (p := ⟨w.heap.size + 1 + 1 + 1, 0, none⟩) (by simp only; omega) (.int .i64 E)).setCell (p := ⟨w.heap.size + 1, 0, none⟩) (by simp only; omega) (.slice none 0 0)).setCell (p := ⟨w.heap.size + 1 + 1, 0, none⟩) (by simp only; omega) (.slice none 0 0)).setCell (p := ⟨w.heap.size + 1 + 1 + 1, 0, none⟩) (by simp only; omega) (.int .i64 E)
  have X2 : Boxed (((((w1.setCell ⟨w.heap.size + 1 + 1 + 1, 0, none⟩ (.int .i64 E)).setCell ⟨w.heap.size + 1, 0, none⟩ (.slice none 0 0)).setCell ⟨w.heap.size + 1 + 1, 0, none⟩ (.slice none 0 0)).setCell ⟨w.heap.size + 1 + 1 + 1, 0, none⟩ (.int .i64 E)).drew) (w.heap.size + 1) 22 (.slice none 0 0) := boxed_setRow (boxed_setRow (Boxed.set _ (boxed_setRow Q2.out (by omega) _ _)) (by omega) _ _) (by omega) _ _
  have X3 : Boxed (((((w1.setCell ⟨w.heap.size + 1 + 1 + 1, 0, none⟩ (.int .i64 E)).setCell ⟨w.heap.size + 1, 0, none⟩ (.slice none 0 0)).setCell ⟨w.heap.size + 1 + 1, 0, none⟩ (.slice none 0 0)).setCell ⟨w.heap.size + 1 + 1 + 1, 0, none⟩ (.int .i64 E)).drew) (w.heap.size + 1 + 1) 22 (.slice none 0 0) := boxed_setRow (Boxed.set _ (boxed_setRow (boxed_setRow Q3.out (by omega) _ _) (by omega) _ _)) (by omega) _ _
  have X4 : Boxed (((((w1.setCell ⟨w.heap.size + 1 + 1 + 1, 0, none⟩ (.int .i64 E)).setCell ⟨w.heap.size + 1, 0, none⟩ (.slice none 0 0)).setCell ⟨w.heap.size + 1 + 1, 0, none⟩ (.slice none 0 0)).setCell ⟨w.heap.size + 1 + 1 + 1, 0, none⟩ (.int .i64 E)).drew) (w.heap.size + 1 + 1 + 1) 26 (.int .i64 E) := Boxed.set _ (boxed_setRow (boxed_setRow (Boxed.set _ Q4.out) (by omega) _ _) (by omega) _ _)
  have Y2 := X2.cell
  have Y3 := X3.cell
  have Y4 := X4.cell
  exact bodyPost_ret (v := .tuple #[.slice none 0 0, .slice none 0 0, .int .i64 E]) (by simp [results, Try.results12, go_sem, Y2, Y3, Y4]) rfl ⟨rfl, XB.drew⟩

theorem ends_all (ba : Option Addr) (bl bc : Nat) (box : List Int) (ra : Option Addr) (rl rc : Nat) (rs : List (List Int × Int)) (w : World) (h : Ints w ba bl box) (hr : Rws w ra rl rs) :
    Calls Try.prog 12 #[.agg #[.slice ba bl bc, .slice ra rl rc]] w fun e w' => (if ptE box rs = 0 then EndsTold (pts box rs) e w' else e = .returned (.tuple #[.slice none 0 0, .slice none 0 0, .int .i64 (ptE box rs)])) ∧ Below w.heap.size w w' := by
  by_cases hE : ptE box rs = 0
  · simp only [if_pos hE]
    exact callsIn_wide.1 (ends_ok ba bl bc box ra rl rc rs w h hr hE)
  · simp only [if_neg hE]
    exact ends_bad ba bl bc box ra rl rc rs w h hr hE

/-- The two rows of the document's Ends (if there are numbers at all). -/
def TwoAt (len g1 g2 c1 c2 N : Nat) (lo hi : Nat → Int) (W : World) : Prop := len = 0 ∨ ((∃ f, W.rowIs g1 3 c1 f ∧ ∀ j, j < len → f j = .int .i64 (lo j)) ∧ (∃ f, W.rowIs g2 3 c2 f ∧ ∀ j, j < len → f j = .int .i64 (hi j)) ∧ g1 ≠ g2 ∧ N ≤ g1 ∧ N ≤ g2 ∧ len ≤ c1 ∧ len ≤ c2)
theorem row_cellF {W : World} {g c : Nat} {f : Nat → Value} {v : Value} (h : W.rowIs g 3 c f) {j : Nat} (hj : j < c) (e : f j = v) : W.cell? ⟨g, j, none⟩ = some v := by rw [← e]; exact h.cell hj
theorem TwoAt.cells {len g1 g2 c1 c2 N : Nat} {lo hi : Nat → Int} {W : World} (h : TwoAt len g1 g2 c1 c2 N lo hi W) {j : Nat} (hj : j < len) : (W.cell? ⟨g1, j, none⟩ = some (.int .i64 (lo j)) ∧ W.cell? ⟨g2, j, none⟩ = some (.int .i64 (hi j)) ∧ W.frozen? ⟨g1, j, none⟩ = false ∧ W.frozen? ⟨g2, j, none⟩ = false) ∧ g1 ≠ g2 ∧ N ≤ g1 ∧ N ≤ g2 ∧ g1 < W.heap.size ∧ g2 < W.heap.size := by
  rcases h with h | ⟨⟨f, r1, e1⟩, ⟨f', r2, e2⟩, h3, h4, h5, h6, h7⟩
  · omega
  · exact ⟨⟨row_cellF r1 (by omega) (e1 j hj), row_cellF r2 (by omega) (e2 j hj), r1.frozen j, r2.frozen j⟩, h3, h4, h5, r1.lt, r2.lt⟩
theorem TwoAt.set1 {len g1 g2 c1 c2 N : Nat} {lo hi : Nat → Int} {W : World} (h : TwoAt len g1 g2 c1 c2 N lo hi W) (k : Nat) (v : Int) : TwoAt len g1 g2 c1 c2 N (fun j => if j = k then v else lo j) hi (W.setCell ⟨g1, k, none⟩ (.int .i64 v)) := by
  rcases h with h | ⟨⟨f, r1, e1⟩, ⟨f', r2, e2⟩, h3, h4⟩
  · exact .inl h
  · refine .inr ⟨⟨_, r1.set k (.int .i64 v), fun j hj => ?_⟩, ⟨f', r2.setOther (a := ⟨g1, k, none⟩) (Ne.symm h3) _, e2⟩, h3, h4⟩
    by_cases e : j = k
    · simp [e]
    · simp only [e, if_false]; exact e1 j hj
theorem TwoAt.set2 {len g1 g2 c1 c2 N : Nat} {lo hi : Nat → Int} {W : World} (h : TwoAt len g1 g2 c1 c2 N lo hi W) (k : Nat) (v : Int) : TwoAt len g1 g2 c1 c2 N lo (fun j => if j = k then v else hi j) (W.setCell ⟨g2, k, none⟩ (.int .i64 v)) := by
  rcases h with h | ⟨⟨f, r1, e1⟩, ⟨f', r2, e2⟩, h3, h4⟩
  · exact .inl h
  · refine .inr ⟨⟨f, r1.setOther (a := ⟨g2, k, none⟩) h3 _, e1⟩, ⟨_, r2.set k (.int .i64 v), fun j hj => ?_⟩, h3, h4⟩
    by_cases e : j = k
    · simp [e]
    · simp only [e, if_false]; exact e2 j hj
theorem TwoAt.congr {len g1 g2 c1 c2 N : Nat} {lo hi lo' hi' : Nat → Int} {W : World} (h : TwoAt len g1 g2 c1 c2 N lo hi W) (h1 : ∀ j, j < len → lo j = lo' j) (h2 : ∀ j, j < len → hi j = hi' j) : TwoAt len g1 g2 c1 c2 N lo' hi' W := by
  rcases h with h | ⟨⟨f, r1, e1⟩, ⟨f', r2, e2⟩, h3⟩
  · exact .inl h
  · exact .inr ⟨⟨f, r1, fun j hj => by rw [e1 j hj, h1 j hj]⟩, ⟨f', r2, fun j hj => by rw [e2 j hj, h2 j hj]⟩, h3⟩
theorem TwoAt.ints1 {len g1 g2 c1 c2 N : Nat} {lo hi : Nat → Int} {W : World} (h : TwoAt len g1 g2 c1 c2 N lo hi W) {xs : List Int} (hx : Sm xs len) (hl : len ≤ 4) (he : ∀ j, j < len → lo j = xs[j]?.getD 0) : Ints W (some ⟨g1, 0, none⟩) len xs := by
  refine ⟨hx.1, by omega, fun y hy => by have := hx.2 y hy; omega, ?_⟩
  by_cases h0 : len = 0
  · exact .inl h0
  · exact .inr ⟨g1, 0, rfl, fun j hj => by rw [Nat.zero_add, ← he j hj]; exact (h.cells hj).1.1⟩
theorem TwoAt.ints2 {len g1 g2 c1 c2 N : Nat} {lo hi : Nat → Int} {W : World} (h : TwoAt len g1 g2 c1 c2 N lo hi W) {xs : List Int} (hx : Sm xs len) (hl : len ≤ 4) (he : ∀ j, j < len → hi j = xs[j]?.getD 0) : Ints W (some ⟨g2, 0, none⟩) len xs := by
  refine ⟨hx.1, by omega, fun y hy => by have := hx.2 y hy; omega, ?_⟩
  by_cases h0 : len = 0
  · exact .inl h0
  · exact .inr ⟨g2, 0, rfl, fun j hj => by rw [Nat.zero_add, ← he j hj]; exact (h.cells hj).1.2.1⟩
theorem lowL_take (L : List (List Int)) (k : Nat) (h : k < L.length) (h0 : 0 < k) : lowL (L.take (k + 1)) = both2 min (lowL (L.take k)) (L[k]?.getD []) := by
  rw [take_succL L k h]
  exact lowL_snoc _ _ (by intro e; have h1 := congrArg List.length e; rw [List.length_take] at h1; simp only [List.length_nil] at h1; omega)
theorem highL_take (L : List (List Int)) (k : Nat) (h : k < L.length) (h0 : 0 < k) : highL (L.take (k + 1)) = both2 max (highL (L.take k)) (L[k]?.getD []) := by
  rw [take_succL L k h]
  exact highL_snoc _ _ (by intro e; have h1 := congrArg List.length e; rw [List.length_take] at h1; simp only [List.length_nil] at h1; omega)
/-- What has been gathered of the first k points (of none: the first one). -/
def lowK (L : List (List Int)) (k : Nat) : List Int := if k = 0 then L[0]?.getD [] else lowL (L.take k)
def highK (L : List (List Int)) (k : Nat) : List Int := if k = 0 then L[0]?.getD [] else highL (L.take k)
theorem lowK_succ (L : List (List Int)) (k : Nat) (h : k < L.length) : lowK L (k + 1) = both2 min (lowK L k) (L[k]?.getD []) := by
  unfold lowK
  rw [if_neg (by omega)]
  by_cases h0 : k = 0
  · subst h0
    rw [if_pos rfl, both2_self min (fun x => by omega), take_succL L 0 h, List.take_zero, List.nil_append, lowL_one]
  · rw [if_neg h0]; exact lowL_take L k h (by omega)
theorem highK_succ (L : List (List Int)) (k : Nat) (h : k < L.length) : highK L (k + 1) = both2 max (highK L k) (L[k]?.getD []) := by
  unfold highK
  rw [if_neg (by omega)]
  by_cases h0 : k = 0
  · subst h0
    rw [if_pos rfl, both2_self max (fun x => by omega), take_succL L 0 h, List.take_zero, List.nil_append, highL_one]
  · rw [if_neg h0]; exact highL_take L k h (by omega)
theorem lowK_all (L : List (List Int)) (h : 0 < L.length) : lowK L L.length = lowL L := by unfold lowK; rw [if_neg (by omega), List.take_length]
theorem highK_all (L : List (List Int)) (h : 0 < L.length) : highK L L.length = highL L := by unfold highK; rw [if_neg (by omega), List.take_length]
theorem sm_lowK {L : List (List Int)} {len k : Nat} (h : 0 < L.length) (hL : ∀ y ∈ L, Sm y len) : Sm (lowK L k) len := by
  unfold lowK
  split
  · exact hL _ (by simp [h])
  · rename_i hk
    exact sm_low (by intro e; have h1 := congrArg List.length e; rw [List.length_take] at h1; simp only [List.length_nil] at h1; omega) (fun y hy => hL y (List.mem_of_mem_take hy))
theorem sm_highK {L : List (List Int)} {len k : Nat} (h : 0 < L.length) (hL : ∀ y ∈ L, Sm y len) : Sm (highK L k) len := by
  unfold highK
  split
  · exact hL _ (by simp [h])
  · rename_i hk
    exact sm_high (by intro e; have h1 := congrArg List.length e; rw [List.length_take] at h1; simp only [List.length_nil] at h1; omega) (fun y hy => hL y (List.mem_of_mem_take hy))

set_option maxRecDepth 100000 in
set_option maxHeartbeats 8000000 in
theorem rEnds_any (ba : Option Addr) (bl bc : Nat) (box : List Int) (ra : Option Addr) (rl rc : Nat) (rs : List (List Int × Int)) (w : World) (h : Lst w ba bl bc box) (hr : Rws w ra rl rs) :
    Calls Try.prog 13 #[.agg #[.slice ba bl bc, .slice ra rl rc]] w fun e w' => (if ptE box rs = 0 then EndsTold (pts box rs) e w' else e = .returned (.tuple #[.slice none 0 0, .slice none 0 0, .int .i64 (ptE box rs)])) ∧ Below w.heap.size w w' := by
  have B1 : Below w.heap.size w (w.alloc (.cells #[.slice ba bl bc, .slice ra rl rc] 25)) := bl_new _
  have HW := hide (rptWrong_any ba bl bc box ra rl rc rs _ (h.1.below B1) (hr.below B1))
  have HP := hide (PtAt.new w ba bl bc ra rl rc)
  have HB := hide B1
  have H := hide h
  have HR := hide hr
  have HBL := hide h.1.1
  clear h hr B1
  by_cases hE : ptE box rs = 0
  · have HE := hide hE
    have HO := hide (ptE_ok hE)
    simp only [if_pos hE]
    have hbl4 : bl ≤ 4 := by have := HBL.out; have := HO.out.rank; omega
    clear hE
    obtain ⟨N, hN⟩ : ∃ N, N = (pts box rs).length := ⟨_, rfl⟩
    have hN4 : N ≤ 4096 := by rw [hN]; exact pts_len HO.out
    have HA := hide (fun W (hb : Below w.heap.size w W) => rAll_ok ba bl bc box ra rl rc rs W (H.out.below hb) (HR.out.below hb) HO.out)
    rw [← hN] at HA
    have HN := hide hN
    clear hN
    by_cases hn : N = 0
    · have hnil : pts box rs = [] := by rw [← List.length_eq_zero_iff, ← HN.out]; exact hn
      have HT : Hid (∀ W, EndsTold (pts box rs) (.returned (.tuple #[.slice none 0 0, .slice none 0 0, .int .i64 9])) W) := fun W => ⟨none, 0, 0, none, 0, 0, by rw [if_pos hnil], by rw [hnil]; exact ints_nil _, by rw [hnil]; exact ints_nil _⟩
      subst hn
      clear hnil
      go_enter Try.func13, Try.ntmps13
      go_wp2_with (first
        | (go_at_call 11; refine HW.out.mono ?_; rintro e w1 ⟨rfl, hb⟩; rw [HE.out]; have HB1 := hide (bl_on HB.out hb); have P1 := HP.out.below hb; obtain ⟨p0, p1⟩ := P1.cells; have zP := P1.lt; clear hb P1)
        | (go_at_call 21; refine (HA.out w1 HB1.out).mono ?_; rintro e w2 ⟨⟨A, c, rfl, hl⟩, hb⟩; have HB2 := hide (bl_on HB1.out hb); have HLL := hide hl; clear hb hl))
      refine bodyPost_ret (v := .tuple #[.slice none 0 0, .slice none 0 0, .int .i64 9]) (by simp [results, Try.results13, go_sem]) rfl ⟨HT.out _, HB2.out⟩
    · have hne : ((N : Int) == 0) = false := by simp; omega
      go_enter Try.func13, Try.ntmps13
      go_wp2_with (first
        | (go_at_call 11; refine HW.out.mono ?_; rintro e w1 ⟨rfl, hb⟩; rw [HE.out]; have HB1 := hide (bl_on HB.out hb); have P1 := HP.out.below hb; obtain ⟨p0, p1⟩ := P1.cells; have zP := P1.lt; clear hb P1)
        | (go_at_call 21; refine (HA.out w1 HB1.out).mono ?_; rintro e w2 ⟨⟨A, c, rfl, hl⟩, hb⟩; have HB2 := hide (bl_on HB1.out hb); have HLL := hide hl; clear hb hl))
      obtain ⟨b, off, rfl, hat⟩ := HLL.out.at (by omega)
      obtain ⟨xa, xl, xc, x1, x2, _⟩ := hat 0 (by omega)
      have HAT := hide hat
      rw [Nat.add_zero] at x1
      have hsm : ∀ y ∈ pts box rs, Sm y bl := fun y hy => by
        obtain ⟨p, hp, rfl, _⟩ := pts_mem hy
        have := index_bd HO.out hp
        exact ⟨by rw [this.2, HBL.out], this.1⟩
      have hNl : 0 < (pts box rs).length := by rw [← HN.out]; omega
      have HNE : Hid (¬ pts box rs = []) := by intro e; rw [e] at hNl; simp at hNl
      have HSX0 := hide (hsm _ (show (pts box rs)[0]?.getD [] ∈ pts box rs by simp [hNl]))
      have HSM := hide hsm
      obtain ⟨x0, hx0⟩ : ∃ x0, x0 = (pts box rs)[0]?.getD [] := ⟨_, rfl⟩
      rw [← hx0] at x2 HSX0
      obtain rfl : xl = bl := by have := x2.1.1; have := HSX0.out.1; omega
      have HX0 := hide x2
      have HX0E := hide hx0
      have zx := lt_of_cell x1
      simp only at zx
      have hN0 : 0 < N := by omega
      clear hat x2 hsm hx0 p0 p1 zP
      by_cases hbl0 : xl = 0
      · refine region_made 10 14 [fPtVoid, fIs (.slice (some ⟨b, off, none⟩) N c), fIs (.pointer (some ⟨b, off, none⟩)), fIs (.slice xa xl xc), fPtNo, fPtVoid, fIs (.slice (some ⟨b, off, none⟩) N c), fIs (.pointer (some ⟨b, off, none⟩)), fIs (.slice xa xl xc), fPtNo] (by kernel_rfl) (by kernel_rfl) (by kernel_rfl) (fun _ ⟨_, _⟩ ⟨_, _⟩ _ e h => by cases e; exact h) ⟨fPtVoid_good, fIs_good _, fIs_good _, fIs_good _, fPtNo_good, fPtVoid_good, fIs_good _, fIs_good _, fIs_good _, fPtNo_good, trivial⟩ ?mk ?rest
        case mk =>
          refine ⟨fun u wz hb hd => ?_, fun u wz hb hd => ?_, fun u wz hb hd => ?_, fun u wz hb hd => ?_, fun u wz hb hd => ?_, fun u wz hb hd => ?_, fun u wz hb hd => ?_, fun u wz hb hd => ?_, fun u wz hb hd => ?_, fun u wz hb hd => ?_, trivial⟩
          all_goals simp only [Act.put, List.setIfInBounds_toArray, List.set_cons_zero, List.set_cons_succ]
          · go_simp
            exact ⟨⟨_, rfl, World.alloc_heap_new _ _⟩, bl_new _, fun h => by cases h⟩
          · go_simp
            exact ⟨rfl, Below.refl _ _, fun h => by cases h⟩
          · have e1 : u 1 = .slice (some ⟨b, off, none⟩) N c := hd 1 (by omega) (by kernel_rfl)
            rw [e1]
            go_simp
            exact ⟨rfl, Below.refl _ _, fun h => by cases h⟩
          · have e2 : u 2 = .pointer (some ⟨b, off, none⟩) := hd 2 (by omega) (by kernel_rfl)
            rw [e2]
            have x1' := (hb.cell (p := ⟨b, off, none⟩) (lt_of_cell x1)).trans x1
            go_simp
            exact ⟨rfl, Below.refl _ _, fun h => by cases h⟩
          · obtain ⟨B0, e0, e0'⟩ : ∃ B, u 0 = .slice (some ⟨B, 0, none⟩) 0 0 ∧ wz.heap[B]? = some (.cells #[] 3 (0, 0)) := hd 0 (by omega) (by kernel_rfl)
            have e3 : u 3 = .slice xa xl xc := hd 3 (by omega) (by kernel_rfl)
            rw [e0, e3]
            exact pt_append_none (.tmp 23) (.tmp 26) rfl B0 xc xa rfl e0' (by rw [hbl0]; rfl) HX0.out.2.2 (fun w' k => ⟨_, rfl, ⟨B0, rfl⟩, k, fun h => by cases h⟩)
          · go_simp
            exact ⟨⟨_, rfl, World.alloc_heap_new _ _⟩, bl_new _, fun h => by cases h⟩
          · go_simp
            exact ⟨rfl, Below.refl _ _, fun h => by cases h⟩
          · have e1 : u 6 = .slice (some ⟨b, off, none⟩) N c := hd 6 (by omega) (by kernel_rfl)
            rw [e1]
            go_simp
            exact ⟨rfl, Below.refl _ _, fun h => by cases h⟩
          · have e2 : u 7 = .pointer (some ⟨b, off, none⟩) := hd 7 (by omega) (by kernel_rfl)
            rw [e2]
            have x1' := (hb.cell (p := ⟨b, off, none⟩) (lt_of_cell x1)).trans x1
            go_simp
            exact ⟨rfl, Below.refl _ _, fun h => by cases h⟩
          · obtain ⟨B0, e0, e0'⟩ : ∃ B, u 5 = .slice (some ⟨B, 0, none⟩) 0 0 ∧ wz.heap[B]? = some (.cells #[] 3 (0, 0)) := hd 5 (by omega) (by kernel_rfl)
            have e3 : u 8 = .slice xa xl xc := hd 8 (by omega) (by kernel_rfl)
            rw [e0, e3]
            exact pt_append_none (.tmp 28) (.tmp 31) rfl B0 xc xa rfl e0' (by rw [hbl0]; rfl) HX0.out.2.2 (fun w' k => ⟨_, rfl, ⟨B0, rfl⟩, k, fun h => by cases h⟩)
        case rest =>
          intro u wz hb hf hp
          have f1 : u 1 = .slice (some ⟨b, off, none⟩) N c := hf 1 (by omega)
          have f6 : u 6 = .slice (some ⟨b, off, none⟩) N c := hf 6 (by omega)
          have f2 : u 2 = .pointer (some ⟨b, off, none⟩) := hf 2 (by omega)
          have f7 : u 7 = .pointer (some ⟨b, off, none⟩) := hf 7 (by omega)
          have f3 : u 3 = .slice xa xl xc := hf 3 (by omega)
          have f8 : u 8 = .slice xa xl xc := hf 8 (by omega)
          obtain ⟨g1, f4⟩ : ∃ B, u 4 = .slice (some ⟨B, 0, none⟩) 0 0 := hf 4 (by omega)
          obtain ⟨g2, f9⟩ : ∃ B, u 9 = .slice (some ⟨B, 0, none⟩) 0 0 := hf 9 (by omega)
          obtain ⟨c1, hc1⟩ : ∃ c1 : Nat, c1 = 0 := ⟨_, rfl⟩
          obtain ⟨c2, hc2⟩ : ∃ c2 : Nat, c2 = 0 := ⟨_, rfl⟩
          have hTA : TwoAt xl g1 g2 c1 c2 w2.heap.size (fun j => x0[j]?.getD 0) (fun j => x0[j]?.getD 0) wz := .inl hbl0
          rw [show (Value.slice (some ⟨g1, 0, none⟩) 0 0) = .slice (some ⟨g1, 0, none⟩) xl c1 by rw [hbl0, hc1]] at f4
          rw [show (Value.slice (some ⟨g2, 0, none⟩) 0 0) = .slice (some ⟨g2, 0, none⟩) xl c2 by rw [hbl0, hc2]] at f9
          obtain ⟨B0, f0, _⟩ : ∃ B, u 0 = .slice (some ⟨B, 0, none⟩) 0 0 ∧ wz.heap[B]? = some (.cells #[] 3 (0, 0)) := hf 0 (by omega)
          obtain ⟨B5, f5, _⟩ : ∃ B, u 5 = .slice (some ⟨B, 0, none⟩) 0 0 ∧ wz.heap[B]? = some (.cells #[] 3 (0, 0)) := hf 5 (by omega)
          refine UptoW.rest 2 10 (by rfl) (by kernel_rfl) ?_
          simp only [List.take, List.drop, putOps, Act.put, List.setIfInBounds_toArray, List.set_cons_zero, List.set_cons_succ, Nat.reduceAdd, f0, f1, f2, f3, f4, f5, f6, f7, f8, f9]
          clear f0 f1 f2 f3 f4 f5 f6 f7 f8 f9 hf hp
          have HTA := hide hTA
          have HBz := hide hb
          clear hTA hb
          go_wp2_with fail
          go_loopw [35] (fun i wr => ∃ k : Nat, k ≤ N ∧ i = .int .i64 k ∧ TwoAt xl g1 g2 c1 c2 w2.heap.size (fun j => (lowK (pts box rs) k)[j]?.getD 0) (fun j => (highK (pts box rs) k)[j]?.getD 0) wr ∧ Below w2.heap.size w2 wr) (fun i _ => N - (intOf i).toNat)
          case atStart => exact ⟨0, Nat.zero_le _, rfl, HTA.out.congr (fun j hj => by rw [HX0E.out]; rfl) (fun j hj => by rw [HX0E.out]; rfl), HBz.out⟩
          case round =>
            clear HTA HBz
            obtain ⟨k, hk, rfl, hTA, hBz⟩ := hrel
            have HTA := hide hTA
            have HBz := hide hBz
            clear hTA hBz
            by_cases hlt : k < N
            · have hkl : k < (pts box rs).length := by rw [← HN.out]; exact hlt
              obtain ⟨ya, yl, yc, y1, y2, _⟩ := HAT.out k hlt
              have y1' := (HBz.out.cell (p := ⟨b, off + k, none⟩) (lt_of_cell y1)).trans y1
              have zy := lt_of_cell y1'
              simp only at zy
              have HSY := hide (HSM.out _ (show (pts box rs)[k]?.getD [] ∈ pts box rs by simp [hkl]))
              have HLS := hide (lowK_succ (pts box rs) k hkl)
              have HHS := hide (highK_succ (pts box rs) k hkl)
              have HSL : Hid (Sm (lowK (pts box rs) k) xl) := sm_lowK (by omega) HSM.out
              have HSH : Hid (Sm (highK (pts box rs) k) xl) := sm_highK (by omega) HSM.out
              obtain ⟨lo0, hlo⟩ : ∃ lo, lo = lowK (pts box rs) k := ⟨_, rfl⟩
              obtain ⟨hi0, hhi⟩ : ∃ hi, hi = highK (pts box rs) k := ⟨_, rfl⟩
              obtain ⟨y, hy⟩ : ∃ y, y = (pts box rs)[k]?.getD [] := ⟨_, rfl⟩
              rw [← hlo] at HTA HLS HSL
              rw [← hhi] at HTA HHS HSH
              rw [← hy] at y2 HSY HLS HHS
              obtain rfl : yl = xl := by have := y2.1.1; have := HSY.out.1; omega
              have HY := hide y2
              clear y1 y2 hlo hhi hy hkl
              go_wp2_with fail
              obtain ⟨wo, hwo⟩ : ∃ wo, wo = wr := ⟨_, rfl⟩
              subst hwo
              go_loopw [41] (fun i wr' => ∃ j : Nat, j ≤ yl ∧ i = .int .i64 j ∧ TwoAt yl g1 g2 c1 c2 w2.heap.size (half min lo0 y j) (half max hi0 y j) wr' ∧ Below w2.heap.size w2 wr') (fun i _ => yl - (intOf i).toNat)
              case atStart => exact ⟨0, Nat.zero_le _, rfl, HTA.out.congr (fun j hj => by rw [half_zero]) (fun j hj => by rw [half_zero]), HBz.out⟩
              case round =>
                clear HTA HBz y1' zy
                obtain ⟨j, hj, rfl, hTA, hBz⟩ := hrel
                by_cases hlt2 : j < yl
                · exfalso; omega
                · obtain rfl : j = yl := by omega
                  have HTA := hide hTA
                  have HBz := hide hBz
                  clear hTA hBz
                  go_wp2_with fail
                  go_roundw
                  case rel =>
                    refine ⟨k + 1, by omega, by go_num, HTA.out.congr (fun q hq => ?_) (fun q hq => ?_), HBz.out⟩
                    · have e := half_all min lo0 y q (by rw [HSL.out.1]; exact hq)
                      rw [HSL.out.1] at e
                      rw [e, ← HLS.out]
                    · have e := half_all max hi0 y q (by rw [HSH.out.1]; exact hq)
                      rw [HSH.out.1] at e
                      rw [e, ← HHS.out]
                  case measure => simp [intOf]; omega
            · obtain rfl : k = N := by omega
              go_wp2_with fail
              have I1 := HTA.out.ints1 (xs := lowL (pts box rs)) (by have := sm_lowK (k := (pts box rs).length) (by omega) HSM.out; rwa [lowK_all _ (by omega)] at this) hbl4 (fun j hj => by rw [HN.out, lowK_all _ (by omega)])
              have I2 := HTA.out.ints2 (xs := highL (pts box rs)) (by have := sm_highK (k := (pts box rs).length) (by omega) HSM.out; rwa [highK_all _ (by omega)] at this) hbl4 (fun j hj => by rw [HN.out, highK_all _ (by omega)])
              refine bodyPost_ret (v := .tuple #[.slice (some ⟨g1, 0, none⟩) xl c1, .slice (some ⟨g2, 0, none⟩) xl c2, .int .i64 0]) (by simp [results, Try.results13, go_sem]) rfl ⟨⟨_, _, _, _, _, _, by rw [if_neg HNE.out], I1, I2⟩, bl_on HB2.out HBz.out⟩
      · refine region_made 10 14 [fPtNo, fIs (.slice (some ⟨b, off, none⟩) N c), fIs (.pointer (some ⟨b, off, none⟩)), fIs (.slice xa xl xc), fPtNewL w2.heap.size x0, fPtNo, fIs (.slice (some ⟨b, off, none⟩) N c), fIs (.pointer (some ⟨b, off, none⟩)), fIs (.slice xa xl xc), fPtNewL w2.heap.size x0] (by kernel_rfl) (by kernel_rfl) (by kernel_rfl) (fun _ ⟨_, _⟩ ⟨_, _⟩ _ e h => by cases e; exact h) ⟨fPtNo_good, fIs_good _, fIs_good _, fIs_good _, fPtNewL_good _ _, fPtNo_good, fIs_good _, fIs_good _, fIs_good _, fPtNewL_good _ _, trivial⟩ ?mk ?rest
        case mk =>
          refine ⟨fun u wz hb hd => ?_, fun u wz hb hd => ?_, fun u wz hb hd => ?_, fun u wz hb hd => ?_, fun u wz hb hd => ?_, fun u wz hb hd => ?_, fun u wz hb hd => ?_, fun u wz hb hd => ?_, fun u wz hb hd => ?_, fun u wz hb hd => ?_, trivial⟩
          all_goals simp only [Act.put, List.setIfInBounds_toArray, List.set_cons_zero, List.set_cons_succ]
          · go_simp
            exact ⟨⟨_, rfl⟩, bl_new _, fun h => by cases h⟩
          · go_simp
            exact ⟨rfl, Below.refl _ _, fun h => by cases h⟩
          · have e1 : u 1 = .slice (some ⟨b, off, none⟩) N c := hd 1 (by omega) (by kernel_rfl)
            rw [e1]
            go_simp
            exact ⟨rfl, Below.refl _ _, fun h => by cases h⟩
          · have e2 : u 2 = .pointer (some ⟨b, off, none⟩) := hd 2 (by omega) (by kernel_rfl)
            rw [e2]
            have x1' := (hb.cell (p := ⟨b, off, none⟩) (lt_of_cell x1)).trans x1
            go_simp
            exact ⟨rfl, Below.refl _ _, fun h => by cases h⟩
          · obtain ⟨B0, e0⟩ : ∃ B, u 0 = .slice (some ⟨B, 0, none⟩) 0 0 := hd 0 (by omega) (by kernel_rfl)
            have e3 : u 3 = .slice xa xl xc := hd 3 (by omega) (by kernel_rfl)
            rw [e0, e3]
            exact pt_append_fresh (.tmp 23) (.tmp 26) rfl w2.heap.size B0 xl xc xa x0 rfl rfl (HX0.out.1.below hb) (by omega) (by omega) hb.size (fun v w' k1 k2 k3 => ⟨v, rfl, k1, k2, fun _ => k3⟩)
          · go_simp
            exact ⟨⟨_, rfl⟩, bl_new _, fun h => by cases h⟩
          · go_simp
            exact ⟨rfl, Below.refl _ _, fun h => by cases h⟩
          · have e1 : u 6 = .slice (some ⟨b, off, none⟩) N c := hd 6 (by omega) (by kernel_rfl)
            rw [e1]
            go_simp
            exact ⟨rfl, Below.refl _ _, fun h => by cases h⟩
          · have e2 : u 7 = .pointer (some ⟨b, off, none⟩) := hd 7 (by omega) (by kernel_rfl)
            rw [e2]
            have x1' := (hb.cell (p := ⟨b, off, none⟩) (lt_of_cell x1)).trans x1
            go_simp
            exact ⟨rfl, Below.refl _ _, fun h => by cases h⟩
          · obtain ⟨B0, e0⟩ : ∃ B, u 5 = .slice (some ⟨B, 0, none⟩) 0 0 := hd 5 (by omega) (by kernel_rfl)
            have e3 : u 8 = .slice xa xl xc := hd 8 (by omega) (by kernel_rfl)
            rw [e0, e3]
            exact pt_append_fresh (.tmp 28) (.tmp 31) rfl w2.heap.size B0 xl xc xa x0 rfl rfl (HX0.out.1.below hb) (by omega) (by omega) hb.size (fun v w' k1 k2 k3 => ⟨v, rfl, k1, k2, fun _ => k3⟩)
        case rest =>
          intro u wz hb hf hp
          have f1 : u 1 = .slice (some ⟨b, off, none⟩) N c := hf 1 (by omega)
          have f6 : u 6 = .slice (some ⟨b, off, none⟩) N c := hf 6 (by omega)
          have f2 : u 2 = .pointer (some ⟨b, off, none⟩) := hf 2 (by omega)
          have f7 : u 7 = .pointer (some ⟨b, off, none⟩) := hf 7 (by omega)
          have f3 : u 3 = .slice xa xl xc := hf 3 (by omega)
          have f8 : u 8 = .slice xa xl xc := hf 8 (by omega)
          obtain ⟨g1, c1, r1, f4, hc1, hg1, hr1, hr1'⟩ : PtNewL w2.heap.size x0 (u 4) wz := hf 4 (by omega)
          obtain ⟨g2, c2, r2, f9, hc2, hg2, hr2, hr2'⟩ : PtNewL w2.heap.size x0 (u 9) wz := hf 9 (by omega)
          rw [HSX0.out.1] at f4 f9 hc1 hc2 hr1' hr2'
          have hne : g1 ≠ g2 := by
            intro e
            have := hp 4 9 (by omega) (by omega) (by omega) rfl rfl g1 (by rw [f4]; rfl)
            rw [f9, e] at this
            exact this rfl
          have hTA : TwoAt xl g1 g2 c1 c2 w2.heap.size (fun j => x0[j]?.getD 0) (fun j => x0[j]?.getD 0) wz := .inr ⟨⟨r1, hr1, hr1'⟩, ⟨r2, hr2, hr2'⟩, hne, hg1, hg2, hc1, hc2⟩
          clear hr1 hr1' hr2 hr2' hne
          obtain ⟨B0, f0⟩ : ∃ B, u 0 = .slice (some ⟨B, 0, none⟩) 0 0 := hf 0 (by omega)
          obtain ⟨B5, f5⟩ : ∃ B, u 5 = .slice (some ⟨B, 0, none⟩) 0 0 := hf 5 (by omega)
          refine UptoW.rest 2 10 (by rfl) (by kernel_rfl) ?_
          simp only [List.take, List.drop, putOps, Act.put, List.setIfInBounds_toArray, List.set_cons_zero, List.set_cons_succ, Nat.reduceAdd, f0, f1, f2, f3, f4, f5, f6, f7, f8, f9]
          clear f0 f1 f2 f3 f4 f5 f6 f7 f8 f9 hf hp
          have HTA := hide hTA
          have HBz := hide hb
          clear hTA hb
          go_wp2_with fail
          go_loopw [35] (fun i wr => ∃ k : Nat, k ≤ N ∧ i = .int .i64 k ∧ TwoAt xl g1 g2 c1 c2 w2.heap.size (fun j => (lowK (pts box rs) k)[j]?.getD 0) (fun j => (highK (pts box rs) k)[j]?.getD 0) wr ∧ Below w2.heap.size w2 wr) (fun i _ => N - (intOf i).toNat)
          case atStart => exact ⟨0, Nat.zero_le _, rfl, HTA.out.congr (fun j hj => by rw [HX0E.out]; rfl) (fun j hj => by rw [HX0E.out]; rfl), HBz.out⟩
          case round =>
            clear HTA HBz
            obtain ⟨k, hk, rfl, hTA, hBz⟩ := hrel
            have HTA := hide hTA
            have HBz := hide hBz
            clear hTA hBz
            by_cases hlt : k < N
            · have hkl : k < (pts box rs).length := by rw [← HN.out]; exact hlt
              obtain ⟨ya, yl, yc, y1, y2, _⟩ := HAT.out k hlt
              have y1' := (HBz.out.cell (p := ⟨b, off + k, none⟩) (lt_of_cell y1)).trans y1
              have zy := lt_of_cell y1'
              simp only at zy
              have HSY := hide (HSM.out _ (show (pts box rs)[k]?.getD [] ∈ pts box rs by simp [hkl]))
              have HLS := hide (lowK_succ (pts box rs) k hkl)
              have HHS := hide (highK_succ (pts box rs) k hkl)
              have HSL : Hid (Sm (lowK (pts box rs) k) xl) := sm_lowK (by omega) HSM.out
              have HSH : Hid (Sm (highK (pts box rs) k) xl) := sm_highK (by omega) HSM.out
              obtain ⟨lo0, hlo⟩ : ∃ lo, lo = lowK (pts box rs) k := ⟨_, rfl⟩
              obtain ⟨hi0, hhi⟩ : ∃ hi, hi = highK (pts box rs) k := ⟨_, rfl⟩
              obtain ⟨y, hy⟩ : ∃ y, y = (pts box rs)[k]?.getD [] := ⟨_, rfl⟩
              rw [← hlo] at HTA HLS HSL
              rw [← hhi] at HTA HHS HSH
              rw [← hy] at y2 HSY HLS HHS
              obtain rfl : yl = xl := by have := y2.1.1; have := HSY.out.1; omega
              have HY := hide y2
              clear y1 y2 hlo hhi hy hkl
              go_wp2_with fail
              obtain ⟨wo, hwo⟩ : ∃ wo, wo = wr := ⟨_, rfl⟩
              subst hwo
              go_loopw [41] (fun i wr' => ∃ j : Nat, j ≤ yl ∧ i = .int .i64 j ∧ TwoAt yl g1 g2 c1 c2 w2.heap.size (half min lo0 y j) (half max hi0 y j) wr' ∧ Below w2.heap.size w2 wr') (fun i _ => yl - (intOf i).toNat)
              case atStart => exact ⟨0, Nat.zero_le _, rfl, HTA.out.congr (fun j hj => by rw [half_zero]) (fun j hj => by rw [half_zero]), HBz.out⟩
              case round =>
                clear HTA HBz y1' zy
                obtain ⟨j, hj, rfl, hTA, hBz⟩ := hrel
                by_cases hlt2 : j < yl
                · have HLT := hide hlt2
                  obtain ⟨⟨d1, d2, d3, d4⟩, n1, n2, n3, n4, n5⟩ := hTA.cells hlt2
                  obtain ⟨b', off', rfl, hb', hc'⟩ := ((HY.out.below hBz).1).at (by omega)
                  have d5 := hc' j hlt2
                  have hyb : b' < w2.heap.size := by
                    obtain ⟨b2, o2, e, hb2, _⟩ := HY.out.1.at (by omega)
                    cases e; exact hb2
                  have h1 : half min lo0 y j j = lo0[j]?.getD 0 := by simp [half]
                  have h2 : half max hi0 y j j = hi0[j]?.getD 0 := by simp [half]
                  rw [h1] at d1
                  rw [h2] at d2
                  have b1 := HSL.out.getD j
                  have b2 := HSH.out.getD j
                  have b3 := HSY.out.getD j
                  obtain ⟨A', hA⟩ : ∃ A, A = lo0[j]?.getD 0 := ⟨_, rfl⟩
                  obtain ⟨B', hBB⟩ : ∃ B, B = hi0[j]?.getD 0 := ⟨_, rfl⟩
                  obtain ⟨X', hX⟩ : ∃ X, X = y[j]?.getD 0 := ⟨_, rfl⟩
                  rw [← hA] at d1 b1
                  rw [← hBB] at d2 b2
                  rw [← hX] at d5 b3
                  have HA' := hide hA
                  have HB' := hide hBB
                  have HX' := hide hX
                  have HM1 := hide (fun k => half_succ min lo0 y j k)
                  have HM2 := hide (fun k => half_succ max hi0 y j k)
                  have HTA := hide hTA
                  have HBz := hide hBz
                  clear hTA hBz hc' h1 h2 hA hBB hX
                  by_cases q1 : X' < A'
                  · by_cases q2 : B' < X'
                    · have T2 := hide ((HTA.out.set1 j X').set2 j X')
                      have n6 : ¬ g2 = g1 := fun e => n1 e.symm
                      go_wp2_with fail
                      go_roundw
                      case rel =>
                        refine ⟨j + 1, by have := HLT.out; omega, by have := HLT.out; go_num, T2.out.congr (fun k hk => ?_) (fun k hk => ?_), (HBz.out.setCell (p := ⟨g1, j, none⟩) n2 _).setCell (p := ⟨g2, j, none⟩) n3 _⟩
                        · rw [← HM1.out k, ← HA'.out, ← HX'.out, show min A' X' = X' by omega]
                        · rw [← HM2.out k, ← HB'.out, ← HX'.out, show max B' X' = X' by omega]
                      case measure => have := HLT.out; simp [intOf] <;> omega
                    · have T2 := hide (HTA.out.set1 j X')
                      have n6 : ¬ g2 = g1 := fun e => n1 e.symm
                      go_wp2_with fail
                      go_roundw
                      case rel =>
                        refine ⟨j + 1, by have := HLT.out; omega, by have := HLT.out; go_num, T2.out.congr (fun k hk => ?_) (fun k hk => ?_), HBz.out.setCell (p := ⟨g1, j, none⟩) n2 _⟩
                        · rw [← HM1.out k, ← HA'.out, ← HX'.out, show min A' X' = X' by omega]
                        · rw [← HM2.out k, ← HB'.out, ← HX'.out, show max B' X' = B' by omega]
                          by_cases e : k = j
                          · subst e; rw [if_pos rfl, HB'.out]; try simp [half]
                          · rw [if_neg e]
                      case measure => have := HLT.out; simp [intOf] <;> omega
                  · by_cases q2 : B' < X'
                    · have T2 := hide (HTA.out.set2 j X')
                      go_wp2_with fail
                      go_roundw
                      case rel =>
                        refine ⟨j + 1, by have := HLT.out; omega, by have := HLT.out; go_num, T2.out.congr (fun k hk => ?_) (fun k hk => ?_), HBz.out.setCell (p := ⟨g2, j, none⟩) n3 _⟩
                        · rw [← HM1.out k, ← HA'.out, ← HX'.out, show min A' X' = A' by omega]
                          by_cases e : k = j
                          · subst e; rw [if_pos rfl, HA'.out]; try simp [half]
                          · rw [if_neg e]
                        · rw [← HM2.out k, ← HB'.out, ← HX'.out, show max B' X' = X' by omega]
                      case measure => have := HLT.out; simp [intOf] <;> omega
                    · go_wp2_with fail
                      go_roundw
                      case rel =>
                        refine ⟨j + 1, by have := HLT.out; omega, by have := HLT.out; go_num, HTA.out.congr (fun k hk => ?_) (fun k hk => ?_), HBz.out⟩
                        · rw [← HM1.out k, ← HA'.out, ← HX'.out, show min A' X' = A' by omega]
                          by_cases e : k = j
                          · subst e; rw [if_pos rfl, HA'.out]; try simp [half]
                          · rw [if_neg e]
                        · rw [← HM2.out k, ← HB'.out, ← HX'.out, show max B' X' = B' by omega]
                          by_cases e : k = j
                          · subst e; rw [if_pos rfl, HB'.out]; try simp [half]
                          · rw [if_neg e]
                      case measure => have := HLT.out; simp [intOf] <;> omega
                · obtain rfl : j = yl := by omega
                  have HTA := hide hTA
                  have HBz := hide hBz
                  clear hTA hBz
                  go_wp2_with fail
                  go_roundw
                  case rel =>
                    refine ⟨k + 1, by omega, by go_num, HTA.out.congr (fun q hq => ?_) (fun q hq => ?_), HBz.out⟩
                    · have e := half_all min lo0 y q (by rw [HSL.out.1]; exact hq)
                      rw [HSL.out.1] at e
                      rw [e, ← HLS.out]
                    · have e := half_all max hi0 y q (by rw [HSH.out.1]; exact hq)
                      rw [HSH.out.1] at e
                      rw [e, ← HHS.out]
                  case measure => simp [intOf]; omega
            · obtain rfl : k = N := by omega
              go_wp2_with fail
              have I1 := HTA.out.ints1 (xs := lowL (pts box rs)) (by have := sm_lowK (k := (pts box rs).length) (by omega) HSM.out; rwa [lowK_all _ (by omega)] at this) hbl4 (fun j hj => by rw [HN.out, lowK_all _ (by omega)])
              have I2 := HTA.out.ints2 (xs := highL (pts box rs)) (by have := sm_highK (k := (pts box rs).length) (by omega) HSM.out; rwa [highK_all _ (by omega)] at this) hbl4 (fun j hj => by rw [HN.out, highK_all _ (by omega)])
              refine bodyPost_ret (v := .tuple #[.slice (some ⟨g1, 0, none⟩) xl c1, .slice (some ⟨g2, 0, none⟩) xl c2, .int .i64 0]) (by simp [results, Try.results13, go_sem]) rfl ⟨⟨_, _, _, _, _, _, by rw [if_neg HNE.out], I1, I2⟩, bl_on HB2.out HBz.out⟩

  · have c2 : (ptE box rs != 0) = true := by simpa using hE
    simp only [if_neg hE]
    clear hE
    go_enter Try.func13, Try.ntmps13
    go_wp2_with (go_at_call 11; refine HW.out.mono ?_; rintro e w1 ⟨rfl, hb⟩; have HB1 := hide (bl_on HB.out hb); clear hb)
    exact bodyPost_ret (v := .tuple #[.slice none 0 0, .slice none 0 0, .int .i64 (ptE box rs)]) (by simp [results, Try.results13, go_sem]) rfl ⟨rfl, HB1.out⟩
end Go.Proofs.Ytmefgejggpimeaa.V
