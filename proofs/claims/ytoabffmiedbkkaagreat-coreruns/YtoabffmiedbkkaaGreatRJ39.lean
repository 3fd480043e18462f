/-
  Contracts: array.Dims and array.Do of arrays of one dimension, all of the same number of words. Contract: array.Do of arrays of one dimension, all of the same number of words. Contracts: array.work of Fill and Pick; array.Do of arrays of one dimension, by kind.
-/
import Derived.Test.YtoabffmiedbkkaaGreatRJ36
import Derived.Test.YtoabffmiedbkkaaGreatRJ38
import Derived.Test.YtoabffmiedbkkaaGreatRJ2
import Derived.Test.YtoabffmiedbkkaaGreatRJ32
namespace Go.Proofs.YtoabffmiedbkkaaGreat.V.C
open Go.RowKit
set_option linter.unusedVariables false
set_option linter.unusedSimpArgs false

/-- An array's words: where its dimensions and its numbers lie. -/
structure AV where
  da : Option Addr
  dc : Nat
  xa : Option Addr
  xc : Nat
/-- Arrays in a row. -/
def ArgsAt (w : World) (A : Option Addr) (m n : Nat) (v : Nat → AV) : Prop :=
  m = 0 ∨ ∃ b off, A = some ⟨b, off, none⟩ ∧ ∀ j, j < m → w.cell? ⟨b, off + j * 2, none⟩ = some (.slice (v j).da 1 (v j).dc) ∧ w.cell? ⟨b, off + j * 2 + 1, none⟩ = some (.slice (v j).xa n (v j).xc) ∧ Ints w (v j).da 1 [(n : Int)]
/-- Dimensions in a row. -/
def DimsAt (w : World) (R m n : Nat) (v : Nat → AV) : Prop := ∀ j, j < m → w.cell? ⟨R, j, none⟩ = some (.slice (v j).da 1 (v j).dc) ∧ Ints w (v j).da 1 [(n : Int)]
theorem DimsAt.below {w V : World} {R m n : Nat} {v : Nat → AV} (h : DimsAt w R m n v) (hb : Below w.heap.size w V) : DimsAt V R m n v := fun j hj => ⟨(hb.cell (p := ⟨R, j, none⟩) (lt_of_cell (h j hj).1)).trans (h j hj).1, (h j hj).2.below hb⟩
theorem size1 {n : Nat} (h : n ≤ 4096) : sizeE [(n : Int)] = 0 ∧ sizeN [(n : Int)] = (n : Int) := by
  have hb : [(n : Int)].any badDim = false := by
    simp only [List.any_cons, List.any_nil, Bool.or_false, badDim]
    simp
    omega
  unfold sizeE sizeN
  rw [hb]
  by_cases h0 : (0 : Int) ∈ [(n : Int)]
  · have : (0 : Int) = (n : Int) := List.mem_singleton.1 h0
    simp [h0]
    omega
  · have hp : prod [(n : Int)] = (n : Int) := by simp [prod]
    rw [if_neg (by simp), if_neg (by simp), if_neg h0, if_neg (by rw [hp]; omega), if_neg (by simp), if_neg (by simp), if_neg h0, if_neg (by rw [hp]; omega)]
    exact ⟨rfl, hp⟩
theorem arr1 {n : Nat} (h : n ≤ 4096) : arrE [(n : Int)] n = 0 := by
  unfold arrE
  rw [if_neg (by rw [(size1 h).1]; simp), if_neg (by rw [(size1 h).2]; simp)]
def OutD1 (w : World) (n : Nat) (e : Ending) (w' : World) : Prop := (∃ g, e = .returned (.tuple #[.slice (some ⟨g, 0, none⟩) 1 1, .int .i64 0]) ∧ RowI w' g 1 [(n : Int)] ∧ w.heap.size ≤ g) ∧ Below w.heap.size w w'

set_option maxRecDepth 100000 in
set_option maxHeartbeats 1000000 in
theorem sameDims_m (R m n : Nat) (v : Nat → AV) (w : World) (hm : 0 < m) (hm9 : m ≤ 3) (h : DimsAt w R m n v) :
    Calls Tryz.prog 87 #[.slice (some ⟨R, 0, none⟩) m m] w fun e w' => OutD1 w n e w' := by
  have H := hide h
  have hR : R < w.heap.size := lt_of_cell (h 0 hm).1
  clear h
  go_enter Tryz.func87, Tryz.ntmps87
  go_wp2
  go_loopw [8] (fun i wr => ∃ k : Nat, k ≤ m ∧ i = .int .i64 k ∧ Below w.heap.size w wr) (fun i _ => m - (intOf i).toNat)
  case atStart => exact ⟨0, by omega, rfl, Below.refl _ _⟩
  case round =>
    obtain ⟨k, hk, rfl, hB⟩ := hrel
    have HB := hide hB
    clear hB
    have HD := hide (H.out.below HB.out)
    have k0 := (HD.out 0 hm).1
    have HI0 := hide (HD.out 0 hm).2
    have hm0 : (0 : Int) < (m : Int) := by omega
    by_cases hlt : k < m
    · have k1 := (HD.out k hlt).1
      have HI1 := hide (HD.out k hlt).2
      have hkz : (k : Int) < (m : Int) := by omega
      go_wp2_with (go_at_call 63; refine (equal_any _ _ _ [(n : Int)] _ _ _ [(n : Int)] _ HI1.out HI0.out).mono ?_; rintro e w1 ⟨rfl, n1, hw1⟩; rw [decide_eq_true (rfl : [(n : Int)] = [(n : Int)])]; have HB1 := hide (Below.on HB.out (hw1 ▸ below_drewN _ n1)); clear hw1)
      go_roundw
      case rel => exact ⟨k + 1, by omega, by go_num, HB1.out⟩
      case measure => simp [intOf]; omega
    · obtain rfl : k = m := by omega
      go_wp2_with (go_at_call 78; refine (afresh_any _ _ _ [(n : Int)] _ HI0.out (by omega)).mono ?_; rintro e w1 ⟨⟨g, rfl, hr, hg⟩, hb⟩; have HR := hide hr; have HB1 := hide (Below.on HB.out hb); have hgg : w.heap.size ≤ g := Nat.le_trans HB.out.size hg; clear hr hb hg)
      go_ret2
      exact ⟨⟨g, rfl, HR.out, hgg⟩, HB1.out⟩

set_option maxRecDepth 100000 in
set_option maxHeartbeats 2000000 in
theorem shape_m (k x : Int) (hk : k = 3 ∨ k = 4 ∨ k = 5 ∨ k = 6 ∨ k = 7 ∨ k = 8) (vd va vl vh vs : Value) (R m n : Nat) (v : Nat → AV) (w : World) (hm : 0 < m) (hm9 : m ≤ 3) (h : DimsAt w R m n v) :
    Calls Tryz.prog 66 #[.agg #[.int .i64 k, vd, va, vl, vh, vs, .int .i64 x], .slice (some ⟨R, 0, none⟩) m m] w fun e w' => OutD1 w n e w' := by
  have HB1 := hide ((Below.refl w.heap.size w).alloc (Nat.le_refl _) (.cells #[.int .i64 k, vd, va, vl, vh, vs, .int .i64 x] 104))
  have HOP := hide (OpAt.new w k vd va vl vh vs x)
  obtain ⟨o0, o1, o2, o3, o4, o5, o6⟩ := HOP.out.cells
  have HS := hide (sameDims_m R m n v (w.alloc (.cells #[.int .i64 k, vd, va, vl, vh, vs, .int .i64 x] 104)) hm hm9 (h.below HB1.out))
  clear h
  rcases hk with rfl | rfl | rfl | rfl | rfl | rfl
  all_goals go_enter Tryz.func66, Tryz.ntmps66
  all_goals go_wp2_with (go_at_call 87; refine HS.out.mono ?_; rintro e w1 ⟨⟨g, rfl, hr, hg⟩, hb⟩; have HR := hide hr; have HB2 := hide (Below.on HB1.out hb); have hgg : w.heap.size ≤ g := Nat.le_trans HB1.out.size hg; clear hr hb hg)
  all_goals go_ret2
  all_goals exact ⟨⟨g, rfl, HR.out, hgg⟩, HB2.out⟩

set_option maxRecDepth 100000 in
set_option maxHeartbeats 2000000 in
theorem shape_f (x : Int) (ea : Option Addr) (ec : Nat) (va vl vh vs av : Value) (n : Nat) (w : World) (h : Ints w ea 1 [(n : Int)]) :
    Calls Tryz.prog 66 #[.agg #[.int .i64 2, .slice ea 1 ec, va, vl, vh, vs, .int .i64 x], av] w fun e w' => OutD1 w n e w' := by
  have HB1 := hide ((Below.refl w.heap.size w).alloc (Nat.le_refl _) (.cells #[.int .i64 2, .slice ea 1 ec, va, vl, vh, vs, .int .i64 x] 104))
  have HOP := hide (OpAt.new w 2 (.slice ea 1 ec) va vl vh vs x)
  obtain ⟨o0, o1, o2, o3, o4, o5, o6⟩ := HOP.out.cells
  have HI := hide h
  clear h
  go_enter Tryz.func66, Tryz.ntmps66
  go_wp2_with (go_at_call 78; refine (afresh_any _ _ _ [(n : Int)] _ (HI.out.below HB1.out) (by omega)).mono ?_; rintro e w1 ⟨⟨g, rfl, hr, hg⟩, hb⟩; have HR := hide hr; have HB2 := hide (Below.on HB1.out hb); have hgg : w.heap.size ≤ g := Nat.le_trans HB1.out.size hg; clear hr hb hg)
  go_ret2
  exact ⟨⟨g, rfl, HR.out, hgg⟩, HB2.out⟩

set_option maxRecDepth 100000 in
set_option maxHeartbeats 2000000 in
theorem Dims_m (k x : Int) (vd va vl vh vs : Value) (R m n : Nat) (v : Nat → AV) (w : World) (hn : n ≤ 4096) (hm9 : m ≤ 3) (hT : takesE k m = 0) (h : DimsAt w R m n v)
    (hS : ∀ W : World, Below w.heap.size w W → Calls Tryz.prog 66 #[.agg #[.int .i64 k, vd, va, vl, vh, vs, .int .i64 x], .slice (some ⟨R, 0, none⟩) m m] W fun e w' => OutD1 W n e w') :
    Calls Tryz.prog 60 #[.agg #[.int .i64 k, vd, va, vl, vh, vs, .int .i64 x], .slice (some ⟨R, 0, none⟩) m m] w fun e w' => OutD1 w n e w' := by
  have HB1 := hide ((Below.refl w.heap.size w).alloc (Nat.le_refl _) (.cells #[.int .i64 k, vd, va, vl, vh, vs, .int .i64 x] 104))
  have HOP := hide (OpAt.new w k vd va vl vh vs x)
  obtain ⟨o0, o1, o2, o3, o4, o5, o6⟩ := HOP.out.cells
  have HTT := hide hT
  have H := hide h
  have HSS := hide hS
  have HZ := hide (size1 hn).1
  clear h hT hS
  go_enter Tryz.func60, Tryz.ntmps60
  go_wp2_with (go_at_call 58; refine (takes_any _ _ _).mono ?_; rintro e w' ⟨rfl, hw'⟩; obtain rfl := hw'.symm; rw [HTT.out])
  go_loopw [25] (fun i wr => ∃ j : Nat, j ≤ m ∧ i = .int .i64 j ∧ OpAt wr w.heap.size k vd va vl vh vs x ∧ Below w.heap.size w wr) (fun i _ => m - (intOf i).toNat)
  case atStart => exact ⟨0, Nat.zero_le _, rfl, HOP.out, HB1.out⟩
  case round =>
    obtain ⟨j, hj, rfl, ho, hB⟩ := hrel
    have HO := hide ho
    have HB := hide hB
    clear ho hB o0 o1 o2 o3 o4 o5 o6
    have HD := hide (H.out.below HB.out)
    by_cases hlt : j < m
    · have k1 := (HD.out j hlt).1
      have HI1 := hide (HD.out j hlt).2
      have hkz : (j : Int) < (m : Int) := by omega
      go_wp2_with (go_at_call 65; refine (size_any _ _ _ [(n : Int)] _ HI1.out).mono ?_; rintro e w' ⟨rfl, hw'⟩; obtain rfl := hw'.symm; rw [HZ.out])
      go_roundw
      case rel => exact ⟨j + 1, by omega, by go_num, HO.out, HB.out⟩
      case measure => simp [intOf]; omega
    · obtain rfl : j = m := by omega
      have HS := hide (HSS.out wr HB.out)
      obtain ⟨o0, o1, o2, o3, o4, o5, o6⟩ := HO.out.cells
      go_wp2_with (first
        | (go_at_call 66; refine HS.out.mono ?_; rintro e w1 ⟨⟨g, rfl, hr, hg⟩, hb⟩; have HR := hide hr; have HB2 := hide (Below.on HB.out hb); have hgg : w.heap.size ≤ g := Nat.le_trans HB.out.size hg; clear hr hb hg)
        | (go_at_call 65; refine (size_any _ _ _ [(n : Int)] _ (ints_of_rowI HR.out rfl (by omega) (by intro x hx; simp only [List.mem_singleton] at hx; omega))).mono ?_; rintro e w' ⟨rfl, hw'⟩; obtain rfl := hw'.symm; rw [HZ.out]))
      go_ret2
      exact ⟨⟨g, rfl, HR.out, hgg⟩, HB2.out⟩
end Go.Proofs.YtoabffmiedbkkaaGreat.V.C
namespace Go.Proofs.YtoabffmiedbkkaaGreat.V.C
open Go.RowKit
set_option linter.unusedVariables false
set_option linter.unusedSimpArgs false

theorem info_i64 : (Tryz.prog.info? 2).map (fun i => (i.zero, i.size, i.bytes)) = some (some (.int .i64 0), 1, 8) := by kernel_rfl
theorem info_is : (Tryz.prog.info? 26).map (fun i => (i.zero, i.size, i.bytes)) = some (some (.slice none 0 0), 1, 24) := by kernel_rfl
theorem arr_set {w : World} {b : Nat} {c0 c1 : Value} (h : ArrAt w b c0 c1) {p : Addr} (hne : b ≠ p.block) (u : Value) : ArrAt (w.setCell p u) b c0 c1 := (Below.heap_setCell _ _ _ _ hne).trans h
theorem arr_put {w : World} {b : Nat} {c0 c1 : Value} (h : ArrAt w b c0 c1) (d0 d1 : Value) : ArrAt ((w.setCell ⟨b, 0, none⟩ d0).setCell ⟨b, 1, none⟩ d1) b d0 d1 := by
  unfold ArrAt at *
  simp [World.setCell, Array.getElem?_modify, h]
/-- The row of the arguments' dimensions, as far as it has come. -/
def rowV (v : Nat → AV) (j t : Nat) : Value := if t < j then .slice (v t).da 1 (v t).dc else .slice none 0 0
theorem ints_not_arr {w : World} {b off n B : Nat} {xs : List Int} {c0 c1 : Value} (ha : ArrAt w B c0 c1) (n0 : ∀ k i, c0 ≠ .int k i) (n1 : ∀ k i, c1 ≠ .int k i) (hn : 0 < n) (hc : ∀ j, j < n → w.cell? ⟨b, off + j, none⟩ = some (.int .i64 (xs[j]?.getD 0))) : b ≠ B := by
  intro e
  subst e
  have h := hc 0 hn
  unfold ArrAt at ha
  match off, h with
  | 0, h => simp [World.cell?, ha] at h; exact n0 _ _ h
  | 1, h => simp [World.cell?, ha] at h; exact n1 _ _ h
  | off + 2, h => simp [World.cell?, ha] at h
theorem ints_put_arr {w : World} {Z : Option Addr} {nz B : Nat} {L : List Int} {c0 c1 : Value} (h : Ints w Z nz L) (ha : ArrAt w B c0 c1) (n0 : ∀ k i, c0 ≠ .int k i) (n1 : ∀ k i, c1 ≠ .int k i) (u u' : Value) : Ints ((w.setCell ⟨B, 0, none⟩ u).setCell ⟨B, 1, none⟩ u') Z nz L := by
  obtain ⟨h1, h2, h3, h4⟩ := h
  refine ⟨h1, h2, h3, ?_⟩
  by_cases h0 : nz = 0
  · exact .inl h0
  · rcases h4 with h4 | ⟨b, off, e, hc⟩
    · exact .inl h4
    · have hne := ints_not_arr ha n0 n1 (by omega) hc
      exact .inr ⟨b, off, e, fun j hj => setc_cell (setc_cell (hc j hj) hne) hne⟩
theorem ints_save {w1 W w2 : World} {Z : Option Addr} {nz : Nat} {L : List Int} (h : Ints w1 Z nz L) (hb : Below w1.heap.size w1 W) (hs : Save w1.heap.size W w2) : Ints w2 Z nz L := by
  obtain ⟨h1, h2, h3, h4⟩ := h
  refine ⟨h1, h2, h3, ?_⟩
  rcases h4 with h4 | ⟨b, off, e, hc⟩
  · exact .inl h4
  · by_cases h0 : nz = 0
    · exact .inl h0
    · have hl := lt_of_cell (hc 0 (by omega))
      simp only at hl
      exact .inr ⟨b, off, e, fun j hj => (World.cell?_of_block (w := W) (hs.1 b (by have := hb.size; omega) (by omega))).trans ((hb.cell (p := ⟨b, off + j, none⟩) hl).trans (hc j hj))⟩


set_option maxRecDepth 100000 in
set_option maxHeartbeats 4000000 in
theorem Do_m (k x : Int) (vd va vl vh vs : Value) (A : Option Addr) (m cap n : Nat) (v : Nat → AV) (f : List Int) (w : World) (hn0 : 0 < n) (hn : n ≤ 4096) (hm9 : m ≤ 3) (hT : takesE k m = 0) (hA : ArgsAt w A m n v) (hfl : f.length = n) (hfb : ∀ y ∈ f, -9223372036854775808 ≤ y ∧ y ≤ 9223372036854775807)
    (hS : ∀ (W : World) (R : Nat), Below w.heap.size w W → DimsAt W R m n v → Calls Tryz.prog 66 #[.agg #[.int .i64 k, vd, va, vl, vh, vs, .int .i64 x], .slice (some ⟨R, 0, none⟩) m m] W fun e w' => OutD1 W n e w')
    (hwork : ∀ (W : World) (Z : Option Addr) (g : Nat), Below w.heap.size w W → w.heap.size ≤ g → W.rowIs g 2 n (fun _ => .int .i64 0) → Calls Tryz.prog 62 #[.agg #[.slice Z 1 1, .slice (some ⟨g, 0, none⟩) n n], .agg #[.int .i64 k, vd, va, vl, vh, vs, .int .i64 x], .slice A m cap] W fun e W' => e = .returned (.tuple #[]) ∧ W'.rowIs g 2 n (fun j => .int .i64 (f[j]?.getD 0)) ∧ Save g W W') :
    Calls Tryz.prog 55 #[.agg #[.int .i64 k, vd, va, vl, vh, vs, .int .i64 x], .slice A m cap] w fun e w' => (∃ g G : Nat, e = .returned (.tuple #[.agg #[.slice (some ⟨g, 0, none⟩) 1 1, .slice (some ⟨G, 0, none⟩) n n], .int .i64 0]) ∧ Ints w' (some ⟨g, 0, none⟩) 1 [(n : Int)] ∧ Ints w' (some ⟨G, 0, none⟩) n f ∧ w.heap.size ≤ G ∧ w.heap.size ≤ g) ∧ Below w.heap.size w w' := by
  have HAA := hide hA
  have HC1 := hide hT
  have HFL := hide hfl
  have HFB := hide hfb
  have HW := hide hwork
  have HSH := hide hS
  have HE1 := hide (arr1 hn)
  have HN : Hid (prod [(n : Int)] = (n : Int)) := by show prod [(n : Int)] = (n : Int); simp [prod]
  have HCO : Hid (∀ k, k ≤ [(n : Int)].length → 0 ≤ prod ([(n : Int)].take k) ∧ prod ([(n : Int)].take k) ≤ 9223372036854775807) := by
    intro k hk
    simp only [List.length_cons, List.length_nil] at hk
    have : k = 0 ∨ k = 1 := by omega
    rcases this with rfl | rfl
    · simp [prod]
    · simp [prod]; omega
  have HB1 := hide ((Below.refl w.heap.size w).alloc (Nat.le_refl _) (.cells #[.int .i64 k, vd, va, vl, vh, vs, .int .i64 x] 104))
  have HB2 := hide (HB1.out.alloc HB1.out.size (.cells #[.slice none 0 0, .slice none 0 0] 101))
  have HOP := hide ((OpAt.new w k vd va vl vh vs x).alloc (.cells #[.slice none 0 0, .slice none 0 0] 101))
  have har := ArrAt.new (w.alloc (.cells #[.int .i64 k, vd, va, vl, vh, vs, .int .i64 x] 104)) (.slice none 0 0) (.slice none 0 0)
  simp only [World.size_alloc] at har
  have HAR := hide har
  obtain ⟨o0, o1, o2, o3, o4, o5, o6⟩ := HOP.out.cells
  have hmk := run_make_row' (P := Tryz.prog) 112 26 (.slice none 0 0) 24 Tryz.underlying112 info_is rfl .i64 .i64 m (by omega) (by omega)
  have hmk2 := run_make_row' (P := Tryz.prog) 25 2 (.int .i64 0) 8 Tryz.underlying25 info_i64 rfl .i64 .i64 n (by omega) (by omega)
  have hnz : (0 : Int) < (n : Int) := by omega
  clear hA har hT hfl hfb hwork hS
  go_enter Tryz.func55, Tryz.ntmps55
  go_wp2_with (go_at_call 58; refine (takes_any _ _ _).mono ?_; rintro e w' ⟨rfl, hw'⟩; obtain rfl := hw'.symm; rw [HC1.out])
  go_loopw [28] (fun i wr => ∃ j : Nat, j ≤ m ∧ i = .int .i64 j ∧ wr.rowIs (w.heap.size + 1 + 1) 26 m (rowV v j) ∧ OpAt wr w.heap.size k vd va vl vh vs x ∧ ArrAt wr (w.heap.size + 1) (.slice none 0 0) (.slice none 0 0) ∧ Below w.heap.size w wr) (fun i _ => m - (intOf i).toNat)
  case atStart =>
    refine ⟨0, by omega, rfl, ?_, HOP.out.alloc _, HAR.out.alloc _, HB2.out.alloc HB2.out.size _⟩
    have := World.rowIs_made ((w.alloc (.cells #[.int .i64 k, vd, va, vl, vh, vs, .int .i64 x] 104)).alloc (.cells #[.slice none 0 0, .slice none 0 0] 101)) (.slice none 0 0) m 26
    simp only [World.size_alloc] at this
    exact this.congr (fun t _ => by simp [rowV])
  case round =>
    obtain ⟨j, hj, rfl, hrow, hop, har, hB⟩ := hrel
    have HR := hide hrow
    have HO := hide hop
    have HA := hide har
    have HB := hide hB
    clear hrow hop har hB o0 o1 o2 o3 o4 o5 o6
    by_cases hlt : j < m
    · obtain ⟨b, off, rfl, hcs⟩ := HAA.out.resolve_left (by omega)
      obtain ⟨d0, d1, hl⟩ := hcs j hlt
      have hbl : b < w.heap.size := lt_of_cell d0
      obtain ⟨⟨da, dc, xa, xc⟩, hv⟩ : ∃ u, u = v j := ⟨_, rfl⟩
      rw [← hv] at d0 d1 hl
      simp only at d0 d1 hl
      have s0 := (HB.out.cell (p := ⟨b, off + j * 2, none⟩) hbl).trans d0
      have s1 := (HB.out.cell (p := ⟨b, off + j * 2 + 1, none⟩) hbl).trans d1
      have HL := hide hl
      have HV := hide hv
      have HAN := hide (ArrAt.new wr (.slice da 1 dc) (.slice xa n xc))
      have HBN := hide (HB.out.alloc HB.out.size (.cells #[.slice da 1 dc, .slice xa n xc] 101))
      have HAB := hide (HA.out.alloc (.cells #[.slice da 1 dc, .slice xa n xc] 101))
      obtain ⟨⟨a0, a1⟩, _⟩ := HAN.out.cells
      clear hcs d0 d1 hl hv
      go_wp2_with (go_at_call 59; refine (awrong_any da 1 dc [(n : Int)] xa n xc _ (HL.out.below HBN.out)).mono ?_; rintro e w1 ⟨rfl, hb⟩; rw [HE1.out]; have HB3 := hide (Below.on HBN.out hb); have HA3 := hide (HAB.out.below hb); have HO3 := hide ((HO.out.alloc _).below hb); have HR3 := hide ((HR.out.of_block (Below.heap_alloc _ (.cells #[.slice da 1 dc, .slice xa n xc] 101) _ HR.out.lt)).of_block (hb.block _ (by have := HR.out.lt; simp; omega))); have HAN3 := hide (HAN.out.below hb); clear a0 a1 hb; obtain ⟨⟨a0, a1⟩, _⟩ := HAN3.out.cells; have hr := HR3.out.cell hlt; have hf := HR3.out.frozen j)
      go_roundw
      case rel =>
        refine ⟨j + 1, by omega, by go_num, (HR3.out.set j (.slice da 1 dc)).congr (fun t ht => ?_), HO3.out.set (p := ⟨w.heap.size + 1 + 1, j, none⟩) (by simp; omega) _, arr_set HA3.out (p := ⟨w.heap.size + 1 + 1, j, none⟩) (by simp) _, HB3.out.setCell (p := ⟨w.heap.size + 1 + 1, j, none⟩) (by simp; omega) _⟩
        by_cases e : t = j
        · rw [e, if_pos rfl, rowV, if_pos (by omega), ← HV.out]
        · rw [if_neg e, rowV, rowV]
          by_cases h : t < j
          · rw [if_pos h, if_pos (by omega)]
          · rw [if_neg h, if_neg (by omega)]
      case measure => simp [intOf]; omega
    · obtain rfl : j = m := by omega
      have HLS : Hid (DimsAt wr (w.heap.size + 1 + 1) j n v) := by
        intro t ht
        obtain ⟨b, off, rfl, hcs⟩ := HAA.out.resolve_left (by omega)
        have := HR.out.cell ht
        rw [rowV, if_pos ht] at this
        exact ⟨this, (hcs t ht).2.2.below HB.out⟩
      have HCD := hide (Dims_m k x vd va vl vh vs (w.heap.size + 1 + 1) j n v wr hn hm9 HC1.out HLS.out (fun W hW => HSH.out W _ (Below.on HB.out hW) (HLS.out.below hW)))
      obtain ⟨o0, o1, o2, o3, o4, o5, o6⟩ := HO.out.cells
      go_wp2_with (first
        | (go_at_call 60; refine HCD.out.mono ?_; rintro e w1 ⟨⟨g, rfl, hr1, hg1⟩, hb⟩; have HI1 := hide (ints_of_rowI hr1 rfl (by omega) (fun y hy => by rw [List.mem_singleton.1 hy]; omega)); have hgg : w.heap.size ≤ g := Nat.le_trans HB.out.size hg1; have HB2 := hide (Below.on HB.out hb); have hna := HA.out.lt; have HO2 := hide (HO.out.below hb); have HA2 := hide (HA.out.below hb); clear hr1 hg1 hb o0 o1 o2 o3 o4 o5 o6; obtain ⟨o0, o1, o2, o3, o4, o5, o6⟩ := HO2.out.cells)
        | (go_at_call 61; refine (count_any _ _ _ [(n : Int)] _ HI1.out HCO.out).mono ?_; rintro e w' ⟨rfl, hw'⟩; obtain rfl := hw'.symm; rw [HN.out]; have HO5 := hide ((HO2.out.alloc (.cells (madeCells #[.int .i64 0] n) 2)).alloc (.cells #[.slice (some ⟨g, 0, none⟩) 1 1, .slice (some ⟨w1.heap.size, 0, none⟩) n n] 101)); have HA5 := hide ((HA2.out.alloc (.cells (madeCells #[.int .i64 0] n) 2)).alloc (.cells #[.slice (some ⟨g, 0, none⟩) 1 1, .slice (some ⟨w1.heap.size, 0, none⟩) n n] 101)); have HB5 := hide ((HB2.out.alloc HB2.out.size (.cells (madeCells #[.int .i64 0] n) 2)).alloc (HB2.out.alloc HB2.out.size (.cells (madeCells #[.int .i64 0] n) 2)).size (.cells #[.slice (some ⟨g, 0, none⟩) 1 1, .slice (some ⟨w1.heap.size, 0, none⟩) n n] 101)); have hx5 := ArrAt.new (w1.alloc (.cells (madeCells #[.int .i64 0] n) 2)) (.slice (some ⟨g, 0, none⟩) 1 1) (.slice (some ⟨w1.heap.size, 0, none⟩) n n); simp only [World.size_alloc] at hx5; have HX5 := hide hx5; clear o0 o1 o2 o3 o4 o5 o6 hx5; obtain ⟨o0, o1, o2, o3, o4, o5, o6⟩ := HO5.out.cells; obtain ⟨⟨x0, x1⟩, _⟩ := HX5.out.cells)
        | (go_at_call 62; refine (HW.out _ (some ⟨g, 0, none⟩) w1.heap.size HB5.out HB2.out.size ((World.rowIs_made w1 (.int .i64 0) n 2).of_block (Below.heap_alloc _ _ _ (by simp)))).mono ?_; rintro e w6 ⟨rfl, hr6, hsv⟩; have hs0 := HB2.out.size; have ha0 := HA2.out.lt; have HR6 := hide hr6; have HX6 : Hid (ArrAt w6 (w1.heap.size + 1) _ _) := (hsv.1 (w1.heap.size + 1) (by simp) (by omega)).trans HX5.out; have HA6 : Hid (ArrAt w6 (w.heap.size + 1) _ _) := (hsv.1 (w.heap.size + 1) (by simp; omega) (by omega)).trans HA5.out; have HI6 := hide (ints_save HI1.out (((Below.refl _ _).alloc (Nat.le_refl _) (.cells (madeCells #[.int .i64 0] n) 2)).alloc (by simp) (.cells #[.slice (some ⟨g, 0, none⟩) 1 1, .slice (some ⟨w1.heap.size, 0, none⟩) n n] 101)) hsv); have HB6 := hide (Save.below HB5.out hsv (by omega) (Nat.le_refl _)); clear hsv hr6 x0 x1 o0 o1 o2 o3 o4 o5 o6; obtain ⟨⟨x0, x1⟩, _⟩ := HX6.out.cells; obtain ⟨⟨a0, a1⟩, fa0, fa1⟩ := HA6.out.cells))
      have hs1 := HB2.out.size
      have ha1 := HA2.out.lt
      obtain ⟨⟨u0, u1⟩, _⟩ := (arr_put HA6.out (.slice (some ⟨g, 0, none⟩) 1 1) (.slice (some ⟨w1.heap.size, 0, none⟩) n n)).cells
      refine bodyPost_ret (v := .tuple #[.agg #[.slice (some ⟨g, 0, none⟩) 1 1, .slice (some ⟨w1.heap.size, 0, none⟩) n n], .int .i64 0]) (by simp [results, Tryz.results55, go_sem, u0, u1]) rfl ⟨⟨g, w1.heap.size, rfl, ?_, ?_, hs1, hgg⟩, ?_⟩
      · exact ints_put_arr HI6.out HA6.out (fun _ _ e => by cases e) (fun _ _ e => by cases e) _ _
      · have hr8 := (HR6.out.setOther (a := ⟨w.heap.size + 1, 0, none⟩) (by simp; omega) (.slice (some ⟨g, 0, none⟩) 1 1)).setOther (a := ⟨w.heap.size + 1, 1, none⟩) (by simp; omega) (.slice (some ⟨w1.heap.size, 0, none⟩) n n)
        exact ⟨HFL.out, by omega, HFB.out, .inr ⟨_, _, rfl, fun t ht => by rw [Nat.zero_add]; exact hr8.cell ht⟩⟩
      · exact (HB6.out.setCell (p := ⟨w.heap.size + 1, 0, none⟩) (by simp) _).setCell (p := ⟨w.heap.size + 1, 1, none⟩) (by simp) _
end Go.Proofs.YtoabffmiedbkkaaGreat.V.C
namespace Go.Proofs.YtoabffmiedbkkaaGreat.V.C
open Go.RowKit
set_option linter.unusedVariables false
set_option linter.unusedSimpArgs false

set_option maxRecDepth 100000 in
theorem ent1_any (i B : Nat) (k : Int) (vd va vl vh vs : Value) (x : Int) (w : World) (h : OpAt w B k vd va vl vh vs x) :
    Calls Tryz.prog 97 #[.int .i64 i, .pointer (some ⟨B, 0, none⟩)] w fun e w' => e = .returned (.int .i64 x) ∧ w'.heap = w.heap ∧ Below 0 w w' := by
  obtain ⟨o0, o1, o2, o3, o4, o5, o6⟩ := h.cells
  clear h
  go_enter Tryz.func97, Tryz.ntmps97
  go_wp2
  go_ret
  exact ⟨rfl, rfl, Below.refl _ _⟩

set_option maxRecDepth 100000 in
set_option maxHeartbeats 1000000 in
theorem entry_fill (x : Int) (vd va vl vh vs : Value) (av : Value) (w : World) :
    Calls Tryz.prog 74 #[.agg #[.int .i64 2, vd, va, vl, vh, vs, .int .i64 x], av] w fun e w' => (∃ B, e = .returned (.func (Fn.func 97) #[] #[.pointer (some ⟨B, 0, none⟩)]) ∧ OpAt w' B 2 vd va vl vh vs x ∧ w.heap.size ≤ B) ∧ Below w.heap.size w w' := by
  have HB1 := hide ((Below.refl w.heap.size w).alloc (Nat.le_refl _) (.cells #[.int .i64 2, vd, va, vl, vh, vs, .int .i64 x] 104))
  have HOP := hide (OpAt.new w 2 vd va vl vh vs x)
  obtain ⟨o0, o1, o2, o3, o4, o5, o6⟩ := HOP.out.cells
  go_enter Tryz.func74, Tryz.ntmps74
  go_wp2
  go_ret
  exact ⟨⟨_, rfl, HOP.out, Nat.le_refl _⟩, HB1.out⟩

set_option maxRecDepth 100000 in
set_option maxHeartbeats 4000000 in
theorem work_fill (x : Int) (vd va vl vh vs : Value) (Z : Option Addr) (nz cz g n : Nat) (av : Value) (w : World)
    (hrow : w.rowIs g 2 n (fun _ => .int .i64 0)) (hn : n ≤ 9223372036854775807) :
    Calls Tryz.prog 62 #[.agg #[.slice Z nz cz, .slice (some ⟨g, 0, none⟩) n n], .agg #[.int .i64 2, vd, va, vl, vh, vs, .int .i64 x], av] w fun e w' => e = .returned (.tuple #[]) ∧ w'.rowIs g 2 n (fun j => .int .i64 ((List.replicate n x)[j]?.getD 0)) ∧ Save g w w' := by
  have hgl : g < w.heap.size := hrow.lt
  have HR := hide hrow
  have HB1 := hide ((Below.refl w.heap.size w).alloc (Nat.le_refl _) (.cells #[.slice Z nz cz, .slice (some ⟨g, 0, none⟩) n n] 101))
  have HB2 := hide (HB1.out.alloc HB1.out.size (.cells #[.int .i64 2, vd, va, vl, vh, vs, .int .i64 x] 104))
  have HAR := hide ((ArrAt.new w (.slice Z nz cz) (.slice (some ⟨g, 0, none⟩) n n)).alloc (.cells #[.int .i64 2, vd, va, vl, vh, vs, .int .i64 x] 104))
  have hop := OpAt.new (w.alloc (.cells #[.slice Z nz cz, .slice (some ⟨g, 0, none⟩) n n] 101)) 2 vd va vl vh vs x
  simp only [World.size_alloc] at hop
  have HOP := hide hop
  obtain ⟨⟨r0, r1⟩, _⟩ := HAR.out.cells
  obtain ⟨o0, o1, o2, o3, o4, o5, o6⟩ := HOP.out.cells
  have hcf : ∀ (args : Array Value) (w : World), (callFunc 97 args).run Tryz.prog w = .ok (.enter 97 args) w := enters Tryz.func97 (by kernel_rfl) (by kernel_rfl)
  have HCF := hide hcf
  clear hrow hop hcf
  go_enter Tryz.func62, Tryz.ntmps62
  go_wp2_with fail
  go_region_held3 (fun w' => w'.cell? ⟨w.heap.size, 1, none⟩ = some (.slice (some ⟨g, 0, none⟩) n n) ∧ w'.cell? ⟨w.heap.size + 1, 0, none⟩ = some (.int .i64 2) ∧ w'.cell? ⟨w.heap.size + 1, 1, none⟩ = some vd ∧ w'.cell? ⟨w.heap.size + 1, 2, none⟩ = some va ∧ w'.cell? ⟨w.heap.size + 1, 3, none⟩ = some vl ∧ w'.cell? ⟨w.heap.size + 1, 4, none⟩ = some vh ∧ w'.cell? ⟨w.heap.size + 1, 5, none⟩ = some vs ∧ w'.cell? ⟨w.heap.size + 1, 6, none⟩ = some (.int .i64 x)) (refine ⟨?_, ?_, ?_, ?_, ?_, ?_, ?_, ?_⟩ <;> with_reducible (repeat (first | assumption | apply drew_cell))) ((first
    | (go_at_call 74; refine (entry_fill x vd va vl vh vs av _).mono ?_; rintro e w3 ⟨⟨B, rfl, hbx, hsz⟩, hb⟩; have HBX := hide hbx; have HSZ : Hid (w.heap.size ≤ B) := Nat.le_trans HB2.out.size hsz; have HB3 := hide (Below.on HB2.out.drew hb); have HAR3 := hide ((HAR.out.below ((Below.refl _ _).drew)).below hb); have HOP3 := hide ((HOP.out.below ((Below.refl _ _).drew)).below hb); obtain ⟨⟨r30, r31⟩, _⟩ := HAR3.out.cells; obtain ⟨o30, o31, o32, o33, o34, o35, o36⟩ := HOP3.out.cells; clear hbx hsz hb)
    | (go_at_call 73; refine (fill_any 97 #[.pointer (some ⟨B, 0, none⟩)] g n (List.replicate n x) [] (by simp) _ hn HCF.out ((HR.out.of_block (HB3.out.block g hgl)).congr (fun j _ => by simp [onWay])) (fun i W hi hW => by {
        have hs := HSZ.out
        rw [show (List.replicate n x)[i]?.getD 0 = x by simp [hi]]
        exact ent1_any i B 2 vd va vl vh vs x W ((hW.1 B (by omega)).trans HBX.out) })).mono ?_; rintro e w4 ⟨rfl, hr4, hbut, h04⟩; have H04 := hide h04; have HR4 := hide (onWay_all hr4); have HBU := hide hbut; have HAR4 : Hid (ArrAt w4 w.heap.size _ _) := (HBU.out.1 w.heap.size (by omega)).trans HAR3.out; have HOP4 : Hid (OpAt w4 (w.heap.size + 1) _ _ _ _ _ _ _) := (HBU.out.1 (w.heap.size + 1) (by omega)).trans HOP3.out; obtain ⟨⟨r40, r41⟩, _⟩ := HAR4.out.cells; obtain ⟨o40, o41, o42, o43, o44, o45, o46⟩ := HOP4.out.cells; clear hr4 hbut h04)))
  all_goals go_wp2
  all_goals exact bodyPost_end (v := .tuple #[]) (by simp [results, Tryz.results62, go_sem]) rfl ⟨rfl, HR4.out, Save.of_below HB3.out HBU.out H04.out⟩

/-- What Pick makes of three rows. -/
def pickL (xs ys zs : List Int) (n : Nat) : List Int := (List.range n).map fun i => if xs[i]?.getD 0 ≠ 0 then ys[i]?.getD 0 else zs[i]?.getD 0
theorem pickL_length (xs ys zs : List Int) (n : Nat) : (pickL xs ys zs n).length = n := by simp [pickL]
theorem pickL_at (xs ys zs : List Int) (n i : Nat) (h : i < n) : (pickL xs ys zs n)[i]?.getD 0 = if xs[i]?.getD 0 ≠ 0 then ys[i]?.getD 0 else zs[i]?.getD 0 := by simp [pickL, h]

set_option maxRecDepth 100000 in
set_option maxHeartbeats 2000000 in
theorem ent2_any (i B1 B2 B3 n : Nat) (xa : Option Addr) (xc : Nat) (ya : Option Addr) (yc : Nat) (za : Option Addr) (zc : Nat) (xs ys zs : List Int) (w : World)
    (h1 : Boxed w B1 25 (.slice xa n xc)) (h2 : Boxed w B2 25 (.slice ya n yc)) (h3 : Boxed w B3 25 (.slice za n zc)) (hx : Ints w xa n xs) (hy : Ints w ya n ys) (hz : Ints w za n zs) (hi : i < n) :
    Calls Tryz.prog 99 #[.int .i64 i, .pointer (some ⟨B1, 0, none⟩), .pointer (some ⟨B2, 0, none⟩), .pointer (some ⟨B3, 0, none⟩)] w fun e w' => e = .returned (.int .i64 (if xs[i]?.getD 0 ≠ 0 then ys[i]?.getD 0 else zs[i]?.getD 0)) ∧ w'.heap = w.heap ∧ Below 0 w w' := by
  have hm1 := hx.2.1
  obtain ⟨b, off, rfl, _, hc⟩ := hx.at (by omega)
  obtain ⟨b', off', rfl, _, hc'⟩ := hy.at (by omega)
  obtain ⟨b2, off2, rfl, _, hc2⟩ := hz.at (by omega)
  have cx := hc i hi
  have cy := hc' i hi
  have cz := hc2 i hi
  generalize xs[i]?.getD 0 = X at *
  generalize ys[i]?.getD 0 = Y at *
  generalize zs[i]?.getD 0 = Z at *
  have c1 := h1.cell
  have c2 := h2.cell
  have c3 := h3.cell
  have i1 : (0 : Int) ≤ (i : Int) := Int.natCast_nonneg _
  have i2 : (i : Int) < (n : Int) := by omega
  clear hx hy hz hc hc' hc2 h1 h2 h3
  by_cases c : X = 0
  · have q : (X != 0) = false := by simp [c]
    rw [if_neg (by simp [c])]
    clear c
    go_enter Tryz.func99, Tryz.ntmps99
    go_wp2
    go_ret
    exact ⟨rfl, rfl, Below.refl _ _⟩
  · have q : (X != 0) = true := by simp [c]
    rw [if_pos (by simp [c])]
    clear c
    go_enter Tryz.func99, Tryz.ntmps99
    go_wp2
    go_ret
    exact ⟨rfl, rfl, Below.refl _ _⟩

set_option maxRecDepth 100000 in
set_option maxHeartbeats 2000000 in
theorem entry_pick (x : Int) (vd va vl vh vs : Value) (b off cap n : Nat) (xa : Option Addr) (xc : Nat) (ya : Option Addr) (yc : Nat) (za : Option Addr) (zc : Nat) (w : World)
    (h0 : w.cell? ⟨b, off + 1, none⟩ = some (.slice xa n xc)) (h1 : w.cell? ⟨b, off + 3, none⟩ = some (.slice ya n yc)) (h2 : w.cell? ⟨b, off + 5, none⟩ = some (.slice za n zc)) :
    Calls Tryz.prog 74 #[.agg #[.int .i64 8, vd, va, vl, vh, vs, .int .i64 x], .slice (some ⟨b, off, none⟩) 3 cap] w fun e w' =>
      (∃ B1 B2 B3, e = .returned (.func (Fn.func 99) #[] #[.pointer (some ⟨B1, 0, none⟩), .pointer (some ⟨B2, 0, none⟩), .pointer (some ⟨B3, 0, none⟩)]) ∧
        (Boxed w' B1 25 (.slice xa n xc) ∧ Boxed w' B2 25 (.slice ya n yc) ∧ Boxed w' B3 25 (.slice za n zc)) ∧ w.heap.size ≤ B1 ∧ w.heap.size ≤ B2 ∧ w.heap.size ≤ B3) ∧ Below w.heap.size w w' := by
  have HB1 := hide ((Below.refl w.heap.size w).alloc (Nat.le_refl _) (.cells #[.int .i64 8, vd, va, vl, vh, vs, .int .i64 x] 104))
  have HOP := hide (OpAt.new w 8 vd va vl vh vs x)
  obtain ⟨o0, o1, o2, o3, o4, o5, o6⟩ := HOP.out.cells
  have k0 := (HB1.out.cell (p := ⟨b, off + 1, none⟩) (lt_of_cell h0)).trans h0
  have k1 := (HB1.out.cell (p := ⟨b, off + 3, none⟩) (lt_of_cell h1)).trans h1
  have k2 := (HB1.out.cell (p := ⟨b, off + 5, none⟩) (lt_of_cell h2)).trans h2
  have hbl : b < w.heap.size := lt_of_cell h0
  have hWs : (w.alloc (.cells #[.int .i64 8, vd, va, vl, vh, vs, .int .i64 x] 104)).heap.size = w.heap.size + 1 := by simp
  clear h0 h1 h2 HOP
  go_enter Tryz.func74, Tryz.ntmps74
  go_wp2_with fail
  generalize hW : w.alloc (.cells #[.int .i64 8, vd, va, vl, vh, vs, .int .i64 x] 104) = W at HB1 o0 o1 o2 o3 o4 o5 o6 k0 k1 k2 hWs ⊢
  have HWS := hide hWs
  clear hW hWs
  go_cut [5, 6, 7] (fun v1 v2 v3 wc => ∃ B1 B2 B3 : Nat, v1 = .pointer (some ⟨B1, 0, none⟩) ∧ v2 = .pointer (some ⟨B2, 0, none⟩) ∧ v3 = .pointer (some ⟨B3, 0, none⟩) ∧ (Boxed wc B1 25 (.slice xa n xc) ∧ Boxed wc B2 25 (.slice ya n yc) ∧ Boxed wc B3 25 (.slice za n zc)) ∧ (w.heap.size ≤ B1 ∧ w.heap.size ≤ B2 ∧ w.heap.size ≤ B3) ∧ Below w.heap.size w wc)
  case first =>
    have HX1 : Hid (Boxed (((W.alloc (.cells #[.slice none 0 0] 25)).alloc (.cells #[.slice none 0 0] 25)).alloc (.cells #[.slice none 0 0] 25)) W.heap.size 25 (.slice none 0 0)) := ((Boxed.new W _ _).alloc _).alloc _
    have HX2 : Hid (Boxed (((W.alloc (.cells #[.slice xa n xc] 25)).alloc (.cells #[.slice none 0 0] 25)).alloc (.cells #[.slice none 0 0] 25)) (W.heap.size + 1) 25 (.slice none 0 0)) := (boxed_new (by simp)).alloc _
    have HX3 : Hid (Boxed (((W.alloc (.cells #[.slice xa n xc] 25)).alloc (.cells #[.slice ya n yc] 25)).alloc (.cells #[.slice none 0 0] 25)) (W.heap.size + 1 + 1) 25 (.slice none 0 0)) := boxed_new (by simp)
    have x1 := HX1.out.cell
    have f1 := HX1.out.frozen
    have x2 := HX2.out.cell
    have f2 := HX2.out.frozen
    have x3 := HX3.out.cell
    have f3 := HX3.out.frozen
    have x1' : World.cell? ((((W.alloc (.cells #[.slice none 0 0] 25)).alloc (.cells #[.slice none 0 0] 25)).alloc (.cells #[.slice none 0 0] 25)).drew) ⟨W.heap.size, 0, none⟩ = _ := x1
    have f1' : World.frozen? ((((W.alloc (.cells #[.slice none 0 0] 25)).alloc (.cells #[.slice none 0 0] 25)).alloc (.cells #[.slice none 0 0] 25)).drew) ⟨W.heap.size, 0, none⟩ = _ := f1
    go_region_held3 (fun w' => w'.cell? ⟨b, off + 1, none⟩ = some (.slice xa n xc) ∧ w'.cell? ⟨b, off + 3, none⟩ = some (.slice ya n yc) ∧ w'.cell? ⟨b, off + 5, none⟩ = some (.slice za n zc)) (refine ⟨?_, ?_, ?_⟩ <;> with_reducible (repeat (first | assumption | apply drew_cell | apply alloc_cell | (refine setc_cell ?_ ?_; rotate_left; · (simp; omega))))) (fail)
    all_goals go_wp2
    all_goals go_meet
    all_goals refine ⟨_, _, _, rfl, rfl, rfl, ⟨?_, ?_, ?_⟩, (by have := HWS.out; omega), ?_⟩
    all_goals with_reducible (repeat (first | exact HB1.out | exact boxed_new (by simp) | refine Boxed.alloc ?_ _ | apply boxed_drew | apply bl_drew | apply bl_alloc))
  case rest =>
    obtain ⟨B1, B2, B3, rfl, rfl, rfl, hbx, hsz, hB⟩ := hcut
    have HBX := hide hbx
    have HB := hide hB
    clear hbx hB
    go_wp2
    go_ret
    exact ⟨⟨B1, B2, B3, rfl, HBX.out, hsz⟩, HB.out⟩

set_option maxRecDepth 100000 in
set_option maxHeartbeats 2000000 in
theorem work_pick (x : Int) (vd va vl vh vs od : Value) (g n : Nat) (b off cap : Nat) (xa : Option Addr) (xc : Nat) (ya : Option Addr) (yc : Nat) (za : Option Addr) (zc : Nat) (xs ys zs ws : List Int) (w : World)
    (h0 : w.cell? ⟨b, off + 1, none⟩ = some (.slice xa n xc)) (h1 : w.cell? ⟨b, off + 3, none⟩ = some (.slice ya n yc)) (h2 : w.cell? ⟨b, off + 5, none⟩ = some (.slice za n zc)) (ix : Ints w xa n xs) (iy : Ints w ya n ys) (iz : Ints w za n zs) (ox : OffG g xa) (oy : OffG g ya) (oz : OffG g za) (hrow : w.rowIs g 2 n (onWay (pickL xs ys zs n) ws 0)) :
    Calls Tryz.prog 62 #[.agg #[od, .slice (some ⟨g, 0, none⟩) n n], .agg #[.int .i64 8, vd, va, vl, vh, vs, .int .i64 x], .slice (some ⟨b, off, none⟩) 3 cap] w fun e w' => e = .returned (.tuple #[]) ∧ w'.rowIs g 2 n (onWay (pickL xs ys zs n) ws n) ∧ Save g w w' := by
  have hn := ix.2.1
  have hgl : g < w.heap.size := hrow.lt
  have HIX := hide ix
  have HIY := hide iy
  have HIZ := hide iz
  have HR := hide hrow
  have HB1 := hide ((Below.refl w.heap.size w).alloc (Nat.le_refl _) (.cells #[od, .slice (some ⟨g, 0, none⟩) n n] 101))
  have HB2 := hide (HB1.out.alloc HB1.out.size (.cells #[.int .i64 8, vd, va, vl, vh, vs, .int .i64 x] 104))
  have HAR := hide ((ArrAt.new w od (.slice (some ⟨g, 0, none⟩) n n)).alloc (.cells #[.int .i64 8, vd, va, vl, vh, vs, .int .i64 x] 104))
  have hop := OpAt.new (w.alloc (.cells #[od, .slice (some ⟨g, 0, none⟩) n n] 101)) 8 vd va vl vh vs x
  simp only [World.size_alloc] at hop
  have HOP := hide hop
  obtain ⟨⟨r0, r1⟩, _⟩ := HAR.out.cells
  obtain ⟨o0, o1, o2, o3, o4, o5, o6⟩ := HOP.out.cells
  have k0 := (HB2.out.cell (p := ⟨b, off + 1, none⟩) (lt_of_cell h0)).trans h0
  have k1 := (HB2.out.cell (p := ⟨b, off + 3, none⟩) (lt_of_cell h1)).trans h1
  have k2 := (HB2.out.cell (p := ⟨b, off + 5, none⟩) (lt_of_cell h2)).trans h2
  have HK0 := hide k0
  have HK1 := hide k1
  have HK2 := hide k2
  have hcf : ∀ (args : Array Value) (w : World), (callFunc 99 args).run Tryz.prog w = .ok (.enter 99 args) w := enters Tryz.func99 (by kernel_rfl) (by kernel_rfl)
  have HCF := hide hcf
  have HOX := hide ox
  have HOY := hide oy
  have HOZ := hide oz
  clear h0 h1 h2 k0 k1 k2 ix iy iz hrow hop hcf ox oy oz
  go_enter Tryz.func62, Tryz.ntmps62
  go_wp2_with fail
  go_region_held3 (fun w' => w'.cell? ⟨w.heap.size, 1, none⟩ = some (.slice (some ⟨g, 0, none⟩) n n) ∧ w'.cell? ⟨w.heap.size + 1, 0, none⟩ = some (.int .i64 8) ∧ w'.cell? ⟨w.heap.size + 1, 1, none⟩ = some vd ∧ w'.cell? ⟨w.heap.size + 1, 2, none⟩ = some va ∧ w'.cell? ⟨w.heap.size + 1, 3, none⟩ = some vl ∧ w'.cell? ⟨w.heap.size + 1, 4, none⟩ = some vh ∧ w'.cell? ⟨w.heap.size + 1, 5, none⟩ = some vs ∧ w'.cell? ⟨w.heap.size + 1, 6, none⟩ = some (.int .i64 x)) (refine ⟨?_, ?_, ?_, ?_, ?_, ?_, ?_, ?_⟩ <;> with_reducible (repeat (first | assumption | apply drew_cell))) ((first
      | (go_at_call 74; refine (entry_pick x vd va vl vh vs b off cap n xa xc ya yc za zc _ (drew_cell HK0.out) (drew_cell HK1.out) (drew_cell HK2.out)).mono ?_; rintro e w3 ⟨⟨B1, B2, B3, rfl, hbx, hsz⟩, hb⟩; have HBX := hide hbx; have HSZ : Hid (w.heap.size ≤ B1 ∧ w.heap.size ≤ B2 ∧ w.heap.size ≤ B3) := ⟨Nat.le_trans HB2.out.size hsz.1, Nat.le_trans HB2.out.size hsz.2.1, Nat.le_trans HB2.out.size hsz.2.2⟩; have HB3 := hide (Below.on HB2.out.drew hb); have HAR3 := hide ((HAR.out.below ((Below.refl _ _).drew)).below hb); have HOP3 := hide ((HOP.out.below ((Below.refl _ _).drew)).below hb); obtain ⟨⟨r30, r31⟩, _⟩ := HAR3.out.cells; obtain ⟨o30, o31, o32, o33, o34, o35, o36⟩ := HOP3.out.cells; clear hbx hsz hb)
      | (go_at_call 73; refine (fill_any 99 #[.pointer (some ⟨B1, 0, none⟩), .pointer (some ⟨B2, 0, none⟩), .pointer (some ⟨B3, 0, none⟩)] g n (pickL xs ys zs n) ws (pickL_length _ _ _ _) _ hn HCF.out (HR.out.of_block (HB3.out.block g hgl)) (fun i W hi hW => by {
          rw [pickL_at _ _ _ _ _ hi]
          have hs := HSZ.out
          exact ent2_any i B1 B2 B3 n xa xc ya yc za zc xs ys zs W ((hW.1 B1 (by omega)).trans HBX.out.1) ((hW.1 B2 (by omega)).trans HBX.out.2.1) ((hW.1 B3 (by omega)).trans HBX.out.2.2) (hW.ints (HIX.out.below HB3.out) HOX.out) (hW.ints (HIY.out.below HB3.out) HOY.out) (hW.ints (HIZ.out.below HB3.out) HOZ.out) hi })).mono ?_; rintro e w4 ⟨rfl, hr4, hbut, h04⟩; have H04 := hide h04; have HR4 := hide hr4; have HBU := hide hbut; have HAR4 : Hid (ArrAt w4 w.heap.size _ _) := (HBU.out.1 w.heap.size (by omega)).trans HAR3.out; have HOP4 : Hid (OpAt w4 (w.heap.size + 1) _ _ _ _ _ _ _) := (HBU.out.1 (w.heap.size + 1) (by omega)).trans HOP3.out; obtain ⟨⟨r40, r41⟩, _⟩ := HAR4.out.cells; obtain ⟨o40, o41, o42, o43, o44, o45, o46⟩ := HOP4.out.cells; clear hr4 hbut h04)))
  all_goals go_wp2
  all_goals exact bodyPost_end (v := .tuple #[]) (by simp [results, Tryz.results62, go_sem]) rfl ⟨rfl, HR4.out, Save.of_below HB3.out HBU.out H04.out⟩

/-- What Do tells. -/
def DoO (w : World) (n : Nat) (f : List Int) (e : Ending) (w' : World) : Prop := (∃ g G : Nat, e = .returned (.tuple #[.agg #[.slice (some ⟨g, 0, none⟩) 1 1, .slice (some ⟨G, 0, none⟩) n n], .int .i64 0]) ∧ Ints w' (some ⟨g, 0, none⟩) 1 [(n : Int)] ∧ Ints w' (some ⟨G, 0, none⟩) n f ∧ w.heap.size ≤ G ∧ w.heap.size ≤ g) ∧ Below w.heap.size w w'
theorem off_of {w : World} {a : Option Addr} {n g : Nat} {xs : List Int} (h : Ints w a n xs) (hn : 0 < n) (hg : w.heap.size ≤ g) : OffG g a := by
  intro b o e
  obtain ⟨b', o', e', hb, _⟩ := h.at hn
  rw [e] at e'
  cases e'
  omega
/-- Two by two. -/
def bothL (k : Int) (xs ys : List Int) (n : Nat) : List Int := if k = 3 ∨ k = 4 ∨ k = 5 then twoL k xs ys n else mxL k xs ys n
theorem bothL_length (k : Int) (xs ys : List Int) (n : Nat) : (bothL k xs ys n).length = n := by
  unfold bothL
  split
  · exact twoL_length _ _ _ _
  · exact mxL_length _ _ _ _
theorem bothL_bd (k : Int) (xs ys : List Int) (n : Nat) (hx : ∀ y ∈ xs, -9223372036854775808 ≤ y ∧ y ≤ 9223372036854775807) (hy : ∀ y ∈ ys, -9223372036854775808 ≤ y ∧ y ≤ 9223372036854775807) : ∀ y ∈ bothL k xs ys n, -9223372036854775808 ≤ y ∧ y ≤ 9223372036854775807 := by
  have bd : ∀ (l : List Int) (i : Nat), (∀ y ∈ l, -9223372036854775808 ≤ y ∧ y ≤ 9223372036854775807) → -9223372036854775808 ≤ l[i]?.getD 0 ∧ l[i]?.getD 0 ≤ 9223372036854775807 := fun l i h => by
    cases e : l[i]? with
    | none => simp
    | some v => exact h v (List.mem_of_getElem? e)
  intro y hy'
  unfold bothL at hy'
  split at hy'
  · simp only [twoL, List.mem_map] at hy'
    obtain ⟨i, _, rfl⟩ := hy'
    unfold twoV wrap64
    omega
  · simp only [mxL, List.mem_map] at hy'
    obtain ⟨i, _, rfl⟩ := hy'
    have h1 := bd xs i hx
    have h2 := bd ys i hy
    unfold mxV
    split <;> split <;> omega
theorem do_two (k x : Int) (hk : k = 3 ∨ k = 4 ∨ k = 5 ∨ k = 6 ∨ k = 7) (vd va vl vh vs : Value) (b off cap n : Nat) (v : Nat → AV) (xs ys : List Int) (w : World) (hn0 : 0 < n) (hn : n ≤ 4096) (hA : ArgsAt w (some ⟨b, off, none⟩) 2 n v) (hx : Ints w (v 0).xa n xs) (hy : Ints w (v 1).xa n ys) :
    Calls Tryz.prog 55 #[.agg #[.int .i64 k, vd, va, vl, vh, vs, .int .i64 x], .slice (some ⟨b, off, none⟩) 2 cap] w fun e w' => DoO w n (bothL k xs ys n) e w' := by
  refine Do_m k x vd va vl vh vs _ 2 cap n v (bothL k xs ys n) w hn0 hn (by omega) ?_ hA (bothL_length _ _ _ _) (bothL_bd _ _ _ _ hx.2.2.1 hy.2.2.1) (fun W R hW hD => shape_m k x (by omega) vd va vl vh vs R 2 n v W (by omega) (by omega) hD) ?_
  · rcases hk with rfl | rfl | rfl | rfl | rfl <;> decide
  · intro W Z g hW hg hrow
    obtain ⟨b', off', e, hcs⟩ := hA.resolve_left (by omega)
    cases e
    have c0 := (hcs 0 (by omega)).2.1
    have c1 := (hcs 1 (by omega)).2.1
    have d0 : W.cell? ⟨b, off + 1, none⟩ = some (.slice (v 0).xa n (v 0).xc) := (hW.cell (p := ⟨b, off + 1, none⟩) (lt_of_cell c0)).trans (by simpa using c0)
    have d1 : W.cell? ⟨b, off + 3, none⟩ = some (.slice (v 1).xa n (v 1).xc) := (hW.cell (p := ⟨b, off + 3, none⟩) (lt_of_cell c1)).trans (by simpa using c1)
    by_cases h5 : k = 3 ∨ k = 4 ∨ k = 5
    · have he : bothL k xs ys n = twoL k xs ys n := by unfold bothL; rw [if_pos h5]
      rw [he]
      refine (work_two k x h5 vd va vl vh vs (.slice Z 1 1) g n b off cap (v 0).xa (v 0).xc xs (v 1).xa (v 1).xc ys (List.replicate n 0) W d0 d1 (hx.below hW) (hy.below hW) (off_of hx hn0 hg) (off_of hy hn0 hg) (hrow.congr (fun t ht => by simp [onWay, ht]))).mono ?_
      rintro e w2 ⟨rfl, h2, h3⟩
      exact ⟨rfl, onWay_all h2, h3⟩
    · have he : bothL k xs ys n = mxL k xs ys n := by unfold bothL; rw [if_neg h5]
      rw [he]
      refine (work_mx k x (by omega) vd va vl vh vs (.slice Z 1 1) g n b off cap (v 0).xa (v 0).xc xs (v 1).xa (v 1).xc ys (List.replicate n 0) W d0 d1 (hx.below hW) (hy.below hW) (off_of hx hn0 hg) (off_of hy hn0 hg) (hrow.congr (fun t ht => by simp [onWay, ht]))).mono ?_
      rintro e w2 ⟨rfl, h2, h3⟩
      exact ⟨rfl, onWay_all h2, h3⟩
theorem do_pick (x : Int) (vd va vl vh vs : Value) (b off cap n : Nat) (v : Nat → AV) (xs ys zs : List Int) (w : World) (hn0 : 0 < n) (hn : n ≤ 4096) (hA : ArgsAt w (some ⟨b, off, none⟩) 3 n v) (hx : Ints w (v 0).xa n xs) (hy : Ints w (v 1).xa n ys) (hz : Ints w (v 2).xa n zs) :
    Calls Tryz.prog 55 #[.agg #[.int .i64 8, vd, va, vl, vh, vs, .int .i64 x], .slice (some ⟨b, off, none⟩) 3 cap] w fun e w' => DoO w n (pickL xs ys zs n) e w' := by
  have bd : ∀ (l : List Int) (i : Nat), (∀ y ∈ l, -9223372036854775808 ≤ y ∧ y ≤ 9223372036854775807) → -9223372036854775808 ≤ l[i]?.getD 0 ∧ l[i]?.getD 0 ≤ 9223372036854775807 := fun l i h => by
    cases e : l[i]? with
    | none => simp
    | some v => exact h v (List.mem_of_getElem? e)
  refine Do_m 8 x vd va vl vh vs _ 3 cap n v (pickL xs ys zs n) w hn0 hn (by omega) (by decide) hA (pickL_length _ _ _ _) ?_ (fun W R hW hD => shape_m 8 x (by omega) vd va vl vh vs R 3 n v W (by omega) (by omega) hD) ?_
  · intro y hy'
    simp only [pickL, List.mem_map] at hy'
    obtain ⟨i, _, rfl⟩ := hy'
    split
    · exact bd ys i hy.2.2.1
    · exact bd zs i hz.2.2.1
  · intro W Z g hW hg hrow
    obtain ⟨b', off', e, hcs⟩ := hA.resolve_left (by omega)
    cases e
    have c0 := (hcs 0 (by omega)).2.1
    have c1 := (hcs 1 (by omega)).2.1
    have c2 := (hcs 2 (by omega)).2.1
    have d0 : W.cell? ⟨b, off + 1, none⟩ = some (.slice (v 0).xa n (v 0).xc) := (hW.cell (p := ⟨b, off + 1, none⟩) (lt_of_cell c0)).trans (by simpa using c0)
    have d1 : W.cell? ⟨b, off + 3, none⟩ = some (.slice (v 1).xa n (v 1).xc) := (hW.cell (p := ⟨b, off + 3, none⟩) (lt_of_cell c1)).trans (by simpa using c1)
    have d2 : W.cell? ⟨b, off + 5, none⟩ = some (.slice (v 2).xa n (v 2).xc) := (hW.cell (p := ⟨b, off + 5, none⟩) (lt_of_cell c2)).trans (by simpa using c2)
    refine (work_pick x vd va vl vh vs (.slice Z 1 1) g n b off cap (v 0).xa (v 0).xc (v 1).xa (v 1).xc (v 2).xa (v 2).xc xs ys zs (List.replicate n 0) W d0 d1 d2 (hx.below hW) (hy.below hW) (hz.below hW) (off_of hx hn0 hg) (off_of hy hn0 hg) (off_of hz hn0 hg) (hrow.congr (fun t ht => by simp [onWay, ht]))).mono ?_
    rintro e w2 ⟨rfl, h2, h3⟩
    exact ⟨rfl, onWay_all h2, h3⟩
theorem do_fill (x : Int) (ea : Option Addr) (ec : Nat) (va vl vh vs : Value) (A : Option Addr) (cap n : Nat) (w : World) (hn0 : 0 < n) (hn : n ≤ 4096) (hx : -9223372036854775808 ≤ x ∧ x ≤ 9223372036854775807) (he : Ints w ea 1 [(n : Int)]) :
    Calls Tryz.prog 55 #[.agg #[.int .i64 2, .slice ea 1 ec, va, vl, vh, vs, .int .i64 x], .slice A 0 cap] w fun e w' => DoO w n (List.replicate n x) e w' := by
  refine Do_m 2 x (.slice ea 1 ec) va vl vh vs A 0 cap n (fun _ => ⟨none, 0, none, 0⟩) (List.replicate n x) w hn0 hn (by omega) (by decide) (.inl rfl) (by simp) (fun y hy => by rw [List.eq_of_mem_replicate hy]; exact hx) (fun W R hW hD => shape_f x ea ec va vl vh vs _ n W (he.below hW)) ?_
  intro W Z g hW hg hrow
  exact work_fill x (.slice ea 1 ec) va vl vh vs Z 1 1 g n _ W hrow (by omega)
end Go.Proofs.YtoabffmiedbkkaaGreat.V.C
