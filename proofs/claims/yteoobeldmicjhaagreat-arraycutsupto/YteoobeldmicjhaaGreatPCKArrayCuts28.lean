/-
  Contracts: array.Dims, of Add, Sub and Mul, of two lists of dimensions that are the same. Contract: array.Do, of Add, Sub and Mul, of right arrays with the same dimensions. Contract: adjointlaw2.two, of right arrays with the same dimensions. Contracts: adjointref2.SameArray of arrays that are the same; adjointlaw2.alike. Contract: adjointlaw2.alike. Arrays of numbers that wrap round are a ring. Contract: adjointref2.Get. Contract: adjointref2.placed.
-/
import Derived.Test.YteoobeldmicjhaaGreatPCKArrayCuts27
import Derived.Test.YteoobeldmicjhaaGreatPCKArrayCuts22
import Derived.Test.YteoobeldmicjhaaGreatPCKArrayCuts23
import Derived.Test.YteoobeldmicjhaaGreatPCKArrayCuts8
import Derived.Test.YteoobeldmicjhaaGreatPCKArrayCuts18
import Derived.Test.YteoobeldmicjhaaGreatPCKArrayCuts7
import Derived.Test.YteoobeldmicjhaaGreatPCKArrayCuts20
namespace Go.Proofs.YteoobeldmicjhaaGreat.V
set_option maxRecDepth 20000
open Go.RowKit

set_option maxRecDepth 100000 in
set_option maxHeartbeats 1000000 in
theorem sameDims2 (R : Nat) (da : Option Addr) (dl dc : Nat) (ea : Option Addr) (el ec : Nat) (ds : List Int) (w : World)
    (q0 : w.cell? ⟨R, 0, none⟩ = some (.slice da dl dc)) (q1 : w.cell? ⟨R, 1, none⟩ = some (.slice ea el ec)) (hd : Ints w da dl ds) (he : Ints w ea el ds) (hz : sizeE ds = 0) :
    Calls Tryz.prog 69 #[.slice (some ⟨R, 0, none⟩) 2 2] w fun e w' => (∃ g, e = .returned (.tuple #[.slice (some ⟨g, 0, none⟩) dl dl, .int .i64 0]) ∧ RowI w' g dl ds ∧ w.heap.size ≤ g) ∧ Below w.heap.size w w' := by
  have h6 : dl ≤ 6 := by have := (sizeE_ok hz).1; have := hd.1; omega
  have HD := hide hd
  have HE := hide he
  have HQ0 := hide q0
  have HQ1 := hide q1
  have hR : R < w.heap.size := lt_of_cell q0
  clear hd he q0 q1 hz
  go_enter Tryz.func69, Tryz.ntmps69
  go_wp2
  go_loopw [8] (fun i wr => ∃ k : Nat, k ≤ 2 ∧ i = .int .i64 k ∧ Below w.heap.size w wr) (fun i _ => 2 - (intOf i).toNat)
  case atStart => exact ⟨0, by omega, rfl, Below.refl _ _⟩
  case round =>
    obtain ⟨k, hk, rfl, hB⟩ := hrel
    have HB := hide hB
    clear hB
    have k0 : wr.cell? ⟨R, 0, none⟩ = some (.slice da dl dc) := (HB.out.cell (p := ⟨R, 0, none⟩) hR).trans HQ0.out
    have k1 : wr.cell? ⟨R, 1, none⟩ = some (.slice ea el ec) := (HB.out.cell (p := ⟨R, 1, none⟩) hR).trans HQ1.out
    have hcases : k = 0 ∨ k = 1 ∨ k = 2 := by omega
    rcases hcases with rfl | rfl | rfl
    · go_wp2_with (go_at_call 25; refine (equal_any _ _ _ ds _ _ _ ds _ (HD.out.below HB.out) (HD.out.below HB.out)).mono ?_; rintro e w1 ⟨rfl, n1, hw1⟩; rw [decide_eq_true (rfl : ds = ds)]; have HB1 := hide (Below.on HB.out (hw1 ▸ below_drewN _ n1)); clear hw1)
      go_roundw
      case rel => exact ⟨1, by omega, by go_num, HB1.out⟩
      case measure => simp [intOf]
    · go_wp2_with (go_at_call 25; refine (equal_any _ _ _ ds _ _ _ ds _ (HE.out.below HB.out) (HD.out.below HB.out)).mono ?_; rintro e w1 ⟨rfl, n1, hw1⟩; rw [decide_eq_true (rfl : ds = ds)]; have HB1 := hide (Below.on HB.out (hw1 ▸ below_drewN _ n1)); clear hw1)
      go_roundw
      case rel => exact ⟨2, by omega, by go_num, HB1.out⟩
      case measure => simp [intOf]
    · go_wp2_with (go_at_call 60; refine (afresh_any _ _ _ ds _ (HD.out.below HB.out) (by omega)).mono ?_; rintro e w1 ⟨⟨g, rfl, hr, hg⟩, hb⟩; have HR := hide hr; have HB1 := hide (Below.on HB.out hb); have hgg : w.heap.size ≤ g := Nat.le_trans HB.out.size hg; clear hr hb hg)
      go_ret2
      exact ⟨⟨g, rfl, HR.out, hgg⟩, HB1.out⟩

set_option maxRecDepth 100000 in
set_option maxHeartbeats 2000000 in
theorem shape2 (k : Int) (hk : k = 3 ∨ k = 4 ∨ k = 5) (R : Nat) (da : Option Addr) (dl dc : Nat) (ea : Option Addr) (el ec : Nat) (ds : List Int) (w : World)
    (q0 : w.cell? ⟨R, 0, none⟩ = some (.slice da dl dc)) (q1 : w.cell? ⟨R, 1, none⟩ = some (.slice ea el ec)) (hd : Ints w da dl ds) (he : Ints w ea el ds) (hz : sizeE ds = 0) :
    Calls Tryz.prog 41 #[.agg #[.int .i64 k, .slice none 0 0, .slice none 0 0, .slice none 0 0, .slice none 0 0, .slice none 0 0, .int .i64 0], .slice (some ⟨R, 0, none⟩) 2 2] w fun e w' => (∃ g, e = .returned (.tuple #[.slice (some ⟨g, 0, none⟩) dl dl, .int .i64 0]) ∧ RowI w' g dl ds ∧ w.heap.size ≤ g) ∧ Below w.heap.size w w' := by
  have HB1 := hide ((Below.refl w.heap.size w).alloc (Nat.le_refl _) (.cells #[.int .i64 k, .slice none 0 0, .slice none 0 0, .slice none 0 0, .slice none 0 0, .slice none 0 0, .int .i64 0] 31))
  have HOP := hide (OpAt.new w k (.slice none 0 0) (.slice none 0 0) (.slice none 0 0) (.slice none 0 0) (.slice none 0 0) 0)
  obtain ⟨o0, o1, o2, o3, o4, o5, o6⟩ := HOP.out.cells
  have HS := hide (sameDims2 R da dl dc ea el ec ds (w.alloc (.cells #[.int .i64 k, .slice none 0 0, .slice none 0 0, .slice none 0 0, .slice none 0 0, .slice none 0 0, .int .i64 0] 31)) (alloc_cell q0) (alloc_cell q1) (hd.below HB1.out) (he.below HB1.out) hz)
  clear q0 q1 hd he hz
  rcases hk with rfl | rfl | rfl
  all_goals go_enter Tryz.func41, Tryz.ntmps41
  all_goals go_wp2_with (go_at_call 69; refine HS.out.mono ?_; rintro e w1 ⟨⟨g, rfl, hr, hg⟩, hb⟩; have HR := hide hr; have HB2 := hide (Below.on HB1.out hb); have hgg : w.heap.size ≤ g := Nat.le_trans HB1.out.size hg; clear hr hb hg)
  all_goals go_ret2
  all_goals exact ⟨⟨g, rfl, HR.out, hgg⟩, HB2.out⟩

theorem takes_two {k : Int} (hk : k = 3 ∨ k = 4 ∨ k = 5) : takesE k 2 = 0 := by rcases hk with rfl | rfl | rfl <;> decide

set_option maxRecDepth 100000 in
set_option maxHeartbeats 2000000 in
theorem Dims2 (k : Int) (hk : k = 3 ∨ k = 4 ∨ k = 5) (R : Nat) (da : Option Addr) (dl dc : Nat) (ea : Option Addr) (el ec : Nat) (ds : List Int) (w : World)
    (q0 : w.cell? ⟨R, 0, none⟩ = some (.slice da dl dc)) (q1 : w.cell? ⟨R, 1, none⟩ = some (.slice ea el ec)) (hd : Ints w da dl ds) (he : Ints w ea el ds) (hz : sizeE ds = 0) :
    Calls Tryz.prog 22 #[.agg #[.int .i64 k, .slice none 0 0, .slice none 0 0, .slice none 0 0, .slice none 0 0, .slice none 0 0, .int .i64 0], .slice (some ⟨R, 0, none⟩) 2 2] w fun e w' => (∃ g, e = .returned (.tuple #[.slice (some ⟨g, 0, none⟩) dl dl, .int .i64 0]) ∧ RowI w' g dl ds ∧ w.heap.size ≤ g) ∧ Below w.heap.size w w' := by
  have HB1 := hide ((Below.refl w.heap.size w).alloc (Nat.le_refl _) (.cells #[.int .i64 k, .slice none 0 0, .slice none 0 0, .slice none 0 0, .slice none 0 0, .slice none 0 0, .int .i64 0] 31))
  have HOP := hide (OpAt.new w k (.slice none 0 0) (.slice none 0 0) (.slice none 0 0) (.slice none 0 0) (.slice none 0 0) 0)
  obtain ⟨o0, o1, o2, o3, o4, o5, o6⟩ := HOP.out.cells
  have h6 : dl ≤ 6 := by have := (sizeE_ok hz).1; have := hd.1; omega
  have HD := hide hd
  have HE := hide he
  have HZ := hide hz
  have HQ0 := hide q0
  have HQ1 := hide q1
  have hR : R < w.heap.size := lt_of_cell q0
  have HTT := hide (takes_two hk)
  have HK := hide hk
  clear q0 q1 hd he hz hk
  go_enter Tryz.func22, Tryz.ntmps22
  go_wp2_with (go_at_call 20; refine (takes_any _ _ _).mono ?_; rintro e w' ⟨rfl, hw'⟩; obtain rfl := hw'.symm; rw [HTT.out])
  go_loopw [25] (fun i wr => ∃ j : Nat, j ≤ 2 ∧ i = .int .i64 j ∧ OpAt wr w.heap.size k (.slice none 0 0) (.slice none 0 0) (.slice none 0 0) (.slice none 0 0) (.slice none 0 0) 0 ∧ Below w.heap.size w wr) (fun i _ => 2 - (intOf i).toNat)
  case atStart => exact ⟨0, by omega, rfl, HOP.out, HB1.out⟩
  case round =>
    obtain ⟨j, hj, rfl, ho, hB⟩ := hrel
    have HO := hide ho
    have HB := hide hB
    clear ho hB o0 o1 o2 o3 o4 o5 o6
    have k0 : wr.cell? ⟨R, 0, none⟩ = some (.slice da dl dc) := (HB.out.cell (p := ⟨R, 0, none⟩) hR).trans HQ0.out
    have k1 : wr.cell? ⟨R, 1, none⟩ = some (.slice ea el ec) := (HB.out.cell (p := ⟨R, 1, none⟩) hR).trans HQ1.out
    have hcases : j = 0 ∨ j = 1 ∨ j = 2 := by omega
    rcases hcases with rfl | rfl | rfl
    · go_wp2_with (go_at_call 40; refine (size_any _ _ _ ds _ (HD.out.below HB.out)).mono ?_; rintro e w' ⟨rfl, hw'⟩; obtain rfl := hw'.symm; rw [HZ.out])
      go_roundw
      case rel => exact ⟨1, by omega, by go_num, HO.out, HB.out⟩
      case measure => simp [intOf]
    · go_wp2_with (go_at_call 40; refine (size_any _ _ _ ds _ (HE.out.below HB.out)).mono ?_; rintro e w' ⟨rfl, hw'⟩; obtain rfl := hw'.symm; rw [HZ.out])
      go_roundw
      case rel => exact ⟨2, by omega, by go_num, HO.out, HB.out⟩
      case measure => simp [intOf]
    · have HS := hide (shape2 k HK.out R da dl dc ea el ec ds wr k0 k1 (HD.out.below HB.out) (HE.out.below HB.out) HZ.out)
      obtain ⟨o0, o1, o2, o3, o4, o5, o6⟩ := HO.out.cells
      have HLD := hide HD.out.1
      have HBD := hide HD.out.2.2.1
      go_wp2_with (first
        | (go_at_call 41; refine HS.out.mono ?_; rintro e w1 ⟨⟨g, rfl, hr, hg⟩, hb⟩; have HR := hide hr; have HB2 := hide (Below.on HB.out hb); have hgg : w.heap.size ≤ g := Nat.le_trans HB.out.size hg; clear hr hb hg)
        | (go_at_call 40; refine (size_any _ _ _ ds _ (ints_of_rowI HR.out HLD.out (by omega) HBD.out)).mono ?_; rintro e w' ⟨rfl, hw'⟩; obtain rfl := hw'.symm; rw [HZ.out]))
      go_ret2
      exact ⟨⟨g, rfl, HR.out, hgg⟩, HB2.out⟩
end Go.Proofs.YteoobeldmicjhaaGreat.V
namespace Go.Proofs.YteoobeldmicjhaaGreat.V
set_option maxRecDepth 20000
open Go.RowKit

theorem info_int64 : (Tryz.prog.info? 2).map (fun i => (i.zero, i.size, i.bytes)) = some (some (.int .i64 0), 1, 8) := by kernel_rfl
theorem twoV_bd (k a b : Int) : -9223372036854775808 ≤ twoV k a b ∧ twoV k a b ≤ 9223372036854775807 := by
  unfold twoV wrap64
  omega
theorem twoL_bd (k : Int) (xs ys : List Int) (n : Nat) : ∀ x ∈ twoL k xs ys n, -9223372036854775808 ≤ x ∧ x ≤ 9223372036854775807 := by
  intro x hx
  simp only [twoL, List.mem_map] at hx
  obtain ⟨i, _, rfl⟩ := hx
  exact twoV_bd _ _ _
theorem arrE_ok {ds : List Int} {n : Nat} (h : arrE ds n = 0) : sizeE ds = 0 ∧ (n : Int) = prod ds ∧ n ≤ 65536 := by
  unfold arrE at h
  by_cases c : sizeE ds ≠ 0
  · rw [if_pos c] at h; exact absurd h c
  rw [if_neg c] at h
  have c' : sizeE ds = 0 := Decidable.not_not.1 c
  by_cases d : (n : Int) ≠ sizeN ds
  · rw [if_pos d] at h; simp at h
  have d' : (n : Int) = sizeN ds := Decidable.not_not.1 d
  rw [size_prod c'] at d'
  have := sizeE_ok c'
  refine ⟨c', d', ?_⟩
  by_cases p : ∀ x ∈ ds, 1 ≤ x
  · have := (this.2.2.1 p).1; omega
  · have hz : (0 : Int) ∈ ds := by
      simp only [Classical.not_forall] at p
      obtain ⟨x, hx, hn⟩ := p
      have := this.2.1 x hx
      obtain rfl : x = 0 := by omega
      exact hx
    have e := this.2.2.2 hz
    rw [size_prod c'] at e
    omega
theorem ArrAt.set {w : World} {b : Nat} {c0 c1 : Value} (h : ArrAt w b c0 c1) {p : Addr} (hne : b ≠ p.block) (u : Value) : ArrAt (w.setCell p u) b c0 c1 := (Below.heap_setCell _ _ _ _ hne).trans h
theorem ArrAt.put {w : World} {b : Nat} {c0 c1 : Value} (h : ArrAt w b c0 c1) (d0 d1 : Value) : ArrAt ((w.setCell ⟨b, 0, none⟩ d0).setCell ⟨b, 1, none⟩ d1) b d0 d1 := by
  unfold ArrAt at *
  simp [World.setCell, Array.getElem?_modify, h]
/-- The row of the arguments' dimensions, as far as it has come. -/
def rowD (u v : Value) (j t : Nat) : Value := if t < j then (if t = 0 then u else v) else .slice none 0 0

set_option maxRecDepth 100000 in
set_option maxHeartbeats 4000000 in
theorem Do_two (k : Int) (hk : k = 3 ∨ k = 4 ∨ k = 5) (b off cap : Nat) (da : Option Addr) (dl dc : Nat) (ea : Option Addr) (el ec : Nat) (ds : List Int) (n : Nat) (xa : Option Addr) (xc : Nat) (xs : List Int) (ya : Option Addr) (yc : Nat) (ys : List Int) (w : World)
    (c0 : w.cell? ⟨b, off, none⟩ = some (.slice da dl dc)) (c1 : w.cell? ⟨b, off + 1, none⟩ = some (.slice xa n xc)) (c2 : w.cell? ⟨b, off + 2, none⟩ = some (.slice ea el ec)) (c3 : w.cell? ⟨b, off + 3, none⟩ = some (.slice ya n yc))
    (hd : Ints w da dl ds) (he : Ints w ea el ds) (ix : Ints w xa n xs) (iy : Ints w ya n ys) (hE : arrE ds n = 0) :
    Calls Tryz.prog 9 #[.agg #[.int .i64 k, .slice none 0 0, .slice none 0 0, .slice none 0 0, .slice none 0 0, .slice none 0 0, .int .i64 0], .slice (some ⟨b, off, none⟩) 2 cap] w fun e w' =>
      (∃ g G : Nat, e = .returned (.tuple #[.agg #[.slice (some ⟨g, 0, none⟩) dl dl, .slice (some ⟨G, 0, none⟩) n n], .int .i64 0]) ∧ Ints w' (some ⟨g, 0, none⟩) dl ds ∧ Ints w' (some ⟨G, 0, none⟩) n (twoL k xs ys n) ∧ w.heap.size ≤ g ∧ w.heap.size ≤ G) ∧ Below w.heap.size w w' := by
  obtain ⟨z1, z2, z3⟩ := arrE_ok hE
  have HZ := hide z1
  have HN := hide z2
  have HE := hide hE
  have HD := hide hd
  have HE2 := hide he
  have HIX := hide ix
  have HIY := hide iy
  have HK := hide hk
  have HTT := hide (takes_two hk)
  have hbl : b < w.heap.size := lt_of_cell c0
  have HC0 := hide c0
  have HC1 := hide c1
  have HC2 := hide c2
  have HC3 := hide c3
  have HB1 := hide ((Below.refl w.heap.size w).alloc (Nat.le_refl _) (.cells #[.int .i64 k, .slice none 0 0, .slice none 0 0, .slice none 0 0, .slice none 0 0, .slice none 0 0, .int .i64 0] 31))
  have HB2 := hide (HB1.out.alloc HB1.out.size (.cells #[.slice none 0 0, .slice none 0 0] 25))
  have HOP := hide ((OpAt.new w k (.slice none 0 0) (.slice none 0 0) (.slice none 0 0) (.slice none 0 0) (.slice none 0 0) 0).alloc (.cells #[.slice none 0 0, .slice none 0 0] 25))
  have har := ArrAt.new (w.alloc (.cells #[.int .i64 k, .slice none 0 0, .slice none 0 0, .slice none 0 0, .slice none 0 0, .slice none 0 0, .int .i64 0] 31)) (.slice none 0 0) (.slice none 0 0)
  simp only [World.size_alloc] at har
  have HAR := hide har
  obtain ⟨o0, o1, o2, o3, o4, o5, o6⟩ := HOP.out.cells
  have hmk : ∀ w : World, (Instr.makeSlice 45 (.int .i64 2) (.int .i64 2)).run Tryz.prog w = .ok (.slice (some ⟨w.heap.size, 0, none⟩) 2 2) (w.alloc (.cells (madeCells #[.slice none 0 0] 2) 22)) := run_make_row' (P := Tryz.prog) 45 22 (.slice none 0 0) 24 Tryz.underlying45 info_ints rfl .i64 .i64 2 (by omega) (by omega)
  have hmk2 := run_make_row' (P := Tryz.prog) 23 2 (.int .i64 0) 8 Tryz.underlying23 info_int64 rfl .i64 .i64 n (by omega) (by omega)
  clear hk hd he ix iy hE z1 z2 har c0 c1 c2 c3
  go_enter Tryz.func9, Tryz.ntmps9
  go_wp2_with (go_at_call 20; refine (takes_any _ _ _).mono ?_; rintro e w' ⟨rfl, hw'⟩; obtain rfl := hw'.symm; rw [HTT.out])
  go_loopw [28] (fun i wr => ∃ j : Nat, j ≤ 2 ∧ i = .int .i64 j ∧ wr.rowIs (w.heap.size + 1 + 1) 22 2 (rowD (.slice da dl dc) (.slice ea el ec) j) ∧ OpAt wr w.heap.size k (.slice none 0 0) (.slice none 0 0) (.slice none 0 0) (.slice none 0 0) (.slice none 0 0) 0 ∧ ArrAt wr (w.heap.size + 1) (.slice none 0 0) (.slice none 0 0) ∧ Below w.heap.size w wr) (fun i _ => 2 - (intOf i).toNat)
  case atStart =>
    refine ⟨0, by omega, rfl, ?_, HOP.out.alloc _, HAR.out.alloc _, HB2.out.alloc HB2.out.size _⟩
    have := World.rowIs_made ((w.alloc (.cells #[.int .i64 k, .slice none 0 0, .slice none 0 0, .slice none 0 0, .slice none 0 0, .slice none 0 0, .int .i64 0] 31)).alloc (.cells #[.slice none 0 0, .slice none 0 0] 25)) (.slice none 0 0) 2 22
    simp only [World.size_alloc] at this
    exact this.congr (fun t _ => by simp [rowD])
  case round =>
    obtain ⟨j, hj, rfl, hrow, hop, har, hB⟩ := hrel
    have HR := hide hrow
    have HO := hide hop
    have HA := hide har
    have HB := hide hB
    clear hrow hop har hB o0 o1 o2 o3 o4 o5 o6
    have hcases : j = 0 ∨ j = 1 ∨ j = 2 := by omega
    rcases hcases with rfl | rfl | rfl
    · have s0 : wr.cell? ⟨b, off, none⟩ = some (.slice da dl dc) := (HB.out.cell (p := ⟨b, off, none⟩) hbl).trans HC0.out
      have s1 : wr.cell? ⟨b, off + 1, none⟩ = some (.slice xa n xc) := (HB.out.cell (p := ⟨b, off + 1, none⟩) hbl).trans HC1.out
      have HAN := hide (ArrAt.new wr (.slice da dl dc) (.slice xa n xc))
      have HBN := hide (HB.out.alloc HB.out.size (.cells #[.slice da dl dc, .slice xa n xc] 25))
      obtain ⟨⟨a0, a1⟩, _⟩ := HAN.out.cells
      go_wp2_with (go_at_call 21; refine (awrong_any da dl dc ds xa n xc _ (HD.out.below HBN.out)).mono ?_; rintro e w1 ⟨rfl, hb⟩; rw [HE.out]; have HB3 := hide (Below.on HBN.out hb); have HA3 := hide ((HA.out.alloc _).below hb); have HO3 := hide ((HO.out.alloc _).below hb); have HR3 := hide ((HR.out.of_block (Below.heap_alloc _ (.cells #[.slice da dl dc, .slice xa n xc] 25) _ HR.out.lt)).of_block (hb.block _ (by have := HR.out.lt; simp; omega))); have HAN3 := hide (HAN.out.below hb); clear a0 a1 hb; obtain ⟨⟨a0, a1⟩, _⟩ := HAN3.out.cells; have hr := HR3.out.cell (i := 0) (by omega); have hf := HR3.out.frozen 0)
      go_roundw
      case rel =>
        refine ⟨1, by omega, by go_num, (HR3.out.set 0 (.slice da dl dc)).congr (fun t ht => ?_), HO3.out.set (p := ⟨w.heap.size + 1 + 1, 0, none⟩) (by simp; omega) _, HA3.out.set (p := ⟨w.heap.size + 1 + 1, 0, none⟩) (by simp) _, HB3.out.setCell (p := ⟨w.heap.size + 1 + 1, 0, none⟩) (by simp; omega) _⟩
        have : t = 0 ∨ t = 1 := by omega
        rcases this with rfl | rfl <;> simp [rowD]
      case measure => simp [intOf]
    · have s0 : wr.cell? ⟨b, off + 2, none⟩ = some (.slice ea el ec) := (HB.out.cell (p := ⟨b, off + 2, none⟩) hbl).trans HC2.out
      have s1 : wr.cell? ⟨b, off + 3, none⟩ = some (.slice ya n yc) := (HB.out.cell (p := ⟨b, off + 3, none⟩) hbl).trans HC3.out
      have HAN := hide (ArrAt.new wr (.slice ea el ec) (.slice ya n yc))
      have HBN := hide (HB.out.alloc HB.out.size (.cells #[.slice ea el ec, .slice ya n yc] 25))
      obtain ⟨⟨a0, a1⟩, _⟩ := HAN.out.cells
      go_wp2_with (go_at_call 21; refine (awrong_any ea el ec ds ya n yc _ (HE2.out.below HBN.out)).mono ?_; rintro e w1 ⟨rfl, hb⟩; rw [HE.out]; have HB3 := hide (Below.on HBN.out hb); have HA3 := hide ((HA.out.alloc _).below hb); have HO3 := hide ((HO.out.alloc _).below hb); have HR3 := hide ((HR.out.of_block (Below.heap_alloc _ (.cells #[.slice ea el ec, .slice ya n yc] 25) _ HR.out.lt)).of_block (hb.block _ (by have := HR.out.lt; simp; omega))); have HAN3 := hide (HAN.out.below hb); clear a0 a1 hb; obtain ⟨⟨a0, a1⟩, _⟩ := HAN3.out.cells; have hr := HR3.out.cell (i := 1) (by omega); have hf := HR3.out.frozen 1)
      go_roundw
      case rel =>
        refine ⟨2, by omega, by go_num, (HR3.out.set 1 (.slice ea el ec)).congr (fun t ht => ?_), HO3.out.set (p := ⟨w.heap.size + 1 + 1, 1, none⟩) (by simp; omega) _, HA3.out.set (p := ⟨w.heap.size + 1 + 1, 1, none⟩) (by simp) _, HB3.out.setCell (p := ⟨w.heap.size + 1 + 1, 1, none⟩) (by simp; omega) _⟩
        have : t = 0 ∨ t = 1 := by omega
        rcases this with rfl | rfl <;> simp [rowD]
      case measure => simp [intOf]
    · have q0 : wr.cell? ⟨w.heap.size + 1 + 1, 0, none⟩ = some (.slice da dl dc) := HR.out.cell (i := 0) (by omega)
      have q1 : wr.cell? ⟨w.heap.size + 1 + 1, 1, none⟩ = some (.slice ea el ec) := HR.out.cell (i := 1) (by omega)
      have HS := hide (Dims2 k HK.out (w.heap.size + 1 + 1) da dl dc ea el ec ds wr q0 q1 (HD.out.below HB.out) (HE2.out.below HB.out) HZ.out)
      obtain ⟨o0, o1, o2, o3, o4, o5, o6⟩ := HO.out.cells
      have HLD := hide HD.out.1
      have HBD := hide HD.out.2.2.1
      have h6 : dl ≤ 6 := by have := (sizeE_ok HZ.out).1; have := HLD.out; omega
      clear q0 q1
      by_cases hn0 : (0 : Int) < (n : Int)
      case neg =>
        have hn2 : decide ((0 : Int) < (n : Int)) = false := decide_eq_false hn0
        have hn3 : n = 0 := by omega
        have hn4 : decide (0 < n) = false := decide_eq_false (by omega)
        have hn5 : ¬ 0 < n := by omega
        have HN3 := hide hn3
        clear hn3 hn0
        go_wp2_with (first
          | (go_at_call 22; refine HS.out.mono ?_; rintro e w1 ⟨⟨g, rfl, hr, hg⟩, hb⟩; have HRD := hide hr; have HB2 := hide (Below.on HB.out hb); have hgg : wr.heap.size ≤ g := hg; have hna := HA.out.lt; have HO2 := hide (HO.out.below hb); have HA2 := hide (HA.out.below hb); have hgl : g < w1.heap.size := hr.lt; clear hr hb hg o0 o1 o2 o3 o4 o5 o6; obtain ⟨o0, o1, o2, o3, o4, o5, o6⟩ := HO2.out.cells)
          | (go_at_call 23; refine (count_any _ _ _ ds _ (ints_of_rowI HRD.out HLD.out (by omega) HBD.out) (count_ok HZ.out)).mono ?_; rintro e w' ⟨rfl, hw'⟩; obtain rfl := hw'.symm; rw [← HN.out]; have HO5 := hide ((HO2.out.alloc (.cells (madeCells #[.int .i64 0] n) 2)).alloc (.cells #[.slice (some ⟨g, 0, none⟩) dl dl, .slice (some ⟨w1.heap.size, 0, none⟩) n n] 25)); have HA5 := hide ((HA2.out.alloc (.cells (madeCells #[.int .i64 0] n) 2)).alloc (.cells #[.slice (some ⟨g, 0, none⟩) dl dl, .slice (some ⟨w1.heap.size, 0, none⟩) n n] 25)); have HB5 := hide ((HB2.out.alloc HB2.out.size (.cells (madeCells #[.int .i64 0] n) 2)).alloc (HB2.out.alloc HB2.out.size (.cells (madeCells #[.int .i64 0] n) 2)).size (.cells #[.slice (some ⟨g, 0, none⟩) dl dl, .slice (some ⟨w1.heap.size, 0, none⟩) n n] 25)); have hx5 := ArrAt.new (w1.alloc (.cells (madeCells #[.int .i64 0] n) 2)) (.slice (some ⟨g, 0, none⟩) dl dl) (.slice (some ⟨w1.heap.size, 0, none⟩) n n); simp only [World.size_alloc] at hx5; have HX5 := hide hx5; clear o0 o1 o2 o3 o4 o5 o6 hx5; obtain ⟨o0, o1, o2, o3, o4, o5, o6⟩ := HO5.out.cells; obtain ⟨⟨x0, x1⟩, _⟩ := HX5.out.cells; obtain ⟨⟨a0, a1⟩, fa0, fa1⟩ := HA5.out.cells))
        obtain ⟨⟨u0, u1⟩, _⟩ := (HA5.out.put (.slice (some ⟨g, 0, none⟩) dl dl) (.slice (some ⟨w1.heap.size, 0, none⟩) n n)).cells
        have hs1 := HB2.out.size
        have ha1 := HA2.out.lt
        refine bodyPost_ret (v := .tuple #[.agg #[.slice (some ⟨g, 0, none⟩) dl dl, .slice (some ⟨w1.heap.size, 0, none⟩) n n], .int .i64 0]) (by simp [results, Tryz.results9, go_sem, u0, u1]) rfl ⟨⟨g, w1.heap.size, rfl, ?_, ?_, by have := HB.out.size; omega, hs1⟩, ?_⟩
        · exact ints_of_rowI ((((HRD.out.of_block (Below.heap_alloc _ (.cells (madeCells #[.int .i64 0] n) 2) _ hgl)).of_block (Below.heap_alloc _ (.cells #[.slice (some ⟨g, 0, none⟩) dl dl, .slice (some ⟨w1.heap.size, 0, none⟩) n n] 25) _ (by simp; omega))).setOther (a := ⟨w.heap.size + 1, 0, none⟩) (by simp; omega) _).setOther (a := ⟨w.heap.size + 1, 1, none⟩) (by simp; omega) _) HLD.out (by omega) HBD.out
        · exact ⟨twoL_length _ _ _ _, by omega, twoL_bd _ _ _ _, .inl HN3.out⟩
        · exact (HB5.out.setCell (p := ⟨w.heap.size + 1, 0, none⟩) (by simp) _).setCell (p := ⟨w.heap.size + 1, 1, none⟩) (by simp) _
      have hxl : ∀ b' o', xa = some ⟨b', o', none⟩ → b' < w.heap.size := fun b' o' e' => by
        obtain ⟨bb, oo, e2, hbb, _⟩ := HIX.out.at (by omega)
        rw [e'] at e2; cases e2; exact hbb
      have hyl : ∀ b' o', ya = some ⟨b', o', none⟩ → b' < w.heap.size := fun b' o' e' => by
        obtain ⟨bb, oo, e2, hbb, _⟩ := HIY.out.at (by omega)
        rw [e'] at e2; cases e2; exact hbb
      have HXL := hide hxl
      have HYL := hide hyl
      clear hxl hyl
      go_wp2_with (first
        | (go_at_call 22; refine HS.out.mono ?_; rintro e w1 ⟨⟨g, rfl, hr, hg⟩, hb⟩; have HRD := hide hr; have HB2 := hide (Below.on HB.out hb); have hgg : wr.heap.size ≤ g := hg; have hna := HA.out.lt; have HO2 := hide (HO.out.below hb); have HA2 := hide (HA.out.below hb); have hgl : g < w1.heap.size := hr.lt; clear hr hb hg o0 o1 o2 o3 o4 o5 o6; obtain ⟨o0, o1, o2, o3, o4, o5, o6⟩ := HO2.out.cells)
        | (go_at_call 23; refine (count_any _ _ _ ds _ (ints_of_rowI HRD.out HLD.out (by omega) HBD.out) (count_ok HZ.out)).mono ?_; rintro e w' ⟨rfl, hw'⟩; obtain rfl := hw'.symm; rw [← HN.out]; have HO5 := hide ((HO2.out.alloc (.cells (madeCells #[.int .i64 0] n) 2)).alloc (.cells #[.slice (some ⟨g, 0, none⟩) dl dl, .slice (some ⟨w1.heap.size, 0, none⟩) n n] 25)); have HA5 := hide ((HA2.out.alloc (.cells (madeCells #[.int .i64 0] n) 2)).alloc (.cells #[.slice (some ⟨g, 0, none⟩) dl dl, .slice (some ⟨w1.heap.size, 0, none⟩) n n] 25)); have HB5 := hide ((HB2.out.alloc HB2.out.size (.cells (madeCells #[.int .i64 0] n) 2)).alloc (HB2.out.alloc HB2.out.size (.cells (madeCells #[.int .i64 0] n) 2)).size (.cells #[.slice (some ⟨g, 0, none⟩) dl dl, .slice (some ⟨w1.heap.size, 0, none⟩) n n] 25)); have hx5 := ArrAt.new (w1.alloc (.cells (madeCells #[.int .i64 0] n) 2)) (.slice (some ⟨g, 0, none⟩) dl dl) (.slice (some ⟨w1.heap.size, 0, none⟩) n n); simp only [World.size_alloc] at hx5; have HX5 := hide hx5; clear o0 o1 o2 o3 o4 o5 o6 hx5; obtain ⟨o0, o1, o2, o3, o4, o5, o6⟩ := HO5.out.cells; obtain ⟨⟨x0, x1⟩, _⟩ := HX5.out.cells)
        | (go_at_call 24; refine (work_two k 0 HK.out (.slice none 0 0) (.slice none 0 0) (.slice none 0 0) (.slice none 0 0) (.slice none 0 0) (.slice (some ⟨g, 0, none⟩) dl dl) w1.heap.size n b off cap xa xc xs ya yc ys [] _ ((HB5.out.cell (p := ⟨b, off + 1, none⟩) hbl).trans HC1.out) ((HB5.out.cell (p := ⟨b, off + 3, none⟩) hbl).trans HC3.out) (HIX.out.below HB5.out) (HIY.out.below HB5.out) (fun b' o' e' => by { have := HXL.out b' o' e'; have := HB2.out.size; omega }) (fun b' o' e' => by { have := HYL.out b' o' e'; have := HB2.out.size; omega }) ((World.rowIs_made w1 (.int .i64 0) n 2).of_block (Below.heap_alloc _ _ _ (by simp)) |>.congr (fun j _ => by simp [onWay]))).mono ?_; rintro e w6 ⟨rfl, hr6, hsv⟩; have hs1 := HB2.out.size; have ha1 := HA2.out.lt; have HR6 := hide hr6; have HX6 : Hid (ArrAt w6 (w1.heap.size + 1) _ _) := (hsv.1 (w1.heap.size + 1) (by simp) (by omega)).trans HX5.out; have HA6 : Hid (ArrAt w6 (w.heap.size + 1) _ _) := (hsv.1 (w.heap.size + 1) (by simp; omega) (by omega)).trans HA5.out; have HD6 : Hid (RowI w6 g dl ds) := ((HRD.out.of_block (Below.heap_alloc _ (.cells (madeCells #[.int .i64 0] n) 2) _ hgl)).of_block (Below.heap_alloc _ (.cells #[.slice (some ⟨g, 0, none⟩) dl dl, .slice (some ⟨w1.heap.size, 0, none⟩) n n] 25) _ (by simp; omega))).of_block (hsv.1 g (by simp; omega) (by omega)); have HB6 := hide (Save.below HB5.out hsv (by omega) (Nat.le_refl _)); clear hsv hr6 x0 x1 o0 o1 o2 o3 o4 o5 o6; obtain ⟨⟨x0, x1⟩, _⟩ := HX6.out.cells; obtain ⟨⟨a0, a1⟩, fa0, fa1⟩ := HA6.out.cells))
      obtain ⟨⟨u0, u1⟩, _⟩ := (HA6.out.put (.slice (some ⟨g, 0, none⟩) dl dl) (.slice (some ⟨w1.heap.size, 0, none⟩) n n)).cells
      have hs1 := HB2.out.size
      have ha1 := HA2.out.lt
      refine bodyPost_ret (v := .tuple #[.agg #[.slice (some ⟨g, 0, none⟩) dl dl, .slice (some ⟨w1.heap.size, 0, none⟩) n n], .int .i64 0]) (by simp [results, Tryz.results9, go_sem, u0, u1]) rfl ⟨⟨g, w1.heap.size, rfl, ?_, ?_, by have := HB.out.size; omega, hs1⟩, ?_⟩
      · exact ints_of_rowI ((HD6.out.setOther (a := ⟨w.heap.size + 1, 0, none⟩) (by simp; omega) _).setOther (a := ⟨w.heap.size + 1, 1, none⟩) (by simp; omega) _) HLD.out (by omega) HBD.out
      · have hr7 := (onWay_all HR6.out); have hr8 := ((hr7.setOther (a := ⟨w.heap.size + 1, 0, none⟩) (by simp; omega) (.slice (some ⟨g, 0, none⟩) dl dl)).setOther (a := ⟨w.heap.size + 1, 1, none⟩) (by simp; omega) (.slice (some ⟨w1.heap.size, 0, none⟩) n n)); exact ⟨twoL_length _ _ _ _, by omega, twoL_bd _ _ _ _, .inr ⟨_, _, rfl, fun j hj => by rw [Nat.zero_add]; exact hr8.cell hj⟩⟩
      · exact (HB6.out.setCell (p := ⟨w.heap.size + 1, 0, none⟩) (by simp) _).setCell (p := ⟨w.heap.size + 1, 1, none⟩) (by simp) _
end Go.Proofs.YteoobeldmicjhaaGreat.V
namespace Go.Proofs.YteoobeldmicjhaaGreat.V
set_option maxRecDepth 20000
open Go.RowKit

/-- A block of four values. -/
def FourAt (w : World) (b : Nat) (c0 c1 c2 c3 : Value) : Prop := w.heap[b]? = some (.cells #[c0, c1, c2, c3] 25 (0, 0))
theorem FourAt.new {w : World} {B : Nat} (c0 c1 c2 c3 : Value) (h : w.heap.size = B) : FourAt (w.alloc (.cells #[c0, c1, c2, c3] 25)) B c0 c1 c2 c3 := h ▸ World.alloc_heap_new w _
theorem FourAt.cells {w : World} {b : Nat} {c0 c1 c2 c3 : Value} (h : FourAt w b c0 c1 c2 c3) : w.cell? ⟨b, 0, none⟩ = some c0 ∧ w.cell? ⟨b, 1, none⟩ = some c1 ∧ w.cell? ⟨b, 2, none⟩ = some c2 ∧ w.cell? ⟨b, 3, none⟩ = some c3 := by
  unfold FourAt at h
  refine ⟨?_, ?_, ?_, ?_⟩ <;> simp [World.cell?, h]

end Go.Proofs.YteoobeldmicjhaaGreat.V
namespace Go.Proofs.YteoobeldmicjhaaGreat.V
set_option maxRecDepth 20000
open Go.RowKit

set_option maxRecDepth 100000 in
set_option maxHeartbeats 2000000 in
theorem sameArr_true (da : Option Addr) (dl dc : Nat) (ea : Option Addr) (el ec : Nat) (ds : List Int) (n : Nat) (xa : Option Addr) (xc : Nat) (ya : Option Addr) (yc : Nat) (xs : List Int) (w : World)
    (hd : Ints w da dl ds) (he : Ints w ea el ds) (ix : Ints w xa n xs) (iy : Ints w ya n xs) :
    Calls Tryz.prog 13 #[.agg #[.slice da dl dc, .slice xa n xc], .agg #[.slice ea el ec, .slice ya n yc]] w fun e w' => e = .returned (.bool true) ∧ Below w.heap.size w w' := by
  have hm := ix.2.1
  have HB1 := (Below.refl w.heap.size w).alloc (Nat.le_refl _) (.cells #[.slice da dl dc, .slice xa n xc] 25)
  have HB2 := hide (HB1.alloc HB1.size (.cells #[.slice ea el ec, .slice ya n yc] 25))
  have HA1 := hide ((ArrAt.new w (.slice da dl dc) (.slice xa n xc)).alloc (.cells #[.slice ea el ec, .slice ya n yc] 25))
  have a2 := ArrAt.new (w.alloc (.cells #[.slice da dl dc, .slice xa n xc] 25)) (.slice ea el ec) (.slice ya n yc)
  simp only [World.size_alloc] at a2
  have HA2 := hide a2
  obtain ⟨⟨p0, p1⟩, _⟩ := HA1.out.cells
  obtain ⟨⟨q0, q1⟩, _⟩ := HA2.out.cells
  have HD := hide hd
  have HE := hide he
  have HX := hide ix
  have HY := hide iy
  clear hd he ix iy a2 HB1
  go_enter Tryz.func13, Tryz.ntmps13
  go_wp2_with (go_at_call 10; refine (sameList_any _ _ _ ds _ _ _ ds _ (HD.out.below HB2.out) (HE.out.below HB2.out)).mono ?_; rintro e w1 ⟨rfl, n1, hw1⟩; rw [decide_eq_true (rfl : ds = ds)]; have hb : Below ((w.alloc (.cells #[.slice da dl dc, .slice xa n xc] 25)).alloc (.cells #[.slice ea el ec, .slice ya n yc] 25)).heap.size ((w.alloc (.cells #[.slice da dl dc, .slice xa n xc] 25)).alloc (.cells #[.slice ea el ec, .slice ya n yc] 25)) w1 := hw1 ▸ below_drewN _ n1; have HB3 := hide (Below.on HB2.out hb); have HA3 := hide (HA1.out.below hb); have HA4 := hide (HA2.out.below hb); clear p0 p1 q0 q1 hb hw1; obtain ⟨⟨p0, p1⟩, _⟩ := HA3.out.cells; obtain ⟨⟨q0, q1⟩, _⟩ := HA4.out.cells)
  go_loopw [24] (fun i wr => ∃ k : Nat, k ≤ n ∧ i = .int .i64 k ∧ ArrAt wr w.heap.size (.slice da dl dc) (.slice xa n xc) ∧ ArrAt wr (w.heap.size + 1) (.slice ea el ec) (.slice ya n yc) ∧ Below w.heap.size w wr) (fun i _ => n - (intOf i).toNat)
  case atStart => exact ⟨0, Nat.zero_le _, rfl, HA3.out, HA4.out, HB3.out⟩
  case round =>
    obtain ⟨k, hk, rfl, h1, h2, hB⟩ := hrel
    have H1 := hide h1
    have H2 := hide h2
    have HB := hide hB
    clear h1 h2 hB p0 p1 q0 q1
    by_cases hlt : k < n
    · obtain ⟨b, off, rfl, hb, hc⟩ := HX.out.at (by omega)
      obtain ⟨b', off', rfl, hb', hc'⟩ := HY.out.at (by omega)
      have hck := (HB.out.cell (p := ⟨b, off + k, none⟩) hb).trans (hc k hlt)
      have hck' := (HB.out.cell (p := ⟨b', off' + k, none⟩) hb').trans (hc' k hlt)
      obtain ⟨X, hX⟩ : ∃ X, X = xs[k]?.getD 0 := ⟨_, rfl⟩
      rw [← hX] at hck hck'
      obtain ⟨⟨p0, p1⟩, _⟩ := H1.out.cells
      obtain ⟨⟨q0, q1⟩, _⟩ := H2.out.cells
      clear hc hc' hX
      go_wp2
      go_quiet (fail)
      go_wp2
      go_roundw
      case rel => exact ⟨k + 1, by omega, by go_num, H1.out, H2.out, Below.on HB.out (below_drewN _ _)⟩
      case measure => simp [intOf]; omega
    · go_wp2
      go_ret
      exact ⟨rfl, HB.out⟩
end Go.Proofs.YteoobeldmicjhaaGreat.V
namespace Go.Proofs.YteoobeldmicjhaaGreat.V
set_option maxRecDepth 20000
open Go.RowKit

/-- What is told of the j-th array. -/
structure ArrV where
  da : Option Addr
  dl : Nat
  dc : Nat
  ds : List Int
  xa : Option Addr
  xl : Nat
  xc : Nat
def ArrV.d (v : ArrV) : Value := .slice v.da v.dl v.dc
def ArrV.x (v : ArrV) : Value := .slice v.xa v.xl v.xc
end Go.Proofs.YteoobeldmicjhaaGreat.V
namespace Go.Proofs.YteoobeldmicjhaaGreat.V
set_option maxRecDepth 20000
open Go.RowKit

end Go.Proofs.YteoobeldmicjhaaGreat.V
namespace Go.Proofs.YteoobeldmicjhaaGreat.V
set_option maxRecDepth 20000
open Go.RowKit

set_option maxHeartbeats 1000000 in
theorem rget_any (da : Option Addr) (dl dc : Nat) (ds : List Int) (xa : Option Addr) (n xc : Nat) (xs : List Int) (a' : Option Addr) (len' cap' : Nat) (ys : List Int) (w : World) (p : Nat)
    (hd : Ints w da dl ds) (hdc : dl ≤ dc) (hx : Ints w xa n xs) (hy : Ints w a' len' ys) (hp : placeN ds ys = p) (hpn : p < n) :
    Calls Tryz.prog 32 #[.agg #[.slice da dl dc, .slice xa n xc], .slice a' len' cap'] w fun e w' => e = .returned (.int .i64 (xs[p]?.getD 0)) ∧ Below w.heap.size w w' := by
  have HD := hide hd
  have HY := hide hy
  have HX := hide hx
  have HP := hide hp
  have hm := hx.2.1
  obtain ⟨b, off, rfl, hc⟩ := hx.2.2.2.resolve_left (by omega)
  have hcp := hc p hpn
  have hbl : b < w.heap.size := lt_of_cell hcp
  have HC := hide hcp
  have HB1 := hide ((Below.refl w.heap.size w).alloc (Nat.le_refl _) (.cells #[.slice da dl dc, .slice (some ⟨b, off, none⟩) n xc] 25))
  have HAR := hide (ArrAt.new w (.slice da dl dc) (.slice (some ⟨b, off, none⟩) n xc))
  obtain ⟨⟨r0, r1⟩, _⟩ := HAR.out.cells
  clear hd hy hx hp hc hcp
  go_enter Tryz.func32, Tryz.ntmps32
  go_wp2_with (go_at_call 56; refine (rplace_any _ _ _ ds _ _ _ ys _ (HD.out.below HB1.out) (HY.out.below HB1.out) hdc).mono ?_; rintro e w1 ⟨rfl, hb⟩; rw [HP.out]; have HB2 := hide (Below.on HB1.out hb); have HAR2 := hide (HAR.out.below hb); clear r0 r1; obtain ⟨⟨r0, r1⟩, _⟩ := HAR2.out.cells; have g0 := (HB2.out.cell (p := ⟨b, off + p, none⟩) hbl).trans HC.out; clear hb)
  go_ret
  exact ⟨rfl, HB2.out⟩
end Go.Proofs.YteoobeldmicjhaaGreat.V
namespace Go.Proofs.YteoobeldmicjhaaGreat.V
set_option maxRecDepth 20000
open Go.RowKit

theorem repl0_at (n j : Nat) : (List.replicate n (0 : Int))[j]?.getD 0 = 0 := by
  simp [List.getElem?_replicate]; split <;> rfl
theorem bd_get {xs : List Int} (h : ∀ x ∈ xs, -9223372036854775808 ≤ x ∧ x ≤ 9223372036854775807) (i : Nat) : -9223372036854775808 ≤ xs[i]?.getD 0 ∧ xs[i]?.getD 0 ≤ 9223372036854775807 := by
  by_cases hi : i < xs.length
  · rw [List.getElem?_eq_getElem hi]; exact h _ (List.getElem_mem hi)
  · rw [List.getElem?_eq_none (by omega)]; simp
/-- The first k numbers of a list, put where another one says. -/
def setAll (zs ps vs : List Int) : Nat → List Int
  | 0 => zs
  | k + 1 => (setAll zs ps vs k).set (ps[k]?.getD 0).toNat (vs[k]?.getD 0)
theorem setAll_length (zs ps vs : List Int) : ∀ k, (setAll zs ps vs k).length = zs.length
  | 0 => rfl
  | k + 1 => by simp [setAll, setAll_length zs ps vs k]
theorem setAll_bd {zs ps vs : List Int} (hz : ∀ x ∈ zs, -9223372036854775808 ≤ x ∧ x ≤ 9223372036854775807) (hv : ∀ x ∈ vs, -9223372036854775808 ≤ x ∧ x ≤ 9223372036854775807) : ∀ k, ∀ x ∈ setAll zs ps vs k, -9223372036854775808 ≤ x ∧ x ≤ 9223372036854775807
  | 0 => hz
  | k + 1 => fun x hx => by
    rcases List.mem_or_eq_of_mem_set hx with h | h
    · exact setAll_bd hz hv k x h
    · rw [h]; exact bd_get hv _

set_option maxRecDepth 100000 in
set_option maxHeartbeats 2000000 in
theorem placed_any (r : Nat) (pa : Option Addr) (pl pc : Nat) (ps : List Int) (va : Option Addr) (vl vc : Nat) (vs : List Int) (qa : Option Addr) (ql qc : Nat) (qs : List Int) (ua : Option Addr) (ul uc : Nat) (us : List Int) (w : World) (hr : r ≤ 6)
    (hp : Ints w pa pl ps) (hv : Ints w va vl vs) (hq : Ints w qa ql qs) (hu : Ints w ua ul us) (hpv : pl ≤ vl) (hqu : ql ≤ ul) (hpb : ∀ i, i < pl → 0 ≤ ps[i]?.getD 0 ∧ ps[i]?.getD 0 < r) (hqb : ∀ i, i < ql → 0 ≤ qs[i]?.getD 0 ∧ qs[i]?.getD 0 < r) :
    Calls Tryz.prog 33 #[.int .i64 r, .slice pa pl pc, .slice va vl vc, .slice qa ql qc, .slice ua ul uc] w fun e w' => (∃ g : Nat, e = .returned (.slice (some ⟨g, 0, none⟩) r r) ∧ Ints w' (some ⟨g, 0, none⟩) r (setAll (setAll (List.replicate r 0) ps vs pl) qs us ql) ∧ w.heap.size ≤ g) ∧ Below w.heap.size w w' := by
  have hm1 := hp.2.1
  have hm2 := hv.2.1
  have hm3 := hq.2.1
  have hm4 := hu.2.1
  have HP := hide hp
  have HV := hide hv
  have HQ := hide hq
  have HU := hide hu
  have HPB := hide hpb
  have HQB := hide hqb
  have hmk := run_make_row' (P := Tryz.prog) 22 3 (.int .i64 0) 8 Tryz.underlying22 info_int rfl .i64 .i64 r (by omega) (by omega)
  have HZL := hide (show (List.replicate r (0 : Int)).length = r by simp)
  clear hp hv hq hu hpb hqb
  go_enter Tryz.func33, Tryz.ntmps33
  go_wp2
  go_loopw [20] (fun i wr => ∃ k : Nat, k ≤ pl ∧ i = .int .i64 k ∧ RowI wr w.heap.size r (setAll (List.replicate r 0) ps vs k) ∧ Below w.heap.size w wr) (fun i _ => pl - (intOf i).toNat)
  case atStart =>
    refine ⟨0, Nat.zero_le _, rfl, ?_, (Below.refl _ _).alloc (Nat.le_refl _) _⟩
    exact (World.rowIs_made w (.int .i64 0) r 3).congr (fun j _ => by simp only [setAll]; rw [repl0_at])
  case round =>
    obtain ⟨k, hk, rfl, hrow, hB⟩ := hrel
    have HR := hide hrow
    have HB := hide hB
    clear hrow hB
    by_cases hlt : k < pl
    · obtain ⟨b, off, rfl, _, hc⟩ := (HP.out.below HB.out).at (by omega)
      obtain ⟨b', off', rfl, _, hc'⟩ := (HV.out.below HB.out).at (by omega)
      have hqk := HPB.out k hlt
      obtain ⟨q, hqq⟩ : ∃ q : Nat, ps[k]?.getD 0 = (q : Int) := ⟨(ps[k]?.getD 0).toNat, by omega⟩
      have hck := hc k (by omega)
      have hck' := hc' k (by omega)
      rw [hqq] at hck hqk
      have hqn : q < r := by omega
      have hr1 := HR.out.cell hqn
      have hf := HR.out.frozen q
      obtain ⟨X, hX⟩ : ∃ X, X = vs[k]?.getD 0 := ⟨_, rfl⟩
      have HS : Hid (setAll (List.replicate r 0) ps vs (k + 1) = (setAll (List.replicate r 0) ps vs k).set q X) := by rw [Hid, setAll, hqq, Int.toNat_natCast, hX]
      rw [← hX] at hck'
      have i1 : (0 : Int) ≤ (k : Int) := Int.natCast_nonneg _
      have i2 : (k : Int) < (vl : Int) := by omega
      have i3 : (0 : Int) ≤ (q : Int) := Int.natCast_nonneg _
      have i4 : (q : Int) < (r : Int) := by omega
      have HQL : Hid (q < (setAll (List.replicate r 0) ps vs k).length) := by rw [Hid, setAll_length]; exact HZL.out.symm ▸ hqn
      clear hc hc' hqq hX hqk
      go_wp2
      go_roundw
      case rel =>
        refine ⟨k + 1, by omega, by go_num, World.rowIs.congr (HR.out.set q (.int .i64 X)) (fun j _ => ?_), HB.out.setCell (p := ⟨w.heap.size, q, none⟩) (Nat.le_refl _) _⟩
        rw [HS.out]
        by_cases e : j = q
        · subst e
          rw [if_pos rfl, List.getElem?_set_self HQL.out]
          rfl
        · rw [if_neg e, List.getElem?_set_ne (fun h => e h.symm)]
      case measure => simp [intOf]; omega
    · obtain rfl : k = pl := by omega
      obtain ⟨Z1, hZ1⟩ : ∃ Z1, Z1 = setAll (List.replicate r 0) ps vs k := ⟨_, rfl⟩
      have hzl1 : Z1.length = r := by rw [hZ1, setAll_length]; exact HZL.out
      have hbd1 := setAll_bd (zs := Z1) (ps := qs) (by rw [hZ1]; exact setAll_bd (ps := ps) (fun x hx => by simp at hx; omega) HV.out.2.2.1 k) HU.out.2.2.1 ql
      clear HZL
      have HZL := hide hzl1
      have HBD := hide hbd1
      rw [← hZ1] at HR
      have HZ1 := hide hZ1
      have HR1 := HR
      have HB1 := HB
      clear HR HB hzl1 hbd1 hZ1 hlt hk
      go_wp2
      go_loopw [35] (fun i wr => ∃ k : Nat, k ≤ ql ∧ i = .int .i64 k ∧ RowI wr w.heap.size r (setAll Z1 qs us k) ∧ Below w.heap.size w wr) (fun i _ => ql - (intOf i).toNat)
      case atStart =>
        exact ⟨0, Nat.zero_le _, rfl, HR1.out, HB1.out⟩
      case round =>
        obtain ⟨k, hk, rfl, hrow, hB⟩ := hrel
        have HR := hide hrow
        have HB := hide hB
        clear hrow hB
        by_cases hlt : k < ql
        · obtain ⟨b, off, rfl, _, hc⟩ := (HQ.out.below HB.out).at (by omega)
          obtain ⟨b', off', rfl, _, hc'⟩ := (HU.out.below HB.out).at (by omega)
          have hqk := HQB.out k hlt
          obtain ⟨q, hqq⟩ : ∃ q : Nat, qs[k]?.getD 0 = (q : Int) := ⟨(qs[k]?.getD 0).toNat, by omega⟩
          have hck := hc k (by omega)
          have hck' := hc' k (by omega)
          rw [hqq] at hck hqk
          have hqn : q < r := by omega
          have hr1 := HR.out.cell hqn
          have hf := HR.out.frozen q
          obtain ⟨X, hX⟩ : ∃ X, X = us[k]?.getD 0 := ⟨_, rfl⟩
          have HS : Hid (setAll Z1 qs us (k + 1) = (setAll Z1 qs us k).set q X) := by rw [Hid, setAll, hqq, Int.toNat_natCast, hX]
          rw [← hX] at hck'
          have i1 : (0 : Int) ≤ (k : Int) := Int.natCast_nonneg _
          have i2 : (k : Int) < (ul : Int) := by omega
          have i3 : (0 : Int) ≤ (q : Int) := Int.natCast_nonneg _
          have i4 : (q : Int) < (r : Int) := by omega
          have HQL : Hid (q < (setAll Z1 qs us k).length) := by rw [Hid, setAll_length]; exact HZL.out.symm ▸ hqn
          clear hc hc' hqq hX hqk
          go_wp2
          go_roundw
          case rel =>
            refine ⟨k + 1, by omega, by go_num, World.rowIs.congr (HR.out.set q (.int .i64 X)) (fun j _ => ?_), HB.out.setCell (p := ⟨w.heap.size, q, none⟩) (Nat.le_refl _) _⟩
            rw [HS.out]
            by_cases e : j = q
            · subst e
              rw [if_pos rfl, List.getElem?_set_self HQL.out]
              rfl
            · rw [if_neg e, List.getElem?_set_ne (fun h => e h.symm)]
          case measure => simp [intOf]; omega
        · obtain rfl : k = ql := by omega
          go_wp2
          refine bodyPost_ret (v := .slice (some ⟨w.heap.size, 0, none⟩) r r) (by simp [results, Tryz.results33, go_sem]) rfl ⟨⟨w.heap.size, rfl, ?_, Nat.le_refl _⟩, HB.out⟩
          rw [← HZ1.out]
          exact ints_of_rowI HR.out (by rw [setAll_length]; exact HZL.out) (by omega) HBD.out
end Go.Proofs.YteoobeldmicjhaaGreat.V
