/-
  Contracts: math/bits.Mul64, Mul of 1 and a small number; slices.Repeat of one empty slot.
-/
import Derived.Test.YtdfpgpekilhelaaRpApp
import Derived.Deep.RegionLaw
namespace Go.Proofs.Ytdfpgpekilhelaa.V
open Go.RowKit
set_option linter.unusedVariables false

set_option maxHeartbeats 4000000 in
theorem mul64_one (S : Nat) (hS : S ≤ 16) (w : World) :
    Calls Try.prog 32 #[.int .u64 1, .int .u64 S] w fun e w' => e = .returned (.tuple #[.int .u64 0, .int .u64 S]) ∧ w' = w := by
  have h : S = 0 ∨ S = 1 ∨ S = 2 ∨ S = 3 ∨ S = 4 ∨ S = 5 ∨ S = 6 ∨ S = 7 ∨ S = 8 ∨ S = 9 ∨ S = 10 ∨ S = 11 ∨ S = 12 ∨ S = 13 ∨ S = 14 ∨ S = 15 ∨ S = 16 := by omega
  have b1 : bits BinOp.and IntKind.u64 1 4294967295 = 1 := by decide +kernel
  have b0 : bits BinOp.and IntKind.u64 0 4294967295 = 0 := by decide +kernel
  have bS : bits BinOp.and IntKind.u64 (S : Int) 4294967295 = (S : Int) := by
    rcases h with rfl | rfl | rfl | rfl | rfl | rfl | rfl | rfl | rfl | rfl | rfl | rfl | rfl | rfl | rfl | rfl | rfl <;> decide +kernel
  have e1 : (S : Int) / 4294967296 = 0 := by omega
  have e2 : IntKind.u64.wrap (S : Int) = (S : Int) := by rw [IntKind.wrap_u64]; omega
  have e3 : IntKind.u64.wrap (0 : Int) = 0 := by decide +kernel
  clear h
  go_enter Try.func32, Try.ntmps32
  go_wp2
  exact bodyPost_ret (v := .tuple #[.int .u64 0, .int .u64 S]) (by simp [results, Try.results32, go_sem]) rfl ⟨rfl, rfl⟩

set_option maxHeartbeats 1000000 in
theorem mul_one_small (S : Nat) (hS : S ≤ 16) (w : World) :
    Calls Try.prog 29 #[.int .u64 1, .int .u64 S] w fun e w' => e = .returned (.tuple #[.int .u64 0, .int .u64 S]) ∧ w' = w := by
  go_enter Try.func29, Try.ntmps29
  go_wp2_with (go_at_call 32; refine (mul64_one S hS _).mono ?_; rintro e w' ⟨rfl, rfl⟩)
  exact bodyPost_ret (v := .tuple #[.int .u64 0, .int .u64 S]) (by simp [results, Try.results29, go_sem]) rfl ⟨rfl, rfl⟩

/-- k empty slots ahead of what is not yet written. -/
def rep (k S : Nat) : List Value := List.replicate k (.int .i64 (-1)) ++ List.replicate (S - k) (.int .i64 0)
theorem rep_len {k S : Nat} (h : k ≤ S) : (rep k S).length = S := by simp [rep]; omega
theorem rep_get {k S j : Nat} (h : j < k) : (rep k S)[j]? = some (.int .i64 (-1)) := by unfold rep; rw [List.getElem?_append_left (by simpa using h)]; simp [h]
theorem rep_splice {k m S : Nat} (h : k + m ≤ S) : splice (rep k S) k (List.replicate m (.int .i64 (-1))) = rep (k + m) S := by
  unfold splice rep
  rw [List.take_append_of_le_length (by simp), List.take_of_length_le (by simp), List.drop_append, List.drop_of_length_le (by simp), List.length_replicate, List.length_replicate, List.drop_replicate, List.nil_append, ← List.append_assoc, List.replicate_append_replicate]
  congr 2
  omega
theorem rep_zero (S : Nat) : rep 0 S = List.replicate S (.int .i64 0) := by simp [rep]
theorem rep_row {w : World} {b S : Nat} (h : w.heap[b]? = some (.cells (rep S S).toArray 3 (0, 0))) : w.rowIs b 3 S (fun _ => .int .i64 (-1)) :=
  ⟨_, h, by simp [rep], fun i hi => by simp [rep, hi]⟩

theorem sizeI : (Try.prog.info? 3).map (·.size) = some 1 := by kernel_rfl
theorem rep_src {w : World} {g S : Nat} (o : Obj) (z : g < w.heap.size) (hg : w.cell? ⟨g, 0, none⟩ = some (.int .i64 (-1))) : ∀ j v, (List.replicate (Nat.min 1 S) (Value.int .i64 (-1)))[j]? = some v → (w.alloc o).cell? ((⟨g, 0, none⟩ : Addr).add j) = some v := by
  intro j v hj
  have hj0 : j < Nat.min 1 S := by simpa using (List.getElem?_eq_some_iff.1 hj).1
  have hj1 : j = 0 := by have : Nat.min 1 S ≤ 1 := Nat.min_le_left _ _; omega
  subst hj1
  have hv : v = .int .i64 (-1) := by
    have := (List.getElem?_eq_some_iff.1 hj).2
    simpa using this.symm
  rw [hv, Go.WideShapes.add_plain]
  have hb' : Below w.heap.size w (w.alloc o) := (Below.refl _ _).alloc (Nat.le_refl _) _
  exact (hb'.cell (p := ⟨g, 0, none⟩) z).trans hg
/-- The source of a later copy. -/
theorem rep_src2 {w : World} {b k m S : Nat} (h : w.heap[b]? = some (.cells (rep k S).toArray 3 (0, 0))) (hm : m ≤ k) : ∀ j v, (List.replicate m (Value.int .i64 (-1)))[j]? = some v → w.cell? ((⟨b, 0, none⟩ : Addr).add j) = some v := by
  intro j v hj
  have hj0 : j < m := by simpa using (List.getElem?_eq_some_iff.1 hj).1
  have hv : v = .int .i64 (-1) := by
    have := (List.getElem?_eq_some_iff.1 hj).2
    simpa using this.symm
  rw [hv, Go.WideShapes.add_plain]
  simp [World.cell?, h, rep_get (S := S) (show j < k by omega)]

set_option maxHeartbeats 1000000 in
/-- One empty slot, so often. -/
theorem repeat_any (g S : Nat) (w : World) (hS : S ≤ 16) (hg : w.cell? ⟨g, 0, none⟩ = some (.int .i64 (-1))) :
    Calls Try.prog 23 #[.slice (some ⟨g, 0, none⟩) 1 1, .int .i64 S] w fun e w' => (∃ b, e = .returned (.slice (some ⟨b, 0, none⟩) S S) ∧ w.heap.size ≤ b ∧ w'.rowIs b 3 S (fun _ => .int .i64 (-1))) ∧ Below w.heap.size w w' := by
  have hmk := run_make_row' (P := Try.prog) 41 3 (.int .i64 0) 8 Try.underlying41 infoI rfl .i64 .i64 S (by omega) (by omega)
  have e2 : IntKind.u64.wrap (S : Int) = (S : Int) := by rw [IntKind.wrap_u64]; omega
  have e3 : IntKind.i64.wrap (S : Int) = (S : Int) := by rw [IntKind.wrap_i64]; omega
  have HG := hide hg
  have z := lt_of_cell hg
  clear hg
  go_enter Try.func23, Try.ntmps23
  go_wp2_with (first
    | (go_at_call 29; refine (mul_one_small S hS _).mono ?_; rintro e w' ⟨rfl, rfl⟩)
    | (refine wpList_copy_splice rfl (.tmp 31) (.tmp 32) 41 41 rfl 3 Try.underlying41 sizeI (some ⟨w'.heap.size, 0, none⟩) (some ⟨g, 0, none⟩) S S 1 1 rfl rfl w'.heap.size 0 (rep 0 S) 3 ?hg (List.replicate (Nat.min 1 S) (.int .i64 (-1))) ?hn (fun _ => ⟨rfl, _, rfl, rep_src _ z HG.out⟩) ?hfit ?h1 w'.heap.size w' ?hb (Nat.le_refl _) ?_))
  case hg =>
    rw [World.alloc_heap_new w' (.cells (madeCells #[.int .i64 0] S) 3), rep_zero, ← toList_madeCells_one]
  case hn => simp
  case hfit => rw [rep_len (Nat.zero_le _), List.length_replicate, Nat.zero_add]; exact Nat.min_le_right 1 S
  case h1 => intro v hv; rw [List.eq_of_mem_replicate hv]; rfl
  case hb => exact (Below.refl _ _).alloc (Nat.le_refl _) _
  intro w1 hrow hbel
  obtain ⟨k0, hk0⟩ : ∃ k0, k0 = Nat.min 1 S := ⟨_, rfl⟩
  try rw [List.length_replicate]
  rw [← hk0]
  rw [← hk0] at hrow
  have hk1 : k0 ≤ S ∧ (0 < k0 ∨ S = 0) := by
    subst hk0
    refine ⟨Nat.min_le_right _ _, ?_⟩
    by_cases e : S = 0
    · exact .inr e
    · exact .inl (by rw [show Nat.min 1 S = 1 from Nat.min_eq_left (by omega)]; omega)
  have hr1 : w1.heap[w'.heap.size]? = some (.cells (rep k0 S).toArray 3 (0, 0)) := by
    have := hrow.out
    rw [rep_splice (by omega), Nat.zero_add] at this
    exact this
  have HR := hide hr1
  have HB := hide hbel
  clear hrow hr1 hbel hk0 hmk
  go_wp2
  go_loopw [8] (fun i wr => ∃ k : Nat, i = .int .i64 k ∧ k ≤ S ∧ (0 < k ∨ S = 0) ∧ wr.heap[w'.heap.size]? = some (.cells (rep k S).toArray 3 (0, 0)) ∧ Below w'.heap.size w' wr) (fun i _ => S - (intOf i).toNat)
  case atStart => exact ⟨k0, by simp, hk1.1, hk1.2, HR.out, HB.out⟩
  case round =>
    obtain ⟨k, rfl, r1, r2, r3, r4⟩ := hrel
    have R3 := hide r3
    have R4 := hide r4
    clear r3 r4
    by_cases hk : k < S
    · have hSk : ¬ S = k := by omega
      obtain ⟨m0, hm0⟩ : ∃ m0, m0 = Nat.min k (S - k) := ⟨_, rfl⟩
      have hm1 : m0 ≤ k ∧ m0 ≤ S - k ∧ 1 ≤ m0 := by
        subst hm0
        refine ⟨Nat.min_le_left _ _, Nat.min_le_right _ _, ?_⟩
        exact Nat.le_min.2 ⟨by omega, by omega⟩
      have hm2 : k + m0 ≤ S := by omega
      have HM0 := hide hm0
      have ew : IntKind.i64.wrap ((k : Int) + (m0 : Int)) = ((k + m0 : Nat) : Int) := by rw [IntKind.wrap_i64]; omega
      clear hm0
      go_wp2
      go_region_law (refine step_copy_splice (by rfl) (.tmp 41) (.tmp 44) 41 41 (by rfl) 3 Try.underlying41 sizeI (some ⟨w'.heap.size, k, none⟩) (some ⟨w'.heap.size, 0, none⟩) (S - k) (S - k) k S (by go_simp) (by go_simp) w'.heap.size k (rep k S) 3 R3.out (List.replicate m0 (.int .i64 (-1))) (by rw [List.length_replicate]; exact HM0.out) (fun _ => ⟨rfl, _, rfl, rep_src2 R3.out hm1.1⟩) (by rw [rep_len r1, List.length_replicate]; exact hm2) (by intro v hv; rw [List.eq_of_mem_replicate hv]; rfl) w'.heap.size w' R4.out.drew (Nat.le_refl _) ?_; intro w2 hg2 hb2; rw [List.length_replicate]; have HG2 : Hid (w2.heap[w'.heap.size]? = some (.cells (rep (k + m0) S).toArray 3 (0, 0))) := by rw [← rep_splice hm2]; exact hg2.out)
      have HB2 := hide hb2
      clear hb2 hg2
      go_wp2
      simp only [List.getElem_toArray, List.getElem_cons_succ, List.getElem_cons_zero, Act.put, List.setIfInBounds_toArray, List.set_cons_zero, List.set_cons_succ]
      go_round
      case rel => exact ⟨k + m0, by go_num, hm2, by omega, HG2.out, HB2.out⟩
      case measure => simp [intOf]; omega
    · have ek : k = S := by omega
      subst ek
      go_wp2
      go_ret
      exact ⟨⟨_, rfl, Nat.le_refl _, rep_row R3.out⟩, R4.out⟩
end Go.Proofs.Ytdfpgpekilhelaa.V
