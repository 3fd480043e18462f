/-
  Contract: adjointref1.Cut. Contract: adjointref1.Cut of anything.
-/
import Derived.Test.YteoobeldmicjhaaK15
import Derived.Deep.RegionHeldLaw
namespace Go.Proofs.Yteoobeldmicjhaa.V
open Go.RowKit

theorem prod_mono : ∀ (xs ys : List Int), xs.length = ys.length → (∀ j, j < xs.length → 1 ≤ xs[j]?.getD 0 ∧ xs[j]?.getD 0 ≤ ys[j]?.getD 0) → prod xs ≤ prod ys
  | [], [], _, _ => Int.le_refl _
  | [], _ :: _, h, _ => by simp at h
  | _ :: _, [], h, _ => by simp at h
  | x :: xs, y :: ys, h, hj => by
    have h0 := hj 0 (by simp)
    have ih := prod_mono xs ys (by simpa using h) (fun j hj' => by have := hj (j + 1) (by simpa using hj'); simpa using this)
    have p0 : 0 ≤ prod xs := by
      have := prod_pos xs (fun z hz => by obtain ⟨i, hi, rfl⟩ := List.getElem_of_mem hz; have := (hj (i + 1) (by simpa using hi)).1; simpa [hi] using this)
      omega
    simp only [List.getElem?_cons_zero, Option.getD_some] at h0
    simp only [prod]
    exact Int.mul_le_mul h0.2 ih p0 (by omega)
theorem size_cut {s : Int} {ds ss lo hi st : List Int} (hW : wrongE s ds ss = 0) (hb : anyBad ds lo hi st = false) : sizeE (cutD ds lo hi st) = 0 := by
  have hsm := small_of hW
  have hbd := cutD_bd hsm hb
  obtain ⟨w1, _, _⟩ := wrongE_ok hW
  obtain ⟨z1, z2, z3, _⟩ := sizeE_ok w1
  unfold sizeE
  rw [if_neg (by rw [cutD_length]; omega), if_neg]
  · by_cases h0 : (0 : Int) ∈ cutD ds lo hi st
    · rw [if_pos h0]
    · rw [if_neg h0, if_neg]
      have hle : ∀ j, j < (cutD ds lo hi st).length → 1 ≤ (cutD ds lo hi st)[j]?.getD 0 ∧ (cutD ds lo hi st)[j]?.getD 0 ≤ ds[j]?.getD 0 := by
        intro j hj
        have hm := mem_getD (cutD ds lo hi st) j hj
        have h1 := hbd _ hm
        have h2 : (cutD ds lo hi st)[j]?.getD 0 ≠ 0 := fun e => h0 (e ▸ hm)
        rw [cutD_length] at hj
        have h3 := badCut_false (of_anyBad_false hb j hj)
        have h4 := kept_bd h3.1 h3.2.1 h3.2.2.2.1
        rw [cutD_getD ds lo hi st j hj] at h1 h2 ⊢
        omega
      have h5 := prod_mono (cutD ds lo hi st) ds (cutD_length ds lo hi st) hle
      have h6 := (z3 (fun x hx => by
        obtain ⟨j, hj, rfl⟩ := List.getElem_of_mem hx
        have := hle j (by rw [cutD_length]; exact hj)
        simp only [List.getElem?_eq_getElem hj, Option.getD_some] at this
        omega)).1
      omega
  · simp only [List.any_eq_true, not_exists, not_and]
    intro x hx
    have := hbd x hx
    simp [badDim]; omega
theorem wrong_cut {s : Int} {ds ss lo hi st : List Int} (A : Int) (hW : wrongE s ds ss = 0) (hb : anyBad ds lo hi st = false) : wrongE A (cutD ds lo hi st) (cutS ss st) = if beyondB A (cutS ss st) = true then 4 else 0 := by
  obtain ⟨_, w2, _⟩ := wrongE_ok hW
  rw [wrongE, if_neg (by rw [size_cut hW hb]; simp), if_neg (by rw [cutD_length, cutS_length, w2]; simp)]
theorem cutD_take_succ (ds lo hi st : List Int) (k : Nat) (h : k < ds.length) : ((cutD ds lo hi st).take (k + 1)).map (Value.int .i64) = ((cutD ds lo hi st).take k).map (Value.int .i64) ++ [.int .i64 (keptN (lo[k]?.getD 0) (hi[k]?.getD 0) (st[k]?.getD 0))] := by
  rw [take_succ_getD (cutD ds lo hi st) k (by rw [cutD_length]; exact h), List.map_append, cutD_getD ds lo hi st k h]
  simp
theorem cutS_take_succ (ss st : List Int) (k : Nat) (h : k < ss.length) : ((cutS ss st).take (k + 1)).map (Value.int .i64) = ((cutS ss st).take k).map (Value.int .i64) ++ [.int .i64 (st[k]?.getD 0 * ss[k]?.getD 0)] := by
  rw [take_succ_getD (cutS ss st) k (by rw [cutS_length]; exact h), List.map_append, cutS_getD ss st k h]
  simp
theorem set_cell {w : World} {p : Addr} {C i : Nat} {v u : Value} (h : w.cell? p = some v) (hne : p.block ≠ C) : (w.setCell ⟨C, i, none⟩ u).cell? p = some v :=
  (World.cell?_of_block (w := w) (Below.heap_setCell _ ⟨C, i, none⟩ _ _ hne)).trans h
theorem far_grown {w w2 : World} {B n : Nat} {v : Value} {xs : List Value} {o : Obj} {p : Addr} {x : Value} (ho : w.ownsRow B 3 1 v n xs) (hp : p.block < B) (hB : B ≤ w.heap.size) (hg : (w.alloc o).drew.grownBy w2 v.ownBlock) (hc : w.cell? p = some x) : w2.cell? p = some x :=
  (hg.cell_far p (by show p.block < (w.alloc o).heap.size; simp; omega) (fun e => by have := (ho.lt _ e.symm).1; omega)).trans (alloc_cell hc)

end Go.Proofs.Yteoobeldmicjhaa.V
namespace Go.Proofs.Yteoobeldmicjhaa.V
open Go.RowKit

end Go.Proofs.Yteoobeldmicjhaa.V
