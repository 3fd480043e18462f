/-
  Contract: view.Reads.
-/
import Derived.Test.YtganhongfkcdmaaGReads
import Derived.Test.YtganhongfkcdmaaGRReads
namespace Go.Proofs.Ytganhongfkcdmaa.V
open Go.RowKit Go.Shelf
attribute [local go_sem] Oper.semAt_some

theorem lieN_small (ds ss : List Int) (hl : ss.length = ds.length) (hpos : ∀ x ∈ ds, 1 ≤ x) : ∀ (k : Nat) (n : Int), k ≤ ds.length → 0 ≤ n → n < prod (ds.drop k) → lieN ds ss n = lieN (ds.drop k) (ss.drop k) n
  | 0, n, _, _, _ => by simp
  | k + 1, n, hk, h0, h1 => by
    have hp := prod_drop_le (ds.drop k) (fun x hx => hpos x (List.mem_of_mem_drop hx)) 1
    rw [List.drop_drop] at hp
    have hd := prod_drop ds k (by omega)
    have := lieN_small ds ss hl hpos k n (by omega) h0 (by omega)
    rw [this, drop_getD ds k (by omega), drop_getD ss k (by omega), lieN, Int.ediv_eq_zero_of_lt h0 h1, Int.emod_eq_of_lt h0 h1]
    omega
theorem reads_at {s : Int} {ds ss : List Int} (hl : ss.length = ds.length) (hpos : ∀ x ∈ ds, 1 ≤ x) {k : Nat} (hk : k < ds.length) {B i j : Nat} (hB : beh ds k = (B : Int)) (hi : (i : Int) < ds[k]?.getD 0) (hj : j < B) :
    i * B + j < (prod ds).toNat ∧ (readsV s ds ss)[i * B + j]?.getD 0 = (readsV s ds ss)[j]?.getD 0 + i * ss[k]?.getD 0 := by
  have hd := prod_drop ds k hk
  have hle := (prod_drop_le ds hpos k).2
  have hb : beh ds k = prod (ds.drop (k + 1)) := rfl
  have h1 : ((i : Int) + 1) * (B : Int) ≤ ds[k]?.getD 0 * (B : Int) := Int.mul_le_mul_of_nonneg_right (by omega) (by omega)
  rw [Int.add_mul] at h1
  have e0 : ((i * B + j : Nat) : Int) = (i : Int) * (B : Int) + (j : Int) := by simp
  have h2 : ((i * B + j : Nat) : Int) < prod (ds.drop k) := by rw [hd, ← hb, hB, e0]; omega
  have h3 : (j : Int) < prod (ds.drop (k + 1)) := by rw [← hb, hB]; omega
  have h4 := (prod_drop_le ds hpos (k + 1)).2
  refine ⟨by omega, ?_⟩
  rw [readsV_getD s ds ss (i * B + j) (by omega), readsV_getD s ds ss j (by omega)]
  rw [lieN_small ds ss hl hpos k _ (by omega) (by omega) h2, lieN_small ds ss hl hpos (k + 1) _ (by omega) (by omega) h3, e0]
  have := lieN_at ds ss hl k hk i j (by omega) (by rw [hB]; omega)
  rw [hB] at this
  rw [this]; omega

theorem lieN_zero : ∀ ds ss : List Int, lieN ds ss 0 = 0
  | [], [] => rfl
  | [], _ :: _ => rfl
  | _ :: _, [] => rfl
  | d :: ds, t :: ss => by simp [lieN, lieN_zero ds ss]
/-- A row, of which a slice has the first n. -/
theorem own_of_row {w : World} {B t n c g : Nat} {f : Nat → Value} {xs : List Value} (h : w.rowIs g t c f) (hn : n ≤ c) (hc : c ≤ maxLen) (hB : B ≤ g) (hl : xs.length = n) (hf : ∀ j, j < n → xs[j]? = some (f j)) : w.ownsRow B t 1 (.slice (some ⟨g, 0, none⟩) n c) n xs := by
  obtain ⟨cur, h1, h2, h3⟩ := h
  refine ⟨by omega, .inr ⟨g, c, cur, rfl, hB, h1, hn, hc, by omega, ?_⟩⟩
  apply List.ext_getElem?
  intro i
  by_cases hi : i < n
  · rw [List.getElem?_take_of_lt (by omega), hf i hi]
    simpa using h3 i (by omega)
  · rw [List.getElem?_eq_none (by simp; omega), List.getElem?_eq_none (by omega)]

/-- What lies, while a view's places are put together: M of them. -/
def Put (w w1 : World) (s : Int) (da sa : Option Addr) (len dc sc N : Nat) (R : List Int) (M : Nat) (W : World) : Prop :=
  ViewAt W w.heap.size (.int .i64 s) (.slice da len dc) (.slice sa len sc) ∧
  (∃ v, Boxed W (w1.heap.size + 1) 22 v ∧ W.ownsRow w.heap.size 3 1 v M ((R.take M).map (Value.int .i64)) ∧ v = .slice (some ⟨w1.heap.size, 0, none⟩) M N) ∧ Below w.heap.size w W ∧ w1.heap.size + 1 + 1 < W.heap.size
def Mt (ds : List Int) (len t : Nat) : Nat := (prod (ds.drop (len - t))).toNat
theorem put_own (w w1 : World) (s : Int) (da sa : Option Addr) (len dc sc N : Nat) (R : List Int) (M : Nat → Nat) {B : Nat} (hB : w.heap.size ≤ B) : OwnFrom B (fun t W => Put w w1 s da sa len dc sc N R (M t) W) :=
  OwnFrom.and (Own.from (view_own _ _ _ _) _) (OwnFrom.and (Own.from (holdsRow_own w.heap.size (w1.heap.size + 1) 22 3 1 M (fun t => (R.take (M t)).map (Value.int .i64)) (fun t v => v = .slice (some ⟨w1.heap.size, 0, none⟩) (M t) N)) _) (OwnFrom.and (ownFrom_below (Nat.le_refl _) hB) (fun _ _ _ _ hs hg _ => Nat.lt_of_lt_of_le hs hg.size)))

/-- One more place is put behind the others. -/
theorem put_step {w w1 wr w3 : World} {s : Int} {da sa : Option Addr} {len dc sc N M : Nat} {R : List Int} {x : Int} (hP : Put w w1 s da sa len dc sc N R M wr) (hlt : w.heap.size < w1.heap.size) (hM : M < R.length) (hx : x = R[M]?.getD 0)
    (hown' : w3.ownsRow w.heap.size 3 1 (.slice (some ⟨w1.heap.size, 0, none⟩) (M + 1) N) (M + 1) ((R.take M).map (Value.int .i64) ++ [.int .i64 x])) (hgrow : (wr.drew.alloc (.cells #[.int .i64 x] 3)).grownBy w3 (some w1.heap.size)) :
    (Boxed w3 (w1.heap.size + 1) 22 (.slice (some ⟨w1.heap.size, 0, none⟩) M N)) ∧
    Put w w1 s da sa len dc sc N R (M + 1) (w3.setCell ⟨w1.heap.size + 1, 0, none⟩ (.slice (some ⟨w1.heap.size, 0, none⟩) (M + 1) N)) ∧ Keep w.heap.size (w1.heap.size + 1 + 1) wr (w3.setCell ⟨w1.heap.size + 1, 0, none⟩ (.slice (some ⟨w1.heap.size, 0, none⟩) (M + 1) N)) ∧ KeepsOthers wr (w3.setCell ⟨w1.heap.size + 1, 0, none⟩ (.slice (some ⟨w1.heap.size, 0, none⟩) (M + 1) N)) := by
  obtain ⟨hv, ⟨v, hbx, hown, rfl⟩, hB, hsz⟩ := hP
  have hbd : Boxed wr.drew (w1.heap.size + 1) 22 (.slice (some ⟨w1.heap.size, 0, none⟩) M N) := hbx
  have hod : wr.drew.ownsRow w.heap.size 3 1 (.slice (some ⟨w1.heap.size, 0, none⟩) M N) M ((R.take M).map (Value.int .i64)) := hown.drew
  have hszd : wr.drew.heap.size = wr.heap.size := rfl
  obtain ⟨a1, a2, a3, a4, a5⟩ := hbd.appended (by decide) hod (by rw [hszd]; omega) (by omega : w.heap.size ≤ w1.heap.size + 1) hown' hgrow
  refine ⟨a1, ⟨?_, ⟨_, a2, ?_, rfl⟩, ?_, ?_⟩, ⟨?_, ?_⟩, ?_⟩
  · have h1 : w3.heap[w.heap.size]? = wr.heap[w.heap.size]? := (hgrow.block _ (by simp [hszd]; omega) (by simp; omega)).trans (Below.heap_alloc _ _ _ (by rw [hszd]; omega))
    exact ((Below.heap_setCell _ ⟨w1.heap.size + 1, 0, none⟩ _ w.heap.size (by simp; omega)).trans h1).trans hv
  · have e : (R.take (M + 1)).map (Value.int .i64) = (R.take M).map (Value.int .i64) ++ [.int .i64 x] := by
      rw [take_succ_getD R M hM, List.map_append, hx]; rfl
    rw [e]; exact a3
  · exact hB.trans ((Below.refl _ wr).drew.trans a5)
  · have h1 := hgrow.size
    simp only [World.size_alloc, World.size_setCell] at h1 ⊢
    rw [hszd] at h1
    omega
  · exact (Below.refl _ wr).drew.trans a5
  · have h1 : w3.heap[w1.heap.size + 1 + 1]? = wr.heap[w1.heap.size + 1 + 1]? := (hgrow.block _ (by simp [hszd]; omega) (by simp; omega)).trans (Below.heap_alloc _ _ _ (by rw [hszd]; omega))
    exact (Below.heap_setCell _ ⟨w1.heap.size + 1, 0, none⟩ _ _ (by simp)).trans h1
  · exact (KeepsOthers.drew wr).trans a4

end Go.Proofs.Ytganhongfkcdmaa.V

/-
  Contract: view.Reads, whatever it is asked.
-/
namespace Go.Proofs.Ytganhongfkcdmaa.V
open Go.RowKit Go.Shelf
attribute [local go_sem] Oper.semAt_some

end Go.Proofs.Ytganhongfkcdmaa.V
