/-
  Contract: adjointref1.Flip.
-/
import Derived.Test.YtdhkglafpjcdhaaGFlip
import Derived.Test.YtdhkglafpjcdhaaGRTurn
namespace Go.Proofs.Ytdhkglafpjcdhaa.V
open Go.RowKit

/-- The Start, when the first k steps are through. -/
def rAcc (s : Int) (ds ss at' : List Int) : Nat → Int
  | 0 => s
  | k + 1 => rAcc s ds ss at' k + (if inB at' k = true then flipTerm ds ss k else 0)
theorem rAcc_bd {s : Int} {ds ss : List Int} (h : Small s ds ss) (at' : List Int) : ∀ i, -(1099511627776 + 4502500115742720 * i) ≤ rAcc s ds ss at' i ∧ rAcc s ds ss at' i ≤ 1099511627776 + 4502500115742720 * i
  | 0 => by have := h.start; simp [rAcc]; omega
  | i + 1 => by
    have h1 := rAcc_bd h at' i
    have h2 := flipTerm_bd h i
    rw [rAcc]; split <;> omega

/-- A sum over those below n that a list names. -/
def sumB (f : Nat → Int) (b : Nat → Bool) : Nat → Int
  | 0 => 0
  | k + 1 => sumB f b k + (if b k = true then f k else 0)
theorem sumB_add (f : Nat → Int) (b c : Nat → Bool) (m : Nat) (hb : b m = false) (hc : ∀ j, c j = (b j || decide (j = m))) : ∀ n, sumB f c n = sumB f b n + (if m < n then f m else 0)
  | 0 => by simp [sumB]
  | n + 1 => by
    rw [sumB, sumB, sumB_add f b c m hb hc n, hc n]
    by_cases e : n = m
    · subst e; simp [hb]
    · by_cases l : m < n
      · have l' : m < n + 1 := by omega
        simp [e, l, l']; omega
      · have l' : ¬ m < n + 1 := by omega
        simp [e, l, l']
theorem sumB_none (f : Nat → Int) (b : Nat → Bool) (h : ∀ j, b j = false) : ∀ n, sumB f b n = 0
  | 0 => rfl
  | n + 1 => by rw [sumB, sumB_none f b h n, h n]; simp
theorem rAcc_eq (s : Int) (ds ss at' : List Int) : ∀ n, rAcc s ds ss at' n = s + sumB (flipTerm ds ss) (inB at') n
  | 0 => by simp [rAcc, sumB]
  | n + 1 => by rw [rAcc, rAcc_eq s ds ss at' n, sumB]; omega
theorem flipAcc_eq (s : Int) (ds ss at' : List Int) (n : Nat) (h : RiseOk at' n) : ∀ i, i ≤ at'.length → flipAcc s ds ss at' i = s + sumB (flipTerm ds ss) (inB (at'.take i)) n
  | 0, _ => by rw [flipAcc, sumB_none _ _ (fun j => by simp [inB])]; omega
  | i + 1, hi => by
    have h0 := h i (by omega)
    obtain ⟨m, hm⟩ : ∃ m : Nat, at'[i]?.getD 0 = (m : Int) := ⟨(at'[i]?.getD 0).toNat, by omega⟩
    have hml : m < n := by omega
    rw [flipAcc, flipAcc_eq s ds ss at' n h i (by omega), hm, Int.toNat_natCast]
    rw [sumB_add (flipTerm ds ss) (inB (at'.take i)) (inB (at'.take (i + 1))) m ?_ ?_ n, if_pos hml]
    · omega
    · cases c : inB (at'.take i) m with
      | false => rfl
      | true =>
        simp only [inB, List.any_eq_true, beq_iff_eq] at c
        obtain ⟨x, hx, he⟩ := c
        obtain ⟨j, hj, hxe⟩ := List.getElem_of_mem hx
        simp only [List.length_take] at hj
        rw [List.getElem_take] at hxe
        have := rise_lt h j i (by omega) (by omega)
        rw [hm] at this
        rw [List.getElem?_eq_getElem (by omega)] at this
        simp only [Option.getD_some] at this
        omega
    · intro j
      unfold inB
      rw [take_succ_getD at' i (by omega), List.any_append, hm]
      congr 1
      simp only [List.any_cons, List.any_nil, Bool.or_false]
      by_cases e : j = m
      · simp [e]
      · have : ¬ ((m : Int) = (j : Int)) := by omega
        simp [e, this]
theorem rAcc_flipAcc (s : Int) (ds ss at' : List Int) (n : Nat) (h : RiseOk at' n) : rAcc s ds ss at' n = flipAcc s ds ss at' at'.length := by
  rw [rAcc_eq, flipAcc_eq s ds ss at' n h at'.length (Nat.le_refl _), List.take_length]

theorem ViewAt.grown' {w w2 : World} {C : Nat} {c0 c1 c2 : Value} (h : ViewAt w C c0 c1 c2) {B n : Nat} {v : Value} {xs : List Value} {o : Obj} (ho : w.ownsRow B 3 1 v n xs) (hg : (w.alloc o).grownBy w2 v.ownBlock) : ViewAt w2 C c0 c1 c2 :=
  (hg.block C (by have := h.lt; simp; omega) (view_ne_row h ho)).trans (h.alloc o)
theorem grown_below' {w wr w2 : World} {n : Nat} {v : Value} {xs : List Value} {o : Obj} (hB : Below w.heap.size w wr) (ho : wr.ownsRow w.heap.size 3 1 v n xs) (hg : (wr.alloc o).grownBy w2 v.ownBlock) : Below w.heap.size w w2 := by
  refine (hB.alloc hB.size o).grown hg (by have := hB.size; simp; omega) (fun j e => ?_)
  exact (ho.lt j e).1
theorem row_ne_view {w : World} {C n c B m : Nat} {Y : Option Addr} {c0 c1 c2 : Value} {xs : List Value} (ho : w.ownsRow B 3 1 (.slice Y n c) m xs) (h : ViewAt w C c0 c1 c2) : ∀ g o, Y = some ⟨g, o, none⟩ → g ≠ C := by
  intro g o hY e
  subst hY; subst e
  rcases ho.2 with ⟨h2, _⟩ | ⟨g', cap, cur, h1, _, hgb, _⟩
  · simp at h2
  · cases h1
    unfold ViewAt at h
    rw [h] at hgb
    simp at hgb
theorem own_far {w : World} {n c B m : Nat} {Y : Option Addr} {xs : List Value} (ho : w.ownsRow B 3 1 (.slice Y n c) m xs) : Far B Y := by
  intro g o e
  subst e
  rcases ho.2 with ⟨h2, _⟩ | ⟨g', cap, cur, h1, _⟩
  · simp at h2
  · cases h1
    exact (ho.lt g rfl).1
theorem ints_set3o {w : World} {Y : Option Addr} {len B : Nat} {xs : List Int} {a b c : Value} (h : Ints w Y len xs) (hne : ∀ g o, Y = some ⟨g, o, none⟩ → g ≠ B) : Ints (((w.setCell ⟨B, 0, none⟩ a).setCell ⟨B, 1, none⟩ b).setCell ⟨B, 2, none⟩ c) Y len xs := by
  obtain ⟨h1, h2, h3, h4⟩ := h
  refine ⟨h1, h2, h3, ?_⟩
  rcases h4 with h4 | ⟨b', off, ha, hc⟩
  · exact .inl h4
  · have hne := hne b' off ha
    have e : (((w.setCell ⟨B, 0, none⟩ a).setCell ⟨B, 1, none⟩ b).setCell ⟨B, 2, none⟩ c).heap[b']? = w.heap[b']? :=
      ((Below.heap_setCell _ ⟨B, 2, none⟩ _ b' hne).trans (Below.heap_setCell _ ⟨B, 1, none⟩ _ b' hne)).trans (Below.heap_setCell _ ⟨B, 0, none⟩ _ b' hne)
    exact .inr ⟨_, _, ha, fun j hj => (World.cell?_of_block (w := w) e).trans (hc j hj)⟩
theorem flipL_take_succ (ss at' : List Int) (k : Nat) (h : k < ss.length) (y : Int) (hy : y = if inB at' k = true then -(ss[k]?.getD 0) else ss[k]?.getD 0) : ((flipL ss at').take (k + 1)).map (Value.int .i64) = ((flipL ss at').take k).map (Value.int .i64) ++ [.int .i64 y] := by
  rw [take_succ_getD (flipL ss at') k (by rw [flipL_length]; exact h), List.map_append, flipL_getD ss at' k h, ← hy]
  simp

end Go.Proofs.Ytdhkglafpjcdhaa.V

/-
  Contract: adjointref1.Flip of anything.
-/
namespace Go.Proofs.Ytdhkglafpjcdhaa.V
open Go.RowKit

end Go.Proofs.Ytdhkglafpjcdhaa.V
