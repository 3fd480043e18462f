/-
  Contract: adjointref1.Turn. Contract: adjointref1.Turn, whatever it is asked.
-/
import Derived.Test.YteoobeldmicjhaaK6
import Derived.Test.YteoobeldmicjhaaK7
import Derived.Deep.RegionLaw
import Derived.Deep.DeepCutAuto
import Derived.Deep.AppendLies
namespace Go.Proofs.Yteoobeldmicjhaa.V
open Go.RowKit

theorem taken_take_succ (xs ps : List Int) (k m : Nat) (h : k < ps.length) (hm : ps[k]?.getD 0 = (m : Int)) : ((taken xs ps).take (k + 1)).map (Value.int .i64) = ((taken xs ps).take k).map (Value.int .i64) ++ [.int .i64 (xs[m]?.getD 0)] := by
  rw [take_succ_getD (taken xs ps) k (by rw [taken_length]; exact h), List.map_append, taken_getD xs ps k m h hm]
  simp

/-- The answer on its way: a View's block, whose two lists are rows of the call's own. -/
def OutAt (w wr : World) (C : Nat) (s : Int) (k : Nat) (X : Option Addr) (c : Nat) (ds : List Int) (Y : Option Addr) (d : Nat) (ss : List Int) : Prop :=
  ViewAt wr C (.int .i64 s) (.slice X k c) (.slice Y k d) ∧ wr.ownsRow w.heap.size 3 1 (.slice X k c) k (ds.map (Value.int .i64)) ∧ wr.ownsRow w.heap.size 3 1 (.slice Y k d) k (ss.map (Value.int .i64)) ∧
    ((Value.slice X k c).ownBlock = none ∨ (Value.slice X k c).ownBlock ≠ (Value.slice Y k d).ownBlock)

theorem view_ne_row {w : World} {C : Nat} {c0 c1 c2 : Value} (h : ViewAt w C c0 c1 c2) {B n : Nat} {v : Value} {xs : List Value} (ho : w.ownsRow B 3 1 v n xs) : some C ≠ v.ownBlock := by
  rcases ho.2 with ⟨rfl, _⟩ | ⟨g, cap, cur, rfl, _, hgb, _⟩
  · simp [Value.ownBlock]
  · intro e'
    obtain rfl : C = g := by simpa [Value.ownBlock] using e'
    unfold ViewAt at h
    rw [h] at hgb
    simp at hgb
theorem ViewAt.grown {w w2 : World} {C : Nat} {c0 c1 c2 : Value} (h : ViewAt w C c0 c1 c2) {B n : Nat} {v : Value} {xs : List Value} {o : Obj} (ho : w.ownsRow B 3 1 v n xs) (hg : (w.alloc o).drew.grownBy w2 v.ownBlock) : ViewAt w2 C c0 c1 c2 :=
  (hg.block C (by show C < (w.alloc o).heap.size; have := h.lt; simp; omega) (view_ne_row h ho)).trans (h.alloc o)
theorem grown_below {w wr w2 : World} {n : Nat} {v : Value} {xs : List Value} {o : Obj} (hB : Below w.heap.size w wr) (ho : wr.ownsRow w.heap.size 3 1 v n xs) (hg : (wr.alloc o).drew.grownBy w2 v.ownBlock) : Below w.heap.size w w2 := by
  refine (hB.alloc hB.size o).drew.grown hg (by have := hB.size; show _ ≤ (wr.alloc o).heap.size; simp; omega) (fun j e => ?_)
  exact (ho.lt j e).1
theorem own_grown {w w2 : World} {B m : Nat} {v u : Value} {ys : List Value} {o : Obj} (hu : w.ownsRow B 3 1 u m ys) (hg : (w.alloc o).drew.grownBy w2 v.ownBlock) (hap : u.ownBlock = none ∨ u.ownBlock ≠ v.ownBlock) : w2.ownsRow B 3 1 u m ys :=
  (hu.alloc o).drew.kept hg hap
theorem apart_sym {v u : Value} (h : v.ownBlock = none ∨ v.ownBlock ≠ u.ownBlock) : u.ownBlock = none ∨ u.ownBlock ≠ v.ownBlock := by
  rcases h with h | h
  · cases e : u.ownBlock with
    | none => exact .inl rfl
    | some g => exact .inr (by rw [h]; simp)
  · exact .inr (Ne.symm h)
theorem new_apart {w : World} {B n g : Nat} {v u : Value} {ys : List Value} (h : v.ownBlock = none ∨ v.ownBlock ≠ u.ownBlock) (hu : w.ownsRow B 3 1 u n ys) (hat : v.ownBlock = some g ∨ g = w.heap.size + 1) : some g ≠ u.ownBlock := by
  intro e
  rcases hat with hat | hat
  · rcases h with h | h
    · rw [h] at hat; cases hat
    · exact h (by rw [hat, e])
  · have := (hu.lt g e.symm).2
    omega
theorem own_le {w : World} {B n c : Nat} {X : Option Addr} {xs : List Value} (h : w.ownsRow B 3 1 (.slice X n c) n xs) : n ≤ c := by
  rcases h.2 with ⟨h1, h2⟩ | ⟨g, cap, cur, h1, _, _, h2, _⟩
  · omega
  · cases h1; exact h2
theorem ints_of_own' {w : World} {B n c : Nat} {X : Option Addr} {xs : List Int} (h : w.ownsRow B 3 1 (.slice X n c) n (xs.map (Value.int .i64))) (hl : xs.length = n) (hm : n ≤ 9223372036854775807) (hb : ∀ x ∈ xs, -9223372036854775808 ≤ x ∧ x ≤ 9223372036854775807) : Ints w X n xs := by
  rcases h.2 with ⟨h1, h2⟩ | ⟨g, cap, cur, h1, _⟩
  · exact ⟨hl, hm, hb, .inl h2⟩
  · cases h1; exact ints_of_own h hl hm hb
theorem own_view_set {w : World} {C : Nat} {c0 c1 c2 : Value} (h : ViewAt w C c0 c1 c2) {B n : Nat} {v : Value} {xs : List Value} (ho : w.ownsRow B 3 1 v n xs) (i : Nat) (u : Value) : (w.setCell ⟨C, i, none⟩ u).ownsRow B 3 1 v n xs :=
  ownsRow_setCell_other ho (fun e => view_ne_row h ho e.symm) u
theorem ViewAt.set1 {w : World} {C : Nat} {c0 c1 c2 : Value} (h : ViewAt w C c0 c1 c2) (u : Value) : ViewAt (w.setCell ⟨C, 1, none⟩ u) C c0 u c2 := by
  unfold ViewAt at *
  simp [World.setCell, Array.getElem?_modify, h]
theorem ViewAt.set2 {w : World} {C : Nat} {c0 c1 c2 : Value} (h : ViewAt w C c0 c1 c2) (u : Value) : ViewAt (w.setCell ⟨C, 2, none⟩ u) C c0 c1 u := by
  unfold ViewAt at *
  simp [World.setCell, Array.getElem?_modify, h]
theorem ViewAt.set0 {w : World} {C : Nat} {c0 c1 c2 : Value} (h : ViewAt w C c0 c1 c2) (u : Value) : ViewAt (w.setCell ⟨C, 0, none⟩ u) C u c1 c2 := by
  unfold ViewAt at *
  simp [World.setCell, Array.getElem?_modify, h]

theorem own_set3 {w : World} {C : Nat} {c0 c1 c2 : Value} (h : ViewAt w C c0 c1 c2) {B n : Nat} {v : Value} {xs : List Value} (ho : w.ownsRow B 3 1 v n xs) {x y z : Value} : (((w.setCell ⟨C, 0, none⟩ x).setCell ⟨C, 1, none⟩ y).setCell ⟨C, 2, none⟩ z).ownsRow B 3 1 v n xs :=
  own_view_set ((h.set0 x).set1 y) (own_view_set (h.set0 x) (own_view_set h ho 0 x) 1 y) 2 z

end Go.Proofs.Yteoobeldmicjhaa.V
namespace Go.Proofs.Yteoobeldmicjhaa.V
open Go.RowKit

end Go.Proofs.Yteoobeldmicjhaa.V
