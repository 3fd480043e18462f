/-
  A region that draws its order: a condition on the world that serves its loads may lapse behind them: the operations that wait for all loads need not keep it.
-/
import Derived.Test.YtoabffmiedbkkaaGreatRJ6
import Derived.Deep.RegionHeld3
namespace Go.Proofs.YtoabffmiedbkkaaGreat.V
set_option maxRecDepth 20000
open Go

section
variable {P : Program} {ops : Array Oper} {Q : Exit → Act → World → Prop} {md : Region.Mode} {S : World → Prop} {late : List Nat}

/-- One waits for another, in some steps. -/
def waits (md : Region.Mode) (ops : Array Oper) : Nat → Nat → Nat → Bool
  | 0, _, _ => false
  | n + 1, j, i => ((ops[j]?).map fun o => o.after.any fun e => Region.binds md e && (e.on == i || waits md ops n e.on i)).getD false
/-- What has come has come behind what it waits for. -/
def Shutt (md : Region.Mode) (ops : Array Oper) (listed : Array Bool) : Prop := ∀ j oj, ops[j]? = some oj → listed.getD j false = true → ∀ e ∈ oj.after, Region.binds md e = true → listed.getD e.on false = true

theorem Shutt.none {n : Nat} : Shutt md ops (Array.replicate n false) := fun j oj _ h => by
  exfalso
  by_cases hj : j < n <;> simp [hj] at h
theorem Shutt.more {listed : Array Bool} {j : Nat} (h : Shutt md ops listed) (hj : j ∈ Region.ready md ops listed) : Shutt md ops (listed.setIfInBounds j true) := by
  intro k ok hk hl e he hb
  obtain ⟨h1, oj, hoj, hall⟩ := mem_ready.1 hj
  have main : listed.getD e.on false = true := by
    by_cases hjk : j = k
    · subst hjk
      rw [hoj] at hk; cases hk
      exact hall e he hb
    · rw [getD_set_ne false hjk] at hl
      exact h k ok hk hl e he hb
  by_cases hje : j = e.on
  · exfalso
    have hlt : j < listed.size := by
      by_cases hh : j < listed.size
      · exact hh
      · rw [← hje] at main; simp [hh] at main
    rw [← hje] at main
    simp [hlt] at h1 main
    rw [h1] at main; cases main
  · rw [getD_set_ne false hje]; exact main

theorem waits_listed {listed : Array Bool} {i : Nat} (hs : Shutt md ops listed) : ∀ (n j : Nat) (oj : Oper), ops[j]? = some oj → (∀ e ∈ oj.after, Region.binds md e = true → listed.getD e.on false = true) → waits md ops n j i = true → listed.getD i false = true
  | 0, _, _, _, _, h => by simp [waits] at h
  | n + 1, j, oj, hj, hall, h => by
    rw [waits, hj] at h
    simp only [Option.map_some, Option.getD_some, Array.any_eq_true'] at h
    obtain ⟨e, he, h⟩ := h
    simp only [Bool.and_eq_true, Bool.or_eq_true, beq_iff_eq] at h
    obtain ⟨hb, h⟩ := h
    have hl := hall e he hb
    rcases h with h | h
    · rw [← h]; exact hl
    · have hlt : ∃ oe, ops[e.on]? = some oe := by
        cases ho : ops[e.on]? with
        | none => cases n <;> simp [waits, ho] at h
        | some o => exact ⟨o, rfl⟩
      obtain ⟨oe, hoe⟩ := hlt
      exact waits_listed hs n e.on oe hoe (hs e.on oe hoe hl) h

end
end Go.Proofs.YtoabffmiedbkkaaGreat.V
