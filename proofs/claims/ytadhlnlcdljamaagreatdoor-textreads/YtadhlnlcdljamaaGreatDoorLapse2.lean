/-
  A region that draws its order, with a condition that may lapse: two that may come; the end, where the condition serves no more.
-/
import Derived.Test.YtadhlnlcdljamaaGreatDoorLapse
namespace Go.Proofs.YtadhlnlcdljamaaGreatDoor.V
set_option maxRecDepth 20000
open Go

section
variable {P : Program} {ops : Array Oper} {Q : Exit → Act → World → Prop} {md : Region.Mode} {S : World → Prop} {late : List Nat}
/-- Either of two may come. -/
theorem wpAnyL_two {fuel : Nat} {listed : Array Bool} {a : Act} {w : World} {i k : Nat} {o p : Oper} (hr : Region.ready md ops listed = [i, k]) (ho : ops[i]? = some o) (hp : ops[k]? = some p)
    (h : ∀ K' : Act → World → Prop, Shut (∀ a w, S w → (S w → wpAnyL P md ops Q S late fuel (listed.setIfInBounds i true) a w) → K' a w) → if Region.wanted o (yielded ops a.tmps) = true then Oper.wp P o a w K' Q else K' (a.put o.dst undef) w)
    (h' : ∀ K' : Act → World → Prop, Shut (∀ a w, S w → (S w → wpAnyL P md ops Q S late fuel (listed.setIfInBounds k true) a w) → K' a w) → if Region.wanted p (yielded ops a.tmps) = true then Oper.wp P p a w K' Q else K' (a.put p.dst undef) w) : wpAnyL P md ops Q S late (fuel + 1) listed a w :=
  ⟨fun h0 => (by rw [hr] at h0; cases h0), fun j hj => by
    rw [hr] at hj
    rcases List.mem_cons.1 hj with rfl | hj
    · exact wpOp_step ho (fun K' hK => h K' (fun a w hS hW => hK a w ⟨fun _ => hS, hW hS⟩))
    · obtain rfl := List.mem_singleton.1 hj
      exact wpOp_step hp (fun K' hK => h' K' (fun a w hS hW => hK a w ⟨fun _ => hS, hW hS⟩))⟩
def lateAll (ops : Array Oper) (listed : Array Bool) (late : List Nat) : Bool := (List.range ops.size).all fun i => listed.getD i true || late.contains i
theorem wpAnyL_end : ∀ (fuel : Nat) (listed : Array Bool) (a : Act) (w : World), (∀ i, i < ops.size → listed.getD i true = false → late.contains i = true) → wpAny P md ops Q fuel listed a w → wpAnyL P md ops Q S late fuel listed a w
  | 0, _, _, _, _, h => h
  | fuel + 1, listed, a, w, hl, h => ⟨h.1, fun i hi => by
    obtain ⟨h1, o, ho, _⟩ := mem_ready.1 hi
    have hlt := (Array.getElem?_eq_some_iff.1 ho).1
    refine wpOp_mono (fun a' w' h' => ⟨fun hc => ?_, wpAnyL_end fuel _ a' w' (fun k hk hk2 => ?_) h'⟩) (h.2 i hi)
    · rw [hl i hlt h1] at hc; cases hc
    · by_cases e : i = k
      · subst e; exact hl i hlt h1
      · exact hl k hk (by rwa [getD_set_ne true e] at hk2)⟩
/-- From here on the condition serves no more. -/
theorem wpAnyL_rest {fuel : Nat} {listed : Array Bool} {a : Act} {w : World} (hl : lateAll ops listed late = true) (h : wpAny P md ops Q fuel listed a w) : wpAnyL P md ops Q S late fuel listed a w :=
  wpAnyL_end fuel listed a w (fun i hi hf => by
    unfold lateAll at hl
    rw [List.all_eq_true] at hl
    have := hl i (List.mem_range.2 hi)
    rw [hf] at this
    simpa using this) h
end
end Go.Proofs.YtadhlnlcdljamaaGreatDoor.V
