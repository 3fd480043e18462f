/-
  Contract: adjointref2.entry, of Sum. Plain mathematics: what is added at places, entry by entry: Pad and Sum. Plain mathematics: an index that is put together of two parts; Sum, entry by entry. Contract: adjointref2.Do, of Take. Plain mathematics: indices of two parts, one behind the other; Take and Put, entry by entry. ArrayRows: where the document's Do tells an error.
-/
import Derived.Test.YteoobeldmicjhaaGreatPCKArrayCuts40
import Derived.Test.YteoobeldmicjhaaGreatPCKArrayCuts47
import Derived.Test.YteoobeldmicjhaaGreatPCKArrayCuts16
import Derived.Test.YteoobeldmicjhaaGreatPCKArrayCuts42
import Derived.Test.YteoobeldmicjhaaGreatPCKArrayCuts46
import Derived.Test.YteoobeldmicjhaaGreatPCKArrayCuts43
import Derived.Test.YteoobeldmicjhaaGreatPCKArrayCuts7
import Derived.Test.YteoobeldmicjhaaGreatPCKArrayCuts38
namespace Go.Proofs.YteoobeldmicjhaaGreat.V
set_option maxRecDepth 20000
open Go.RowKit

/-- A list of r numbers, in a row of its own. -/
def fRowL (r : Nat) (xs : List Int) : Fact := ⟨fun v w => ∃ g, v = .slice (some ⟨g, 0, none⟩) r r ∧ Ints w (some ⟨g, 0, none⟩) r xs, false⟩
theorem fRowL_good (r : Nat) (xs : List Int) : (fRowL r xs).Good := ⟨fun _ _ _ ⟨g, h1, h2⟩ hb => ⟨g, h1, h2.below hb⟩, fun h => by cases h⟩

end Go.Proofs.YteoobeldmicjhaaGreat.V
namespace Go.Proofs.YteoobeldmicjhaaGreat.V
set_option maxRecDepth 20000
open Go.RowKit

theorem dig_place {L : List Int} (hE : sizeE L = 0) {i : Nat} (hi : i < (prod L).toNat) : placeN L (dig L i) = (i : Int) ∧ IdxOk L (dig L i) := by
  have hpos := pos_of hE hi
  have hio : IdxOk L (dig L i) := dig_bd L i hpos (by omega) (by omega)
  refine ⟨?_, hio⟩
  rw [place_dot hE (dig_length _ _) hio, ← lieN_dig L _ _ (stepsV_len L), lieN_whole L i hpos (by omega) (by omega)]
theorem placeN_S {xs ys : List Int} (hE : sizeE xs = 0) (hl : ys.length = xs.length) (h : IdxOk xs ys) : placeN xs ys = placeS xs ys xs.length := by
  rw [placeN, if_neg (by simp [hE]), if_neg (by simp [hl]), if_pos ((idxB_iff _ _).2 h)]
theorem place_inj {ds y y' : List Int} (hE : sizeE ds = 0) (hl : y.length = ds.length) (hl' : y'.length = ds.length) (h : IdxOk ds y) (h' : IdxOk ds y') (e : placeN ds y = placeN ds y') : y = y' := by
  rw [placeN_S hE hl h, placeN_S hE hl' h'] at e
  rw [← index_place h hl, ← index_place h' hl', e]
theorem place_nat {ds y : List Int} (hE : sizeE ds = 0) (hl : y.length = ds.length) (h : IdxOk ds y) : ∃ p : Nat, placeN ds y = (p : Int) ∧ p < (prod ds).toNat ∧ dig ds p = y := by
  have hb := place_bd h
  rw [← placeN_S hE hl h] at hb
  obtain ⟨p, hp⟩ : ∃ p : Nat, placeN ds y = (p : Int) := ⟨(placeN ds y).toNat, by omega⟩
  have hlt : p < (prod ds).toNat := by omega
  refine ⟨p, hp, hlt, ?_⟩
  have := dig_place hE hlt
  exact place_inj hE (dig_length _ _) hl this.2 h (this.1.trans hp.symm)
theorem list_at_ext {xs ys : List Int} (hl : xs.length = ys.length) (h : ∀ k, k < ys.length → xs[k]?.getD 0 = ys[k]?.getD 0) : xs = ys := by
  apply List.ext_getElem hl
  intro k h1 h2
  have := h k h2
  rw [List.getElem?_eq_getElem h1, List.getElem?_eq_getElem h2] at this
  simpa using this

/-! ### Pad -/
end Go.Proofs.YteoobeldmicjhaaGreat.V
namespace Go.Proofs.YteoobeldmicjhaaGreat.V
set_option maxRecDepth 20000
open Go.RowKit

theorem once_at {P : List Int} {n : Nat} (h : Once P n) (i : Nat) (hi : i < P.length) : 0 ≤ P[i]?.getD 0 ∧ P[i]?.getD 0 < n := (once_iff.1 h).1 _ (mem_getD P i hi)
theorem once_inj {P : List Int} {n : Nat} (h : Once P n) {i j : Nat} (hi : i < P.length) (hj : j < P.length) (e : P[i]?.getD 0 = P[j]?.getD 0) : i = j := by
  have hn := (once_iff.1 h).2
  rw [List.getElem?_eq_getElem hi, List.getElem?_eq_getElem hj] at e
  simp only [Option.getD_some] at e
  exact (List.getElem_inj hn).1 e
theorem free_once (P : List Int) (n : Nat) : Once (freeL P n) n := once_of_rise (freeL_rise P n)
/-! ### Sum -/
end Go.Proofs.YteoobeldmicjhaaGreat.V
namespace Go.Proofs.YteoobeldmicjhaaGreat.V
set_option maxRecDepth 20000
open Go.RowKit

end Go.Proofs.YteoobeldmicjhaaGreat.V
namespace Go.Proofs.YteoobeldmicjhaaGreat.V
set_option maxRecDepth 20000
open Go.RowKit

/-- The index of an entry, in two parts. -/
theorem dig_two {a b : List Int} {n : Nat} (hz : sizeE (a ++ b) = 0) (hn : n < (prod (a ++ b)).toNat) :
    (∀ x ∈ a, 1 ≤ x) ∧ (∀ x ∈ b, 1 ≤ x) ∧ ∃ A B : Nat, prod a = (A : Int) ∧ prod b = (B : Int) ∧ 0 < B ∧ n / B < A ∧ dig (a ++ b) n = dig a ((n / B : Nat) : Int) ++ dig b ((n % B : Nat) : Int) := by
  have hpos := pos_of hz hn
  have ha : ∀ x ∈ a, 1 ≤ x := fun x hx => hpos x (by simp [hx])
  have hb : ∀ x ∈ b, 1 ≤ x := fun x hx => hpos x (by simp [hx])
  have pa := prod_pos a ha
  have pb := prod_pos b hb
  obtain ⟨A, hA⟩ : ∃ A : Nat, prod a = (A : Int) := ⟨(prod a).toNat, by omega⟩
  obtain ⟨B, hB⟩ : ∃ B : Nat, prod b = (B : Int) := ⟨(prod b).toNat, by omega⟩
  have hN : n < A * B := by
    rw [prod_append, hA, hB, ← Int.natCast_mul] at hn
    omega
  have hB0 : 0 < B := by omega
  refine ⟨ha, hb, A, B, hA, hB, hB0, Nat.div_lt_of_lt_mul (by rw [Nat.mul_comm]; exact hN), ?_⟩
  have key : ∀ (a : List Int) (n : Nat), (∀ x ∈ a, 1 ≤ x) → dig (a ++ b) n = dig a ((n / B : Nat) : Int) ++ dig b ((n % B : Nat) : Int) ∨ a = [] := fun a => by
    induction a with
    | nil => intro n _; exact .inr rfl
    | cons d a ih =>
      intro n hda
      refine .inl ?_
      have hda' : ∀ x ∈ a, 1 ≤ x := fun x hx => hda x (by simp [hx])
      have pa' := prod_pos a hda'
      obtain ⟨A', hA'⟩ : ∃ A' : Nat, prod a = (A' : Int) := ⟨(prod a).toNat, by omega⟩
      have e1 : prod (a ++ b) = ((A' * B : Nat) : Int) := by rw [prod_append, hA', hB, ← Int.natCast_mul]
      rw [List.cons_append, dig, dig, e1, hA', List.cons_append, ← Int.natCast_ediv, ← Int.natCast_emod, ← Int.natCast_ediv, ← Int.natCast_emod]
      have d1 : n / (A' * B) = n / B / A' := by rw [Nat.mul_comm, Nat.div_div_eq_div_mul]
      have d2 : n % (A' * B) / B = n / B % A' := by rw [Nat.mul_comm, Nat.mod_mul_right_div_self]
      have d3 : n % (A' * B) % B = n % B := Nat.mod_mul_left_mod n A' B
      rw [d1]
      congr 1
      rcases ih (n % (A' * B)) hda' with h | h
      · rw [h, d2, d3]
      · subst h
        simp only [prod] at hA'
        have : A' = 1 := by omega
        subst this
        rw [Nat.one_mul]
        simp only [List.nil_append, dig, List.nil_append]
  rcases key a n ha with h | h
  · exact h
  · subst h
    simp only [prod] at hA
    have : A = 1 := by omega
    subst this
    rw [List.nil_append, dig, List.nil_append, Nat.mod_eq_of_lt (by omega)]
/-- The place of an index in two parts. -/
theorem place_two {a b y z : List Int} {B : Nat} (hz : sizeE (a ++ b) = 0) (hza : sizeE a = 0) (hzb : sizeE b = 0) (hB : prod b = (B : Int)) (hl : y.length = a.length) (hl' : z.length = b.length) (hy : IdxOk a y) (hw : IdxOk b z) : placeN (a ++ b) (y ++ z) = placeN a y * B + placeN b z := by
  obtain ⟨p, p1, p2, p3⟩ := place_nat hza hl hy
  obtain ⟨q, q1, q2, q3⟩ := place_nat hzb hl' hw
  have hA := pos_of hza p2
  have hBp := pos_of hzb q2
  have pa := prod_pos a hA
  obtain ⟨A, hA'⟩ : ∃ A : Nat, prod a = (A : Int) := ⟨(prod a).toNat, by omega⟩
  have hpq : p * B + q < (prod (a ++ b)).toNat := by
    rw [prod_append, hA', hB, ← Int.natCast_mul]
    have h1 : p < A := by omega
    have h2 : q < B := by omega
    have h3 : (p + 1) * B ≤ A * B := Nat.mul_le_mul_right _ h1
    rw [Nat.add_mul, Nat.one_mul] at h3
    omega
  obtain ⟨_, _, A2, B2, e1, e2, _, _, e3⟩ := dig_two hz hpq
  have eB : B2 = B := by omega
  subst eB
  rw [row_div p q B2 (by omega), row_mod p q B2 (by omega), p3, q3] at e3
  rw [← e3, (dig_place hz hpq).1, p1, q1]
  push_cast
  rfl
end Go.Proofs.YteoobeldmicjhaaGreat.V
namespace Go.Proofs.YteoobeldmicjhaaGreat.V
set_option maxRecDepth 20000
open Go.RowKit

end Go.Proofs.YteoobeldmicjhaaGreat.V
