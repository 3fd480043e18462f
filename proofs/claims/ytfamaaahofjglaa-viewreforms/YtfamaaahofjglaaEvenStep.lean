/-
  Contract: view.evenStep.
-/
import Derived.Test.YtfamaaahofjglaaEven
import Derived.BigRegion
namespace Go.Proofs.Ytfamaaahofjglaa.V
open Go.RowKit

/-- The first P places keep it. -/
def evenTo (L : List Int) (D B P : Nat) : Prop := ∀ p, p < P → B ≤ p % (D * B) → L[p]?.getD 0 - L[p - B]?.getD 0 = L[B]?.getD 0 - L[0]?.getD 0

def EvenPost (e : Ending) (L : List Int) (D B : Nat) : Prop := ∃ b : Bool, e = .returned (.tuple #[.int .i64 (if b = true then stepE L D B else 0), .bool b]) ∧ (b = true ↔ EvenP L D B)

set_option maxRecDepth 100000 in
set_option maxHeartbeats 4000000 in
theorem evenStep_any (a : Option Addr) (len cap : Nat) (L : List Int) (D B Q : Nat) (w : World) (h : Ints w a len L) (hD : 1 ≤ D) (hB : 1 ≤ B) (hQ : len = Q * (D * B)) (hl1 : 1 ≤ len) (hl2 : len ≤ 65536) (hb : ∀ x ∈ L, -28115000000000000 ≤ x ∧ x ≤ 28115000000000000) :
    Calls Try.prog 46 #[.slice a len cap, .int .i64 D, .int .i64 B] w fun e w' => EvenPost e L D B ∧ Below w.heap.size w w' := by
  have HL := hide h.1
  obtain ⟨ab, ao, rfl, hab, hac⟩ := h.at hl1
  have HC := hide hac
  have H := hide h
  clear h hac
  by_cases hD1 : D = 1
  · subst hD1
    go_enter Try.func46, Try.ntmps46
    go_wp2
    go_ret2
    exact ⟨⟨true, by simp [stepE], by simp [EvenP]⟩, Below.refl _ _⟩
  have hDB1 : B < D * B := by
    have : B * 1 < B * D := Nat.mul_lt_mul_of_pos_left (by omega) (by omega)
    rw [Nat.mul_comm B D] at this; omega
  have hQ1 : 1 ≤ Q := by
    cases Q with
    | zero => simp at hQ; omega
    | succ q => omega
  have hDBl : D * B ≤ len := by rw [hQ]; exact Nat.le_mul_of_pos_left _ (by omega)
  have hbd : Hid (∀ j, j < len → -28115000000000000 ≤ L[j]?.getD 0 ∧ L[j]?.getD 0 ≤ 28115000000000000) := fun j hj => hb _ (mem_getD L j (by rw [HL.out]; exact hj))
  clear hb
  obtain ⟨E, hE⟩ : ∃ E, D * B = E := ⟨_, rfl⟩
  have hEi : Hid ((D : Int) * (B : Int) = (E : Int)) := by rw [Hid, ← hE]; simp
  obtain ⟨S, hS⟩ : ∃ S, L[B]?.getD 0 - L[0]?.getD 0 = S := ⟨_, rfl⟩
  rw [hE] at hDB1 hDBl hQ
  have HE := hide hE
  have HS := hide hS
  have HQ := hide hQ
  have c0 : w.cell? ⟨ab, ao, none⟩ = some (.int .i64 (L[0]?.getD 0)) := by have := HC.out 0 (by omega); simpa using this
  have cB : w.cell? ⟨ab, ao + B, none⟩ = some (.int .i64 (L[B]?.getD 0)) := HC.out B (by omega)
  have b0 := hbd.out 0 (by omega)
  have bB := hbd.out B (by omega)
  have d1 : ((D : Int) == 1) = false := by simp; omega
  have wS : IntKind.i64.wrap (L[B]?.getD 0 - L[0]?.getD 0) = S := by rw [← hS]; exact wrap_in _ (by omega) (by omega)
  have wE : IntKind.i64.wrap ((D : Int) * (B : Int)) = (E : Int) := by rw [hEi.out]; exact wrap_in _ (by omega) (by omega)
  have i1 : (0 : Int) ≤ (B : Int) := by omega
  have i2 : (B : Int) < (len : Int) := by omega
  have i3 : (0 : Int) < (len : Int) := by omega
  have hSb : -56230000000000000 ≤ S ∧ S ≤ 56230000000000000 := by omega
  clear hE hS hQ
  go_enter Try.func46, Try.ntmps46
  go_wp2_with fail
  go_region
  go_wp2_with fail
  clear c0 cB wS
  go_loopw [9] (fun i wr => ∃ q : Nat, q ≤ Q ∧ i = .int .i64 (q * E : Nat) ∧ evenTo L D B (q * E) ∧ Below w.heap.size w wr) (fun i _ => len - (intOf i).toNat)
  case atStart => exact ⟨0, Nat.zero_le _, by simp, fun p hp => by omega, (Below.refl _ _).drew⟩
  case round =>
    obtain ⟨q, hq, rfl, hev, hB'⟩ := hrel
    have HEV := hide hev
    have HBW := hide hB'
    clear hev hB'
    by_cases hlt : q < Q
    · have hqE : q * E + E ≤ len := by
        have : (q + 1) * E ≤ Q * E := Nat.mul_le_mul_right E (by omega)
        rw [Nat.add_mul, Nat.one_mul] at this
        rw [HQ.out]; exact this
      obtain ⟨F, hF⟩ : ∃ F, q * E = F := ⟨_, rfl⟩
      have HF := hide hF
      rw [hF] at hqE
      have HEV2 : Hid (evenTo L D B F) := by rw [Hid, ← hF]; exact HEV.out
      simp only [hF]
      clear hF HEV
      have w1' : IntKind.i64.wrap ((F : Int) + (B : Int)) = ((F + B : Nat) : Int) := by rw [← Int.natCast_add]; exact wrap_in _ (by omega) (by omega)
      have w2' : IntKind.i64.wrap ((F : Int) + (E : Int)) = ((F + E : Nat) : Int) := by rw [← Int.natCast_add]; exact wrap_in _ (by omega) (by omega)
      have l1 : (F : Int) < (len : Int) := by omega
      go_wp2_with fail
      go_loopw [10] (fun i wr => ∃ p : Nat, F + B ≤ p ∧ p ≤ F + E ∧ i = .int .i64 (p : Nat) ∧ evenTo L D B p ∧ Below w.heap.size w wr) (fun i _ => F + E - (intOf i).toNat)
      case atStart =>
        refine ⟨F + B, Nat.le_refl _, by omega, rfl, fun p hp hc => ?_, HBW.out⟩
        by_cases h1 : p < F
        · exact HEV2.out p h1 hc
        · exfalso
          have : p % (D * B) = p - F := by
            rw [HE.out, show p = (p - F) + q * E by rw [HF.out]; omega, Nat.add_mul_mod_self_right, Nat.mod_eq_of_lt (by omega)]
            rw [HF.out]; omega
          omega
      case round =>
        clear HBW
        obtain ⟨p, hp1, hp2, rfl, hev, hB'⟩ := hrel
        have HEV := hide hev
        have HBW := hide hB'
        clear hev hB'
        by_cases hplt : p < F + E
        · have hpm : Hid (p % (D * B) = p - F) := by
            rw [Hid, HE.out, show p = (p - F) + q * E by rw [HF.out]; omega, Nat.add_mul_mod_self_right, Nat.mod_eq_of_lt (by omega)]
            rw [HF.out]; omega
          obtain ⟨X, hX⟩ : ∃ X, L[p]?.getD 0 = X := ⟨_, rfl⟩
          obtain ⟨Y, hY⟩ : ∃ Y, L[p - B]?.getD 0 = Y := ⟨_, rfl⟩
          have cX : wr.cell? ⟨ab, ao + p, none⟩ = some (.int .i64 X) := by rw [← hX]; exact (HBW.out.cell (p := ⟨ab, ao + p, none⟩) hab).trans (HC.out p (by omega))
          have cY : wr.cell? ⟨ab, ao + (p - B), none⟩ = some (.int .i64 Y) := by rw [← hY]; exact (HBW.out.cell (p := ⟨ab, ao + (p - B), none⟩) hab).trans (HC.out (p - B) (by omega))
          have bX := hbd.out p (by omega)
          have bY := hbd.out (p - B) (by omega)
          rw [hX] at bX
          rw [hY] at bY
          have HX := hide hX
          have HY := hide hY
          have w3' : IntKind.i64.wrap ((p : Int) - (B : Int)) = ((p - B : Nat) : Int) := by rw [show ((p : Int) - (B : Int)) = ((p - B : Nat) : Int) by omega]; exact wrap_in _ (by omega) (by omega)
          have w4' : IntKind.i64.wrap (X - Y) = X - Y := wrap_in _ (by omega) (by omega)
          have j1 : (0 : Int) ≤ (p : Int) := by omega
          have j2 : (p : Int) < (len : Int) := by omega
          have j3 : (0 : Int) ≤ ((p - B : Nat) : Int) := by omega
          have j4 : ((p - B : Nat) : Int) < (len : Int) := by omega
          have j5 : (p : Int) < ((F + E : Nat) : Int) := by omega
          clear hX hY
          by_cases heq : X - Y = S
          · have e1 : ((X - Y) != S) = false := by simp [heq]
            have HEQ := hide heq
            clear heq
            go_wp2_with fail
            go_region
            go_wp2
            go_roundw
            case rel =>
              refine ⟨p + 1, by omega, by omega, by go_num, fun r hr hc => ?_, HBW.out.drew⟩
              by_cases h1 : r < p
              · exact HEV.out r h1 hc
              · obtain rfl : r = p := by omega
                rw [HX.out, HY.out, HS.out]; exact HEQ.out
            case measure => simp [intOf]; omega
          · have e1 : ((X - Y) != S) = true := by simp [heq]
            have HEQ := hide heq
            clear heq
            go_wp2_with fail
            go_region
            go_wp2
            go_ret2
            refine ⟨⟨false, by simp, ⟨(fun h => by cases h), fun h => ?_⟩⟩, HBW.out.drew⟩
            have := (h.resolve_left hD1) p (by rw [HL.out]; omega) (by rw [hpm.out]; omega)
            rw [HX.out, HY.out, HS.out] at this
            exact absurd this HEQ.out
        · obtain rfl : p = F + E := by omega
          have j5 : ¬ (((F + E : Nat) : Int) < ((F + E : Nat) : Int)) := by omega
          go_wp2
          go_roundw
          case rel =>
            have e : (q + 1) * E = F + E := by rw [Nat.add_mul, Nat.one_mul, HF.out]
            exact ⟨q + 1, by omega, by rw [e]; simp, by rw [e]; exact HEV.out, HBW.out⟩
          case measure => simp [intOf]; omega
    · obtain rfl : q = Q := by omega
      have l1 : ¬ (((q * E : Nat) : Int) < (len : Int)) := by rw [HQ.out]; omega
      go_wp2
      go_ret2
      refine ⟨⟨true, by simp [stepE, hD1, HS.out], ⟨fun _ => .inr fun p hp hc => HEV.out p (by rw [HL.out, HQ.out] at hp; exact hp) hc, fun _ => rfl⟩⟩, HBW.out⟩
end Go.Proofs.Ytfamaaahofjglaa.V
