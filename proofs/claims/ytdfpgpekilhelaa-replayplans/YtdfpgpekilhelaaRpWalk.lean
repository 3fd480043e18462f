/-
  Contract: chart.walk.
-/
import Derived.Test.YtdfpgpekilhelaaRpTell
namespace Go.Proofs.Ytdfpgpekilhelaa.V
open Go.RowKit
set_option linter.unusedVariables false

/-- The chart, ahead of what is told. -/
def ChartB (w : World) (tb cb n S : Nat) (g : Nat → Nat) : Prop := ChartW w cb n S (S + 1) g ∧ cb < tb ∧ ∀ i, i < S + 1 → g i < tb
theorem ChartB.below {w w' : World} {tb cb n S : Nat} {g : Nat → Nat} (h : ChartB w tb cb n S g) (hb : Below tb w w') : ChartB w' tb cb n S g :=
  ⟨h.1.of (hb.block cb h.2.1) (fun i hi => hb.block (g i) (h.2.2 i hi)), h.2⟩

set_option maxHeartbeats 2000000 in
theorem walk_small (tb B cb n S : Nat) (free m : Nat) (ms : List (Int × Int)) (w : World) (hm : m ≤ 1) (hA : Acc w tb B ms) (hL : ms.length ≤ 900000) :
    Calls Try.prog 20 #[.slice (some ⟨cb, 0, none⟩) (S + 1) (S + 1), .int .i64 m, .int .i64 free, .func (.func 21) #[] #[.pointer (some ⟨tb, 0, none⟩)]] w fun e w' => e = .returned (.tuple #[]) ∧ (∃ us, Acc w' tb B (ms ++ us) ∧ Walks m free us) ∧ Below tb w w' := by
  have HA := hide hA
  clear hA
  have hm' : ¬ (1 : Int) < m := by omega
  go_enter Try.func20, Try.ntmps20
  go_wp2_with fail
  go_loopw [1] (fun v wr => v = .int .i64 m ∧ wr = w) (fun _ _ => 0)
  case atStart => exact ⟨rfl, rfl⟩
  case round =>
    obtain ⟨rfl, rfl⟩ := hrel
    by_cases m1 : m = 1
    · subst m1
      go_wp2_with (go_at_call 21; refine (tell_any tb B ms 4 0 _ HA.out (by omega)).mono ?_; rintro e w1 ⟨rfl, q1, q2⟩; have Q1 := hide q1; have Q2 := hide q2; clear q1 q2)
      exact bodyPost_end (v := .tuple #[]) (by simp [results, Try.results20, go_sem]) rfl ⟨rfl, ⟨_, Q1.out, walks_one free⟩, Q2.out⟩
    · have m0 : m = 0 := by omega
      subst m0
      go_wp2_with fail
      exact bodyPost_end (v := .tuple #[]) (by simp [results, Try.results20, go_sem]) rfl ⟨rfl, ⟨[], by rw [List.append_nil]; exact HA.out, walks_zero free⟩, Below.refl _ _⟩

set_option maxHeartbeats 4000000 in
theorem walk_any (tb B cb n S : Nat) (g : Nat → Nat) (hn : n ≤ 256) (hS : S ≤ 16) : ∀ (free m : Nat) (ms : List (Int × Int)) (w : World), m ≤ n → free ≤ S → (m ≤ 1 ∨ 1 ≤ free) → Acc w tb B ms → ChartB w tb cb n S g → ms.length + T free m + 4 * m ≤ 900000 →
    Calls Try.prog 20 #[.slice (some ⟨cb, 0, none⟩) (S + 1) (S + 1), .int .i64 m, .int .i64 free, .func (.func 21) #[] #[.pointer (some ⟨tb, 0, none⟩)]] w fun e w' => e = .returned (.tuple #[]) ∧ (∃ us, Acc w' tb B (ms ++ us) ∧ Walks m free us) ∧ Below tb w w' := by
  intro free
  induction free with
  | zero =>
    intro m ms w hm hf hmf hA hC hL
    exact walk_small tb B cb n S 0 m ms w (by omega) hA (by omega)
  | succ f ih =>
    intro m ms w hm hf hmf hA hC hL
    by_cases hm2 : m ≤ 1
    · exact walk_small tb B cb n S (f + 1) m ms w hm2 hA (by omega)
    have HA := hide hA
    have HC := hide hC
    have IH := hide ih
    clear hA hC ih
    have hm' : (1 : Int) < m := by omega
    have ef : ((f : Int) + 1 - 1) = f := by omega
    go_enter Try.func20, Try.ntmps20
    go_wp2_with (go_at_call 21; refine (tell_any tb B ms 2 f _ HA.out (by omega)).mono ?_; rintro e w1 ⟨rfl, q1, q2⟩; have Q1 := hide q1; have Q2 := hide q2; clear q1 q2)
    go_loopw [1] (fun v wr => ∃ (k : Nat) (us : List (Int × Int)), v = .int .i64 k ∧ 1 ≤ k ∧ k ≤ m ∧ Acc wr tb B (ms ++ us) ∧ Part m (f + 1) k us ∧ Below tb w wr) (fun v _ => (intOf v).toNat)
    case atStart => exact ⟨m, [(2, (f : Int))], rfl, by omega, by omega, Q1.out, part_begun (by omega), Q2.out⟩
    case round =>
      obtain ⟨k, us, rfl, r1, r2, r3, r4, r5⟩ := hrel
      have R3 := hide r3
      have R4 := hide r4
      have R5 := hide r5
      have hlen := r4.1.1
      clear r3 r4 r5
      by_cases hk : 2 ≤ k
      · have hk' : (1 : Int) < k := by omega
        have hch := HC.out.below R5.out
        have k1 := hch.1.1.cell (i := f + 1) (by omega)
        have hrow := (hch.1.2 (f + 1) (by omega)).1
        obtain ⟨q, k2, hq⟩ := hrow.first (j := k) hk (by omega) (by omega) (by omega)
        have hx : f + 1 < S + 1 := by omega
        simp only [hx, if_true] at k1
        have HQ := hide hq
        have q1 := hq.1
        have q2 := hq.2.1
        clear hch hrow hq hx
        obtain ⟨wo, hwo⟩ : ∃ wo, wo = wr := ⟨_, rfl⟩
        subst hwo
        go_wp2_with fail
        go_loopw [27] (fun i wx => ∃ j : Nat, j ≤ q ∧ i = .int .i64 j ∧ Acc wx tb B ((ms ++ us) ++ List.replicate j (1, 0)) ∧ Below tb wo wx) (fun i _ => q - (intOf i).toNat)
        case atStart => exact ⟨0, by omega, rfl, by simpa using R3.out, Below.refl _ _⟩
        case round =>
          obtain ⟨j, j1, rfl, j2, j3⟩ := hrel
          have J2 := hide j2
          have J3 := hide j3
          clear j2 j3
          by_cases hj : j < q
          · go_wp2_with (go_at_call 21; refine (tell_any tb B ((ms ++ us) ++ List.replicate j (1, 0)) 1 0 _ J2.out (by simp; omega)).mono ?_; rintro e w2 ⟨rfl, p1, p2⟩; have P1 := hide p1; have P2 := hide p2; clear p1 p2)
            have X : Acc w2 tb B ((ms ++ us) ++ List.replicate (j + 1) (1, 0)) := by
              rw [List.replicate_succ', ← List.append_assoc]
              exact P1.out
            go_round
            case rel => exact ⟨j + 1, by omega, by go_num, X, J3.out.trans P2.out⟩
            case measure => simp [intOf]; omega
          · have ej : j = q := by omega
            subst ej
            have ekq : (k : Int) - (j : Int) = ((k - j : Nat) : Int) := by omega
            have hw := IH.out (k - j) ((ms ++ us) ++ List.replicate j (1, 0)) wr (by omega) (by omega) (by
              by_cases e : f = 0
              · subst e; have := HQ.out.2.2.1 rfl; omega
              · omega) J2.out (HC.out.below (R5.out.trans J3.out)) (by
              have := HQ.out.2.2.2
              rw [show f + 1 - 1 = f by omega] at this
              simp only [List.length_append, List.length_replicate]
              omega)
            have HW := hide hw
            clear hw
            go_wp2_with fail
            refine HW.out.mono ?_
            rintro e w2 ⟨rfl, ⟨vs, p0, p1⟩, p2⟩
            have P0 := hide p0
            have P1 := hide p1
            have P2 := hide p2
            have hv := (p1.2 (by omega)).1
            have hg4 := HQ.out.2.2.2
            rw [show f + 1 - 1 = f by omega] at hg4
            have hlen3 : ((((ms ++ us) ++ List.replicate j (1, 0)) ++ vs).length ≤ 1000000) := by
              simp only [List.length_append, List.length_replicate]
              omega
            have tl := tell_any tb B (((ms ++ us) ++ List.replicate j (1, 0)) ++ vs) 3 f w2 P0.out hlen3
            have TL := hide tl
            clear p0 p1 p2 HW tl hlen3 hv hg4
            go_wp2_with fail
            refine TL.out.mono ?_
            rintro e w3 ⟨rfl, s1, s2⟩
            have S1 := hide s1
            have S2 := hide s2
            clear s1 s2 TL
            go_wp2_with fail
            have X : Acc w3 tb B (ms ++ (us ++ (List.replicate j (1, 0) ++ (vs ++ [(3, ((f + 1 - 1 : Nat) : Int))])))) := by
              have := S1.out
              simpa [List.append_assoc] using this
            have Y := part_step (by omega) hk R4.out HQ.out (by rw [show f + 1 - 1 = f by omega]; exact P1.out)
            have Z := (R5.out.trans J3.out).trans (P2.out.trans S2.out)
            go_round
            case rel => exact ⟨j, _, rfl, by omega, by omega, X, Y, Z⟩
            case measure => simp [intOf]; omega
      · have k1 : k = 1 := by omega
        subst k1
        go_wp2_with (go_at_call 21; refine (tell_any tb B (ms ++ us) 4 0 _ R3.out (by simp; omega)).mono ?_; rintro e w2 ⟨rfl, p1, p2⟩; have P1 := hide p1; have P2 := hide p2; clear p1 p2)
        exact bodyPost_end (v := .tuple #[]) (by simp [results, Try.results20, go_sem]) rfl ⟨rfl, ⟨us ++ [(4, 0)], by rw [← List.append_assoc]; exact P1.out, part_end (by omega) R4.out⟩, R5.out.trans P2.out⟩
end Go.Proofs.Ytdfpgpekilhelaa.V
