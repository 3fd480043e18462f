/-
  The document's Do, of right code.
-/
import Derived.Test.YtoabffmiedbkkaaGreatRJ17
import Derived.Test.YtoabffmiedbkkaaGreatRJ18
import Derived.Test.YtoabffmiedbkkaaGreatRJ19
import Derived.Test.YtoabffmiedbkkaaGreatRJ20
import Derived.Test.YtoabffmiedbkkaaGreatRJ21
import Derived.Test.YtoabffmiedbkkaaGreatRJ22
import Derived.Test.YtoabffmiedbkkaaGreatRJ23
import Derived.Test.YtoabffmiedbkkaaGreatRJ24
import Derived.Test.YtoabffmiedbkkaaGreatRJ25
import Derived.Test.YtoabffmiedbkkaaGreatRJ26
import Derived.Test.YtoabffmiedbkkaaGreatRJ27
import Derived.Test.YtoabffmiedbkkaaGreatRJ28
import Derived.Test.YtoabffmiedbkkaaGreatRJ29
import Derived.Test.YtoabffmiedbkkaaGreatRJ43
namespace Go.Proofs.YtoabffmiedbkkaaGreat.V
set_option maxRecDepth 20000
open Go Go.RowKit
set_option linter.unusedVariables false
set_option linter.unusedSimpArgs false

theorem doP_zero {x : In} (h : x.n = 0) (p q : Int → Int) : doP x p q = p := by
  funext w
  unfold doP
  split
  · rename_i hw
    have key : ∀ s : Str, s.w = 0 → inS s w = false := fun s hs => by
      unfold inS
      simp only [Bool.and_eq_false_iff, decide_eq_false_iff_not]
      omega
    by_cases h13 : x.d = 13
    · unfold newW
      rw [if_neg (by omega), if_neg (by omega), if_neg (by omega), if_neg (by omega), if_pos h13, h]
      rfl
    · exfalso
      unfold tchV at hw
      repeat' split at hw
      all_goals first | omega | (rw [key _ h] at hw; cases hw) | (rw [key _ rfl] at hw; cases hw)
  · rfl
theorem doMm_zero {x : In} (h : x.n = 0) (p q : Int → Int) : doMm x p q = q := by
  unfold doMm
  split
  · rw [h]; rfl
  · rfl
theorem rdo13_any (x : In) (P M : Sw1) (gp op gm om : Nat) (p q : Int → Int) (W : World) (hp : WrdAt W P gp op p) (hm : WrdAt W M gm om q) (hne : gp ≠ gm) (pad mem : Int) (e : Bool) (hx : insE pad mem e x = 0) (hd : x.d ≠ 3 ∧ x.d ≠ 4) (hpn : (P.n : Int) = pad) (hmn : (M.n : Int) = mem) (hP9 : P.n ≤ 4096) (hM9 : M.n ≤ 1048576) :
    Calls Tryz.prog 17 #[x.w, .slice P.a P.n P.c, .slice M.a M.n M.c] W fun e w' => DoAns P M gp op gm om p q W x e w' := by
  have hh := ins_has hx
  have hn : 0 ≤ x.n ∧ x.n ≤ 4096 := by
    unfold insE at hx
    by_cases h1 : hasV e x.d = false
    · rw [if_pos h1] at hx; omega
    rw [if_neg h1, if_neg (by omega)] at hx
    by_cases h2 : x.n < 0 ∨ 4096 < x.n ∨ farV x.a = true ∨ farV x.b = true ∨ farV x.c = true
    · rw [if_pos h2] at hx; omega
    omega
  by_cases h0 : x.n = 0
  · have hr := rdo13_0 x.d x.a x.b x.c x.v P M gp op gm om p q W hp hm hP9
    unfold In.w
    rw [h0]
    refine hr.mono ?_
    rintro r w' ⟨rfl, hb⟩
    refine ⟨rfl, ?_, ?_, WrB.of hb⟩
    · rw [doP_zero h0]; exact hp.below hb
    · rw [doMm_zero h0]; exact hm.below hb
  obtain ⟨N, hN⟩ : ∃ N : Nat, x.n = (N : Int) := ⟨x.n.toNat, by omega⟩
  by_cases h12 : x.d = 1 ∨ x.d = 2
  · have hv := mv_ok (c := ⟨pad, mem, none, 0, 0, none, 0, 0⟩) (B := ⟨P, M, gp, op, gm, om⟩) ⟨hpn, hmn⟩ (by simp only; omega) (by simp only; omega) hx h12
    have v1 := hv.a (by omega)
    have v2 := hv.m
    have v3 := hv.sb
    have v4 := hv.sc
    simp only at v1 v2
    obtain ⟨d, a, b, c9, n, v⟩ := x
    simp only at *
    subst hN
    obtain ⟨a, rfl⟩ : ∃ k : Nat, a = (k : Int) := ⟨a.toNat, by omega⟩
    unfold In.w
    simp only
    rcases h12 with rfl | rfl
    · exact rdo13_1 a N b c9 v P M gp op gm om p q W hp hm hne hP9 (by omega) (by omega) (fun k hk => by have := v2 k (by omega); omega) v3 v4 hM9
    · exact rdo13_2 a N b c9 v P M gp op gm om p q W hp hm hne hP9 (by omega) (by omega) (fun k hk => by have := v2 k (by omega); omega) v3 v4 hM9
  · have he : e = false := by
      cases e with
      | false => rfl
      | true =>
        unfold hasV at hh
        rw [if_neg h12] at hh
        simp at hh
        omega
    subst he
    have ho := mk_ok hx hd
    obtain ⟨⟨a0, a1, a2⟩, b0, c0⟩ := ho.in (by omega)
    have hdd := ho.d
    obtain ⟨d, a, b, c9, n, v⟩ := x
    simp only at a0 a1 a2 b0 c0 hdd hn hN h0 ⊢
    subst hN
    obtain ⟨a, rfl⟩ : ∃ k : Nat, a = (k : Int) := ⟨a.toNat, by omega⟩
    unfold In.w
    simp only
    by_cases h5 : d = 5
    · subst h5
      have := a2 (by omega)
      exact rdo13_5 a N b c9 v P M gp op gm om p q W hp hm hne hP9 (by omega) (by omega)
    obtain ⟨b1, b2⟩ := b0 h5
    obtain ⟨b, rfl⟩ : ∃ k : Nat, b = (k : Int) := ⟨b.toNat, by omega⟩
    by_cases h14 : d = 14
    · subst h14
      have := a2 (by omega)
      exact rdo13_14 a b N c9 v P M gp op gm om p q W hp hm hne hP9 (by omega) (by omega) (by omega)
    obtain ⟨c1, c2⟩ := c0 h5 h14
    obtain ⟨c9, rfl⟩ : ∃ k : Nat, c9 = (k : Int) := ⟨c9.toNat, by omega⟩
    by_cases h13 : d = 13
    · subst h13
      exact rdo13_13 a b c9 N v P M gp op gm om p q W hp hm hne hP9 (by omega) (by omega) (by omega) (by omega)
    have a3 := a2 h13
    have : d = 6 ∨ d = 7 ∨ d = 8 ∨ d = 9 ∨ d = 10 ∨ d = 11 ∨ d = 12 := by omega
    rcases this with rfl | rfl | rfl | rfl | rfl | rfl | rfl
    · exact rdo13_6 a b c9 N v P M gp op gm om p q W hp hm hne hP9 (by omega) (by omega) (by omega) (by omega)
    · exact rdo13_7 a b c9 N v P M gp op gm om p q W hp hm hne hP9 (by omega) (by omega) (by omega) (by omega)
    · exact rdo13_8 a b c9 N v P M gp op gm om p q W hp hm hne hP9 (by omega) (by omega) (by omega) (by omega)
    · exact rdo13_9 a b c9 N v P M gp op gm om p q W hp hm hne hP9 (by omega) (by omega) (by omega) (by omega)
    · exact rdo13_10 a b c9 N v P M gp op gm om p q W hp hm hne hP9 (by omega) (by omega) (by omega) (by omega)
    · exact rdo13_11 a b c9 N v P M gp op gm om p q W hp hm hne hP9 (by omega) (by omega) (by omega) (by omega)
    · exact rdo13_12 a b c9 N v P M gp op gm om p q W hp hm hne hP9 (by omega) (by omega) (by omega) (by omega)
end Go.Proofs.YtoabffmiedbkkaaGreat.V
