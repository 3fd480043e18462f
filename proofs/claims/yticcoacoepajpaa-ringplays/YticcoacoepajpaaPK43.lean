/-
  RingPlays: the law.
-/
import Derived.Test.YticcoacoepajpaaPK38
import Derived.Test.YticcoacoepajpaaPK42
import Derived.Test.YticcoacoepajpaaPK26
namespace Go.Proofs.Yticcoacoepajpaa.V
open Go Go.RowKit
set_option linter.unusedVariables false
set_option linter.unusedSimpArgs false

theorem ScA.up {W : World} {N M b off : Nat} {ps : List Stp} (h : ScA W N b off ps) (hM : N ≤ M) : ScA W M b off ps := fun k p hk => by
  obtain ⟨X, m, c, h0, h1, h2, h3, h4, h5, h6, h7, h8, h9, h10⟩ := h k p hk
  exact ⟨X, m, c, h0, h1, h2, h3, h4, h5, h6, h7, h8, h9, fun b' o e hm => Nat.lt_of_lt_of_le (h10 b' o e hm) hM⟩
def plL (d : Int) (xss : List (List Int)) (sc : List Stp) : List Sn := if teamE d xss = 0 then (playM d.toNat xss.length (begP d.toNat xss.length xss) sc).2 else []
theorem PlayAns.both {W : World} {d : Int} {xss : List (List Int)} {sc : List Stp} {e : Ending} {w' : World} (h : PlayAns W d xss sc e w') : (∃ a c, e = .returned (.tuple #[.slice a (plL d xss sc).length c, .int .i64 (teamE d xss)]) ∧ SeA w' a (plL d xss sc).length (plL d xss sc)) ∧ Below W.heap.size W w' := by
  obtain ⟨h1, h2, h3⟩ := h
  refine ⟨?_, h3⟩
  unfold plL
  by_cases ht : teamE d xss = 0
  · rw [if_pos ht]
    obtain ⟨a, len, c, e1, e2⟩ := h2 ht
    have hl := e2.1
    subst hl
    exact ⟨a, c, by rw [e1, ht], e2⟩
  · rw [if_neg ht]
    exact ⟨none, 0, by rw [h1 ht]; rfl, rfl, Nat.zero_le _, .inl rfl⟩
set_option maxHeartbeats 4000000 in
theorem ringPlays_walk (d : Int) (da : Option Addr) (dcap : Nat) (xss : List (List Int)) (sa : Option Addr) (scap : Nat) (sc : List Stp) (many me : Int) (ya : Option Addr) (yn yc : Nat) (xs : List Int) (W : World) (hd : LsA W da xss.length xss) (hn : xss.length ≤ 140737488355328) (hs : sc = [] ∨ ∃ sb soff, sa = some ⟨sb, soff, none⟩ ∧ ScA W W.heap.size sb soff sc) (hsz : sc.length * 72 ≤ 140737488355328) (hy : Ints W ya yn xs) :
    Calls Try.prog 3 #[.int .i64 d, .slice da xss.length dcap, .slice sa sc.length scap, .int .i64 many, .int .i64 me, .slice ya yn yc] W fun e w' => e = .returned (.bool true) ∧ Below W.heap.size W w' := by
  have HT := hide ((team_all d da dcap xss sa scap sc W hd hn hs hsz).mono fun e w' h => h.both)
  have HP : Hid (∀ w1, Below W.heap.size W w1 → _) := fun w1 (hb : Below W.heap.size W w1) => (rPlay_any d da dcap xss sa scap sc w1 (hd.below hb) (hs.imp id fun ⟨sb, soff, e, h⟩ => ⟨sb, soff, e, (h.below hb).up hb.size⟩) hsz).mono fun e w' h => h.both
  have HY := hide hy
  have hyl : xs.length = yn := hy.1
  obtain ⟨E, hE⟩ : ∃ E, E = teamE d xss := ⟨_, rfl⟩
  obtain ⟨L, hL⟩ : ∃ L, L = plL d xss sc := ⟨_, rfl⟩
  rw [← hE, ← hL] at HT HP
  obtain ⟨n, hnn⟩ : ∃ n, n = xss.length := ⟨_, rfl⟩
  obtain ⟨m, hmm⟩ : ∃ m, m = sc.length := ⟨_, rfl⟩
  rw [← hnn, ← hmm] at HT HP ⊢
  obtain ⟨l, hll⟩ : ∃ l, l = L.length := ⟨_, rfl⟩
  rw [← hll] at HT HP
  have HM := hide (fun (w : World) (hb : Below W.heap.size W w) => member_any d many me ⟨ya, yn, yc⟩ xs w (hy.below hb))
  have HR := hide (fun w => rWrong_any d many me yn w)
  obtain ⟨R, hR⟩ : ∃ R, R = wrongM d many me yn := ⟨_, rfl⟩
  rw [hyl, ← hR] at HM
  rw [← hR] at HR
  clear hd hn hs hsz hy hyl hE hL hnn hmm hll hR
  go_enter Try.func3, Try.ntmps3
  go_wp2_with (first
    | (go_at_call 6; refine HT.out.mono ?_; rintro e w1 ⟨⟨a1, c1, rfl, hs1⟩, hb1⟩; have HS1 := hide hs1; have HB1 := hide hb1; clear hs1 hb1)
    | (go_at_call 7; refine (HP.out w1 HB1.out).mono ?_; rintro e w2 ⟨⟨a2, c2, rfl, hs2⟩, hb2⟩; have HS2 := hide hs2; have HB2 := hide hb2; clear hs2 hb2)
    | (go_at_call 8; refine (sameSeen_eq a1 c1 a2 c2 l L w2 (HS1.out.below HB2.out) HS2.out).mono ?_; rintro e w3 ⟨rfl, hb3⟩; have HB3 := hide (bl_on (bl_on HB1.out HB2.out) hb3); clear hb3)
    | (go_at_call 9; refine (HM.out w3 HB3.out).mono ?_; rintro e w4 ⟨rfl, hb4⟩; have HB4 := hide (bl_on HB3.out hb4); clear hb4)
    | (go_at_call 10; refine (HR.out _).mono ?_; rintro e w5 ⟨rfl, h5⟩; obtain rfl := h5.symm))
  go_ret
  exact ⟨by simp, HB4.out⟩
end Go.Proofs.Yticcoacoepajpaa.V
