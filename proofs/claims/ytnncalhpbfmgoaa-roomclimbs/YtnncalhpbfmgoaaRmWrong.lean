/-
  Lives in memory. Contracts: room.Wrong, adjointref12.Wrong.
-/
import Derived.Test.YtnncalhpbfmgoaaRmLoadM
import Derived.Test.YtnncalhpbfmgoaaOwn
import Derived.Test.YtnncalhpbfmgoaaSame
namespace Go.Proofs.Ytnncalhpbfmgoaa.V
open Go.RowKit
set_option linter.unusedVariables false

/-- A list of lives. -/
def Lives (w : World) (a : Option Addr) (len : Nat) (ls : List Lf) : Prop :=
  ls.length = len ∧ len ≤ 9223372036854775807 ∧ (len = 0 ∨ ∃ b off, a = some ⟨b, off, none⟩ ∧ ∀ j, j < len → w.cell? ⟨b, off + j * 3, none⟩ = some (.int .i64 (ls[j]?.getD lfD).fr) ∧ w.cell? ⟨b, off + j * 3 + 1, none⟩ = some (.int .i64 (ls[j]?.getD lfD).to) ∧ w.cell? ⟨b, off + j * 3 + 2, none⟩ = some (.int .i64 (ls[j]?.getD lfD).wd))
theorem Lives.below {w w' : World} {a : Option Addr} {len : Nat} {ls : List Lf} (h : Lives w a len ls) (hb : Below w.heap.size w w') : Lives w' a len ls := by
  obtain ⟨h1, h2, h3⟩ := h
  refine ⟨h1, h2, ?_⟩
  rcases h3 with h3 | ⟨b, off, e, h3⟩
  · exact .inl h3
  · exact .inr ⟨b, off, e, fun j hj => ⟨(hb.cell (p := ⟨b, off + j * 3, none⟩) (lt_of_cell (h3 j hj).1)).trans (h3 j hj).1, (hb.cell (p := ⟨b, off + j * 3 + 1, none⟩) (lt_of_cell (h3 j hj).2.1)).trans (h3 j hj).2.1, (hb.cell (p := ⟨b, off + j * 3 + 2, none⟩) (lt_of_cell (h3 j hj).2.2)).trans (h3 j hj).2.2⟩⟩
theorem Lives.at {w : World} {a : Option Addr} {len : Nat} {ls : List Lf} (h : Lives w a len ls) {k : Nat} (hk : k < len) : ∃ b off, a = some ⟨b, off, none⟩ ∧ w.cell? ⟨b, off + k * 3, none⟩ = some (.int .i64 (ls[k]?.getD lfD).fr) ∧ w.cell? ⟨b, off + k * 3 + 1, none⟩ = some (.int .i64 (ls[k]?.getD lfD).to) ∧ w.cell? ⟨b, off + k * 3 + 2, none⟩ = some (.int .i64 (ls[k]?.getD lfD).wd) := by
  rcases h.2.2 with h3 | ⟨b, off, e, h3⟩
  · omega
  · exact ⟨b, off, e, h3 k hk⟩
theorem Lives.nil (w : World) : Lives w none 0 [] := ⟨rfl, by omega, .inl rfl⟩
theorem mem_getLf (ls : List Lf) (k : Nat) (h : k < ls.length) : ls[k]?.getD lfD ∈ ls := by simp [h]
theorem take_succLf (ls : List Lf) (k : Nat) (h : k < ls.length) : ls.take (k + 1) = ls.take k ++ [ls[k]?.getD lfD] := by
  rw [List.take_succ_eq_append_getElem h]; simp [h]
theorem not_any_succLf {p : Lf → Bool} (ls : List Lf) (k : Nat) (h : k < ls.length) (hn : (ls.take k).any p = false) (hk : p (ls[k]?.getD lfD) = false) : (ls.take (k + 1)).any p = false := by
  rw [take_succLf ls k h, List.any_append, hn]; simp [hk]
theorem any_of_getLf {p : Lf → Bool} (ls : List Lf) (k : Nat) (h : k < ls.length) (hk : p (ls[k]?.getD lfD) = true) : ls.any p = true := by
  rw [List.any_eq_true]; exact ⟨_, mem_getLf ls k h, hk⟩
theorem wordsFit_any (n : Int) (w : World) : Calls Try.prog 24 #[.int .i64 n] w fun e w' => e = .returned (.bool (!(decide (n < 0) || decide (1048576 < n)))) ∧ w' = w := by
  go_enter Try.func24, Try.ntmps24
  by_cases h1 : 0 ≤ n
  · by_cases h2 : n ≤ 1048576
    · have e1 : decide (n ≥ 0) = true := decide_eq_true h1
      have e2 : decide (n ≤ 1048576) = true := decide_eq_true h2
      go_wp2
      go_ret
      exact ⟨by simp <;> omega, rfl⟩
    · have e1 : decide (n ≥ 0) = true := decide_eq_true h1
      have e2 : decide (n ≤ 1048576) = false := decide_eq_false h2
      go_wp2
      go_ret
      exact ⟨by simp <;> omega, rfl⟩
  · have e1 : decide (n ≥ 0) = false := decide_eq_false h1
    go_wp2
    go_ret
    exact ⟨by simp <;> omega, rfl⟩
theorem bad1_any (x : Lf) (w : World) : Calls Try.prog 23 #[.agg #[.int .i64 x.fr, .int .i64 x.to, .int .i64 x.wd]] w fun e w' => e = .returned (.bool (badL x)) ∧ Below w.heap.size w w' := by
  have HB := hide (bl_new (w := w) (.cells #[.int .i64 x.fr, .int .i64 x.to, .int .i64 x.wd] 37))
  unfold badL
  obtain ⟨b1, hb1⟩ : ∃ b, decide (x.fr < 0) = b := ⟨_, rfl⟩
  obtain ⟨b2, hb2⟩ : ∃ b, decide (x.to < x.fr) = b := ⟨_, rfl⟩
  obtain ⟨b3, hb3⟩ : ∃ b, decide (x.to > 1048576) = b := ⟨_, rfl⟩
  obtain ⟨b4, hb4⟩ : ∃ b, (decide (x.wd < 0) || decide (1048576 < x.wd)) = b := ⟨_, rfl⟩
  have hb3' : decide (1048576 < x.to) = b3 := hb3
  rw [hb1, hb2, hb3', hb4]
  have H4 := hide hb4
  clear hb4
  go_enter Try.func23, Try.ntmps23
  cases b1
  · cases b2
    · cases b3
      · go_wp2_with (go_at_call 24; refine (wordsFit_any _ _).mono ?_; rintro e w' ⟨rfl, rfl⟩; rw [H4.out])
        go_ret
        exact ⟨by simp, HB.out⟩
      · go_wp2_with (go_at_call 24; refine (wordsFit_any _ _).mono ?_; rintro e w' ⟨rfl, rfl⟩; rw [H4.out])
        go_ret
        exact ⟨by simp, HB.out⟩
    · go_wp2_with (go_at_call 24; refine (wordsFit_any _ _).mono ?_; rintro e w' ⟨rfl, rfl⟩; rw [H4.out])
      go_ret
      exact ⟨by simp, HB.out⟩
  · go_wp2_with (go_at_call 24; refine (wordsFit_any _ _).mono ?_; rintro e w' ⟨rfl, rfl⟩; rw [H4.out])
    go_ret
    exact ⟨by simp, HB.out⟩
set_option maxHeartbeats 1000000 in
theorem indexLf_any (a : Option Addr) (len cap : Nat) (ls : List Lf) (w : World) (h : Lives w a len ls) :
    Calls Try.prog 40 #[.slice a len cap, .func (.func 23) #[] #[]] w fun e w' => (∃ r : Int, e = .returned (.int .i64 r) ∧ decide (0 ≤ r) = ls.any badL) ∧ Below w.heap.size w w' := by
  have HL := hide h.1
  have hm := h.2.1
  have H := hide h
  clear h
  go_enter Try.func40, Try.ntmps40
  go_wp2
  go_loopw [8] (fun i wr => ∃ k : Nat, k ≤ len ∧ i = .int .i64 k ∧ (ls.take k).any badL = false ∧ Below w.heap.size w wr) (fun i _ => len - (intOf i).toNat)
  case atStart => exact ⟨0, Nat.zero_le _, rfl, by simp, Below.refl _ _⟩
  case round =>
    obtain ⟨k, hk, rfl, hn, hB⟩ := hrel
    have HN := hide hn
    have HB := hide hB
    clear hn hB
    by_cases hlt : k < len
    · have hkl : k < ls.length := by rw [HL.out]; exact hlt
      obtain ⟨b, off, rfl, c1, c2, c3⟩ := (H.out.below HB.out).at hlt
      have z1 := lt_of_cell c1
      simp only at z1
      obtain ⟨q, hq⟩ : ∃ q, q = ls[k]?.getD lfD := ⟨_, rfl⟩
      rw [← hq] at c1 c2 c3
      have HQ := hide hq
      have HKL := hide hkl
      have HC := hide (bad1_any q wr)
      clear hq hkl
      cases hbq : badL q
      · go_wp2_with (go_at_call 23; refine HC.out.mono ?_; rintro e w2 ⟨rfl, hb⟩; rw [hbq]; have HB2 := hide (bl_on HB.out hb); clear hb)
        go_roundw
        case rel => exact ⟨k + 1, by omega, by go_num, not_any_succLf ls k HKL.out HN.out (by rw [← HQ.out]; exact hbq), HB2.out⟩
        case measure => simp [intOf]; omega
      · go_wp2_with (go_at_call 23; refine HC.out.mono ?_; rintro e w2 ⟨rfl, hb⟩; rw [hbq]; have HB2 := hide (bl_on HB.out hb); clear hb)
        go_ret
        refine ⟨⟨_, rfl, ?_⟩, HB2.out⟩
        rw [any_of_getLf ls k HKL.out (by rw [← HQ.out]; exact hbq)]; simp
    · go_wp2
      go_ret
      refine ⟨⟨_, rfl, ?_⟩, HB.out⟩
      have := HN.out
      rw [List.take_of_length_le (by rw [HL.out]; omega)] at this
      rw [this]; decide
theorem containsLf_any (a : Option Addr) (len cap : Nat) (ls : List Lf) (w : World) (h : Lives w a len ls) :
    Calls Try.prog 25 #[.slice a len cap, .func (.func 23) #[] #[]] w fun e w' => e = .returned (.bool (ls.any badL)) ∧ Below w.heap.size w w' := by
  have H := hide (indexLf_any a len cap ls w h)
  clear h
  go_enter Try.func25, Try.ntmps25
  go_wp2_with (go_at_call 40; refine H.out.mono ?_; rintro e w' ⟨⟨r, rfl, hr⟩, hb⟩; have HR := hide hr; have HB := hide hb; clear hr hb)
  go_ret
  exact ⟨by rw [← HR.out]; rfl, HB.out⟩
theorem rmWrong_any (a : Option Addr) (len cap : Nat) (ls : List Lf) (w : World) (h : Lives w a len ls) :
    Calls Try.prog 10 #[.slice a len cap] w fun e w' => e = .returned (.int .i64 (livesE ls)) ∧ Below w.heap.size w w' := by
  have H := hide (containsLf_any a len cap ls w h)
  have hl := h.1
  unfold livesE
  rw [hl]
  clear h hl
  go_enter Try.func10, Try.ntmps10
  by_cases h1 : 4096 < len
  · rw [if_pos h1]
    go_wp2
    go_ret
    exact ⟨rfl, Below.refl _ _⟩
  · rw [if_neg h1]
    cases hb : ls.any badL
    · go_wp2_with (go_at_call 25; refine H.out.mono ?_; rintro e w' ⟨rfl, hb'⟩; rw [hb]; have HB := hide hb'; clear hb')
      go_ret
      exact ⟨by simp, HB.out⟩
    · go_wp2_with (go_at_call 25; refine H.out.mono ?_; rintro e w' ⟨rfl, hb'⟩; rw [hb]; have HB := hide hb'; clear hb')
      go_ret
      exact ⟨by simp, HB.out⟩
end Go.Proofs.Ytnncalhpbfmgoaa.V
