/-
  The walk of TextTokens.
-/
import Derived.Test.YtpojakadbfdmmaaDoorTxSame
import Derived.Test.YtpojakadbfdmmaaDoorTxRef2
namespace Go.Proofs.YtpojakadbfdmmaaDoor.V
set_option maxRecDepth 20000
open Go.RowKit

theorem scanN_len (xs : List Int) : ∀ (n k : Nat) (ts : List (List Int × Nat)), xs.length - k ≤ n → ts.length ≤ k → k ≤ xs.length → (scanN xs k ts).2.length ≤ xs.length := by
  intro n
  induction n with
  | zero =>
    intro k ts h1 h2 h3
    rw [scanN_end (by omega)]
    exact Nat.le_trans h2 h3
  | succ n ih =>
    intro k ts h1 h2 h3
    by_cases hk : k < xs.length
    · have he := pieceR_end hk
      by_cases h0 : (pieceR xs k).1 = 0
      · cases hb : (pieceR xs k).2.2 with
        | true =>
          rw [scanN_tok hk h0 hb]
          exact ih _ _ (by omega) (by rw [List.length_append]; show ts.length + 1 ≤ _; omega) he.2
        | false =>
          rw [scanN_none hk h0 hb]
          exact ih _ _ (by omega) (by omega) he.2
      · rw [scanN_bad hk h0]
        exact Nat.le_trans h2 h3
    · rw [scanN_end hk]
      exact Nat.le_trans h2 h3
theorem tokO_len (s : ByteArray) : (tokO s).2.length ≤ 65536 := by
  unfold tokO
  by_cases h1 : 65536 < s.size
  · rw [if_pos h1]; exact Nat.zero_le _
  · rw [if_neg h1]
    by_cases h2 : (scanN (xsOf s) 0 []).1.1 = 0
    · rw [if_pos h2]
      have := scanN_len (xsOf s) _ 0 [] (Nat.le_refl _) (Nat.le_refl _) (Nat.zero_le _)
      rw [xsOf_length] at this
      show (scanN (xsOf s) 0 []).2.length ≤ 65536
      omega
    · rw [if_neg h2]; exact Nat.zero_le _

set_option maxRecDepth 100000 in
set_option maxHeartbeats 4000000 in
theorem textTokens_of (s : ByteArray) (w : World) (hmax : s.size ≤ 9223372036854775807) (hE : ErrAt w) (h2 : 2 < w.heap.size) (hr : ∀ W, Calls Tryd.prog 5 #[.string s] W (TokP s W)) :
    Calls Tryd.prog 3 #[.string s] w fun e w' => e = .returned (.bool true) ∧ Below w.heap.size w w' := by
  have HT := hide (Tokens_any s w hmax hE h2)
  have HR := hide hr
  have HN := hide (tokO_len s)
  unfold TokP at HT HR
  obtain ⟨O, hO⟩ : ∃ O, O = tokO s := ⟨_, rfl⟩
  rw [← hO] at HT HN HR
  clear hO hr hE h2
  obtain ⟨⟨T, K⟩, ts⟩ := O
  simp only at HT HN HR
  go_enter Tryd.func3, Tryd.ntmps3
  go_wp2_with (first
    | (go_at_call 4; refine HT.out.mono ?_; rintro e w1 ⟨A, c, rfl, hA, hB⟩; have HA := hide hA; have HB := hide hB; clear hA hB)
    | (go_at_call 5; refine (HR.out _).mono ?_; rintro e w2 ⟨A', c', rfl, hA, hB⟩; have HA' := hide hA; have HB' := hide hB; clear hA hB)
    | (go_at_call 6
       have HAA : Hid (TokAt (w2.alloc (.cells #[.int .i64 T, .int .i64 (K : Int)] 25)) w.heap.size A ts) := ((HA.out.below ((Below.refl _ _).alloc (Nat.le_refl _) _)).below HB'.out).below ((Below.refl _ _).alloc (Nat.le_refl _) _)
       have HAB := hide (HA'.out.below ((Below.refl _ w2).alloc (Nat.le_refl _) (.cells #[.int .i64 T, .int .i64 (K : Int)] 25)))
       have HF1 := hide (((TwoAt.new 25 w1 (.int .i64 T) (.int .i64 (K : Int))).below HB'.out).alloc (.cells #[.int .i64 T, .int .i64 (K : Int)] 25))
       have HF2 := hide (TwoAt.new 25 w2 (.int .i64 T) (.int .i64 (K : Int)))
       have HBB := hide (((HB.out.alloc HB.out.size (.cells #[.int .i64 T, .int .i64 (K : Int)] 25)).trans (HB'.out.mono (by have := HB.out.size; simp; omega))).alloc (by have := HB.out.size; have := HB'.out.size; simp at *; omega) (.cells #[.int .i64 T, .int .i64 (K : Int)] 25))
       refine (same_tokens A A' c c' _ _ ts _ HAA.out HAB.out HN.out).mono ?_
       rintro e w4 ⟨rfl, hb4⟩
       obtain ⟨⟨r0, r1⟩, _⟩ := (HF1.out.below hb4).cells
       obtain ⟨⟨s0, s1⟩, _⟩ := (HF2.out.below hb4).cells
       have HB4 := hide (HBB.out.trans (hb4.mono HBB.out.size))
       clear hb4))
  go_ret
  exact ⟨rfl, HB4.out⟩

theorem rTokens_any (s : ByteArray) (w : World) (hmax : s.size ≤ 9223372036854775807) : Calls Tryd.prog 5 #[.string s] w (TokP s w) := by
  by_cases hs : 65536 < s.size
  · exact rTokens_much s w hs hmax
  · exact rTokens_some s w (by omega)

theorem textTokens_walk (s : ByteArray) (w : World) (hmax : s.size ≤ 9223372036854775807) (hE : ErrAt w) (h2 : 2 < w.heap.size) :
    Calls Tryd.prog 3 #[.string s] w fun e w' => e = .returned (.bool true) ∧ Below w.heap.size w w' :=
  textTokens_of s w hmax hE h2 (fun W => rTokens_any s W hmax)
end Go.Proofs.YtpojakadbfdmmaaDoor.V
