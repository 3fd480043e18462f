/-
  Contract: adjointref3.Tokens.
-/
import Derived.Test.YtpojakadbfdmmaaDoorTxTok2
namespace Go.Proofs.YtpojakadbfdmmaaDoor.V
set_option maxRecDepth 20000
open Go.RowKit

theorem extract_xs (s : ByteArray) (i k : Nat) : xsOf (s.extract i k) = part (xsOf s) i k := by
  unfold xsOf part
  rw [ByteArray.data_extract, Array.toList_extract, List.extract_eq_take_drop, List.map_take, List.map_drop]
theorem extract_part (s : ByteArray) (i k : Nat) : s.extract i k = strOfNums (part (xsOf s) i k) := by
  have h := extract_xs s i k
  rw [← h]
  unfold strOfNums xsOf
  rw [List.map_map]
  have e : ((fun n : Int => UInt8.ofNat n.toNat) ∘ fun b : UInt8 => (b.toNat : Int)) = id := by
    funext b
    simp
  rw [e, List.map_id]

/-- What both sides answer. -/
def tokO (s : ByteArray) : (Int × Nat) × List (List Int × Nat) :=
  if 65536 < s.size then ((5, 0), [])
  else if (scanN (xsOf s) 0 []).1.1 = 0 then ((0, 0), (scanN (xsOf s) 0 []).2)
  else ((scanN (xsOf s) 0 []).1, [])
def TokP (s : ByteArray) (w : World) (e : Ending) (w' : World) : Prop :=
  ∃ A c, e = .returned (.tuple #[.slice A (tokO s).2.length c, .agg #[.int .i64 (tokO s).1.1, .int .i64 ((tokO s).1.2 : Int)]]) ∧ TokAt w' w.heap.size A (tokO s).2 ∧ Below w.heap.size w w'

theorem TokAt.less {w : World} {B B' : Nat} {A : Option Addr} {ts : List (List Int × Nat)} (h : TokAt w B A ts) (hB : B' ≤ B) : TokAt w B' A ts := by
  rcases h with h | ⟨g, rfl, h1, h2⟩
  · exact .inl h
  · exact .inr ⟨g, rfl, by omega, h2⟩

/-- The program's side. -/
theorem Tokens_any (s : ByteArray) (w : World) (hmax : s.size ≤ 9223372036854775807) (hE : ErrAt w) (h2 : 2 < w.heap.size) : Calls Tryd.prog 4 #[.string s] w (TokP s w) := by
  unfold TokP tokO
  by_cases hs : 65536 < s.size
  · simp only [if_pos hs]
    refine (Tokens_bad s w 5 0 (fun w0 _ => (scan_much s w0 hs hmax).mono ?_)).mono ?_
    · rintro e w' ⟨hB, h⟩
      rw [if_pos hs] at h
      exact ⟨h, hB⟩
    · rintro e w' ⟨A, c, rfl, hB⟩
      exact ⟨A, c, rfl, .inl rfl, hB⟩
  · simp only [if_neg hs]
    by_cases h0 : (scanN (xsOf s) 0 []).1.1 = 0
    · simp only [if_pos h0]
      refine (Tokens_ok s w (by omega) hE h2 h0).mono ?_
      rintro e w' ⟨A, c, rfl, _, hT, hB⟩
      exact ⟨A, c, rfl, hT.less (by omega), hB⟩
    · simp only [if_neg h0]
      refine (Tokens_bad s w (scanN (xsOf s) 0 []).1.1 (scanN (xsOf s) 0 []).1.2 (fun w0 hb0 => (scan_some s w0 (by omega) (hE.below hb0 h2) (by have := hb0.size; omega)).mono ?_)).mono ?_
      · rintro e w' ⟨hB, h⟩
        rw [if_neg hs, if_neg h0] at h
        exact ⟨h, hB⟩
      · rintro e w' ⟨A, c, rfl, hB⟩
        exact ⟨A, c, rfl, .inl rfl, hB⟩

theorem wrong_num {xs : List Int} (h0 : xs.length ≠ 0) : wrongI xs = if numeralB xs = true then (if valB xs = true then 0 else 4) else 7 := by
  unfold wrongI numeralB valB
  by_cases ha : xs.all digitI = true
  · rw [if_pos ha, ha, Bool.true_and]
    by_cases h1 : xs[0]?.getD 0 = 48 ∧ 1 < xs.length
    · have e1 : (xs.length == 1) = false := by rw [beq_eq_false_iff_ne]; omega
      have e2 : (xs[0]?.getD 0 != 48) = false := by rw [h1.1]; rfl
      rw [if_pos h1, e1, e2]
      rfl
    · have e1 : (xs.length == 1 || xs[0]?.getD 0 != 48) = true := by
        by_cases h2 : xs.length = 1
        · rw [h2]; rfl
        · have : ¬ xs[0]?.getD 0 = 48 := fun h => h1 ⟨h, by omega⟩
          rw [Bool.or_eq_true]
          exact .inr (by simpa using this)
      rw [if_neg h1, e1, if_pos rfl]
      by_cases h2 : numVal xs ≤ 9223372036854775807
      · rw [if_pos h2, decide_eq_true h2, if_pos rfl]
      · rw [if_neg h2, decide_eq_false h2, if_neg Bool.false_ne_true]
  · rw [if_neg ha, Bool.eq_false_iff.2 ha, Bool.false_and, if_neg Bool.false_ne_true]

set_option maxRecDepth 100000 in
set_option maxHeartbeats 2000000 in
theorem rTokens_much (s : ByteArray) (w : World) (hs : 65536 < s.size) (hmax : s.size ≤ 9223372036854775807) : Calls Tryd.prog 5 #[.string s] w (TokP s w) := by
  have HP : Hid (∀ e w' A c, e = .returned (.tuple #[.slice A 0 c, .agg #[.int .i64 5, .int .i64 0]]) → Below w.heap.size w w' → TokP s w e w') := by
    intro e w' A c he hB
    unfold TokP tokO
    rw [if_pos hs]
    exact ⟨A, c, he, .inl rfl, hB⟩
  have HA := hide (TwoAt.new 25 w (.int .i64 0) (.int .i64 0))
  obtain ⟨⟨r0, r1⟩, fr0, fr1⟩ := HA.out.cells
  go_enter Tryd.func5, Tryd.ntmps5
  go_wp2
  obtain ⟨⟨u0, u1⟩, _⟩ := (TwoAt.new 25 w (.int .i64 5) (.int .i64 0)).cells
  exact bodyPost_ret (v := .tuple #[.slice none 0 0, .agg #[.int .i64 5, .int .i64 0]]) (by simp [results, Tryd.results5, go_sem, u0, u1]) rfl (HP.out _ _ none 0 rfl ((Below.refl _ _).alloc (Nat.le_refl _) _))

/-- What a round of the document's loop finds. -/
def RelR (s : ByteArray) (w wr : World) (v i : Value) : Prop :=
  ∃ (k : Nat) (ts : List (List Int × Nat)), i = .int .i64 k ∧ k ≤ s.size ∧ ts.length ≤ k ∧ scanN (xsOf s) 0 [] = scanN (xsOf s) k ts ∧ wr.ownsRow (w.heap.size + 1) 36 2 v ts.length (tokRow ts) ∧ TwoAt 25 wr w.heap.size (.int .i64 0) (.int .i64 0) ∧ Below w.heap.size w wr

theorem rel_next {s : ByteArray} {w wr : World} {v : Value} {k E : Nat} {ts : List (List Int × Nat)} (hk : k < s.size) (htl : ts.length ≤ k) (hsc : scanN (xsOf s) 0 [] = scanN (xsOf s) k ts) (ho : wr.ownsRow (w.heap.size + 1) 36 2 v ts.length (tokRow ts)) (ha : TwoAt 25 wr w.heap.size (.int .i64 0) (.int .i64 0)) (hB : Below w.heap.size w wr)
    (h0 : (pieceR (xsOf s) k).1 = 0) (h1 : (pieceR (xsOf s) k).2.2 = false) (hE : (pieceR (xsOf s) k).2.1 = E) : RelR s w wr v (.int .i64 (E : Int)) := by
  have hx : k < (xsOf s).length := by rw [xsOf_length]; exact hk
  have he := pieceR_end hx
  rw [hE, xsOf_length] at he
  have hn := scanN_none hx h0 h1 ts
  rw [hE] at hn
  exact ⟨E, ts, rfl, he.2, by omega, hsc.trans hn, ho, ha, hB⟩

theorem rel_tok {s : ByteArray} {w wr w1 : World} {v v' : Value} {k E : Nat} {ts : List (List Int × Nat)} {o : Obj} (hk : k < s.size) (htl : ts.length ≤ k) (hsc : scanN (xsOf s) 0 [] = scanN (xsOf s) k ts) (ho : wr.ownsRow (w.heap.size + 1) 36 2 v ts.length (tokRow ts)) (ha : TwoAt 25 wr w.heap.size (.int .i64 0) (.int .i64 0)) (hB : Below w.heap.size w wr)
    (h0 : (pieceR (xsOf s) k).1 = 0) (h1 : (pieceR (xsOf s) k).2.2 = true) (hE : (pieceR (xsOf s) k).2.1 = E) (ho' : w1.ownsRow (w.heap.size + 1) 36 2 v' (ts.length + 1) (tokRow ts ++ [.string (s.extract k E), .int .i64 (k : Int)])) (hg : (wr.alloc o).grownBy w1 v.ownBlock) : RelR s w w1 v' (.int .i64 (E : Int)) := by
  have hx : k < (xsOf s).length := by rw [xsOf_length]; exact hk
  have he := pieceR_end hx
  rw [hE, xsOf_length] at he
  have hn := scanN_tok hx h0 h1 ts
  rw [hE] at hn
  have hz := ha.lt
  refine ⟨E, ts ++ [(part (xsOf s) k E, k)], rfl, he.2, ?_, hsc.trans hn, ?_, ?_, ?_⟩
  · rw [List.length_append]; show ts.length + 1 ≤ E; omega
  · rw [tokRow_snoc, List.length_append, ← extract_part]; exact ho'
  · exact (ha.alloc o).grown hg (fun e => by have := (ho.lt _ e.symm).1; omega)
  · exact (hB.alloc hB.size o).grown hg (by have := hB.size; simp; omega) (fun i e => by have := (ho.lt i e).1; omega)

/-- The end of the document's loop, where an error is told. -/
theorem rel_bad {s : ByteArray} {w : World} {k : Nat} {ts : List (List Int × Nat)} (hs : s.size ≤ 65536) (hk : k < s.size) (hsc : scanN (xsOf s) 0 [] = scanN (xsOf s) k ts) {T : Int} (hT : (pieceR (xsOf s) k).1 = T) (h0 : T ≠ 0) {e : Ending} {w' : World} (he : e = .returned (.tuple #[.slice none 0 0, .agg #[.int .i64 T, .int .i64 (k : Int)]])) (hB : Below w.heap.size w w') : TokP s w e w' := by
  have hx : k < (xsOf s).length := by rw [xsOf_length]; exact hk
  have hb := hsc.trans (scanN_bad hx (by rw [hT]; exact h0) ts)
  unfold TokP tokO
  rw [if_neg (by omega), hb, if_neg (by rw [hT]; exact h0), hT]
  exact ⟨none, 0, he, .inl rfl, hB⟩
theorem rel_end {s : ByteArray} {w wr : World} {v : Value} {k : Nat} {ts : List (List Int × Nat)} (hs : s.size ≤ 65536) (hk : ¬ k < s.size) (hsc : scanN (xsOf s) 0 [] = scanN (xsOf s) k ts) (ho : wr.ownsRow (w.heap.size + 1) 36 2 v ts.length (tokRow ts)) (hB : Below w.heap.size w wr) {e : Ending} {w' : World} (he : e = .returned (.tuple #[v, .agg #[.int .i64 0, .int .i64 0]])) (hg : wr.grownBy w' (some w.heap.size)) : TokP s w e w' := by
  have hb := hsc.trans (scanN_end (by rw [xsOf_length]; exact hk) ts)
  unfold TokP tokO
  rw [if_neg (by omega), hb, if_pos rfl]
  obtain ⟨A, c, rfl, _, hT⟩ := own_tok ho
  exact ⟨A, c, he, (hT.grown hg (by omega)).less (by omega), hB.trans (hg.under (Nat.le_refl _) hB.size)⟩
end Go.Proofs.YtpojakadbfdmmaaDoor.V
