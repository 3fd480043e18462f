/-
  Contract: text.Tokens.
-/
import Derived.Test.YtpojakadbfdmmaaDoorTxTok
namespace Go.Proofs.YtpojakadbfdmmaaDoor.V
set_option maxRecDepth 20000
open Go.RowKit

theorem _root_.Go.World.grownBy.under {a b : World} {g B : Nat} (h : a.grownBy b (some g)) (hB : B ≤ g) (hs : B ≤ a.heap.size) : Below B a b :=
  ⟨h.os, h.tape, h.output, h.size, fun k hk => h.block k (by omega) (by intro e; cases e; omega)⟩

set_option maxRecDepth 100000 in
set_option maxHeartbeats 4000000 in
theorem Tokens_of (s : ByteArray) (w : World) (T : Int) (k : Nat) (ts : List (List Int × Nat))
    (ht : ∀ w3, w3 = ((w.alloc (.cells #[.string s] 9)).alloc (.cells #[.slice none 0 0] 22)).alloc (.cells #[.int .i64 0, .int .i64 0] 25) →
      Calls Tryd.prog 7 #[.func (Fn.func 8) #[] #[.pointer (some ⟨w.heap.size, 0, none⟩), .pointer (some ⟨w.heap.size + 1, 0, none⟩)]] w3 fun e w' => e = .returned (.agg #[.int .i64 T, .int .i64 (k : Int)]) ∧ Below w.heap.size w w' ∧ TwoAt 25 w' (w.heap.size + 2) (.int .i64 0) (.int .i64 0) ∧ ∃ A c, OneAt 22 w' (w.heap.size + 1) (.slice A ts.length c) ∧ ts.length ≤ c ∧ TokAt w' (w.heap.size + 4) A ts) :
    Calls Tryd.prog 4 #[.string s] w fun e w' => ∃ A c, e = .returned (.tuple #[.slice A ts.length c, .agg #[.int .i64 T, .int .i64 (k : Int)]]) ∧ ts.length ≤ c ∧ TokAt w' (w.heap.size + 4) A ts ∧ Below w.heap.size w w' := by
  have hmf : ∀ (fn : Fn) (first cap : Array Value) (w : World), (Instr.makeFunc fn first cap).run Tryd.prog w = .ok (.func fn first cap) w := fun _ _ _ _ => rfl
  have HT := hide ht
  clear ht
  obtain ⟨n, hn⟩ : ∃ n, n = ts.length := ⟨_, rfl⟩
  rw [← hn] at HT ⊢
  clear hn
  go_enter Tryd.func4, Tryd.ntmps4
  go_wp2_with (go_at_call 7; refine (HT.out _ rfl).mono ?_; rintro e w1 ⟨rfl, hB, h2, A, c, h3, h4, h5⟩; have HB := hide hB; have H2 := hide h2; have H3 := hide h3; have H4 := hide h4; have H5 := hide h5; obtain ⟨⟨r0, r1⟩, fr0, fr1⟩ := h2.cells; obtain ⟨s0, sr0⟩ := h3.cells; clear hB h2 h3 h4 h5)
  have H6 := hide (H2.out.put (.int .i64 T) (.int .i64 (k : Int)))
  obtain ⟨⟨t0, t1⟩, tr0, tr1⟩ := H6.out.cells
  have H7 := hide ((H3.out.grown (TwoAt.out (b := w.heap.size + 2) (.int .i64 T) (.int .i64 (k : Int))) (by simp)))
  obtain ⟨q0, qr0⟩ := H7.out.cells
  have H8 := hide (H5.out.grown (TwoAt.out (b := w.heap.size + 2) (.int .i64 T) (.int .i64 (k : Int))) (by omega))
  have H9 := hide (HB.out.trans ((TwoAt.out (w := w1) (b := w.heap.size + 2) (.int .i64 T) (.int .i64 (k : Int))).under (B := w.heap.size) (by omega) HB.out.size))
  obtain ⟨w2, hw2⟩ : ∃ w2, w2 = (w1.setCell ⟨w.heap.size + 2, 0, none⟩ (.int .i64 T)).setCell ⟨w.heap.size + 2, 1, none⟩ (.int .i64 (k : Int)) := ⟨_, rfl⟩
  rw [← hw2] at H6 H7 H8 H9 t0 t1 tr0 tr1 q0 qr0 ⊢
  clear hw2 HB H2 H3 H5 r0 r1 fr0 fr1 s0 sr0
  go_region
  have J0 := H7.out.put (.slice A n c)
  have J1 := H6.out.grown (OneAt.out (w := w2) (b := w.heap.size + 1) (.slice A n c)) (by simp)
  have J2 := J1.put (.int .i64 T) (.int .i64 (k : Int))
  have J3 := J0.grown (TwoAt.out (b := w.heap.size + 2) (.int .i64 T) (.int .i64 (k : Int))) (by simp)
  have J4 := (H8.out.grown (OneAt.out (w := w2) (b := w.heap.size + 1) (.slice A n c)) (by omega)).grown (TwoAt.out (b := w.heap.size + 2) (.int .i64 T) (.int .i64 (k : Int))) (by omega)
  have J5 := (H9.out.trans ((OneAt.out (w := w2) (b := w.heap.size + 1) (.slice A n c)).under (B := w.heap.size) (by omega) H9.out.size))
  have J6 := (J5.trans ((TwoAt.out (b := w.heap.size + 2) (.int .i64 T) (.int .i64 (k : Int))).under (B := w.heap.size) (by omega) J5.size)).drew
  obtain ⟨w3, hw3⟩ : ∃ w3, w3 = ((w2.setCell ⟨w.heap.size + 1, 0, none⟩ (.slice A n c)).setCell ⟨w.heap.size + 2, 0, none⟩ (.int .i64 T)).setCell ⟨w.heap.size + 2, 1, none⟩ (.int .i64 (k : Int)) := ⟨_, rfl⟩
  rw [← hw3] at J2 J3 J4 J6
  have J4' : TokAt w3.drew (w.heap.size + 4) A ts := J4
  have u0 : w3.drew.cell? ⟨w.heap.size + 1, 0, none⟩ = some (.slice A n c) := J3.cells.1
  have u1 : w3.drew.cell? ⟨w.heap.size + 2, 0, none⟩ = some (.int .i64 T) := J2.cells.1.1
  have u2 : w3.drew.cell? ⟨w.heap.size + 2, 1, none⟩ = some (.int .i64 (k : Int)) := J2.cells.1.2
  have HJ4 := hide J4'
  have HJ6 := hide J6
  change Exit.then _ _ Exit.normal _ (((w2.setCell ⟨w.heap.size + 1, 0, none⟩ (.slice A n c)).setCell ⟨w.heap.size + 2, 0, none⟩ (.int .i64 T)).setCell ⟨w.heap.size + 2, 1, none⟩ (.int .i64 (k : Int))).drew
  rw [← hw3]
  clear J0 J1 J2 J3 J4 J5 J6 J4' hw3 H6 H7 H8 H9 t0 t1 tr0 tr1 q0 qr0
  go_wp2
  exact bodyPost_ret (v := .tuple #[.slice A n c, .agg #[.int .i64 T, .int .i64 (k : Int)]]) (by simp [results, Tryd.results4, go_sem, u0, u1, u2]) rfl ⟨A, c, rfl, H4.out, HJ4.out, HJ6.out⟩

theorem Tokens_ok (s : ByteArray) (w : World) (hs : s.size ≤ 65536) (hE : ErrAt w) (h2 : 2 < w.heap.size) (h0 : (scanN (xsOf s) 0 []).1.1 = 0) :
    Calls Tryd.prog 4 #[.string s] w fun e w' => ∃ A c, e = .returned (.tuple #[.slice A (scanN (xsOf s) 0 []).2.length c, .agg #[.int .i64 0, .int .i64 ((0 : Nat) : Int)]]) ∧ (scanN (xsOf s) 0 []).2.length ≤ c ∧ TokAt w' (w.heap.size + 4) A (scanN (xsOf s) 0 []).2 ∧ Below w.heap.size w w' := by
  refine Tokens_of s w 0 0 _ ?_
  rintro w3 rfl
  obtain ⟨w3, hw3⟩ : ∃ w3, w3 = ((w.alloc (.cells #[.string s] 9)).alloc (.cells #[.slice none 0 0] 22)).alloc (.cells #[.int .i64 0, .int .i64 0] 25) := ⟨_, rfl⟩
  have a1 : OneAt 9 w3 w.heap.size (.string s) := by rw [hw3]; exact ((OneAt.new _ _ _).alloc _).alloc _
  have a2 : OneAt 22 w3 (w.heap.size + 1) (.slice none 0 0) := by
    have := (OneAt.new 22 (w.alloc (.cells #[.string s] 9)) (.slice none 0 0)).alloc (.cells #[.int .i64 0, .int .i64 0] 25)
    rw [hw3]
    simpa using this
  have a3 : TwoAt 25 w3 (w.heap.size + 2) (.int .i64 0) (.int .i64 0) := by
    have := TwoAt.new 25 ((w.alloc (.cells #[.string s] 9)).alloc (.cells #[.slice none 0 0] 22)) (.int .i64 0) (.int .i64 0)
    rw [hw3]
    simpa using this
  have a4 : w3.heap.size = w.heap.size + 3 := by rw [hw3]; simp
  have a5 : Below w.heap.size w w3 := by rw [hw3]; exact (((Below.refl _ _).alloc (Nat.le_refl _) _).alloc (by simp) _).alloc (by simp; omega) _
  rw [← hw3]
  clear hw3
  refine (told_ok 8 _ w3 (enters Tryd.func8 (by kernel_rfl) (by kernel_rfl)) (fun w1 => Below w.heap.size w w1 ∧ TwoAt 25 w1 (w.heap.size + 2) (.int .i64 0) (.int .i64 0) ∧ ∃ A c, OneAt 22 w1 (w.heap.size + 1) (.slice A (scanN (xsOf s) 0 []).2.length c) ∧ (scanN (xsOf s) 0 []).2.length ≤ c ∧ TokAt w1 (w.heap.size + 4 + 1) A (scanN (xsOf s) 0 []).2) ?_).mono ?_
  · have b0 := TwoAt.new 25 w3 (.int .i64 0) (.int .i64 0)
    have b1 : (w3.alloc (.cells #[.int .i64 0, .int .i64 0] 25)).heap.size = w.heap.size + 4 := by simp [a4]
    have b2 := a5.alloc (o := .cells #[.int .i64 0, .int .i64 0] 25) (by omega)
    refine (work_ok s w.heap.size (w.heap.size + 1) _ (a1.alloc _) (a2.alloc _) hs (hE.below b2 h2) (by omega) h0).mono ?_
    rintro e w1 ⟨rfl, hg, A, c, h3, h4, h5⟩
    refine ⟨rfl, b0.grown hg (by simp; omega), b2.trans (hg.under (by omega) (by omega)), (a3.alloc _).grown hg (by simp), A, c, h3, h4, ?_⟩
    rw [b1] at h5
    exact h5
  · rintro e w' ⟨w1, rfl, ⟨hB, h3, A, c, h4, h5, h6⟩, hg⟩
    refine ⟨rfl, hB.trans (hg.under (by omega) (by have := hB.size; omega)), h3.grown hg (by simp; omega), A, c, h4.grown hg (by simp; omega), h5, ?_⟩
    have h7 := h6.grown hg (by omega)
    rcases h7 with h7 | ⟨g, e1, e2, e3⟩
    · exact .inl h7
    · exact .inr ⟨g, e1, by omega, e3⟩

theorem Tokens_bad (s : ByteArray) (w : World) (T : Int) (k : Nat) (hscan : ∀ w0, Below w.heap.size w w0 → Calls Tryd.prog 9 #[.string s] w0 fun e w' => e = thrown T k ∧ Below w0.heap.size w0 w') :
    Calls Tryd.prog 4 #[.string s] w fun e w' => ∃ A c, e = .returned (.tuple #[.slice A 0 c, .agg #[.int .i64 T, .int .i64 (k : Int)]]) ∧ Below w.heap.size w w' := by
  have H : Calls Tryd.prog 4 #[.string s] w fun e w' => ∃ A c, e = .returned (.tuple #[.slice A ([] : List (List Int × Nat)).length c, .agg #[.int .i64 T, .int .i64 (k : Int)]]) ∧ ([] : List (List Int × Nat)).length ≤ c ∧ TokAt w' (w.heap.size + 4) A [] ∧ Below w.heap.size w w' := by
    refine Tokens_of s w T k [] ?_
    rintro w3 rfl
    obtain ⟨w3, hw3⟩ : ∃ w3, w3 = ((w.alloc (.cells #[.string s] 9)).alloc (.cells #[.slice none 0 0] 22)).alloc (.cells #[.int .i64 0, .int .i64 0] 25) := ⟨_, rfl⟩
    have a1 : OneAt 9 w3 w.heap.size (.string s) := by rw [hw3]; exact ((OneAt.new _ _ _).alloc _).alloc _
    have a2 : OneAt 22 w3 (w.heap.size + 1) (.slice none 0 0) := by
      have := (OneAt.new 22 (w.alloc (.cells #[.string s] 9)) (.slice none 0 0)).alloc (.cells #[.int .i64 0, .int .i64 0] 25)
      rw [hw3]
      simpa using this
    have a3 : TwoAt 25 w3 (w.heap.size + 2) (.int .i64 0) (.int .i64 0) := by
      have := TwoAt.new 25 ((w.alloc (.cells #[.string s] 9)).alloc (.cells #[.slice none 0 0] 22)) (.int .i64 0) (.int .i64 0)
      rw [hw3]
      simpa using this
    have a4 : w3.heap.size = w.heap.size + 3 := by rw [hw3]; simp
    have a5 : Below w.heap.size w w3 := by rw [hw3]; exact (((Below.refl _ _).alloc (Nat.le_refl _) _).alloc (by simp) _).alloc (by simp; omega) _
    rw [← hw3]
    clear hw3
    refine (told_bad 8 _ w3 (enters Tryd.func8 (by kernel_rfl) (by kernel_rfl)) T k (fun w1 => Below w.heap.size w w1 ∧ TwoAt 25 w1 (w.heap.size + 2) (.int .i64 0) (.int .i64 0) ∧ OneAt 22 w1 (w.heap.size + 1) (.slice none 0 0)) ?_).mono ?_
    · have b0 := TwoAt.new 25 w3 (.int .i64 0) (.int .i64 0)
      have b2 := a5.alloc (o := .cells #[.int .i64 0, .int .i64 0] 25) (by omega)
      refine (work_bad s w.heap.size (w.heap.size + 1) _ T k (a1.alloc _) (hscan _ b2)).mono ?_
      rintro e w1 ⟨rfl, hg⟩
      exact ⟨rfl, b0.below hg, b2.trans (hg.mono b2.size), (a3.alloc _).below hg, (a2.alloc _).below hg⟩
    · rintro e w' ⟨w1, rfl, ⟨hB, h3, h4⟩, hg⟩
      exact ⟨rfl, hB.trans (hg.under (by omega) (by have := hB.size; omega)), h3.grown hg (by simp; omega), none, 0, h4.grown hg (by simp; omega), Nat.le_refl _, .inl rfl⟩
  refine H.mono ?_
  rintro e w' ⟨A, c, rfl, _, _, hB⟩
  exact ⟨A, c, rfl, hB⟩
end Go.Proofs.YtpojakadbfdmmaaDoor.V
