/-
  Contract: text.Read.
-/
import Derived.Test.YtadhlnlcdljamaaGreatDoorTxToks
namespace Go.Proofs.YtadhlnlcdljamaaGreatDoor.V
set_option maxRecDepth 20000
open Go.RowKit

def far (n : Nat) : Nat → Prop := fun b => n ≤ b
theorem far_keep {w w' : World} {n b : Nat} (h : w.grownBy w' (some b)) (hb : b < n) : Keep (far n) w w' := Keep.of_grown h (fun x hx _ => by have : n ≤ x := hx; simp; omega)

set_option maxRecDepth 100000 in
set_option maxHeartbeats 4000000 in
theorem Read_of (s : ByteArray) (w : World) (T : Int) (k : Nat) (fs : List FnT)
    (ht : ∀ w3, w3 = ((w.alloc (.cells #[.string s] 9)).alloc (.cells #[.slice none 0 0] 22)).alloc (.cells #[.int .i64 0, .int .i64 0] 25) →
      Calls Tryz.prog 7 #[.func (Fn.func 8) #[] #[.pointer (some ⟨w.heap.size, 0, none⟩), .pointer (some ⟨w.heap.size + 1, 0, none⟩)]] w3 fun e w' => e = .returned (.agg #[.int .i64 T, .int .i64 (k : Int)]) ∧ Below w.heap.size w w' ∧ TwoAt 25 w' (w.heap.size + 2) (.int .i64 0) (.int .i64 0) ∧ ∃ A n c, OneAt 22 w' (w.heap.size + 1) (.slice A n c) ∧ SliceV FuncV w' (far (w.heap.size + 4)) fs (.slice A n c)) :
    Calls Tryz.prog 4 #[.string s] w fun e w' => ∃ A n c, e = .returned (.tuple #[.slice A n c, .agg #[.int .i64 T, .int .i64 (k : Int)]]) ∧ SliceV FuncV w' (far (w.heap.size + 4)) fs (.slice A n c) ∧ Below w.heap.size w w' := by
  have hmf : ∀ (fn : Fn) (first cap : Array Value) (w : World), (Instr.makeFunc fn first cap).run Tryz.prog w = .ok (.func fn first cap) w := fun _ _ _ _ => rfl
  have HT := hide ht
  clear ht
  go_enter Tryz.func4, Tryz.ntmps4
  go_wp2_with (go_at_call 7; refine (HT.out _ rfl).mono ?_; rintro e w1 ⟨rfl, hB, h2, A, n, c, h3, h5⟩; have HB := hide hB; have H2 := hide h2; have H3 := hide h3; have H5 := hide h5; obtain ⟨⟨r0, r1⟩, fr0, fr1⟩ := h2.cells; obtain ⟨s0, sr0⟩ := h3.cells; clear hB h2 h3 h5)
  have H6 := hide (H2.out.put (.int .i64 T) (.int .i64 (k : Int)))
  obtain ⟨⟨t0, t1⟩, tr0, tr1⟩ := H6.out.cells
  have H7 := hide ((H3.out.grown (TwoAt.out (b := w.heap.size + 2) (.int .i64 T) (.int .i64 (k : Int))) (by simp)))
  obtain ⟨q0, qr0⟩ := H7.out.cells
  have H8 := hide (FuncV.stays.slice H5.out (far_keep (TwoAt.out (w := w1) (b := w.heap.size + 2) (.int .i64 T) (.int .i64 (k : Int))) (by omega)))
  have H9 := hide (HB.out.trans ((TwoAt.out (w := w1) (b := w.heap.size + 2) (.int .i64 T) (.int .i64 (k : Int))).under (B := w.heap.size) (by omega) HB.out.size))
  obtain ⟨w2, hw2⟩ : ∃ w2, w2 = (w1.setCell ⟨w.heap.size + 2, 0, none⟩ (.int .i64 T)).setCell ⟨w.heap.size + 2, 1, none⟩ (.int .i64 (k : Int)) := ⟨_, rfl⟩
  rw [← hw2] at H6 H7 H8 H9 t0 t1 tr0 tr1 q0 qr0 ⊢
  clear hw2 HB H2 H3 H5 r0 r1 fr0 fr1 s0 sr0
  go_region
  have J0 := H7.out.put (.slice A n c)
  have J1 := H6.out.grown (OneAt.out (w := w2) (b := w.heap.size + 1) (.slice A n c)) (by simp)
  have J2 := J1.put (.int .i64 T) (.int .i64 (k : Int))
  have J3 := J0.grown (TwoAt.out (b := w.heap.size + 2) (.int .i64 T) (.int .i64 (k : Int))) (by simp)
  have J4 := FuncV.stays.slice (FuncV.stays.slice H8.out (far_keep (OneAt.out (w := w2) (b := w.heap.size + 1) (.slice A n c)) (by omega))) (far_keep (TwoAt.out (w := w2.setCell ⟨w.heap.size + 1, 0, none⟩ (.slice A n c)) (b := w.heap.size + 2) (.int .i64 T) (.int .i64 (k : Int))) (by omega))
  have J5 := (H9.out.trans ((OneAt.out (w := w2) (b := w.heap.size + 1) (.slice A n c)).under (B := w.heap.size) (by omega) H9.out.size))
  have J6 := (J5.trans ((TwoAt.out (b := w.heap.size + 2) (.int .i64 T) (.int .i64 (k : Int))).under (B := w.heap.size) (by omega) J5.size)).drew
  obtain ⟨w3, hw3⟩ : ∃ w3, w3 = ((w2.setCell ⟨w.heap.size + 1, 0, none⟩ (.slice A n c)).setCell ⟨w.heap.size + 2, 0, none⟩ (.int .i64 T)).setCell ⟨w.heap.size + 2, 1, none⟩ (.int .i64 (k : Int)) := ⟨_, rfl⟩
  rw [← hw3] at J2 J3 J4 J6
  have J4' : SliceV FuncV w3.drew (far (w.heap.size + 4)) fs (.slice A n c) := FuncV.stays.slice J4 ⟨Nat.le_refl _, fun _ _ _ => rfl⟩
  have u0 : w3.drew.cell? ⟨w.heap.size + 1, 0, none⟩ = some (.slice A n c) := J3.cells.1
  have u1 : w3.drew.cell? ⟨w.heap.size + 2, 0, none⟩ = some (.int .i64 T) := J2.cells.1.1
  have u2 : w3.drew.cell? ⟨w.heap.size + 2, 1, none⟩ = some (.int .i64 (k : Int)) := J2.cells.1.2
  have HJ4 := hide J4'
  have HJ6 := hide J6
  change Exit.then _ _ Exit.normal _ (((w2.setCell ⟨w.heap.size + 1, 0, none⟩ (.slice A n c)).setCell ⟨w.heap.size + 2, 0, none⟩ (.int .i64 T)).setCell ⟨w.heap.size + 2, 1, none⟩ (.int .i64 (k : Int))).drew
  rw [← hw3]
  clear J0 J1 J2 J3 J4 J5 J6 J4' hw3 H6 H7 H8 H9 t0 t1 tr0 tr1 q0 qr0
  go_wp2
  exact bodyPost_ret (v := .tuple #[.slice A n c, .agg #[.int .i64 T, .int .i64 (k : Int)]]) (by simp [results, Tryz.results4, go_sem, u0, u1, u2]) rfl ⟨A, n, c, rfl, HJ4.out, HJ6.out⟩

/-- The three blocks of Read. -/
theorem read_blocks (s : ByteArray) (w : World) : ∀ w3, w3 = ((w.alloc (.cells #[.string s] 9)).alloc (.cells #[.slice none 0 0] 22)).alloc (.cells #[.int .i64 0, .int .i64 0] 25) →
    OneAt 9 w3 w.heap.size (.string s) ∧ OneAt 22 w3 (w.heap.size + 1) (.slice none 0 0) ∧ TwoAt 25 w3 (w.heap.size + 2) (.int .i64 0) (.int .i64 0) ∧ w3.heap.size = w.heap.size + 3 ∧ Below w.heap.size w w3 := by
  intro w3 hw3
  refine ⟨?_, ?_, ?_, ?_, ?_⟩
  · rw [hw3]; exact ((OneAt.new _ _ _).alloc _).alloc _
  · have := (OneAt.new 22 (w.alloc (.cells #[.string s] 9)) (.slice none 0 0)).alloc (.cells #[.int .i64 0, .int .i64 0] 25)
    rw [hw3]
    simpa using this
  · have := TwoAt.new 25 ((w.alloc (.cells #[.string s] 9)).alloc (.cells #[.slice none 0 0] 22)) (.int .i64 0) (.int .i64 0)
    rw [hw3]
    simpa using this
  · rw [hw3]; simp
  · rw [hw3]; exact (((Below.refl _ _).alloc (Nat.le_refl _) _).alloc (by simp) _).alloc (by simp; omega) _

/-- What Read answers, by what is read. -/
def ReadB (w : World) (r : Res (List FnT)) (e : Ending) (w' : World) : Prop := match r with
  | .bad T k => ∃ A n c, e = .returned (.tuple #[.slice A n c, .agg #[.int .i64 T, .int .i64 (k : Int)]]) ∧ SliceV FuncV w' (from_ w) [] (.slice A n c) ∧ Below w.heap.size w w'
  | .ok fs _ => ∃ A n c, e = .returned (.tuple #[.slice A n c, .agg #[.int .i64 0, .int .i64 0]]) ∧ SliceV FuncV w' (from_ w) fs (.slice A n c) ∧ Below w.heap.size w w'
/-- Read, by what its closure leaves. -/
theorem Read_by (s : ByteArray) (w : World) (r : Res (List FnT)) (h : ∀ W, Below w.heap.size w W → OneAt 9 W w.heap.size (.string s) → OneAt 22 W (w.heap.size + 1) (.slice none 0 0) → Calls Tryz.prog 8 #[.pointer (some ⟨w.heap.size, 0, none⟩), .pointer (some ⟨w.heap.size + 1, 0, none⟩)] W (WorkP s W (w.heap.size + 1) r)) :
    Calls Tryz.prog 4 #[.string s] w (ReadB w r) := by
  cases r with
  | bad T k =>
    refine (Read_of s w T k [] ?_).mono ?_
    · intro w3 hw3
      obtain ⟨a1, a2, a3, a4, a5⟩ := read_blocks s w w3 hw3
      clear hw3
      refine (told_bad 8 _ w3 (enters Tryz.func8 (by kernel_rfl) (by kernel_rfl)) T k (fun w1 => Below w.heap.size w w1 ∧ TwoAt 25 w1 (w.heap.size + 2) (.int .i64 0) (.int .i64 0) ∧ OneAt 22 w1 (w.heap.size + 1) (.slice none 0 0)) ?_).mono ?_
      · have b0 := TwoAt.new 25 w3 (.int .i64 0) (.int .i64 0)
        have b2 := a5.alloc (o := .cells #[.int .i64 0, .int .i64 0] 25) (by omega)
        refine (h _ b2 (a1.alloc _) (a2.alloc _)).mono ?_
        rintro e w1 ⟨hg, rfl, ho⟩
        exact ⟨rfl, b0.grown hg (by simp; omega), b2.trans (hg.under (by omega) (by simp; omega)), (a3.alloc _).grown hg (by simp), ho⟩
      · rintro e w' ⟨w1, rfl, ⟨hB, h3, h4⟩, hg⟩
        exact ⟨rfl, hB.trans (hg.under (by omega) (by have := hB.size; omega)), h3.grown hg (by simp; omega), none, 0, 0, h4.grown hg (by simp; omega), SliceV.none _ _ _ _ _⟩
    · rintro e w' ⟨A, n, c, rfl, h1, h2⟩
      exact ⟨A, n, c, rfl, FuncV.stays.slice_weaken h1 (fun b _ hb => by have : w.heap.size + 4 ≤ b := hb; unfold from_; omega), h2⟩
  | ok fs j =>
    refine (Read_of s w 0 0 fs ?_).mono ?_
    · intro w3 hw3
      obtain ⟨a1, a2, a3, a4, a5⟩ := read_blocks s w w3 hw3
      clear hw3
      refine (told_ok 8 _ w3 (enters Tryz.func8 (by kernel_rfl) (by kernel_rfl)) (fun w1 => Below w.heap.size w w1 ∧ TwoAt 25 w1 (w.heap.size + 2) (.int .i64 0) (.int .i64 0) ∧ ∃ A n c, OneAt 22 w1 (w.heap.size + 1) (.slice A n c) ∧ SliceV FuncV w1 (far (w.heap.size + 4)) fs (.slice A n c)) ?_).mono ?_
      · have b0 := TwoAt.new 25 w3 (.int .i64 0) (.int .i64 0)
        have b1 : (w3.alloc (.cells #[.int .i64 0, .int .i64 0] 25)).heap.size = w.heap.size + 4 := by simp [a4]
        have b2 := a5.alloc (o := .cells #[.int .i64 0, .int .i64 0] 25) (by omega)
        refine (h _ b2 (a1.alloc _) (a2.alloc _)).mono ?_
        rintro e w1 ⟨hg, rfl, v, ho, hv⟩
        obtain ⟨A, c, rfl⟩ := SliceV.form hv
        refine ⟨rfl, b0.grown hg (by simp; omega), b2.trans (hg.under (by omega) (by simp; omega)), (a3.alloc _).grown hg (by simp), A, _, c, ho, FuncV.stays.slice_weaken hv (fun b _ hb => ?_)⟩
        have h9 : (w3.alloc (.cells #[.int .i64 0, .int .i64 0] 25)).heap.size ≤ b := hb
        rw [b1] at h9
        exact h9
      · rintro e w' ⟨w1, rfl, ⟨hB, h3, A, n, c, h4, h5⟩, hg⟩
        refine ⟨rfl, hB.trans (hg.under (by omega) (by have := hB.size; omega)), h3.grown hg (by simp; omega), A, n, c, h4.grown hg (by simp; omega), FuncV.stays.slice h5 (Keep.of_grown hg (fun b hb _ => ?_))⟩
        have h9 : w.heap.size + 4 ≤ b := hb
        simp
        omega
    · rintro e w' ⟨A, n, c, rfl, h1, h2⟩
      exact ⟨A, n, c, rfl, FuncV.stays.slice_weaken h1 (fun b _ hb => by have : w.heap.size + 4 ≤ b := hb; unfold from_; omega), h2⟩

/-- What Read answers: the error, its place, and the functions. -/
def readO (s : ByteArray) : (Int × Nat) × List FnT :=
  if 65536 < s.size then ((5, 0), [])
  else if (scanN (xsOf s) 0 []).1.1 = 0 then (match progS (toksOf s) with
    | .bad T k => ((T, k), [])
    | .ok fs _ => ((0, 0), fs))
  else ((scanN (xsOf s) 0 []).1, [])
def ReadP (s : ByteArray) (w : World) (e : Ending) (w' : World) : Prop := ∃ A n c, e = .returned (.tuple #[.slice A n c, .agg #[.int .i64 (readO s).1.1, .int .i64 ((readO s).1.2 : Int)]]) ∧ SliceV FuncV w' (from_ w) (readO s).2 (.slice A n c) ∧ Below w.heap.size w w'
theorem Read_any (s : ByteArray) (w : World) (hmax : s.size ≤ 9223372036854775807) (hE : ErrAt w) (h2 : 2 < w.heap.size) : Calls Tryz.prog 4 #[.string s] w (ReadP s w) := by
  unfold ReadP readO
  by_cases hs : 65536 < s.size
  · rw [if_pos hs]
    refine (Read_by s w (.bad 5 0) (fun W hW a1 a2 => read_bad s _ _ W a1 a2 5 0 (fun w0 _ => ?_))).mono (fun e w' h => h)
    refine (scan_much s w0 hs hmax).mono ?_
    rintro e w' ⟨h3, h4⟩
    rw [if_pos hs] at h4
    exact ⟨h4, h3⟩
  · rw [if_neg hs]
    by_cases h0 : (scanN (xsOf s) 0 []).1.1 = 0
    · rw [if_pos h0]
      refine (Read_by s w (progS (toksOf s)) (fun W hW a1 a2 => read_ok s _ _ W a1 a2 (by omega) (hE.below hW h2) (by have := hW.size; omega) h0 (toksOf_ok s (by omega)))).mono (fun e w' h => ?_)
      cases hp : progS (toksOf s) with
      | bad T k => rw [hp] at h; exact h
      | ok fs j => rw [hp] at h; exact h
    · rw [if_neg h0]
      refine (Read_by s w (.bad (scanN (xsOf s) 0 []).1.1 (scanN (xsOf s) 0 []).1.2) (fun W hW a1 a2 => read_bad s _ _ W a1 a2 _ _ (fun w0 hw0 => ?_))).mono (fun e w' h => h)
      have hb := hW.trans (hw0.mono hW.size)
      refine (scan_some s w0 (by omega) (hE.below hb h2) (by have := hb.size; omega)).mono ?_
      rintro e w' ⟨h3, h4⟩
      rw [if_neg hs, if_neg h0] at h4
      exact ⟨h4, h3⟩
end Go.Proofs.YtadhlnlcdljamaaGreatDoor.V
