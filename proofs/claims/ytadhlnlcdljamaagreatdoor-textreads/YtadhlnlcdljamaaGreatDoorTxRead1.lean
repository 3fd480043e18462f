/-
  The closure of Read.
-/
import Derived.Test.YtadhlnlcdljamaaGreatDoorTxProgram
import Derived.Test.YtadhlnlcdljamaaGreatDoorTxScanLen
namespace Go.Proofs.YtadhlnlcdljamaaGreatDoor.V
set_option maxRecDepth 20000
set_option linter.unusedVariables false
open Go.RowKit

def BlkAt (W : World) (K : Nat) (ob : Obj) : Prop := W.heap[K]? = some ob
theorem BlkAt.lt {W : World} {K : Nat} {ob : Obj} (h : BlkAt W K ob) : K < W.heap.size := (Array.getElem?_eq_some_iff.1 h).1
theorem BlkAt.new (W : World) (ob : Obj) : BlkAt (W.alloc ob) W.heap.size ob := World.alloc_heap_new W _
theorem BlkAt.alloc {W : World} {K : Nat} {ob : Obj} (h : BlkAt W K ob) (p : Obj) : BlkAt (W.alloc p) K ob := (Below.heap_alloc _ _ _ h.lt).trans h
theorem BlkAt.grown {W W' : World} {K : Nat} {ob : Obj} {row : Option Nat} (h : BlkAt W K ob) (hg : W.grownBy W' row) (hne : some K ≠ row) : BlkAt W' K ob := (hg.block K h.lt hne).trans h
theorem BlkAt.below {W W' : World} {K : Nat} {ob : Obj} (h : BlkAt W K ob) (hb : Below W.heap.size W W') : BlkAt W' K ob := (hb.block K h.lt).trans h
theorem BlkAt.drew {W : World} {K : Nat} {ob : Obj} (h : BlkAt W K ob) : BlkAt W.drew K ob := h
/-- What the closure of Read finds in memory, and leaves alone. -/
structure RB (w W : World) (Bs G0 : Nat) (s : ByteArray) : Prop where
  sb : OneAt 9 W Bs (.string s)
  ob : OneAt 22 W G0 (.slice none 0 0)
  bw : Below w.heap.size w W
theorem RB.alloc {w W : World} {Bs G0 : Nat} {s : ByteArray} (h : RB w W Bs G0 s) (p : Obj) : RB w (W.alloc p) Bs G0 s := ⟨h.sb.alloc p, h.ob.alloc p, h.bw.alloc h.bw.size p⟩
theorem RB.drew {w W : World} {Bs G0 : Nat} {s : ByteArray} (h : RB w W Bs G0 s) : RB w W.drew Bs G0 s := ⟨h.sb, h.ob, h.bw.drew⟩
theorem RB.below {w W W' : World} {Bs G0 : Nat} {s : ByteArray} (h : RB w W Bs G0 s) (hb : Below W.heap.size W W') : RB w W' Bs G0 s := ⟨h.sb.below hb, h.ob.below hb, h.bw.trans (hb.mono h.bw.size)⟩
theorem RB.grown {w W W' : World} {Bs G0 : Nat} {s : ByteArray} {row : Option Nat} (h : RB w W Bs G0 s) (hg : W.grownBy W' row) (hr : ∀ g, row = some g → w.heap.size ≤ g) (h1 : Bs < w.heap.size) (h2 : G0 < w.heap.size) : RB w W' Bs G0 s :=
  ⟨h.sb.grown hg (fun e => by have := hr _ e.symm; omega), h.ob.grown hg (fun e => by have := hr _ e.symm; omega), ⟨hg.os.trans h.bw.os, hg.tape.trans h.bw.tape, hg.output.trans h.bw.output, Nat.le_trans h.bw.size hg.size, fun k hk => (hg.block k (Nat.lt_of_lt_of_le hk h.bw.size) (fun e => by have := hr _ e.symm; omega)).trans (h.bw.block k hk)⟩⟩
theorem own_base {w : World} {B B' : Nat} {t : TypeId} {k : Nat} {v : Value} {n : Nat} {xs : List Value} (h : w.ownsRow B t k v n xs) (hB : B' ≤ B) : w.ownsRow B' t k v n xs :=
  ⟨h.1, h.2.imp id (fun ⟨g, cap, cur, h1, h2, h3⟩ => ⟨g, cap, cur, h1, Nat.le_trans hB h2, h3⟩)⟩

/-- The tokens of a text. -/
def toksOf (s : ByteArray) : Tks := ⟨(scanN (xsOf s) 0 []).2.map (fun t => (strOfNums t.1, t.2)), s.size⟩
theorem toksOf_len (s : ByteArray) : (toksOf s).ts.length = (scanN (xsOf s) 0 []).2.length := by simp [toksOf]
theorem toksOf_row (s : ByteArray) (j : Nat) (hj : j ≤ (toksOf s).ts.length) : (tokRow (scanN (xsOf s) 0 []).2 ++ [.string ⟨#[]⟩, .int .i64 (s.size : Int)])[j * 2]? = some (.string ((toksOf s).tx j)) ∧ (tokRow (scanN (xsOf s) 0 []).2 ++ [.string ⟨#[]⟩, .int .i64 (s.size : Int)])[j * 2 + 1]? = some (.int .i64 ((toksOf s).ps j : Int)) := by
  have hl := toksOf_len s
  have hrow : ∀ ts : List (List Int × Nat), (tokRow ts).length = ts.length * 2 := fun ts => by
    induction ts with
    | nil => rfl
    | cons t ts ih => rw [show tokRow (t :: ts) = [.string (strOfNums t.1), .int .i64 (t.2 : Int)] ++ tokRow ts from rfl, List.length_append, ih, List.length_cons]; simp; omega
  have hr := hrow (scanN (xsOf s) 0 []).2
  by_cases c : j < (scanN (xsOf s) 0 []).2.length
  · obtain ⟨h1, h2⟩ := tokRow_at (scanN (xsOf s) 0 []).2 j c
    rw [List.getElem?_append_left (by omega), List.getElem?_append_left (by omega), h1, h2]
    have e : (toksOf s).ts[j]? = some (strOfNums ((scanN (xsOf s) 0 []).2[j]'c).1, ((scanN (xsOf s) 0 []).2[j]'c).2) := by simp [toksOf, c]
    have e2 : (scanN (xsOf s) 0 []).2[j]?.getD ([], 0) = (scanN (xsOf s) 0 []).2[j]'c := by simp [c]
    unfold Tks.tx Tks.ps
    rw [if_pos (by omega), e, e2]
    exact ⟨rfl, rfl⟩
  · have hj2 : j = (scanN (xsOf s) 0 []).2.length := by omega
    rw [List.getElem?_append_right (by omega), List.getElem?_append_right (by omega), hr, show j * 2 - (scanN (xsOf s) 0 []).2.length * 2 = 0 by omega, show j * 2 + 1 - (scanN (xsOf s) 0 []).2.length * 2 = 1 by omega]
    rw [Tks.tx_end (by omega)]
    unfold Tks.ps
    rw [if_neg (by omega)]
    exact ⟨rfl, rfl⟩

theorem Res.split {α : Type} (r : Res α) : (∃ T k, r = .bad T k) ∨ ∃ a i, r = .ok a i := by
  cases r with
  | bad T k => exact .inl ⟨T, k, rfl⟩
  | ok a i => exact .inr ⟨a, i, rfl⟩
/-- What the closure of Read leaves. -/
def WorkP (s : ByteArray) (w : World) (G0 : Nat) (r : Res (List FnT)) (e : Ending) (w' : World) : Prop :=
  w.grownBy w' (some G0) ∧ match r with
  | .bad T k => e = thrown T k ∧ OneAt 22 w' G0 (.slice none 0 0)
  | .ok fs _ => e = .returned (.tuple #[]) ∧ ∃ v, OneAt 22 w' G0 v ∧ SliceV FuncV w' (from_ w) fs v
/-- The end, once the reader stands. -/
theorem work_end (s : ByteArray) {w W : World} {Bs G0 R g cap : Nat} (h1 : G0 < w.heap.size) (hb : RB w W Bs G0 s) (hR : w.heap.size ≤ R) (hr : RdAt (toksOf s) R g cap W 0) {e : Ending} {W' : World} (hp : Parsed (toksOf s) R g cap (repP W) (progS (toksOf s)) W e W') :
    (∀ T k, progS (toksOf s) = .bad T k → e = thrown T k ∧ WorkP s w G0 (progS (toksOf s)) (thrown T k) W') ∧
    (∀ fs j, progS (toksOf s) = .ok fs j → ∃ A c, e = .returned (.slice A fs.length c) ∧ OneAt 22 W' G0 (.slice none 0 0) ∧ WorkP s w G0 (progS (toksOf s)) (.returned (.tuple #[])) (W'.setCell ⟨G0, 0, none⟩ (.slice A fs.length c))) := by
  obtain ⟨hg, hp⟩ := hp
  have hob := hb.ob.grown hg (by simp; omega)
  have hbw : w.grownBy W' (some G0) := ⟨hg.os.trans hb.bw.os, hg.tape.trans hb.bw.tape, hg.output.trans hb.bw.output, Nat.le_trans hb.bw.size hg.size, fun k hk _ => (hg.block k (Nat.lt_of_lt_of_le hk hb.bw.size) (by simp; omega)).trans (hb.bw.block k hk)⟩
  constructor
  · intro T k hs
    rw [hs] at hp
    rw [hs]
    exact ⟨hp, hbw, rfl, hob⟩
  · intro fs j hs
    rw [hs] at hp
    obtain ⟨_, v, rfl, hv⟩ := hp
    obtain ⟨A, c, rfl⟩ := SliceV.form hv
    refine ⟨A, c, rfl, hob, hbw.then' (OneAt.out _), ?_⟩
    rw [hs]
    refine ⟨rfl, _, hob.put _, ?_⟩
    have h9 := hb.bw.size
    exact FuncV.stays.slice_weaken (FuncV.stays.slice hv (Keep.of_grown (OneAt.out _) (fun b hb2 _ => by have h8 : W.heap.size ≤ b := hb2; simp; omega))) (fun b _ hb2 => by have h8 : W.heap.size ≤ b := hb2; unfold from_; omega)
theorem rd_of {s : ByteArray} {W : World} {R g cap B : Nat} (hs : s.size ≤ 65536) (hn : (scanN (xsOf s) 0 []).2.length ≤ 65536) (ho : W.ownsRow B 34 2 (.slice (some ⟨g, 0, none⟩) ((scanN (xsOf s) 0 []).2.length + 1) cap) ((scanN (xsOf s) 0 []).2.length + 1) (tokRow (scanN (xsOf s) 0 []).2 ++ [.string ⟨#[]⟩, .int .i64 (s.size : Int)])) (hne : g ≠ R)
    (h2 : TwoAt 36 W R (.slice (some ⟨g, 0, none⟩) ((scanN (xsOf s) 0 []).2.length + 1) cap) (.int .i64 0)) : RdAt (toksOf s) R g cap W 0 := by
  have hl := toksOf_len s
  have hcap : (scanN (xsOf s) 0 []).2.length + 1 ≤ cap := by
    rcases ho.2 with ⟨h1, _⟩ | ⟨g', cap', cur, h1, _, _, h4, _⟩
    · cases h1
    · cases h1; exact h4
  refine ⟨(ho.lt g rfl).2, hne, by omega, Nat.zero_le _, by omega, by rw [hl]; exact h2, fun j hj => ?_⟩
  obtain ⟨e1, e2⟩ := toksOf_row s j hj
  exact ⟨(ho.cellAt (j * 2) (by omega)).trans e1, (ho.cellAt (j * 2 + 1) (by omega)).trans e2⟩

set_option maxRecDepth 100000 in
set_option maxHeartbeats 8000000 in
theorem read_bad (s : ByteArray) (Bs G0 : Nat) (w : World) (hsb : OneAt 9 w Bs (.string s)) (hob : OneAt 22 w G0 (.slice none 0 0)) (T : Int) (k : Nat) (hscan : ∀ w0, Below w.heap.size w w0 → Calls Tryz.prog 9 #[.string s] w0 fun e w' => e = thrown T k ∧ Below w0.heap.size w0 w') :
    Calls Tryz.prog 8 #[.pointer (some ⟨Bs, 0, none⟩), .pointer (some ⟨G0, 0, none⟩)] w (WorkP s w G0 (.bad T k)) := by
  have HB := hide (RB.mk (w := w) hsb hob (Below.refl _ _))
  have HS := hide hscan
  have q1 := hsb.cells.1
  clear hsb hob hscan
  unfold WorkP thrown faultV at *
  go_enter Tryz.func8, Tryz.ntmps8
  go_wp2
  refine wp_region_held_drew (S := fun w' => w'.cell? ⟨Bs, 0, none⟩ = some (.string s)) (by kernel_rfl) q1 (fun hHeld => ?_)
  show wpAnyH _ _ _ _ _ _ _ _ _
  refine wpAnyH_take (i := 0) (v := ?zv1) rfl (by kernel_rfl) (by kernel_rfl) (by kernel_rfl) (fun _ _ _ h => h) (Or.inl ⟨by kernel_rfl, ?zy1⟩) (by assumption) ?_
  case zy1 => (intro wz hSw; (try dsimp only at hSw); go_simp; try with_reducible rfl)
  try simp only [Act.put, List.setIfInBounds_toArray]
  refine wpAnyH_take (i := 2) (v := ?zv2) rfl (by kernel_rfl) (by kernel_rfl) (by kernel_rfl) (fun _ _ _ h => h) (Or.inl ⟨by kernel_rfl, ?zy2⟩) (by assumption) ?_
  case zy2 => (intro wz hSw; (try dsimp only at hSw); go_simp; try with_reducible rfl)
  try simp only [Act.put]
  refine wpAnyH_take (i := 3) (v := ?zv3) rfl (by kernel_rfl) (by kernel_rfl) (by kernel_rfl) (fun _ _ _ h => h) (Or.inl ⟨by kernel_rfl, ?zy3⟩) (by assumption) ?_
  case zy3 => (intro wz hSw; (try dsimp only at hSw); go_simp; try with_reducible rfl)
  try simp only [Act.put]
  refine wpAnyH_take (i := 4) (v := ?zv4) rfl (by kernel_rfl) (by kernel_rfl) (by kernel_rfl) (fun _ _ _ h => h) (Or.inl ⟨by kernel_rfl, ?zy4⟩) (by assumption) ?_
  case zy4 => (intro wz hSw; (try dsimp only at hSw); go_simp; try with_reducible rfl)
  try simp only [Act.put]
  refine wpAnyH_ready (rs := [1, 5, 8]) (by kernel_rfl) (by simp) ?_
  refine AllReadyH.cons rfl (fun K hK => ?_) ?_
  · go_simp
    refine (HS.out _ (RB.drew HB.out).bw).mono ?_
    rintro e w1 ⟨rfl, hb1⟩
    exact ⟨rfl, (((RB.drew HB.out).below hb1).bw.by _), rfl, ((RB.drew HB.out).below hb1).ob⟩
  refine AllReadyH.cons rfl (fun K hK => ?_) ?_
  · go_simp
    refine hK.out _ _ ((RB.drew (HB.out.alloc (.cells #[.string ⟨#[]⟩, .int .i64 (s.size : Int)] 34))).sb.cells.1) (fun hHeld2 => ?_)
    clear hK K
    try simp only [Act.put, List.setIfInBounds_toArray, List.set_cons_zero, List.set_cons_succ]
    refine wpAnyH_ready (rs := [1, 8]) (by kernel_rfl) (by simp) ?_
    refine AllReadyH.cons rfl (fun K hK => ?_) ?_
    · go_simp
      refine (HS.out _ (RB.drew (HB.out.alloc (.cells #[.string ⟨#[]⟩, .int .i64 (s.size : Int)] 34))).bw).mono ?_
      rintro e w1 ⟨rfl, hb1⟩
      exact ⟨rfl, (((RB.drew (HB.out.alloc (.cells #[.string ⟨#[]⟩, .int .i64 (s.size : Int)] 34))).below hb1).bw.by _), rfl, ((RB.drew (HB.out.alloc (.cells #[.string ⟨#[]⟩, .int .i64 (s.size : Int)] 34))).below hb1).ob⟩
    refine AllReadyH.cons rfl (fun K hK => ?_) AllReadyH.nil
    go_simp
    refine hK.out _ _ ((RB.drew ((HB.out.alloc (.cells #[.string ⟨#[]⟩, .int .i64 (s.size : Int)] 34)).alloc (.cells #[.slice none 0 0, .int .i64 0] 36))).sb.cells.1) (fun hHeld4 => ?_)
    clear hK K
    try simp only [Act.put, List.setIfInBounds_toArray, List.set_cons_zero, List.set_cons_succ]
    refine wpAnyH_ready (rs := [1]) (by kernel_rfl) (by simp) ?_
    refine AllReadyH.cons rfl (fun K hK => ?_) AllReadyH.nil
    go_simp
    refine (HS.out _ (RB.drew ((HB.out.alloc (.cells #[.string ⟨#[]⟩, .int .i64 (s.size : Int)] 34)).alloc (.cells #[.slice none 0 0, .int .i64 0] 36))).bw).mono ?_
    rintro e w1 ⟨rfl, hb1⟩
    exact ⟨rfl, (((RB.drew ((HB.out.alloc (.cells #[.string ⟨#[]⟩, .int .i64 (s.size : Int)] 34)).alloc (.cells #[.slice none 0 0, .int .i64 0] 36))).below hb1).bw.by _), rfl, ((RB.drew ((HB.out.alloc (.cells #[.string ⟨#[]⟩, .int .i64 (s.size : Int)] 34)).alloc (.cells #[.slice none 0 0, .int .i64 0] 36))).below hb1).ob⟩
  refine AllReadyH.cons rfl (fun K hK => ?_) AllReadyH.nil
  go_simp
  refine hK.out _ _ ((RB.drew (HB.out.alloc (.cells #[.slice none 0 0, .int .i64 0] 36))).sb.cells.1) (fun hHeld2 => ?_)
  clear hK K
  try simp only [Act.put, List.setIfInBounds_toArray, List.set_cons_zero, List.set_cons_succ]
  refine wpAnyH_ready (rs := [1, 5]) (by kernel_rfl) (by simp) ?_
  refine AllReadyH.cons rfl (fun K hK => ?_) ?_
  · go_simp
    refine (HS.out _ (RB.drew (HB.out.alloc (.cells #[.slice none 0 0, .int .i64 0] 36))).bw).mono ?_
    rintro e w1 ⟨rfl, hb1⟩
    exact ⟨rfl, (((RB.drew (HB.out.alloc (.cells #[.slice none 0 0, .int .i64 0] 36))).below hb1).bw.by _), rfl, ((RB.drew (HB.out.alloc (.cells #[.slice none 0 0, .int .i64 0] 36))).below hb1).ob⟩
  refine AllReadyH.cons rfl (fun K hK => ?_) AllReadyH.nil
  go_simp
  refine hK.out _ _ ((RB.drew ((HB.out.alloc (.cells #[.slice none 0 0, .int .i64 0] 36)).alloc (.cells #[.string ⟨#[]⟩, .int .i64 (s.size : Int)] 34))).sb.cells.1) (fun hHeld2 => ?_)
  clear hK K
  try simp only [Act.put, List.setIfInBounds_toArray, List.set_cons_zero, List.set_cons_succ]
  refine wpAnyH_ready (rs := [1]) (by kernel_rfl) (by simp) ?_
  refine AllReadyH.cons rfl (fun K hK => ?_) AllReadyH.nil
  go_simp
  refine (HS.out _ (RB.drew ((HB.out.alloc (.cells #[.slice none 0 0, .int .i64 0] 36)).alloc (.cells #[.string ⟨#[]⟩, .int .i64 (s.size : Int)] 34))).bw).mono ?_
  rintro e w1 ⟨rfl, hb1⟩
  exact ⟨rfl, (((RB.drew ((HB.out.alloc (.cells #[.slice none 0 0, .int .i64 0] 36)).alloc (.cells #[.string ⟨#[]⟩, .int .i64 (s.size : Int)] 34))).below hb1).bw.by _), rfl, ((RB.drew ((HB.out.alloc (.cells #[.slice none 0 0, .int .i64 0] 36)).alloc (.cells #[.string ⟨#[]⟩, .int .i64 (s.size : Int)] 34))).below hb1).ob⟩

set_option maxRecDepth 100000 in
set_option maxHeartbeats 8000000 in
theorem read_ok (s : ByteArray) (Bs G0 : Nat) (w : World) (hsb : OneAt 9 w Bs (.string s)) (hob : OneAt 22 w G0 (.slice none 0 0)) (hs : s.size ≤ 65536) (hE : ErrAt w) (h2 : 2 < w.heap.size) (h0 : (scanN (xsOf s) 0 []).1.1 = 0) (ok : (toksOf s).Ok) :
    Calls Tryz.prog 8 #[.pointer (some ⟨Bs, 0, none⟩), .pointer (some ⟨G0, 0, none⟩)] w (WorkP s w G0 (progS (toksOf s))) := by
  obtain ⟨i0, hi, hz0, hz1, hz2⟩ := info_parts tokInfo
  have HI := hide hi
  have HI0 := hide hz0
  have HI1 := hide hz1
  have HI2 := hide hz2
  have HB := hide (RB.mk (w := w) hsb hob (Below.refl _ _))
  have hn : (scanN (xsOf s) 0 []).2.length ≤ 65536 := by
    have := scanN_len (xsOf s) _ 0 [] (Nat.le_refl _) (Nat.le_refl _) (Nat.zero_le _)
    rw [xsOf_length] at this
    omega
  have HS : Hid (∀ W, Below w.heap.size w W → Calls Tryz.prog 9 #[.string s] W fun e w' => Below W.heap.size W w' ∧ ∃ v, e = .returned v ∧ w'.ownsRow (W.heap.size + 1) 34 2 v (scanN (xsOf s) 0 []).2.length (tokRow (scanN (xsOf s) 0 []).2)) := by
    intro W hW
    refine (scan_some s W hs (hE.below hW h2) (by have := hW.size; omega)).mono ?_
    rintro e w' ⟨h1, h3⟩
    rw [if_neg (by omega), if_pos h0] at h3
    exact ⟨h1, h3⟩
  have q1 := hsb.cells.1
  have hBs := hsb.lt
  have hG0 := hob.lt
  have HOK := hide ok
  have hs' : (s.size : Int) ≤ 65536 := by omega
  clear hsb hob hE h0 hi hz0 hz1 hz2 ok
  obtain ⟨N, hN⟩ : ∃ N, N = (scanN (xsOf s) 0 []).2.length := ⟨_, rfl⟩
  obtain ⟨TR, hTR⟩ : ∃ TR, TR = tokRow (scanN (xsOf s) 0 []).2 := ⟨_, rfl⟩
  have HRD : Hid (∀ (W : World) (R g cap B : Nat), W.ownsRow B 34 2 (.slice (some ⟨g, 0, none⟩) (N + 1) cap) (N + 1) (TR ++ [.string ⟨#[]⟩, .int .i64 (s.size : Int)]) → g ≠ R → TwoAt 36 W R (.slice (some ⟨g, 0, none⟩) (N + 1) cap) (.int .i64 0) → RdAt (toksOf s) R g cap W 0) := by
    intro W R g cap B a1 a2 a3
    rw [hN, hTR] at a1
    rw [hN] at a3
    exact rd_of hs hn a1 a2 a3
  rw [← hN, ← hTR] at HS
  rw [← hN] at hn
  clear hN hTR
  go_enter Tryz.func8, Tryz.ntmps8
  go_wp2
  refine wp_region_held_drew (S := fun w' => w'.cell? ⟨Bs, 0, none⟩ = some (.string s)) (by kernel_rfl) q1 (fun hHeld => ?_)
  show wpAnyH _ _ _ _ _ _ _ _ _
  refine wpAnyH_take (i := 0) (v := ?zv5) rfl (by kernel_rfl) (by kernel_rfl) (by kernel_rfl) (fun _ _ _ h => h) (Or.inl ⟨by kernel_rfl, ?zy5⟩) (by assumption) ?_
  case zy5 => (intro wz hSw; (try dsimp only at hSw); go_simp; try with_reducible rfl)
  try simp only [Act.put, List.setIfInBounds_toArray]
  refine wpAnyH_take (i := 2) (v := ?zv6) rfl (by kernel_rfl) (by kernel_rfl) (by kernel_rfl) (fun _ _ _ h => h) (Or.inl ⟨by kernel_rfl, ?zy6⟩) (by assumption) ?_
  case zy6 => (intro wz hSw; (try dsimp only at hSw); go_simp; try with_reducible rfl)
  try simp only [Act.put]
  refine wpAnyH_take (i := 3) (v := ?zv7) rfl (by kernel_rfl) (by kernel_rfl) (by kernel_rfl) (fun _ _ _ h => h) (Or.inl ⟨by kernel_rfl, ?zy7⟩) (by assumption) ?_
  case zy7 => (intro wz hSw; (try dsimp only at hSw); go_simp; try with_reducible rfl)
  try simp only [Act.put]
  refine wpAnyH_take (i := 4) (v := ?zv8) rfl (by kernel_rfl) (by kernel_rfl) (by kernel_rfl) (fun _ _ _ h => h) (Or.inl ⟨by kernel_rfl, ?zy8⟩) (by assumption) ?_
  case zy8 => (intro wz hSw; (try dsimp only at hSw); go_simp; try with_reducible rfl)
  try simp only [Act.put]
  refine wpAnyH_ready (rs := [1, 5, 8]) (by kernel_rfl) (by simp) ?_
  refine AllReadyH.cons rfl (fun K hK => ?_) ?_
  · go_simp
    refine (HS.out _ (RB.drew (HB.out)).bw).mono ?_
    rintro e w1 ⟨hb1, v4, rfl, hown⟩
    have HB1 := hide ((RB.drew (HB.out)).below hb1)
    have hz1 : w.heap.size ≤ w1.heap.size := by have := hb1.size; first | exact this | simpa using this
    have HO1 := hide (own_base (B' := w.heap.size) hown (by have := (HB.out).bw.size; first | omega | (simp at this ⊢; done) | (simp at this ⊢; omega)))
    clear hb1 hown
    refine hK.out _ _ (HB1.out.sb.cells.1) (fun hHeld2_1 => ?_)
    clear hK K
    try simp only [Act.put, List.setIfInBounds_toArray, List.set_cons_zero, List.set_cons_succ]
    refine wpAnyH_ready (rs := [5, 8]) (by kernel_rfl) (by simp) ?_
    refine AllReadyH.cons rfl (fun K hK => ?_) ?_
    · go_simp
      have HB4_5 : Hid (RB w (w1.alloc (.cells #[.string ⟨#[]⟩, .int .i64 (s.size : Int)] 34)) Bs G0 s) := (HB1.out).alloc (.cells #[.string ⟨#[]⟩, .int .i64 (s.size : Int)] 34)
      have HO4_5 := hide ((HO1.out).alloc (.cells #[.string ⟨#[]⟩, .int .i64 (s.size : Int)] 34))
      have HK4_n5 : Hid (BlkAt (w1.alloc (.cells #[.string ⟨#[]⟩, .int .i64 (s.size : Int)] 34)) (w1.heap.size) (.cells #[.string ⟨#[]⟩, .int .i64 (s.size : Int)] 34)) := by have := BlkAt.new w1 (.cells #[.string ⟨#[]⟩, .int .i64 (s.size : Int)] 34); simpa [Hid] using this
      refine hK.out _ _ (HB4_5.out.sb.cells.1) (fun hHeld4_5 => ?_)
      clear hK K
      try simp only [Act.put, List.setIfInBounds_toArray, List.set_cons_zero, List.set_cons_succ]
      refine wpAnyH_ready (rs := [6, 8]) (by kernel_rfl) (by simp) ?_
      refine AllReadyH.cons rfl (fun K hK => ?_) ?_
      · refine step_append_lies _ (by rfl) _ _ _ (by rfl) w.heap.size 34 i0 _ 2 24 Tryz.underlying31 HI.out HI0.out HI1.out HI2.out rfl (by omega) _ _ _ (by rfl) (HO4_5.out) ⟨w1.heap.size, 0, none⟩ 1 1 [.string ⟨#[]⟩, .int .i64 (s.size : Int)] (by rfl) (by rfl) (World.news_of_block (cs := #[.string ⟨#[]⟩, .int .i64 (s.size : Int)]) (HK4_n5.out)) (by intro u hu; simp at hu; rcases hu with rfl | rfl <;> rfl) (by omega) (by unfold maxLen; omega) (by omega) (HB4_5.out).bw.size (w1.heap.size + 1) (by simp) ?_
        intro g cap w2 hown hgrow hat hlt
        have hrow : ∀ x, Value.ownBlock v4 = some x → w.heap.size ≤ x := fun x e => ((HO4_5.out).lt x e).1
        have HB2 := hide ((HB4_5.out).grown hgrow hrow hBs hG0)
        have HO2 := hide hown
        clear hown hgrow hat
        refine hK.out _ _ (HB2.out.sb.cells.1) (fun hHeld6_6 => ?_)
        clear hK K
        try simp only [Act.put, List.setIfInBounds_toArray]
        refine wpAnyH_take (i := 7) (v := ?zv9) rfl (by kernel_rfl) (by kernel_rfl) (by kernel_rfl) (fun _ _ _ h => h) (Or.inl ⟨by kernel_rfl, ?zy9⟩) (by assumption) ?_
        case zy9 => (intro wz hSw; (try dsimp only at hSw); go_simp; try with_reducible rfl)
        try simp only [Act.put]
        refine wpAnyH_ready (rs := [8]) (by kernel_rfl) (by simp) ?_
        refine AllReadyH.cons rfl (fun K hK => ?_) AllReadyH.nil
        go_simp
        have HB8_8 : Hid (RB w (w2.alloc (.cells #[.slice none 0 0, .int .i64 0] 36)) Bs G0 s) := (HB2.out).alloc (.cells #[.slice none 0 0, .int .i64 0] 36)
        have HO8_8 := hide ((HO2.out).alloc (.cells #[.slice none 0 0, .int .i64 0] 36))
        have HR8_n8 : Hid (BlkAt (w2.alloc (.cells #[.slice none 0 0, .int .i64 0] 36)) (w2.heap.size) (.cells #[.slice none 0 0, .int .i64 0] 36)) := by have := BlkAt.new w2 (.cells #[.slice none 0 0, .int .i64 0] 36); simpa [Hid] using this
        have HN8 : Hid (some (w2.heap.size) ≠ Value.ownBlock (.slice (some ⟨g, 0, none⟩) (N + 1) cap)) := fun e => by have h9 := ((HO2.out).lt _ e.symm).2; first | omega | (simp at h9; done) | (simp at h9; omega)
        refine hK.out _ _ (HB8_8.out.sb.cells.1) (fun hHeld8_8 => ?_)
        clear hK K
        try simp only [Act.put, List.setIfInBounds_toArray, List.set_cons_zero, List.set_cons_succ]
        refine wpAnyH_ready (rs := [9]) (by kernel_rfl) (by simp) ?_
        refine AllReadyH.cons rfl (fun K hK => ?_) AllReadyH.nil
        obtain ⟨⟨m0, m1⟩, fm0, fm1⟩ := TwoAt.cells (t := 36) (HR8_n8.out)
        go_simp
        have ZT : Hid (TwoAt 36 (w2.alloc (.cells #[.slice (some ⟨g, 0, none⟩) (N + 1) cap, .int .i64 0] 36)) w2.heap.size (.slice (some ⟨g, 0, none⟩) (N + 1) cap) (.int .i64 0)) := TwoAt.new _ w2 _ _
        have ZB : Hid (RB w (w2.alloc (.cells #[.slice (some ⟨g, 0, none⟩) (N + 1) cap, .int .i64 0] 36)) Bs G0 s) := HB2.out.alloc _
        have ZO : Hid (((w2.alloc (.cells #[.slice (some ⟨g, 0, none⟩) (N + 1) cap, .int .i64 0] 36))).ownsRow w.heap.size 34 2 (.slice (some ⟨g, 0, none⟩) (N + 1) cap) (N + 1) (TR ++ [.string ⟨#[]⟩, .int .i64 (s.size : Int)])) := HO2.out.alloc _
        have hgr : g ≠ w2.heap.size := by have := (HO2.out.lt g rfl).2; omega
        have hRw : w.heap.size ≤ w2.heap.size := HB2.out.bw.size
        have ZR := hide (HRD.out _ (w2.heap.size) g cap w.heap.size ZO.out hgr ZT.out)
        obtain ⟨Wf, hWf⟩ : ∃ Wf, Wf = (w2.alloc (.cells #[.slice (some ⟨g, 0, none⟩) (N + 1) cap, .int .i64 0] 36)) := ⟨_, rfl⟩
        rw [← hWf] at ZB ZR ⊢
        clear hWf ZT ZO m0 m1 fm0 fm1
        refine hK.out _ _ (ZB.out.sb.cells.1) (fun hHeldZ => ?_)
        clear hK K
        refine wpAnyH_done (by kernel_rfl) ?_ _
        rcases (progS (toksOf s)).split with ⟨Tp, kp, hps⟩ | ⟨fs, jp, hps⟩
        · have HPS := hide hps
          clear hps
          go_wp2_with (go_at_call 10; refine (tProgram HOK.out ZR.out).mono ?_; intro e w3 hp; obtain ⟨he, hW⟩ := (work_end s hG0 ZB.out hRw ZR.out hp).1 _ _ HPS.out; unfold thrown faultV at he; subst he; have HW := hide hW; clear hW hp)
          exact ⟨rfl, HW.out⟩
        · have HPS := hide hps
          clear hps
          go_wp2_with (go_at_call 10; refine (tProgram HOK.out ZR.out).mono ?_; intro e w3 hp; obtain ⟨A, cq, rfl, ho3, hW⟩ := (work_end s hG0 ZB.out hRw ZR.out hp).2 _ _ HPS.out; obtain ⟨t0, ft0⟩ := ho3.cells; have HW := hide hW; clear hW hp ho3)
          go_end0
          exact HW.out
      refine AllReadyH.cons rfl (fun K hK => ?_) AllReadyH.nil
      go_simp
      have HB6_8 : Hid (RB w ((w1.alloc (.cells #[.string ⟨#[]⟩, .int .i64 (s.size : Int)] 34)).alloc (.cells #[.slice none 0 0, .int .i64 0] 36)) Bs G0 s) := (HB4_5.out).alloc (.cells #[.slice none 0 0, .int .i64 0] 36)
      have HK6_8 := hide ((HK4_n5.out).alloc (.cells #[.slice none 0 0, .int .i64 0] 36))
      have HO6_8 := hide ((HO4_5.out).alloc (.cells #[.slice none 0 0, .int .i64 0] 36))
      have HR6_n8 : Hid (BlkAt ((w1.alloc (.cells #[.string ⟨#[]⟩, .int .i64 (s.size : Int)] 34)).alloc (.cells #[.slice none 0 0, .int .i64 0] 36)) (w1.heap.size + 1) (.cells #[.slice none 0 0, .int .i64 0] 36)) := by have := BlkAt.new (w1.alloc (.cells #[.string ⟨#[]⟩, .int .i64 (s.size : Int)] 34)) (.cells #[.slice none 0 0, .int .i64 0] 36); simpa [Hid] using this
      have HN6 : Hid (some (w1.heap.size + 1) ≠ Value.ownBlock v4) := fun e => by have h9 := ((HO4_5.out).lt _ e.symm).2; first | omega | (simp at h9; done) | (simp at h9; omega)
      refine hK.out _ _ (HB6_8.out.sb.cells.1) (fun hHeld6_8 => ?_)
      clear hK K
      try simp only [Act.put, List.setIfInBounds_toArray, List.set_cons_zero, List.set_cons_succ]
      refine wpAnyH_ready (rs := [6]) (by kernel_rfl) (by simp) ?_
      refine AllReadyH.cons rfl (fun K hK => ?_) AllReadyH.nil
      refine step_append_lies _ (by rfl) _ _ _ (by rfl) w.heap.size 34 i0 _ 2 24 Tryz.underlying31 HI.out HI0.out HI1.out HI2.out rfl (by omega) _ _ _ (by rfl) (HO6_8.out) ⟨w1.heap.size, 0, none⟩ 1 1 [.string ⟨#[]⟩, .int .i64 (s.size : Int)] (by rfl) (by rfl) (World.news_of_block (cs := #[.string ⟨#[]⟩, .int .i64 (s.size : Int)]) (HK6_8.out)) (by intro u hu; simp at hu; rcases hu with rfl | rfl <;> rfl) (by omega) (by unfold maxLen; omega) (by omega) (HB6_8.out).bw.size (w1.heap.size + 2) (by simp) ?_
      intro g cap w2 hown hgrow hat hlt
      have hrow : ∀ x, Value.ownBlock v4 = some x → w.heap.size ≤ x := fun x e => ((HO6_8.out).lt x e).1
      have HB2 := hide ((HB6_8.out).grown hgrow hrow hBs hG0)
      have HO2 := hide hown
      have HR2 := hide ((HR6_n8.out).grown hgrow (HN6.out))
      have HN2 : Hid (some (w1.heap.size + 1) ≠ Value.ownBlock (.slice (some ⟨g, 0, none⟩) (N + 1) cap)) := fun e => by
          have h7 : w1.heap.size + 1 = g := by simpa [Value.ownBlock] using e
          rcases hat with h8 | h8
          · rw [← h7] at h8; exact (HN6.out) h8.symm
          · have h9 := (HR6_n8.out).lt; first | omega | (simp at h9; done) | (simp at h9; omega)
      clear hown hgrow hat
      refine hK.out _ _ (HB2.out.sb.cells.1) (fun hHeld6_6 => ?_)
      clear hK K
      try simp only [Act.put, List.setIfInBounds_toArray]
      refine wpAnyH_take (i := 7) (v := ?zv10) rfl (by kernel_rfl) (by kernel_rfl) (by kernel_rfl) (fun _ _ _ h => h) (Or.inl ⟨by kernel_rfl, ?zy10⟩) (by assumption) ?_
      case zy10 => (intro wz hSw; (try dsimp only at hSw); go_simp; try with_reducible rfl)
      try simp only [Act.put]
      refine wpAnyH_ready (rs := [9]) (by kernel_rfl) (by simp) ?_
      refine AllReadyH.cons rfl (fun K hK => ?_) AllReadyH.nil
      obtain ⟨⟨m0, m1⟩, fm0, fm1⟩ := TwoAt.cells (t := 36) (HR2.out)
      go_simp
      have hRw : w.heap.size ≤ w1.heap.size + 1 := by have := HB1.out.bw.size; omega
      have ZG := hide (TwoAt.out (w := w2) (b := w1.heap.size + 1) (.slice (some ⟨g, 0, none⟩) (N + 1) cap) (.int .i64 0))
      have ZT := hide (TwoAt.put (t := 36) (HR2.out) (.slice (some ⟨g, 0, none⟩) (N + 1) cap) (.int .i64 0))
      have ZB := hide (HB2.out.grown ZG.out (fun x e => by cases e; exact hRw) hBs hG0)
      have ZO := hide (HO2.out.kept ZG.out (.inr (fun e => (HN2.out) e.symm)))
      have hgr : g ≠ w1.heap.size + 1 := fun e => (HN2.out) (by rw [e]; rfl)
      have ZR := hide (HRD.out _ (w1.heap.size + 1) g cap w.heap.size ZO.out hgr ZT.out)
      obtain ⟨Wf, hWf⟩ : ∃ Wf, Wf = ((w2.setCell ⟨w1.heap.size + 1, 0, none⟩ (.slice (some ⟨g, 0, none⟩) (N + 1) cap)).setCell ⟨w1.heap.size + 1, 1, none⟩ (.int .i64 0)) := ⟨_, rfl⟩
      rw [← hWf] at ZB ZR ⊢
      clear hWf ZT ZO m0 m1 fm0 fm1 ZG
      refine hK.out _ _ (ZB.out.sb.cells.1) (fun hHeldZ => ?_)
      clear hK K
      refine wpAnyH_done (by kernel_rfl) ?_ _
      rcases (progS (toksOf s)).split with ⟨Tp, kp, hps⟩ | ⟨fs, jp, hps⟩
      · have HPS := hide hps
        clear hps
        go_wp2_with (go_at_call 10; refine (tProgram HOK.out ZR.out).mono ?_; intro e w3 hp; obtain ⟨he, hW⟩ := (work_end s hG0 ZB.out hRw ZR.out hp).1 _ _ HPS.out; unfold thrown faultV at he; subst he; have HW := hide hW; clear hW hp)
        exact ⟨rfl, HW.out⟩
      · have HPS := hide hps
        clear hps
        go_wp2_with (go_at_call 10; refine (tProgram HOK.out ZR.out).mono ?_; intro e w3 hp; obtain ⟨A, cq, rfl, ho3, hW⟩ := (work_end s hG0 ZB.out hRw ZR.out hp).2 _ _ HPS.out; obtain ⟨t0, ft0⟩ := ho3.cells; have HW := hide hW; clear hW hp ho3)
        go_end0
        exact HW.out
    refine AllReadyH.cons rfl (fun K hK => ?_) AllReadyH.nil
    go_simp
    have HB4_8 : Hid (RB w (w1.alloc (.cells #[.slice none 0 0, .int .i64 0] 36)) Bs G0 s) := (HB1.out).alloc (.cells #[.slice none 0 0, .int .i64 0] 36)
    have HO4_8 := hide ((HO1.out).alloc (.cells #[.slice none 0 0, .int .i64 0] 36))
    have HR4_n8 : Hid (BlkAt (w1.alloc (.cells #[.slice none 0 0, .int .i64 0] 36)) (w1.heap.size) (.cells #[.slice none 0 0, .int .i64 0] 36)) := by have := BlkAt.new w1 (.cells #[.slice none 0 0, .int .i64 0] 36); simpa [Hid] using this
    have HN4 : Hid (some (w1.heap.size) ≠ Value.ownBlock v4) := fun e => by have h9 := ((HO1.out).lt _ e.symm).2; first | omega | (simp at h9; done) | (simp at h9; omega)
    refine hK.out _ _ (HB4_8.out.sb.cells.1) (fun hHeld4_8 => ?_)
    clear hK K
    try simp only [Act.put, List.setIfInBounds_toArray, List.set_cons_zero, List.set_cons_succ]
    refine wpAnyH_ready (rs := [5]) (by kernel_rfl) (by simp) ?_
    refine AllReadyH.cons rfl (fun K hK => ?_) AllReadyH.nil
    go_simp
    have HB4_5 : Hid (RB w ((w1.alloc (.cells #[.slice none 0 0, .int .i64 0] 36)).alloc (.cells #[.string ⟨#[]⟩, .int .i64 (s.size : Int)] 34)) Bs G0 s) := (HB4_8.out).alloc (.cells #[.string ⟨#[]⟩, .int .i64 (s.size : Int)] 34)
    have HR4_5 := hide ((HR4_n8.out).alloc (.cells #[.string ⟨#[]⟩, .int .i64 (s.size : Int)] 34))
    have HO4_5 := hide ((HO4_8.out).alloc (.cells #[.string ⟨#[]⟩, .int .i64 (s.size : Int)] 34))
    have HK4_n5 : Hid (BlkAt ((w1.alloc (.cells #[.slice none 0 0, .int .i64 0] 36)).alloc (.cells #[.string ⟨#[]⟩, .int .i64 (s.size : Int)] 34)) (w1.heap.size + 1) (.cells #[.string ⟨#[]⟩, .int .i64 (s.size : Int)] 34)) := by have := BlkAt.new (w1.alloc (.cells #[.slice none 0 0, .int .i64 0] 36)) (.cells #[.string ⟨#[]⟩, .int .i64 (s.size : Int)] 34); simpa [Hid] using this
    refine hK.out _ _ (HB4_5.out.sb.cells.1) (fun hHeld4_5 => ?_)
    clear hK K
    try simp only [Act.put, List.setIfInBounds_toArray, List.set_cons_zero, List.set_cons_succ]
    refine wpAnyH_ready (rs := [6]) (by kernel_rfl) (by simp) ?_
    refine AllReadyH.cons rfl (fun K hK => ?_) AllReadyH.nil
    refine step_append_lies _ (by rfl) _ _ _ (by rfl) w.heap.size 34 i0 _ 2 24 Tryz.underlying31 HI.out HI0.out HI1.out HI2.out rfl (by omega) _ _ _ (by rfl) (HO4_5.out) ⟨w1.heap.size + 1, 0, none⟩ 1 1 [.string ⟨#[]⟩, .int .i64 (s.size : Int)] (by rfl) (by rfl) (World.news_of_block (cs := #[.string ⟨#[]⟩, .int .i64 (s.size : Int)]) (HK4_n5.out)) (by intro u hu; simp at hu; rcases hu with rfl | rfl <;> rfl) (by omega) (by unfold maxLen; omega) (by omega) (HB4_5.out).bw.size (w1.heap.size + 2) (by simp) ?_
    intro g cap w2 hown hgrow hat hlt
    have hrow : ∀ x, Value.ownBlock v4 = some x → w.heap.size ≤ x := fun x e => ((HO4_5.out).lt x e).1
    have HB2 := hide ((HB4_5.out).grown hgrow hrow hBs hG0)
    have HO2 := hide hown
    have HR2 := hide ((HR4_5.out).grown hgrow (HN4.out))
    have HN2 : Hid (some (w1.heap.size) ≠ Value.ownBlock (.slice (some ⟨g, 0, none⟩) (N + 1) cap)) := fun e => by
        have h7 : w1.heap.size = g := by simpa [Value.ownBlock] using e
        rcases hat with h8 | h8
        · rw [← h7] at h8; exact (HN4.out) h8.symm
        · have h9 := (HR4_5.out).lt; first | omega | (simp at h9; done) | (simp at h9; omega)
    clear hown hgrow hat
    refine hK.out _ _ (HB2.out.sb.cells.1) (fun hHeld4_6 => ?_)
    clear hK K
    try simp only [Act.put, List.setIfInBounds_toArray]
    refine wpAnyH_take (i := 7) (v := ?zv11) rfl (by kernel_rfl) (by kernel_rfl) (by kernel_rfl) (fun _ _ _ h => h) (Or.inl ⟨by kernel_rfl, ?zy11⟩) (by assumption) ?_
    case zy11 => (intro wz hSw; (try dsimp only at hSw); go_simp; try with_reducible rfl)
    try simp only [Act.put]
    refine wpAnyH_ready (rs := [9]) (by kernel_rfl) (by simp) ?_
    refine AllReadyH.cons rfl (fun K hK => ?_) AllReadyH.nil
    obtain ⟨⟨m0, m1⟩, fm0, fm1⟩ := TwoAt.cells (t := 36) (HR2.out)
    go_simp
    have hRw : w.heap.size ≤ w1.heap.size := by have := HB1.out.bw.size; omega
    have ZG := hide (TwoAt.out (w := w2) (b := w1.heap.size) (.slice (some ⟨g, 0, none⟩) (N + 1) cap) (.int .i64 0))
    have ZT := hide (TwoAt.put (t := 36) (HR2.out) (.slice (some ⟨g, 0, none⟩) (N + 1) cap) (.int .i64 0))
    have ZB := hide (HB2.out.grown ZG.out (fun x e => by cases e; exact hRw) hBs hG0)
    have ZO := hide (HO2.out.kept ZG.out (.inr (fun e => (HN2.out) e.symm)))
    have hgr : g ≠ w1.heap.size := fun e => (HN2.out) (by rw [e]; rfl)
    have ZR := hide (HRD.out _ (w1.heap.size) g cap w.heap.size ZO.out hgr ZT.out)
    obtain ⟨Wf, hWf⟩ : ∃ Wf, Wf = ((w2.setCell ⟨w1.heap.size, 0, none⟩ (.slice (some ⟨g, 0, none⟩) (N + 1) cap)).setCell ⟨w1.heap.size, 1, none⟩ (.int .i64 0)) := ⟨_, rfl⟩
    rw [← hWf] at ZB ZR ⊢
    clear hWf ZT ZO m0 m1 fm0 fm1 ZG
    refine hK.out _ _ (ZB.out.sb.cells.1) (fun hHeldZ => ?_)
    clear hK K
    refine wpAnyH_done (by kernel_rfl) ?_ _
    rcases (progS (toksOf s)).split with ⟨Tp, kp, hps⟩ | ⟨fs, jp, hps⟩
    · have HPS := hide hps
      clear hps
      go_wp2_with (go_at_call 10; refine (tProgram HOK.out ZR.out).mono ?_; intro e w3 hp; obtain ⟨he, hW⟩ := (work_end s hG0 ZB.out hRw ZR.out hp).1 _ _ HPS.out; unfold thrown faultV at he; subst he; have HW := hide hW; clear hW hp)
      exact ⟨rfl, HW.out⟩
    · have HPS := hide hps
      clear hps
      go_wp2_with (go_at_call 10; refine (tProgram HOK.out ZR.out).mono ?_; intro e w3 hp; obtain ⟨A, cq, rfl, ho3, hW⟩ := (work_end s hG0 ZB.out hRw ZR.out hp).2 _ _ HPS.out; obtain ⟨t0, ft0⟩ := ho3.cells; have HW := hide hW; clear hW hp ho3)
      go_end0
      exact HW.out
  refine AllReadyH.cons rfl (fun K hK => ?_) ?_
  · go_simp
    have HB2_5 : Hid (RB w (w.alloc (.cells #[.string ⟨#[]⟩, .int .i64 (s.size : Int)] 34)) Bs G0 s) := (HB.out).alloc (.cells #[.string ⟨#[]⟩, .int .i64 (s.size : Int)] 34)
    have HK2_n5 : Hid (BlkAt (w.alloc (.cells #[.string ⟨#[]⟩, .int .i64 (s.size : Int)] 34)) (w.heap.size) (.cells #[.string ⟨#[]⟩, .int .i64 (s.size : Int)] 34)) := by have := BlkAt.new w (.cells #[.string ⟨#[]⟩, .int .i64 (s.size : Int)] 34); simpa [Hid] using this
    refine hK.out _ _ (HB2_5.out.sb.cells.1) (fun hHeld2_5 => ?_)
    clear hK K
    try simp only [Act.put, List.setIfInBounds_toArray, List.set_cons_zero, List.set_cons_succ]
    refine wpAnyH_ready (rs := [1, 8]) (by kernel_rfl) (by simp) ?_
    refine AllReadyH.cons rfl (fun K hK => ?_) ?_
    · go_simp
      refine (HS.out _ (RB.drew (HB2_5.out)).bw).mono ?_
      rintro e w1 ⟨hb1, v4, rfl, hown⟩
      have HB1 := hide ((RB.drew (HB2_5.out)).below hb1)
      have hz1 : w.heap.size + 1 ≤ w1.heap.size := by have := hb1.size; first | exact this | simpa using this
      have HK1 := hide ((BlkAt.drew (HK2_n5.out)).below hb1)
      have HO1 := hide (own_base (B' := w.heap.size) hown (by have := (HB2_5.out).bw.size; first | omega | (simp at this ⊢; done) | (simp at this ⊢; omega)))
      clear hb1 hown
      refine hK.out _ _ (HB1.out.sb.cells.1) (fun hHeld4_1 => ?_)
      clear hK K
      try simp only [Act.put, List.setIfInBounds_toArray, List.set_cons_zero, List.set_cons_succ]
      refine wpAnyH_ready (rs := [6, 8]) (by kernel_rfl) (by simp) ?_
      refine AllReadyH.cons rfl (fun K hK => ?_) ?_
      · refine step_append_lies _ (by rfl) _ _ _ (by rfl) w.heap.size 34 i0 _ 2 24 Tryz.underlying31 HI.out HI0.out HI1.out HI2.out rfl (by omega) _ _ _ (by rfl) (HO1.out) ⟨w.heap.size, 0, none⟩ 1 1 [.string ⟨#[]⟩, .int .i64 (s.size : Int)] (by rfl) (by rfl) (World.news_of_block (cs := #[.string ⟨#[]⟩, .int .i64 (s.size : Int)]) (HK1.out)) (by intro u hu; simp at hu; rcases hu with rfl | rfl <;> rfl) (by omega) (by unfold maxLen; omega) (by omega) (HB1.out).bw.size (w1.heap.size) (by simp) ?_
        intro g cap w2 hown hgrow hat hlt
        have hrow : ∀ x, Value.ownBlock v4 = some x → w.heap.size ≤ x := fun x e => ((HO1.out).lt x e).1
        have HB2 := hide ((HB1.out).grown hgrow hrow hBs hG0)
        have HO2 := hide hown
        clear hown hgrow hat
        refine hK.out _ _ (HB2.out.sb.cells.1) (fun hHeld6_6 => ?_)
        clear hK K
        try simp only [Act.put, List.setIfInBounds_toArray]
        refine wpAnyH_take (i := 7) (v := ?zv12) rfl (by kernel_rfl) (by kernel_rfl) (by kernel_rfl) (fun _ _ _ h => h) (Or.inl ⟨by kernel_rfl, ?zy12⟩) (by assumption) ?_
        case zy12 => (intro wz hSw; (try dsimp only at hSw); go_simp; try with_reducible rfl)
        try simp only [Act.put]
        refine wpAnyH_ready (rs := [8]) (by kernel_rfl) (by simp) ?_
        refine AllReadyH.cons rfl (fun K hK => ?_) AllReadyH.nil
        go_simp
        have HB8_8 : Hid (RB w (w2.alloc (.cells #[.slice none 0 0, .int .i64 0] 36)) Bs G0 s) := (HB2.out).alloc (.cells #[.slice none 0 0, .int .i64 0] 36)
        have HO8_8 := hide ((HO2.out).alloc (.cells #[.slice none 0 0, .int .i64 0] 36))
        have HR8_n8 : Hid (BlkAt (w2.alloc (.cells #[.slice none 0 0, .int .i64 0] 36)) (w2.heap.size) (.cells #[.slice none 0 0, .int .i64 0] 36)) := by have := BlkAt.new w2 (.cells #[.slice none 0 0, .int .i64 0] 36); simpa [Hid] using this
        have HN8 : Hid (some (w2.heap.size) ≠ Value.ownBlock (.slice (some ⟨g, 0, none⟩) (N + 1) cap)) := fun e => by have h9 := ((HO2.out).lt _ e.symm).2; first | omega | (simp at h9; done) | (simp at h9; omega)
        refine hK.out _ _ (HB8_8.out.sb.cells.1) (fun hHeld8_8 => ?_)
        clear hK K
        try simp only [Act.put, List.setIfInBounds_toArray, List.set_cons_zero, List.set_cons_succ]
        refine wpAnyH_ready (rs := [9]) (by kernel_rfl) (by simp) ?_
        refine AllReadyH.cons rfl (fun K hK => ?_) AllReadyH.nil
        obtain ⟨⟨m0, m1⟩, fm0, fm1⟩ := TwoAt.cells (t := 36) (HR8_n8.out)
        go_simp
        have ZT : Hid (TwoAt 36 (w2.alloc (.cells #[.slice (some ⟨g, 0, none⟩) (N + 1) cap, .int .i64 0] 36)) w2.heap.size (.slice (some ⟨g, 0, none⟩) (N + 1) cap) (.int .i64 0)) := TwoAt.new _ w2 _ _
        have ZB : Hid (RB w (w2.alloc (.cells #[.slice (some ⟨g, 0, none⟩) (N + 1) cap, .int .i64 0] 36)) Bs G0 s) := HB2.out.alloc _
        have ZO : Hid (((w2.alloc (.cells #[.slice (some ⟨g, 0, none⟩) (N + 1) cap, .int .i64 0] 36))).ownsRow w.heap.size 34 2 (.slice (some ⟨g, 0, none⟩) (N + 1) cap) (N + 1) (TR ++ [.string ⟨#[]⟩, .int .i64 (s.size : Int)])) := HO2.out.alloc _
        have hgr : g ≠ w2.heap.size := by have := (HO2.out.lt g rfl).2; omega
        have hRw : w.heap.size ≤ w2.heap.size := HB2.out.bw.size
        have ZR := hide (HRD.out _ (w2.heap.size) g cap w.heap.size ZO.out hgr ZT.out)
        obtain ⟨Wf, hWf⟩ : ∃ Wf, Wf = (w2.alloc (.cells #[.slice (some ⟨g, 0, none⟩) (N + 1) cap, .int .i64 0] 36)) := ⟨_, rfl⟩
        rw [← hWf] at ZB ZR ⊢
        clear hWf ZT ZO m0 m1 fm0 fm1
        refine hK.out _ _ (ZB.out.sb.cells.1) (fun hHeldZ => ?_)
        clear hK K
        refine wpAnyH_done (by kernel_rfl) ?_ _
        rcases (progS (toksOf s)).split with ⟨Tp, kp, hps⟩ | ⟨fs, jp, hps⟩
        · have HPS := hide hps
          clear hps
          go_wp2_with (go_at_call 10; refine (tProgram HOK.out ZR.out).mono ?_; intro e w3 hp; obtain ⟨he, hW⟩ := (work_end s hG0 ZB.out hRw ZR.out hp).1 _ _ HPS.out; unfold thrown faultV at he; subst he; have HW := hide hW; clear hW hp)
          exact ⟨rfl, HW.out⟩
        · have HPS := hide hps
          clear hps
          go_wp2_with (go_at_call 10; refine (tProgram HOK.out ZR.out).mono ?_; intro e w3 hp; obtain ⟨A, cq, rfl, ho3, hW⟩ := (work_end s hG0 ZB.out hRw ZR.out hp).2 _ _ HPS.out; obtain ⟨t0, ft0⟩ := ho3.cells; have HW := hide hW; clear hW hp ho3)
          go_end0
          exact HW.out
      refine AllReadyH.cons rfl (fun K hK => ?_) AllReadyH.nil
      go_simp
      have HB6_8 : Hid (RB w (w1.alloc (.cells #[.slice none 0 0, .int .i64 0] 36)) Bs G0 s) := (HB1.out).alloc (.cells #[.slice none 0 0, .int .i64 0] 36)
      have HK6_8 := hide ((HK1.out).alloc (.cells #[.slice none 0 0, .int .i64 0] 36))
      have HO6_8 := hide ((HO1.out).alloc (.cells #[.slice none 0 0, .int .i64 0] 36))
      have HR6_n8 : Hid (BlkAt (w1.alloc (.cells #[.slice none 0 0, .int .i64 0] 36)) (w1.heap.size) (.cells #[.slice none 0 0, .int .i64 0] 36)) := by have := BlkAt.new w1 (.cells #[.slice none 0 0, .int .i64 0] 36); simpa [Hid] using this
      have HN6 : Hid (some (w1.heap.size) ≠ Value.ownBlock v4) := fun e => by have h9 := ((HO1.out).lt _ e.symm).2; first | omega | (simp at h9; done) | (simp at h9; omega)
      refine hK.out _ _ (HB6_8.out.sb.cells.1) (fun hHeld6_8 => ?_)
      clear hK K
      try simp only [Act.put, List.setIfInBounds_toArray, List.set_cons_zero, List.set_cons_succ]
      refine wpAnyH_ready (rs := [6]) (by kernel_rfl) (by simp) ?_
      refine AllReadyH.cons rfl (fun K hK => ?_) AllReadyH.nil
      refine step_append_lies _ (by rfl) _ _ _ (by rfl) w.heap.size 34 i0 _ 2 24 Tryz.underlying31 HI.out HI0.out HI1.out HI2.out rfl (by omega) _ _ _ (by rfl) (HO6_8.out) ⟨w.heap.size, 0, none⟩ 1 1 [.string ⟨#[]⟩, .int .i64 (s.size : Int)] (by rfl) (by rfl) (World.news_of_block (cs := #[.string ⟨#[]⟩, .int .i64 (s.size : Int)]) (HK6_8.out)) (by intro u hu; simp at hu; rcases hu with rfl | rfl <;> rfl) (by omega) (by unfold maxLen; omega) (by omega) (HB6_8.out).bw.size (w1.heap.size + 1) (by simp) ?_
      intro g cap w2 hown hgrow hat hlt
      have hrow : ∀ x, Value.ownBlock v4 = some x → w.heap.size ≤ x := fun x e => ((HO6_8.out).lt x e).1
      have HB2 := hide ((HB6_8.out).grown hgrow hrow hBs hG0)
      have HO2 := hide hown
      have HR2 := hide ((HR6_n8.out).grown hgrow (HN6.out))
      have HN2 : Hid (some (w1.heap.size) ≠ Value.ownBlock (.slice (some ⟨g, 0, none⟩) (N + 1) cap)) := fun e => by
          have h7 : w1.heap.size = g := by simpa [Value.ownBlock] using e
          rcases hat with h8 | h8
          · rw [← h7] at h8; exact (HN6.out) h8.symm
          · have h9 := (HR6_n8.out).lt; first | omega | (simp at h9; done) | (simp at h9; omega)
      clear hown hgrow hat
      refine hK.out _ _ (HB2.out.sb.cells.1) (fun hHeld6_6 => ?_)
      clear hK K
      try simp only [Act.put, List.setIfInBounds_toArray]
      refine wpAnyH_take (i := 7) (v := ?zv13) rfl (by kernel_rfl) (by kernel_rfl) (by kernel_rfl) (fun _ _ _ h => h) (Or.inl ⟨by kernel_rfl, ?zy13⟩) (by assumption) ?_
      case zy13 => (intro wz hSw; (try dsimp only at hSw); go_simp; try with_reducible rfl)
      try simp only [Act.put]
      refine wpAnyH_ready (rs := [9]) (by kernel_rfl) (by simp) ?_
      refine AllReadyH.cons rfl (fun K hK => ?_) AllReadyH.nil
      obtain ⟨⟨m0, m1⟩, fm0, fm1⟩ := TwoAt.cells (t := 36) (HR2.out)
      go_simp
      have hRw : w.heap.size ≤ w1.heap.size := by have := HB1.out.bw.size; omega
      have ZG := hide (TwoAt.out (w := w2) (b := w1.heap.size) (.slice (some ⟨g, 0, none⟩) (N + 1) cap) (.int .i64 0))
      have ZT := hide (TwoAt.put (t := 36) (HR2.out) (.slice (some ⟨g, 0, none⟩) (N + 1) cap) (.int .i64 0))
      have ZB := hide (HB2.out.grown ZG.out (fun x e => by cases e; exact hRw) hBs hG0)
      have ZO := hide (HO2.out.kept ZG.out (.inr (fun e => (HN2.out) e.symm)))
      have hgr : g ≠ w1.heap.size := fun e => (HN2.out) (by rw [e]; rfl)
      have ZR := hide (HRD.out _ (w1.heap.size) g cap w.heap.size ZO.out hgr ZT.out)
      obtain ⟨Wf, hWf⟩ : ∃ Wf, Wf = ((w2.setCell ⟨w1.heap.size, 0, none⟩ (.slice (some ⟨g, 0, none⟩) (N + 1) cap)).setCell ⟨w1.heap.size, 1, none⟩ (.int .i64 0)) := ⟨_, rfl⟩
      rw [← hWf] at ZB ZR ⊢
      clear hWf ZT ZO m0 m1 fm0 fm1 ZG
      refine hK.out _ _ (ZB.out.sb.cells.1) (fun hHeldZ => ?_)
      clear hK K
      refine wpAnyH_done (by kernel_rfl) ?_ _
      rcases (progS (toksOf s)).split with ⟨Tp, kp, hps⟩ | ⟨fs, jp, hps⟩
      · have HPS := hide hps
        clear hps
        go_wp2_with (go_at_call 10; refine (tProgram HOK.out ZR.out).mono ?_; intro e w3 hp; obtain ⟨he, hW⟩ := (work_end s hG0 ZB.out hRw ZR.out hp).1 _ _ HPS.out; unfold thrown faultV at he; subst he; have HW := hide hW; clear hW hp)
        exact ⟨rfl, HW.out⟩
      · have HPS := hide hps
        clear hps
        go_wp2_with (go_at_call 10; refine (tProgram HOK.out ZR.out).mono ?_; intro e w3 hp; obtain ⟨A, cq, rfl, ho3, hW⟩ := (work_end s hG0 ZB.out hRw ZR.out hp).2 _ _ HPS.out; obtain ⟨t0, ft0⟩ := ho3.cells; have HW := hide hW; clear hW hp ho3)
        go_end0
        exact HW.out
    refine AllReadyH.cons rfl (fun K hK => ?_) AllReadyH.nil
    go_simp
    have HB4_8 : Hid (RB w ((w.alloc (.cells #[.string ⟨#[]⟩, .int .i64 (s.size : Int)] 34)).alloc (.cells #[.slice none 0 0, .int .i64 0] 36)) Bs G0 s) := (HB2_5.out).alloc (.cells #[.slice none 0 0, .int .i64 0] 36)
    have HK4_8 := hide ((HK2_n5.out).alloc (.cells #[.slice none 0 0, .int .i64 0] 36))
    have HR4_n8 : Hid (BlkAt ((w.alloc (.cells #[.string ⟨#[]⟩, .int .i64 (s.size : Int)] 34)).alloc (.cells #[.slice none 0 0, .int .i64 0] 36)) (w.heap.size + 1) (.cells #[.slice none 0 0, .int .i64 0] 36)) := by have := BlkAt.new (w.alloc (.cells #[.string ⟨#[]⟩, .int .i64 (s.size : Int)] 34)) (.cells #[.slice none 0 0, .int .i64 0] 36); simpa [Hid] using this
    refine hK.out _ _ (HB4_8.out.sb.cells.1) (fun hHeld4_8 => ?_)
    clear hK K
    try simp only [Act.put, List.setIfInBounds_toArray, List.set_cons_zero, List.set_cons_succ]
    refine wpAnyH_ready (rs := [1]) (by kernel_rfl) (by simp) ?_
    refine AllReadyH.cons rfl (fun K hK => ?_) AllReadyH.nil
    go_simp
    refine (HS.out _ (RB.drew (HB4_8.out)).bw).mono ?_
    rintro e w1 ⟨hb1, v4, rfl, hown⟩
    have HB1 := hide ((RB.drew (HB4_8.out)).below hb1)
    have hz1 : w.heap.size + 2 ≤ w1.heap.size := by have := hb1.size; first | exact this | simpa using this
    have HK1 := hide ((BlkAt.drew (HK4_8.out)).below hb1)
    have HR1 := hide ((BlkAt.drew (HR4_n8.out)).below hb1)
    have HN1 : Hid (some (w.heap.size + 1) ≠ Value.ownBlock v4) := fun e => by have h9 := (hown.lt _ e.symm).1; have h8 := (HR4_n8.out).lt; first | omega | (simp at h9 h8; omega) | (simp at h9; omega) | (simp at h8; omega)
    have HO1 := hide (own_base (B' := w.heap.size) hown (by have := (HB4_8.out).bw.size; first | omega | (simp at this ⊢; done) | (simp at this ⊢; omega)))
    clear hb1 hown
    refine hK.out _ _ (HB1.out.sb.cells.1) (fun hHeld4_1 => ?_)
    clear hK K
    try simp only [Act.put, List.setIfInBounds_toArray, List.set_cons_zero, List.set_cons_succ]
    refine wpAnyH_ready (rs := [6]) (by kernel_rfl) (by simp) ?_
    refine AllReadyH.cons rfl (fun K hK => ?_) AllReadyH.nil
    refine step_append_lies _ (by rfl) _ _ _ (by rfl) w.heap.size 34 i0 _ 2 24 Tryz.underlying31 HI.out HI0.out HI1.out HI2.out rfl (by omega) _ _ _ (by rfl) (HO1.out) ⟨w.heap.size, 0, none⟩ 1 1 [.string ⟨#[]⟩, .int .i64 (s.size : Int)] (by rfl) (by rfl) (World.news_of_block (cs := #[.string ⟨#[]⟩, .int .i64 (s.size : Int)]) (HK1.out)) (by intro u hu; simp at hu; rcases hu with rfl | rfl <;> rfl) (by omega) (by unfold maxLen; omega) (by omega) (HB1.out).bw.size (w1.heap.size) (by simp) ?_
    intro g cap w2 hown hgrow hat hlt
    have hrow : ∀ x, Value.ownBlock v4 = some x → w.heap.size ≤ x := fun x e => ((HO1.out).lt x e).1
    have HB2 := hide ((HB1.out).grown hgrow hrow hBs hG0)
    have HO2 := hide hown
    have HR2 := hide ((HR1.out).grown hgrow (HN1.out))
    have HN2 : Hid (some (w.heap.size + 1) ≠ Value.ownBlock (.slice (some ⟨g, 0, none⟩) (N + 1) cap)) := fun e => by
        have h7 : w.heap.size + 1 = g := by simpa [Value.ownBlock] using e
        rcases hat with h8 | h8
        · rw [← h7] at h8; exact (HN1.out) h8.symm
        · have h9 := (HR1.out).lt; first | omega | (simp at h9; done) | (simp at h9; omega)
    clear hown hgrow hat
    refine hK.out _ _ (HB2.out.sb.cells.1) (fun hHeld4_6 => ?_)
    clear hK K
    try simp only [Act.put, List.setIfInBounds_toArray]
    refine wpAnyH_take (i := 7) (v := ?zv14) rfl (by kernel_rfl) (by kernel_rfl) (by kernel_rfl) (fun _ _ _ h => h) (Or.inl ⟨by kernel_rfl, ?zy14⟩) (by assumption) ?_
    case zy14 => (intro wz hSw; (try dsimp only at hSw); go_simp; try with_reducible rfl)
    try simp only [Act.put]
    refine wpAnyH_ready (rs := [9]) (by kernel_rfl) (by simp) ?_
    refine AllReadyH.cons rfl (fun K hK => ?_) AllReadyH.nil
    obtain ⟨⟨m0, m1⟩, fm0, fm1⟩ := TwoAt.cells (t := 36) (HR2.out)
    go_simp
    have hRw : w.heap.size ≤ w.heap.size + 1 := by omega
    have ZG := hide (TwoAt.out (w := w2) (b := w.heap.size + 1) (.slice (some ⟨g, 0, none⟩) (N + 1) cap) (.int .i64 0))
    have ZT := hide (TwoAt.put (t := 36) (HR2.out) (.slice (some ⟨g, 0, none⟩) (N + 1) cap) (.int .i64 0))
    have ZB := hide (HB2.out.grown ZG.out (fun x e => by cases e; exact hRw) hBs hG0)
    have ZO := hide (HO2.out.kept ZG.out (.inr (fun e => (HN2.out) e.symm)))
    have hgr : g ≠ w.heap.size + 1 := fun e => (HN2.out) (by rw [e]; rfl)
    have ZR := hide (HRD.out _ (w.heap.size + 1) g cap w.heap.size ZO.out hgr ZT.out)
    obtain ⟨Wf, hWf⟩ : ∃ Wf, Wf = ((w2.setCell ⟨w.heap.size + 1, 0, none⟩ (.slice (some ⟨g, 0, none⟩) (N + 1) cap)).setCell ⟨w.heap.size + 1, 1, none⟩ (.int .i64 0)) := ⟨_, rfl⟩
    rw [← hWf] at ZB ZR ⊢
    clear hWf ZT ZO m0 m1 fm0 fm1 ZG
    refine hK.out _ _ (ZB.out.sb.cells.1) (fun hHeldZ => ?_)
    clear hK K
    refine wpAnyH_done (by kernel_rfl) ?_ _
    rcases (progS (toksOf s)).split with ⟨Tp, kp, hps⟩ | ⟨fs, jp, hps⟩
    · have HPS := hide hps
      clear hps
      go_wp2_with (go_at_call 10; refine (tProgram HOK.out ZR.out).mono ?_; intro e w3 hp; obtain ⟨he, hW⟩ := (work_end s hG0 ZB.out hRw ZR.out hp).1 _ _ HPS.out; unfold thrown faultV at he; subst he; have HW := hide hW; clear hW hp)
      exact ⟨rfl, HW.out⟩
    · have HPS := hide hps
      clear hps
      go_wp2_with (go_at_call 10; refine (tProgram HOK.out ZR.out).mono ?_; intro e w3 hp; obtain ⟨A, cq, rfl, ho3, hW⟩ := (work_end s hG0 ZB.out hRw ZR.out hp).2 _ _ HPS.out; obtain ⟨t0, ft0⟩ := ho3.cells; have HW := hide hW; clear hW hp ho3)
      go_end0
      exact HW.out
  refine AllReadyH.cons rfl (fun K hK => ?_) AllReadyH.nil
  go_simp
  have HB2_8 : Hid (RB w (w.alloc (.cells #[.slice none 0 0, .int .i64 0] 36)) Bs G0 s) := (HB.out).alloc (.cells #[.slice none 0 0, .int .i64 0] 36)
  have HR2_n8 : Hid (BlkAt (w.alloc (.cells #[.slice none 0 0, .int .i64 0] 36)) (w.heap.size) (.cells #[.slice none 0 0, .int .i64 0] 36)) := by have := BlkAt.new w (.cells #[.slice none 0 0, .int .i64 0] 36); simpa [Hid] using this
  refine hK.out _ _ (HB2_8.out.sb.cells.1) (fun hHeld2_8 => ?_)
  clear hK K
  try simp only [Act.put, List.setIfInBounds_toArray, List.set_cons_zero, List.set_cons_succ]
  refine wpAnyH_ready (rs := [1, 5]) (by kernel_rfl) (by simp) ?_
  refine AllReadyH.cons rfl (fun K hK => ?_) ?_
  · go_simp
    refine (HS.out _ (RB.drew (HB2_8.out)).bw).mono ?_
    rintro e w1 ⟨hb1, v4, rfl, hown⟩
    have HB1 := hide ((RB.drew (HB2_8.out)).below hb1)
    have hz1 : w.heap.size + 1 ≤ w1.heap.size := by have := hb1.size; first | exact this | simpa using this
    have HR1 := hide ((BlkAt.drew (HR2_n8.out)).below hb1)
    have HN1 : Hid (some (w.heap.size) ≠ Value.ownBlock v4) := fun e => by have h9 := (hown.lt _ e.symm).1; have h8 := (HR2_n8.out).lt; first | omega | (simp at h9 h8; omega) | (simp at h9; omega) | (simp at h8; omega)
    have HO1 := hide (own_base (B' := w.heap.size) hown (by have := (HB2_8.out).bw.size; first | omega | (simp at this ⊢; done) | (simp at this ⊢; omega)))
    clear hb1 hown
    refine hK.out _ _ (HB1.out.sb.cells.1) (fun hHeld2_1 => ?_)
    clear hK K
    try simp only [Act.put, List.setIfInBounds_toArray, List.set_cons_zero, List.set_cons_succ]
    refine wpAnyH_ready (rs := [5]) (by kernel_rfl) (by simp) ?_
    refine AllReadyH.cons rfl (fun K hK => ?_) AllReadyH.nil
    go_simp
    have HB4_5 : Hid (RB w (w1.alloc (.cells #[.string ⟨#[]⟩, .int .i64 (s.size : Int)] 34)) Bs G0 s) := (HB1.out).alloc (.cells #[.string ⟨#[]⟩, .int .i64 (s.size : Int)] 34)
    have HR4_5 := hide ((HR1.out).alloc (.cells #[.string ⟨#[]⟩, .int .i64 (s.size : Int)] 34))
    have HO4_5 := hide ((HO1.out).alloc (.cells #[.string ⟨#[]⟩, .int .i64 (s.size : Int)] 34))
    have HK4_n5 : Hid (BlkAt (w1.alloc (.cells #[.string ⟨#[]⟩, .int .i64 (s.size : Int)] 34)) (w1.heap.size) (.cells #[.string ⟨#[]⟩, .int .i64 (s.size : Int)] 34)) := by have := BlkAt.new w1 (.cells #[.string ⟨#[]⟩, .int .i64 (s.size : Int)] 34); simpa [Hid] using this
    refine hK.out _ _ (HB4_5.out.sb.cells.1) (fun hHeld4_5 => ?_)
    clear hK K
    try simp only [Act.put, List.setIfInBounds_toArray, List.set_cons_zero, List.set_cons_succ]
    refine wpAnyH_ready (rs := [6]) (by kernel_rfl) (by simp) ?_
    refine AllReadyH.cons rfl (fun K hK => ?_) AllReadyH.nil
    refine step_append_lies _ (by rfl) _ _ _ (by rfl) w.heap.size 34 i0 _ 2 24 Tryz.underlying31 HI.out HI0.out HI1.out HI2.out rfl (by omega) _ _ _ (by rfl) (HO4_5.out) ⟨w1.heap.size, 0, none⟩ 1 1 [.string ⟨#[]⟩, .int .i64 (s.size : Int)] (by rfl) (by rfl) (World.news_of_block (cs := #[.string ⟨#[]⟩, .int .i64 (s.size : Int)]) (HK4_n5.out)) (by intro u hu; simp at hu; rcases hu with rfl | rfl <;> rfl) (by omega) (by unfold maxLen; omega) (by omega) (HB4_5.out).bw.size (w1.heap.size + 1) (by simp) ?_
    intro g cap w2 hown hgrow hat hlt
    have hrow : ∀ x, Value.ownBlock v4 = some x → w.heap.size ≤ x := fun x e => ((HO4_5.out).lt x e).1
    have HB2 := hide ((HB4_5.out).grown hgrow hrow hBs hG0)
    have HO2 := hide hown
    have HR2 := hide ((HR4_5.out).grown hgrow (HN1.out))
    have HN2 : Hid (some (w.heap.size) ≠ Value.ownBlock (.slice (some ⟨g, 0, none⟩) (N + 1) cap)) := fun e => by
        have h7 : w.heap.size = g := by simpa [Value.ownBlock] using e
        rcases hat with h8 | h8
        · rw [← h7] at h8; exact (HN1.out) h8.symm
        · have h9 := (HR4_5.out).lt; first | omega | (simp at h9; done) | (simp at h9; omega)
    clear hown hgrow hat
    refine hK.out _ _ (HB2.out.sb.cells.1) (fun hHeld4_6 => ?_)
    clear hK K
    try simp only [Act.put, List.setIfInBounds_toArray]
    refine wpAnyH_take (i := 7) (v := ?zv15) rfl (by kernel_rfl) (by kernel_rfl) (by kernel_rfl) (fun _ _ _ h => h) (Or.inl ⟨by kernel_rfl, ?zy15⟩) (by assumption) ?_
    case zy15 => (intro wz hSw; (try dsimp only at hSw); go_simp; try with_reducible rfl)
    try simp only [Act.put]
    refine wpAnyH_ready (rs := [9]) (by kernel_rfl) (by simp) ?_
    refine AllReadyH.cons rfl (fun K hK => ?_) AllReadyH.nil
    obtain ⟨⟨m0, m1⟩, fm0, fm1⟩ := TwoAt.cells (t := 36) (HR2.out)
    go_simp
    have hRw : w.heap.size ≤ w.heap.size := by omega
    have ZG := hide (TwoAt.out (w := w2) (b := w.heap.size) (.slice (some ⟨g, 0, none⟩) (N + 1) cap) (.int .i64 0))
    have ZT := hide (TwoAt.put (t := 36) (HR2.out) (.slice (some ⟨g, 0, none⟩) (N + 1) cap) (.int .i64 0))
    have ZB := hide (HB2.out.grown ZG.out (fun x e => by cases e; exact hRw) hBs hG0)
    have ZO := hide (HO2.out.kept ZG.out (.inr (fun e => (HN2.out) e.symm)))
    have hgr : g ≠ w.heap.size := fun e => (HN2.out) (by rw [e]; rfl)
    have ZR := hide (HRD.out _ (w.heap.size) g cap w.heap.size ZO.out hgr ZT.out)
    obtain ⟨Wf, hWf⟩ : ∃ Wf, Wf = ((w2.setCell ⟨w.heap.size, 0, none⟩ (.slice (some ⟨g, 0, none⟩) (N + 1) cap)).setCell ⟨w.heap.size, 1, none⟩ (.int .i64 0)) := ⟨_, rfl⟩
    rw [← hWf] at ZB ZR ⊢
    clear hWf ZT ZO m0 m1 fm0 fm1 ZG
    refine hK.out _ _ (ZB.out.sb.cells.1) (fun hHeldZ => ?_)
    clear hK K
    refine wpAnyH_done (by kernel_rfl) ?_ _
    rcases (progS (toksOf s)).split with ⟨Tp, kp, hps⟩ | ⟨fs, jp, hps⟩
    · have HPS := hide hps
      clear hps
      go_wp2_with (go_at_call 10; refine (tProgram HOK.out ZR.out).mono ?_; intro e w3 hp; obtain ⟨he, hW⟩ := (work_end s hG0 ZB.out hRw ZR.out hp).1 _ _ HPS.out; unfold thrown faultV at he; subst he; have HW := hide hW; clear hW hp)
      exact ⟨rfl, HW.out⟩
    · have HPS := hide hps
      clear hps
      go_wp2_with (go_at_call 10; refine (tProgram HOK.out ZR.out).mono ?_; intro e w3 hp; obtain ⟨A, cq, rfl, ho3, hW⟩ := (work_end s hG0 ZB.out hRw ZR.out hp).2 _ _ HPS.out; obtain ⟨t0, ft0⟩ := ho3.cells; have HW := hide hW; clear hW hp ho3)
      go_end0
      exact HW.out
  refine AllReadyH.cons rfl (fun K hK => ?_) AllReadyH.nil
  go_simp
  have HB2_5 : Hid (RB w ((w.alloc (.cells #[.slice none 0 0, .int .i64 0] 36)).alloc (.cells #[.string ⟨#[]⟩, .int .i64 (s.size : Int)] 34)) Bs G0 s) := (HB2_8.out).alloc (.cells #[.string ⟨#[]⟩, .int .i64 (s.size : Int)] 34)
  have HR2_5 := hide ((HR2_n8.out).alloc (.cells #[.string ⟨#[]⟩, .int .i64 (s.size : Int)] 34))
  have HK2_n5 : Hid (BlkAt ((w.alloc (.cells #[.slice none 0 0, .int .i64 0] 36)).alloc (.cells #[.string ⟨#[]⟩, .int .i64 (s.size : Int)] 34)) (w.heap.size + 1) (.cells #[.string ⟨#[]⟩, .int .i64 (s.size : Int)] 34)) := by have := BlkAt.new (w.alloc (.cells #[.slice none 0 0, .int .i64 0] 36)) (.cells #[.string ⟨#[]⟩, .int .i64 (s.size : Int)] 34); simpa [Hid] using this
  refine hK.out _ _ (HB2_5.out.sb.cells.1) (fun hHeld2_5 => ?_)
  clear hK K
  try simp only [Act.put, List.setIfInBounds_toArray, List.set_cons_zero, List.set_cons_succ]
  refine wpAnyH_ready (rs := [1]) (by kernel_rfl) (by simp) ?_
  refine AllReadyH.cons rfl (fun K hK => ?_) AllReadyH.nil
  go_simp
  refine (HS.out _ (RB.drew (HB2_5.out)).bw).mono ?_
  rintro e w1 ⟨hb1, v4, rfl, hown⟩
  have HB1 := hide ((RB.drew (HB2_5.out)).below hb1)
  have hz1 : w.heap.size + 2 ≤ w1.heap.size := by have := hb1.size; first | exact this | simpa using this
  have HK1 := hide ((BlkAt.drew (HK2_n5.out)).below hb1)
  have HR1 := hide ((BlkAt.drew (HR2_5.out)).below hb1)
  have HN1 : Hid (some (w.heap.size) ≠ Value.ownBlock v4) := fun e => by have h9 := (hown.lt _ e.symm).1; have h8 := (HR2_5.out).lt; first | omega | (simp at h9 h8; omega) | (simp at h9; omega) | (simp at h8; omega)
  have HO1 := hide (own_base (B' := w.heap.size) hown (by have := (HB2_5.out).bw.size; first | omega | (simp at this ⊢; done) | (simp at this ⊢; omega)))
  clear hb1 hown
  refine hK.out _ _ (HB1.out.sb.cells.1) (fun hHeld2_1 => ?_)
  clear hK K
  try simp only [Act.put, List.setIfInBounds_toArray, List.set_cons_zero, List.set_cons_succ]
  refine wpAnyH_ready (rs := [6]) (by kernel_rfl) (by simp) ?_
  refine AllReadyH.cons rfl (fun K hK => ?_) AllReadyH.nil
  refine step_append_lies _ (by rfl) _ _ _ (by rfl) w.heap.size 34 i0 _ 2 24 Tryz.underlying31 HI.out HI0.out HI1.out HI2.out rfl (by omega) _ _ _ (by rfl) (HO1.out) ⟨w.heap.size + 1, 0, none⟩ 1 1 [.string ⟨#[]⟩, .int .i64 (s.size : Int)] (by rfl) (by rfl) (World.news_of_block (cs := #[.string ⟨#[]⟩, .int .i64 (s.size : Int)]) (HK1.out)) (by intro u hu; simp at hu; rcases hu with rfl | rfl <;> rfl) (by omega) (by unfold maxLen; omega) (by omega) (HB1.out).bw.size (w1.heap.size) (by simp) ?_
  intro g cap w2 hown hgrow hat hlt
  have hrow : ∀ x, Value.ownBlock v4 = some x → w.heap.size ≤ x := fun x e => ((HO1.out).lt x e).1
  have HB2 := hide ((HB1.out).grown hgrow hrow hBs hG0)
  have HO2 := hide hown
  have HR2 := hide ((HR1.out).grown hgrow (HN1.out))
  have HN2 : Hid (some (w.heap.size) ≠ Value.ownBlock (.slice (some ⟨g, 0, none⟩) (N + 1) cap)) := fun e => by
      have h7 : w.heap.size = g := by simpa [Value.ownBlock] using e
      rcases hat with h8 | h8
      · rw [← h7] at h8; exact (HN1.out) h8.symm
      · have h9 := (HR1.out).lt; first | omega | (simp at h9; done) | (simp at h9; omega)
  clear hown hgrow hat
  refine hK.out _ _ (HB2.out.sb.cells.1) (fun hHeld2_6 => ?_)
  clear hK K
  try simp only [Act.put, List.setIfInBounds_toArray]
  refine wpAnyH_take (i := 7) (v := ?zv16) rfl (by kernel_rfl) (by kernel_rfl) (by kernel_rfl) (fun _ _ _ h => h) (Or.inl ⟨by kernel_rfl, ?zy16⟩) (by assumption) ?_
  case zy16 => (intro wz hSw; (try dsimp only at hSw); go_simp; try with_reducible rfl)
  try simp only [Act.put]
  refine wpAnyH_ready (rs := [9]) (by kernel_rfl) (by simp) ?_
  refine AllReadyH.cons rfl (fun K hK => ?_) AllReadyH.nil
  obtain ⟨⟨m0, m1⟩, fm0, fm1⟩ := TwoAt.cells (t := 36) (HR2.out)
  go_simp
  have hRw : w.heap.size ≤ w.heap.size := by omega
  have ZG := hide (TwoAt.out (w := w2) (b := w.heap.size) (.slice (some ⟨g, 0, none⟩) (N + 1) cap) (.int .i64 0))
  have ZT := hide (TwoAt.put (t := 36) (HR2.out) (.slice (some ⟨g, 0, none⟩) (N + 1) cap) (.int .i64 0))
  have ZB := hide (HB2.out.grown ZG.out (fun x e => by cases e; exact hRw) hBs hG0)
  have ZO := hide (HO2.out.kept ZG.out (.inr (fun e => (HN2.out) e.symm)))
  have hgr : g ≠ w.heap.size := fun e => (HN2.out) (by rw [e]; rfl)
  have ZR := hide (HRD.out _ (w.heap.size) g cap w.heap.size ZO.out hgr ZT.out)
  obtain ⟨Wf, hWf⟩ : ∃ Wf, Wf = ((w2.setCell ⟨w.heap.size, 0, none⟩ (.slice (some ⟨g, 0, none⟩) (N + 1) cap)).setCell ⟨w.heap.size, 1, none⟩ (.int .i64 0)) := ⟨_, rfl⟩
  rw [← hWf] at ZB ZR ⊢
  clear hWf ZT ZO m0 m1 fm0 fm1 ZG
  refine hK.out _ _ (ZB.out.sb.cells.1) (fun hHeldZ => ?_)
  clear hK K
  refine wpAnyH_done (by kernel_rfl) ?_ _
  rcases (progS (toksOf s)).split with ⟨Tp, kp, hps⟩ | ⟨fs, jp, hps⟩
  · have HPS := hide hps
    clear hps
    go_wp2_with (go_at_call 10; refine (tProgram HOK.out ZR.out).mono ?_; intro e w3 hp; obtain ⟨he, hW⟩ := (work_end s hG0 ZB.out hRw ZR.out hp).1 _ _ HPS.out; unfold thrown faultV at he; subst he; have HW := hide hW; clear hW hp)
    exact ⟨rfl, HW.out⟩
  · have HPS := hide hps
    clear hps
    go_wp2_with (go_at_call 10; refine (tProgram HOK.out ZR.out).mono ?_; intro e w3 hp; obtain ⟨A, cq, rfl, ho3, hW⟩ := (work_end s hG0 ZB.out hRw ZR.out hp).2 _ _ HPS.out; obtain ⟨t0, ft0⟩ := ho3.cells; have HW := hide hW; clear hW hp ho3)
    go_end0
    exact HW.out
end Go.Proofs.YtadhlnlcdljamaaGreatDoor.V
