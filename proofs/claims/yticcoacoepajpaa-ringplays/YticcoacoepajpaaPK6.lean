/-
  Contract: does a member expect a note?
-/
import Derived.Test.YticcoacoepajpaaPK5
namespace Go.Proofs.Yticcoacoepajpaa.V
open Go Go.RowKit
set_option linter.unusedVariables false
set_option linter.unusedSimpArgs false

/-- A note as a value. -/
def ntV (x : Nt) (s : Sl) : Value := .agg #[.int .i64 x.fr, .int .i64 x.to, .int .i64 x.st, .slice s.a s.n s.c]
theorem box_cell (W : World) (cur : Array Value) (ty : TypeId) (k : Nat) (v : Value) (h : cur[k]? = some v) : (W.alloc (.cells cur ty)).cell? ⟨W.heap.size, k, none⟩ = some v := by
  simp only [World.cell?, World.alloc_heap_new]
  exact h
set_option maxHeartbeats 1000000 in
theorem expects_a (g : Nat) (F : Nat → Prop) (d n me : Nat) (s : St) (G : Gh) (W : World) (h : MbAt W F g d n me s G) (hk : StOk d n me s) (x : Nt) (y : Sl) (h1 : x.to ≠ (me : Int)) :
    Calls Try.prog 35 #[pm g, ntV x y] W fun e w' => e = .returned (.bool false) ∧ Below W.heap.size W w' := by
  obtain ⟨fr, to, st, data⟩ := x
  obtain ⟨ya, yn, yc⟩ := y
  simp only at h1
  obtain ⟨⟨-, -, -, -, -⟩, ⟨-, c8, -, c10, c11, -⟩, z0, -⟩ := mb_cells h
  have q1 : (to == (me : Int)) = false := by simpa using h1
  have q2 : (to != (me : Int)) = true := by simpa using h1
  clear h hk
  unfold pm ntV
  simp only
  go_enter Try.func35, Try.ntmps35
  go_wp2
  go_quiet (fail)
  go_wp2
  go_ret
  exact ⟨rfl, below_draws (bl_new _) _⟩
set_option maxHeartbeats 1000000 in
theorem expects_b (g : Nat) (F : Nat → Prop) (d n me : Nat) (s : St) (G : Gh) (W : World) (h : MbAt W F g d n me s G) (hk : StOk d n me s) (x : Nt) (y : Sl) (h1 : x.to = (me : Int)) (h2 : x.st < (s.taken : Int)) :
    Calls Try.prog 35 #[pm g, ntV x y] W fun e w' => e = .returned (.bool false) ∧ Below W.heap.size W w' := by
  obtain ⟨fr, to, st, data⟩ := x
  obtain ⟨ya, yn, yc⟩ := y
  simp only at h1 h2
  subst h1
  obtain ⟨⟨-, -, -, -, -⟩, ⟨-, c8, -, c10, c11, -⟩, z0, -⟩ := mb_cells h
  clear h hk
  unfold pm ntV
  simp only
  go_enter Try.func35, Try.ntmps35
  go_wp2
  go_quiet (fail)
  go_wp2
  go_ret
  exact ⟨rfl, below_draws (bl_new _) _⟩
set_option maxHeartbeats 1000000 in
theorem expects_c (g : Nat) (F : Nat → Prop) (d n me : Nat) (s : St) (G : Gh) (W : World) (h : MbAt W F g d n me s G) (hk : StOk d n me s) (x : Nt) (y : Sl) (h1 : x.to = (me : Int)) (h2 : ¬ x.st < (s.taken : Int)) (h3 : (notN d n : Int) ≤ x.st) :
    Calls Try.prog 35 #[pm g, ntV x y] W fun e w' => e = .returned (.bool false) ∧ Below W.heap.size W w' := by
  obtain ⟨fr, to, st, data⟩ := x
  obtain ⟨ya, yn, yc⟩ := y
  simp only at h1 h2 h3
  subst h1
  have HM : Hid (∀ V, Below W.heap.size W V → MbAt V F g d n me s G) := fun V hV => h.below hV
  obtain ⟨⟨-, -, -, -, -⟩, ⟨-, c8, -, c10, c11, -⟩, z0, -⟩ := mb_cells h
  have hn := hk.n1
  have h16 := hk.n16
  clear h hk
  unfold pm ntV
  simp only
  go_enter Try.func35, Try.ntmps35
  go_wp2
  go_quiet (first | (go_at_call 32; exact Calls.quiet_of (notes_any g F d n me s G _ (HM.out _ (below_draws (bl_new _) _)) hn h16)))
  go_wp2
  go_ret
  exact ⟨rfl, below_draws (bl_new _) _⟩
set_option maxHeartbeats 2000000 in
theorem expects_d (g : Nat) (F : Nat → Prop) (d n me : Nat) (s : St) (G : Gh) (W : World) (h : MbAt W F g d n me s G) (hk : StOk d n me s) (x : Nt) (y : Sl) (h1 : x.to = (me : Int)) (st : Nat) (hst : x.st = (st : Int)) (h2 : s.taken ≤ st) (h3 : st < notN d n) (v : Value) (h4 : lkM x.st G.M = some v) :
    Calls Try.prog 35 #[pm g, ntV x y] W fun e w' => e = .returned (.bool false) ∧ Below W.heap.size W w' := by
  obtain ⟨fr, to, st0, data⟩ := x
  obtain ⟨ya, yn, yc⟩ := y
  simp only at h1 hst h4
  subst h1 hst
  have HM : Hid (∀ V, Below W.heap.size W V → MbAt V F g d n me s G) := fun V hV => h.below hV
  obtain ⟨⟨-, -, -, -, c4, -⟩, ⟨-, c8, -, c10, c11, c12, c13⟩, z0, -⟩ := mb_cells h
  have hn := hk.n1
  have h16 := hk.n16
  have hlk : ∀ o k, (Instr.lookup 82 (.map (some G.eb)) (.int .i64 (st : Int)) true).run Try.prog ((W.alloc o).drewN k) = .ok (.tuple #[(lkM (st : Int) G.M).getD (.slice none 0 0), .bool (lkM (st : Int) G.M).isSome]) ((W.alloc o).drewN k) := fun o k => run_lkM (HM.out _ (below_draws (bl_new o) k)).map _
  have g2 : ¬ ((st : Int) < (s.taken : Int)) := by omega
  have g3 : ¬ ((notN d n : Int) ≤ (st : Int)) := by omega
  have n2 : 2 ≤ n := by
    have : notN d n ≤ 2 * (n - 1) := by unfold notN; split <;> omega
    omega
  rw [h4] at hlk
  simp only [Option.getD_some, Option.isSome_some] at hlk
  clear h hk h4
  unfold pm ntV
  simp only
  go_enter Try.func35, Try.ntmps35
  go_wp2
  go_quiet (first | (go_at_call 32; exact Calls.quiet_of (notes_any g F d n me s G _ (HM.out _ (below_draws (bl_new _) _)) hn h16)))
  go_wp2
  go_quiet (fail)
  go_wp2
  go_ret
  exact ⟨rfl, below_draws (below_draws (bl_new _) _) _⟩
set_option maxHeartbeats 2000000 in
theorem expects_e (g : Nat) (F : Nat → Prop) (d n me : Nat) (s : St) (G : Gh) (W : World) (h : MbAt W F g d n me s G) (hk : StOk d n me s) (x : Nt) (y : Sl) (h1 : x.to = (me : Int)) (st : Nat) (hst : x.st = (st : Int)) (h2 : s.taken ≤ st) (h3 : st < notN d n) (h4 : lkM x.st G.M = none) (h5 : x.fr ≠ (fromN d n me st : Nat)) :
    Calls Try.prog 35 #[pm g, ntV x y] W fun e w' => e = .returned (.bool false) ∧ Below W.heap.size W w' := by
  obtain ⟨fr, to, st0, data⟩ := x
  obtain ⟨ya, yn, yc⟩ := y
  simp only at h1 hst h4 h5
  subst h1 hst
  have HM : Hid (∀ V, Below W.heap.size W V → MbAt V F g d n me s G) := fun V hV => h.below hV
  obtain ⟨⟨-, -, -, -, c4, -⟩, ⟨-, c8, -, c10, c11, c12, c13⟩, z0, -⟩ := mb_cells h
  have hn := hk.n1
  have h16 := hk.n16
  have hlk : ∀ o k, (Instr.lookup 82 (.map (some G.eb)) (.int .i64 (st : Int)) true).run Try.prog ((W.alloc o).drewN k) = .ok (.tuple #[(lkM (st : Int) G.M).getD (.slice none 0 0), .bool (lkM (st : Int) G.M).isSome]) ((W.alloc o).drewN k) := fun o k => run_lkM (HM.out _ (below_draws (bl_new o) k)).map _
  have g2 : ¬ ((st : Int) < (s.taken : Int)) := by omega
  have g3 : ¬ ((notN d n : Int) ≤ (st : Int)) := by omega
  have n2 : 2 ≤ n := by
    have : notN d n ≤ 2 * (n - 1) := by unfold notN; split <;> omega
    omega
  rw [h4] at hlk
  simp only [Option.getD_none, Option.isSome_none] at hlk
  have d1 := hk.d1
  have d4 := hk.d4
  have hme := hk.mel
  obtain ⟨P, hP⟩ : ∃ P, P = sendN d n (fromN d n me st) st := ⟨_, rfl⟩
  have hPl : P < n := by rw [hP]; exact sendN_lt (by omega)
  obtain ⟨A, hA⟩ : ∃ A, A = fromN d n me st := ⟨_, rfl⟩
  rw [← hA] at h5
  have HA := hide hA
  have q5 : (fr == (A : Int)) = false := by simpa using h5
  clear h hk h4 hA h5 hP
  unfold pm ntV
  simp only
  go_enter Try.func35, Try.ntmps35
  go_wp2
  go_quiet (first | (go_at_call 32; exact Calls.quiet_of (notes_any g F d n me s G _ (HM.out _ (below_draws (bl_new _) _)) hn h16)))
  go_wp2
  go_quiet (fail)
  go_wp2_with (first | (go_at_call 58; refine (comes_any g F d n me s G _ (HM.out _ (below_draws (bl_new _) _)) d1 d4 n2 h16 hme st h3).mono ?_; rintro e w1 ⟨rfl, hb⟩; have HB := hide hb; have z1 : W.heap.size < w1.heap.size := Nat.lt_of_lt_of_le (show W.heap.size < (W.alloc _).heap.size by simp) hb.size; have b0 := (hb.cell (p := ⟨W.heap.size, 0, none⟩) (show W.heap.size < (W.alloc _).heap.size by simp)).trans (box_cell W _ _ 0 (.int .i64 fr) rfl); clear hb))
  rw [← HA.out]
  go_quiet (fail)
  go_wp2
  go_ret
  exact ⟨rfl, below_draws ((below_draws (bl_new _) _).trans (HB.out.mono (by simp))) _⟩
set_option maxHeartbeats 2000000 in
theorem expects_f (g : Nat) (F : Nat → Prop) (d n me : Nat) (s : St) (G : Gh) (W : World) (h : MbAt W F g d n me s G) (hk : StOk d n me s) (x : Nt) (y : Sl) (h1 : x.to = (me : Int)) (st : Nat) (hst : x.st = (st : Int)) (h2 : s.taken ≤ st) (h3 : st < notN d n) (h4 : lkM x.st G.M = none) (h5 : x.fr = (fromN d n me st : Nat)) (h6 : d = 3) :
    Calls Try.prog 35 #[pm g, ntV x y] W fun e w' => e = .returned (.bool (decide ((y.n : Int) ≤ 65536))) ∧ Below W.heap.size W w' := by
  obtain ⟨fr, to, st0, data⟩ := x
  obtain ⟨ya, yn, yc⟩ := y
  simp only at h1 hst h4 h5
  subst h1 hst
  have HM : Hid (∀ V, Below W.heap.size W V → MbAt V F g d n me s G) := fun V hV => h.below hV
  obtain ⟨⟨-, -, -, -, c4, -⟩, ⟨-, c8, -, c10, c11, c12, c13⟩, z0, -⟩ := mb_cells h
  have hn := hk.n1
  have h16 := hk.n16
  have hlk : ∀ o k, (Instr.lookup 82 (.map (some G.eb)) (.int .i64 (st : Int)) true).run Try.prog ((W.alloc o).drewN k) = .ok (.tuple #[(lkM (st : Int) G.M).getD (.slice none 0 0), .bool (lkM (st : Int) G.M).isSome]) ((W.alloc o).drewN k) := fun o k => run_lkM (HM.out _ (below_draws (bl_new o) k)).map _
  have g2 : ¬ ((st : Int) < (s.taken : Int)) := by omega
  have g3 : ¬ ((notN d n : Int) ≤ (st : Int)) := by omega
  have n2 : 2 ≤ n := by
    have : notN d n ≤ 2 * (n - 1) := by unfold notN; split <;> omega
    omega
  rw [h4] at hlk
  simp only [Option.getD_none, Option.isSome_none] at hlk
  have d1 := hk.d1
  have d4 := hk.d4
  have hme := hk.mel
  obtain ⟨P, hP⟩ : ∃ P, P = sendN d n (fromN d n me st) st := ⟨_, rfl⟩
  have hPl : P < n := by rw [hP]; exact sendN_lt (by omega)
  obtain ⟨A, hA⟩ : ∃ A, A = fromN d n me st := ⟨_, rfl⟩
  have hls : ∀ V, Below W.heap.size W V → V.cell? ⟨G.hs, P, none⟩ = some (.slice (G.Ss P).a (G.Ss P).n (G.Ss P).c) := fun V hV => (HM.out V hV).rowS.cell hPl
  have HLS := hide hls
  have hcl : ∀ V, Below W.heap.size W V → V.cell? ⟨g, 12, none⟩ = some (.slice (some ⟨G.hs, 0, none⟩) n n) ∧ V.cell? ⟨g, 4, none⟩ = some (.func (.func 50) #[] #[]) := fun V hV => by
    obtain ⟨⟨-, -, -, -, c4, -⟩, ⟨-, -, -, -, -, c12, -⟩, -⟩ := mb_cells (HM.out V hV)
    refine ⟨c12, ?_⟩
    rw [c4]
    unfold fv fitF
    rw [if_pos h6]
  have HCL := hide hcl
  rw [← hA] at h5
  subst h5
  have HA := hide hA
  have HP := hide hP
  have zs : G.hs < W.heap.size := h.rowS.lt
  have hPz : (P : Int) < (n : Int) := by omega
  clear h hk h4 hA hP hls hcl c4 c12 h6
  unfold pm ntV
  simp only
  go_enter Try.func35, Try.ntmps35
  go_wp2
  go_quiet (first | (go_at_call 32; exact Calls.quiet_of (notes_any g F d n me s G _ (HM.out _ (below_draws (bl_new _) _)) hn h16)))
  go_wp2
  go_quiet (fail)
  go_wp2_with (first | (go_at_call 58; refine (comes_any g F d n me s G _ (HM.out _ (below_draws (bl_new _) _)) d1 d4 n2 h16 hme st h3).mono ?_; rintro e w1 ⟨rfl, hb⟩; have HB := hide hb; have z1 : W.heap.size < w1.heap.size := Nat.lt_of_lt_of_le (show W.heap.size < (W.alloc _).heap.size by simp) hb.size; have b0 := (hb.cell (p := ⟨W.heap.size, 0, none⟩) (show W.heap.size < (W.alloc _).heap.size by simp)).trans (box_cell W _ _ 0 (.int .i64 (A : Int)) rfl); have b3 := (hb.cell (p := ⟨W.heap.size, 3, none⟩) (show W.heap.size < (W.alloc _).heap.size by simp)).trans (box_cell W _ _ 3 (.slice ya yn yc) rfl); have hB : Below W.heap.size W w1 := (below_draws (bl_new _) _).trans (hb.mono (by simp)); have e12 := (HCL.out _ hB).1; have e4 := (HCL.out _ hB).2; have els := HLS.out _ hB; have z2 := Nat.lt_of_lt_of_le z0 hB.size; have z3 := Nat.lt_of_lt_of_le zs hB.size; clear hB; clear hb))
  rw [← HP.out, ← HA.out]
  go_quiet (first | (go_at_call 50; exact Calls.quiet_of_same (k7_any _ _ _)))
  go_wp2
  go_ret
  exact ⟨rfl, below_draws ((below_draws (bl_new _) _).trans (HB.out.mono (by simp))) _⟩
set_option maxHeartbeats 2000000 in
theorem expects_g (g : Nat) (F : Nat → Prop) (d n me : Nat) (s : St) (G : Gh) (W : World) (h : MbAt W F g d n me s G) (hk : StOk d n me s) (x : Nt) (y : Sl) (h1 : x.to = (me : Int)) (st : Nat) (hst : x.st = (st : Int)) (h2 : s.taken ≤ st) (h3 : st < notN d n) (h4 : lkM x.st G.M = none) (h5 : x.fr = (fromN d n me st : Nat)) (h6 : d ≠ 3) :
    Calls Try.prog 35 #[pm g, ntV x y] W fun e w' => e = .returned (.bool (decide ((y.n : Int) = ((G.Ss (sendN d n (fromN d n me st) st)).n : Int)))) ∧ Below W.heap.size W w' := by
  obtain ⟨fr, to, st0, data⟩ := x
  obtain ⟨ya, yn, yc⟩ := y
  simp only at h1 hst h4 h5
  subst h1 hst
  have HM : Hid (∀ V, Below W.heap.size W V → MbAt V F g d n me s G) := fun V hV => h.below hV
  obtain ⟨⟨-, -, -, -, c4, -⟩, ⟨-, c8, -, c10, c11, c12, c13⟩, z0, -⟩ := mb_cells h
  have hn := hk.n1
  have h16 := hk.n16
  have hlk : ∀ o k, (Instr.lookup 82 (.map (some G.eb)) (.int .i64 (st : Int)) true).run Try.prog ((W.alloc o).drewN k) = .ok (.tuple #[(lkM (st : Int) G.M).getD (.slice none 0 0), .bool (lkM (st : Int) G.M).isSome]) ((W.alloc o).drewN k) := fun o k => run_lkM (HM.out _ (below_draws (bl_new o) k)).map _
  have g2 : ¬ ((st : Int) < (s.taken : Int)) := by omega
  have g3 : ¬ ((notN d n : Int) ≤ (st : Int)) := by omega
  have n2 : 2 ≤ n := by
    have : notN d n ≤ 2 * (n - 1) := by unfold notN; split <;> omega
    omega
  rw [h4] at hlk
  simp only [Option.getD_none, Option.isSome_none] at hlk
  have d1 := hk.d1
  have d4 := hk.d4
  have hme := hk.mel
  obtain ⟨P, hP⟩ : ∃ P, P = sendN d n (fromN d n me st) st := ⟨_, rfl⟩
  have hPl : P < n := by rw [hP]; exact sendN_lt (by omega)
  obtain ⟨A, hA⟩ : ∃ A, A = fromN d n me st := ⟨_, rfl⟩
  have hls : ∀ V, Below W.heap.size W V → V.cell? ⟨G.hs, P, none⟩ = some (.slice (G.Ss P).a (G.Ss P).n (G.Ss P).c) := fun V hV => (HM.out V hV).rowS.cell hPl
  have HLS := hide hls
  have hcl : ∀ V, Below W.heap.size W V → V.cell? ⟨g, 12, none⟩ = some (.slice (some ⟨G.hs, 0, none⟩) n n) ∧ V.cell? ⟨g, 4, none⟩ = some (.func (.func 49) #[] #[]) := fun V hV => by
    obtain ⟨⟨-, -, -, -, c4, -⟩, ⟨-, -, -, -, -, c12, -⟩, -⟩ := mb_cells (HM.out V hV)
    refine ⟨c12, ?_⟩
    rw [c4]
    unfold fv fitF
    rw [if_neg h6]
  have HCL := hide hcl
  rw [← hA] at h5
  subst h5
  rw [← hP]
  have HA := hide hA
  have HP := hide hP
  have zs : G.hs < W.heap.size := h.rowS.lt
  have hPz : (P : Int) < (n : Int) := by omega
  clear h hk h4 hA hP hls hcl c4 c12 h6
  unfold pm ntV
  simp only
  go_enter Try.func35, Try.ntmps35
  go_wp2
  go_quiet (first | (go_at_call 32; exact Calls.quiet_of (notes_any g F d n me s G _ (HM.out _ (below_draws (bl_new _) _)) hn h16)))
  go_wp2
  go_quiet (fail)
  go_wp2_with (first | (go_at_call 58; refine (comes_any g F d n me s G _ (HM.out _ (below_draws (bl_new _) _)) d1 d4 n2 h16 hme st h3).mono ?_; rintro e w1 ⟨rfl, hb⟩; have HB := hide hb; have z1 : W.heap.size < w1.heap.size := Nat.lt_of_lt_of_le (show W.heap.size < (W.alloc _).heap.size by simp) hb.size; have b0 := (hb.cell (p := ⟨W.heap.size, 0, none⟩) (show W.heap.size < (W.alloc _).heap.size by simp)).trans (box_cell W _ _ 0 (.int .i64 (A : Int)) rfl); have b3 := (hb.cell (p := ⟨W.heap.size, 3, none⟩) (show W.heap.size < (W.alloc _).heap.size by simp)).trans (box_cell W _ _ 3 (.slice ya yn yc) rfl); have hB : Below W.heap.size W w1 := (below_draws (bl_new _) _).trans (hb.mono (by simp)); have e12 := (HCL.out _ hB).1; have e4 := (HCL.out _ hB).2; have els := HLS.out _ hB; have z2 := Nat.lt_of_lt_of_le z0 hB.size; have z3 := Nat.lt_of_lt_of_le zs hB.size; clear hB; clear hb))
  rw [← HP.out, ← HA.out]
  go_quiet (first | (go_at_call 49; exact Calls.quiet_of_same (k6_any _ _ _)))
  go_wp2
  go_ret
  exact ⟨rfl, below_draws ((below_draws (bl_new _) _).trans (HB.out.mono (by simp))) _⟩
theorem notN_two {d n st : Nat} (h : st < notN d n) : 2 ≤ n := by
  have : notN d n ≤ 2 * (n - 1) := by unfold notN; split <;> omega
  omega
theorem send_swap {n me t : Nat} (hn : 0 < n) (hme : me < n) : sendN 4 n (fromN 4 n me t) t = me := by
  unfold sendN fromN
  rw [if_neg (by decide), if_pos rfl, if_pos rfl]
  have h1 := modI_cast hn ((me : Int) - t - 1)
  have h3 : ((me : Int) - t - 1) % (n : Int) + t + 1 = (((me : Int) - t - 1) % (n : Int) + ((t : Int) + 1)) := by omega
  have h4 : ((((me : Int) - t - 1) % (n : Int)) + ((t : Int) + 1)) % (n : Int) = (me : Int) := by
    rw [Int.emod_add_emod, show (me : Int) - t - 1 + (t + 1) = me by omega]
    exact Int.emod_eq_of_lt (by omega) (by omega)
  rw [h1, h3]
  unfold modI
  rw [h4]
  omega
set_option maxHeartbeats 400000 in
theorem expects_any (g : Nat) (F : Nat → Prop) (d n me : Nat) (s : St) (G : Gh) (W : World) (h : MbAt W F g d n me s G) (hk : StOk d n me s) (x : Nt) (y : Sl) (hy : y.n = x.data.length) :
    Calls Try.prog 35 #[pm g, ntV x y] W fun e w' => e = .returned (.bool (fitsM d n me s x)) ∧ Below W.heap.size W w' := by
  by_cases h1 : x.to = (me : Int)
  · by_cases h2 : x.st < (s.taken : Int)
    · have e : fitsM d n me s x = false := by unfold fitsM; rw [show decide ((s.taken : Int) ≤ x.st) = false by simp; omega]; simp
      rw [e]
      exact expects_b g F d n me s G W h hk x y h1 h2
    · by_cases h3 : (notN d n : Int) ≤ x.st
      · have e : fitsM d n me s x = false := by unfold fitsM; rw [show decide (x.st < (notN d n : Int)) = false by simp; omega]; simp
        rw [e]
        exact expects_c g F d n me s G W h hk x y h1 h2 h3
      · obtain ⟨st, hst⟩ : ∃ st : Nat, x.st = (st : Int) := ⟨x.st.toNat, by omega⟩
        have hs : x.st.toNat = st := by omega
        have k2 : s.taken ≤ st := by omega
        have k3 : st < notN d n := by omega
        have hn2 := notN_two k3
        cases hl : lkM x.st G.M with
        | some v =>
          obtain ⟨z, zs, rfl, hz, _⟩ := h.mon x.st v hl
          have hL : lookL st s.early = some zs := (h.mem st zs k2).2 ⟨z, by rw [← hst]; exact hl, hz⟩
          have e : fitsM d n me s x = false := by unfold fitsM; rw [hs, hL]; simp
          rw [e]
          exact expects_d g F d n me s G W h hk x y h1 st hst k2 k3 _ hl
        | none =>
          have hL : lookL st s.early = none := by
            cases hq : lookL st s.early with
            | none => rfl
            | some zs =>
              obtain ⟨z, h5, _⟩ := (h.mem st zs k2).1 hq
              rw [← hst, hl] at h5
              cases h5
          by_cases h5 : x.fr = (fromN d n me st : Nat)
          · by_cases h6 : d = 3
            · have e : fitsM d n me s x = decide ((y.n : Int) ≤ 65536) := by
                unfold fitsM
                rw [hs, hL, if_pos h6, hy, decide_eq_true h1, decide_eq_true (show (s.taken : Int) ≤ x.st by omega), decide_eq_true (show x.st < (notN d n : Int) by omega), decide_eq_true h5]
                simp only [Option.isNone_none, Bool.true_and]
                rw [Bool.eq_iff_iff, decide_eq_true_eq, decide_eq_true_eq]
                omega
              rw [e]
              exact expects_f g F d n me s G W h hk x y h1 st hst k2 k3 hl h5 h6
            · have hlen : (G.Ss (sendN d n (fromN d n me st) st)).n = (prt s.parts (takeN d n me st)).length := by
                have hP := sendN_lt (d := d) (n := n) (me := fromN d n me st) (t := st) (by omega)
                rw [← ((h.snd _ hP).1).len]
                by_cases h4 : d = 4
                · subst h4
                  rw [if_pos rfl, send_swap (by omega) hk.mel]
                  exact (hk.even rfl _ _ (takeN_lt (by omega)) hk.mel).symm
                · rw [if_neg h4]
                  unfold takeN
                  rw [if_neg h4]
              have e : fitsM d n me s x = decide ((y.n : Int) = ((G.Ss (sendN d n (fromN d n me st) st)).n : Int)) := by
                unfold fitsM
                rw [hs, hL, if_neg h6, hy, hlen, decide_eq_true h1, decide_eq_true (show (s.taken : Int) ≤ x.st by omega), decide_eq_true (show x.st < (notN d n : Int) by omega), decide_eq_true h5]
                simp only [Option.isNone_none, Bool.true_and]
                rw [Bool.eq_iff_iff, decide_eq_true_eq, decide_eq_true_eq]
                omega
              rw [e]
              exact expects_g g F d n me s G W h hk x y h1 st hst k2 k3 hl h5 h6
          · have e : fitsM d n me s x = false := by unfold fitsM; rw [hs, decide_eq_false h5]; simp
            rw [e]
            exact expects_e g F d n me s G W h hk x y h1 st hst k2 k3 hl h5
  · have e : fitsM d n me s x = false := by unfold fitsM; rw [decide_eq_false h1]; simp
    rw [e]
    exact expects_a g F d n me s G W h hk x y h1
end Go.Proofs.Yticcoacoepajpaa.V
