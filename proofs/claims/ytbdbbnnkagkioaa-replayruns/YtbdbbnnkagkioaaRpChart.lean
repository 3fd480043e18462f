/-
  Contract: replay.charted: the chart has the least costs, and how far to go first.
-/
import Derived.Test.YtbdbbnnkagkioaaRpLeaf
import Derived.Deep.RegionWith
import Derived.Laws.CopyOwn
import Derived.Deep.OwnRows
namespace Go.Proofs.Ytbdbbnnkagkioaa.V
open Go.RowKit
set_option linter.unusedVariables false

theorem info_way : (Try.prog.info? 46).map (fun i => (i.zero, i.size, i.bytes)) = some (some (.agg #[.int .i64 0, .int .i64 0]), 2, 16) := by kernel_rfl
theorem info_ways : (Try.prog.info? 44).map (fun i => (i.zero, i.size, i.bytes)) = some (some (.slice none 0 0), 1, 24) := by kernel_rfl
theorem make_ways (n : Nat) (hn : n ≤ 300) (w : World) :
    (Instr.makeSlice 44 (.int .i64 (n : Int)) (.int .i64 (n : Int))).run Try.prog w = .ok (.slice (some ⟨w.heap.size, 0, none⟩) n n) (w.alloc (.cells (madeCells #[.int .i64 0, .int .i64 0] (n * 2)) 46)) := by
  obtain ⟨i, hi, hzz⟩ := Option.map_eq_some_iff.1 info_way
  simp only [Prod.mk.injEq] at hzz
  obtain ⟨hz, hs, hb⟩ := hzz
  have hr := run_make (P := Try.prog) w 44 46 i _ Try.underlying44 hi hz .i64 .i64 n n (by omega) (Int.le_refl _) (by rw [hb]; omega) (by omega)
  rw [hr, hs]
  rfl

/-- A row of the chart, with s slots: the ways for up to M steps stand. -/
def RowW (w : World) (g n s M : Nat) : Prop := ∃ F : Nat → Int, w.rowIs g 46 ((n + 1) * 2) (fun i => .int .i64 (F i)) ∧ (∀ j, j ≤ M → j ≤ n → F (j * 2) = (T s j : Nat)) ∧ (∀ j, 2 ≤ j → j ≤ M → j ≤ n → 1 ≤ s → ∃ kf : Nat, F (j * 2 + 1) = kf ∧ Good s j kf)
theorem RowW.lt {w : World} {g n s M : Nat} (h : RowW w g n s M) : g < w.heap.size := by obtain ⟨F, h1, _⟩ := h; exact h1.lt
theorem RowW.of_block {w w' : World} {g n s M : Nat} (h : RowW w g n s M) (e : w'.heap[g]? = w.heap[g]?) : RowW w' g n s M := by obtain ⟨F, h1, h2⟩ := h; exact ⟨F, h1.of_block e, h2⟩
theorem RowW.below {w w' : World} {g n s M : Nat} (h : RowW w g n s M) (hb : Below w.heap.size w w') : RowW w' g n s M := h.of_block (hb.block g h.lt)
theorem RowW.other {w : World} {g n s M : Nat} (h : RowW w g n s M) {p : Addr} (hne : g ≠ p.block) (u : Value) : RowW (w.setCell p u) g n s M := h.of_block (Below.heap_setCell _ _ _ _ hne)
theorem RowW.cost {w : World} {g n s M : Nat} (h : RowW w g n s M) {j : Nat} (h1 : j ≤ M) (h2 : j ≤ n) : w.cell? ⟨g, j * 2, none⟩ = some (.int .i64 (T s j : Nat)) := by
  obtain ⟨F, a, b, _⟩ := h
  rw [a.cell (by omega), b j h1 h2]
theorem RowW.first {w : World} {g n s M : Nat} (h : RowW w g n s M) {j : Nat} (h0 : 2 ≤ j) (h1 : j ≤ M) (h2 : j ≤ n) (hs : 1 ≤ s) : ∃ kf : Nat, w.cell? ⟨g, j * 2 + 1, none⟩ = some (.int .i64 kf) ∧ Good s j kf := by
  obtain ⟨F, a, _, c⟩ := h
  obtain ⟨kf, e, hg⟩ := c j h0 h1 h2 hs
  exact ⟨kf, by rw [a.cell (by omega), e], hg⟩
theorem RowW.frozen {w : World} {g n s M : Nat} (h : RowW w g n s M) (i : Nat) : w.frozen? ⟨g, i, none⟩ = false := by obtain ⟨F, a, _⟩ := h; exact a.frozen i
theorem RowW.some {w : World} {g n s M : Nat} (h : RowW w g n s M) {i : Nat} (hi : i < (n + 1) * 2) : ∃ x : Int, w.cell? ⟨g, i, none⟩ = .some (.int .i64 x) := by obtain ⟨F, a, _⟩ := h; exact ⟨_, a.cell hi⟩
theorem RowW.set {w : World} {g n s m kf : Nat} (h : RowW w g n s (m - 1)) (hm : 2 ≤ m) (hg : Good s m kf) :
    RowW ((w.setCell ⟨g, m * 2, none⟩ (.int .i64 (T s m : Nat))).setCell ⟨g, m * 2 + 1, none⟩ (.int .i64 kf)) g n s m := by
  obtain ⟨F, a, b, c⟩ := h
  refine ⟨fun i => if i = m * 2 + 1 then kf else if i = m * 2 then (T s m : Nat) else F i, ?_, ?_, ?_⟩
  · refine ((a.set (m * 2) (.int .i64 (T s m : Nat))).set (m * 2 + 1) (.int .i64 kf)).congr fun i _ => ?_
    by_cases e1 : i = m * 2 + 1
    · simp [e1]
    · by_cases e2 : i = m * 2
      · simp [e2]
      · simp [e1, e2]
  · intro j h1 h2
    by_cases e : j = m
    · subst e; simp
    · have : ¬ j * 2 = m * 2 + 1 := by omega
      have : ¬ j * 2 = m * 2 := by omega
      simp only [*, if_false]
      exact b j (by omega) h2
  · intro j h0 h1 h2 hs
    by_cases e : j = m
    · subst e; exact ⟨kf, by simp, hg⟩
    · have : ¬ j * 2 + 1 = m * 2 + 1 := by omega
      have : ¬ j * 2 + 1 = m * 2 := by omega
      obtain ⟨q, e1, e2⟩ := c j h0 (by omega) h2 hs
      exact ⟨q, by simp only [*, if_false], e2⟩
theorem RowW.made (w : World) (n s M : Nat) (hM : M ≤ 1 ∨ s = 0) : RowW (w.alloc (.cells (madeCells #[.int .i64 0, .int .i64 0] ((n + 1) * 2)) 46)) w.heap.size n s M := by
  refine ⟨fun _ => 0, ⟨_, World.alloc_heap_new _ _, size_madeCells _ _, fun i hi => ?_⟩, ?_, ?_⟩
  · have h2 : i % 2 = 0 ∨ i % 2 = 1 := by omega
    rcases h2 with h2 | h2 <;> simp [madeCells, hi, h2]
  · intro j h1 _; rw [T_zero (by omega)]; rfl
  · intro j h1 h2 _ _; omega

/-- The chart: its first k rows stand. -/
def ChartW (w : World) (cb n S k : Nat) (g : Nat → Nat) : Prop :=
  w.rowIs cb 44 (S + 1) (fun i => if i < k then .slice (some ⟨g i, 0, none⟩) (n + 1) (n + 1) else .slice none 0 0) ∧ (∀ i, i < k → RowW w (g i) n i n ∧ g i ≠ cb)
theorem ChartW.of {w w' : World} {cb n S k : Nat} {g : Nat → Nat} (h : ChartW w cb n S k g) (e0 : w'.heap[cb]? = w.heap[cb]?) (e : ∀ i, i < k → w'.heap[g i]? = w.heap[g i]?) : ChartW w' cb n S k g :=
  ⟨h.1.of_block e0, fun i hi => ⟨(h.2 i hi).1.of_block (e i hi), (h.2 i hi).2⟩⟩
theorem ChartW.below {w w' : World} {cb n S k : Nat} {g : Nat → Nat} (h : ChartW w cb n S k g) (hb : Below w.heap.size w w') : ChartW w' cb n S k g :=
  h.of (hb.block cb h.1.lt) (fun i hi => hb.block (g i) (h.2 i hi).1.lt)

/-- The chart, its row k being filled: the ways for up to M steps stand there. -/
def ChartO (w : World) (cb n S k : Nat) (g : Nat → Nat) (M : Nat) : Prop :=
  w.rowIs cb 44 (S + 1) (fun i => if i < k + 1 then .slice (some ⟨g i, 0, none⟩) (n + 1) (n + 1) else .slice none 0 0) ∧ (∀ i, i < k → RowW w (g i) n i n ∧ g i ≠ cb ∧ g i ≠ g k) ∧ RowW w (g k) n k M ∧ g k ≠ cb
theorem ChartO.below {w w' : World} {cb n S k M : Nat} {g : Nat → Nat} (h : ChartO w cb n S k g M) (hb : Below w.heap.size w w') : ChartO w' cb n S k g M :=
  ⟨h.1.of_block (hb.block cb h.1.lt), fun i hi => ⟨(h.2.1 i hi).1.below hb, (h.2.1 i hi).2⟩, h.2.2.1.below hb, h.2.2.2⟩
theorem ChartO.close {w : World} {cb n S k M : Nat} {g : Nat → Nat} (h : ChartO w cb n S k g M) (hM : M = n) : ChartW w cb n S (k + 1) g := by
  subst hM
  refine ⟨h.1, fun i hi => ?_⟩
  by_cases e : i = k
  · subst e; exact ⟨h.2.2.1, h.2.2.2⟩
  · exact ⟨(h.2.1 i (by omega)).1, (h.2.1 i (by omega)).2.1⟩
theorem ChartO.less {w : World} {cb n S k M N : Nat} {g : Nat → Nat} (h : ChartO w cb n S k g M) (hM : N ≤ M ∨ n ≤ M) : ChartO w cb n S k g N := by
  refine ⟨h.1, h.2.1, ?_, h.2.2.2⟩
  obtain ⟨F, a, b, c⟩ := h.2.2.1
  exact ⟨F, a, fun j h1 h2 => b j (by omega) h2, fun j h0 h1 h2 => c j h0 (by omega) h2⟩
theorem ChartO.set {w : World} {cb n S k m kf : Nat} {g : Nat → Nat} (h : ChartO w cb n S k g (m - 1)) (hm : 2 ≤ m) (hg : Good k m kf) :
    ChartO ((w.setCell ⟨g k, m * 2, none⟩ (.int .i64 (T k m : Nat))).setCell ⟨g k, m * 2 + 1, none⟩ (.int .i64 kf)) cb n S k g m :=
  ⟨(h.1.setOther (a := ⟨g k, m * 2, none⟩) (Ne.symm h.2.2.2) _).setOther (a := ⟨g k, m * 2 + 1, none⟩) (Ne.symm h.2.2.2) _, fun i hi => ⟨((h.2.1 i hi).1.other (p := ⟨g k, m * 2, none⟩) (h.2.1 i hi).2.2 _).other (p := ⟨g k, m * 2 + 1, none⟩) (h.2.1 i hi).2.2 _, (h.2.1 i hi).2⟩, h.2.2.1.set hm hg, h.2.2.2⟩
theorem chart_open {w : World} {cb n S k : Nat} {g : Nat → Nat} (h : ChartW w cb n S k g) (M : Nat) (hM : M ≤ 1 ∨ k = 0) :
    ChartO ((w.setCell ⟨cb, k, none⟩ (.slice (some ⟨w.heap.size, 0, none⟩) (n + 1) (n + 1))).alloc (.cells (madeCells #[.int .i64 0, .int .i64 0] ((n + 1) * 2)) 46)) cb n S k (fun i => if i = k then w.heap.size else g i) M := by
  have z := h.1.lt
  refine ⟨?_, ?_, ?_, ?_⟩
  · refine ((h.1.set k (.slice (some ⟨w.heap.size, 0, none⟩) (n + 1) (n + 1))).alloc _).congr fun i _ => ?_
    by_cases e : i = k
    · simp [e]
    · by_cases e2 : i < k
      · have : i < k + 1 := by omega
        simp [e, e2, this]
      · have : ¬ i < k + 1 := by omega
        simp [e, e2, this]
  · intro i hi
    have hi' : ¬ i = k := by omega
    have zi := (h.2 i hi).1.lt
    simp only [hi', if_false, if_true]
    refine ⟨?_, (h.2 i hi).2, by omega⟩
    have := (h.2 i hi).1.other (p := ⟨cb, k, none⟩) (h.2 i hi).2 (.slice (some ⟨w.heap.size, 0, none⟩) (n + 1) (n + 1))
    exact this.of_block (Below.heap_alloc _ _ _ (by simpa using zi))
  · have := RowW.made (w.setCell ⟨cb, k, none⟩ (.slice (some ⟨w.heap.size, 0, none⟩) (n + 1) (n + 1))) n k M hM
    simpa using this
  · simp only [if_true]; omega

theorem charted_bad (n s : Int) (w : World) (h : wrongN n s ≠ 0) :
    Calls Try.prog 10 #[.int .i64 n, .int .i64 s] w fun e w' => e = .returned (.tuple #[.slice none 0 0, .int .i64 (wrongN n s)]) ∧ w' = w := by
  by_cases c : okB n s = true
  · have hn : 2 ≤ n ∧ s = 0 := by
      by_cases x : 2 ≤ n ∧ s = 0
      · exact x
      · simp [wrongN, c, x] at h
    obtain ⟨hn, rfl⟩ := hn
    have e : wrongN n 0 = 9 := by simp [wrongN, c, hn]
    rw [e]
    have hn' : 1 < n := by omega
    go_enter Try.func10, Try.ntmps10
    go_wp2_with (go_at_call 15; refine (allowed_any _ _ _).mono ?_; rintro e w' ⟨rfl, rfl⟩; rw [c])
    exact bodyPost_ret (v := .tuple #[.slice none 0 0, .int .i64 9]) (by simp [results, Try.results10, go_sem]) rfl ⟨rfl, rfl⟩
  · have c' : okB n s = false := by simpa using c
    have e : wrongN n s = 4 := by simp [wrongN, c']
    rw [e]
    go_enter Try.func10, Try.ntmps10
    go_wp2_with (go_at_call 15; refine (allowed_any _ _ _).mono ?_; rintro e w' ⟨rfl, rfl⟩; rw [c'])
    exact bodyPost_ret (v := .tuple #[.slice none 0 0, .int .i64 4]) (by simp [results, Try.results10, go_sem]) rfl ⟨rfl, rfl⟩

set_option maxHeartbeats 4000000 in
theorem charted_any (n S : Nat) (w : World) (hn : n ≤ 256) (hS : S ≤ 16) (h : ¬ (2 ≤ n ∧ S = 0)) :
    Calls Try.prog 10 #[.int .i64 n, .int .i64 S] w fun e w' => (∃ cb g, e = .returned (.tuple #[.slice (some ⟨cb, 0, none⟩) (S + 1) (S + 1), .int .i64 0]) ∧ ChartW w' cb n S (S + 1) g) ∧ Below w.heap.size w w' := by
  have c : okB (n : Int) (S : Int) = true := by simp [okB]; omega
  have hmk1 := run_make_row' (P := Try.prog) 36 44 (.slice none 0 0) 24 Try.underlying36 info_ways rfl .i64 .i64 (S + 1) (by omega) (by omega)
  have hmk2 := make_ways (n + 1) (by omega)
  simp only [Int.natCast_add, Int.cast_ofNat_Int] at hmk1 hmk2
  have HM2 := hide hmk2
  have HB0 : Hid (Below w.heap.size w w) := Below.refl _ _
  clear hmk2
  by_cases hn1 : (1 : Int) < n
  all_goals try have hS0 : ((S : Int) == 0) = false := by simp; omega
  all_goals go_enter Try.func10, Try.ntmps10
  all_goals go_wp2_with (go_at_call 15; refine (allowed_any _ _ _).mono ?_; rintro e w' ⟨rfl, rfl⟩; rw [c])
  all_goals
    clear hmk1
    obtain ⟨W, hW⟩ : ∃ W, W = w'.alloc (.cells (madeCells #[.slice none 0 0] (S + 1)) 44) := ⟨_, rfl⟩
    have hc0 : ChartW W w'.heap.size n S 0 (fun _ => 0) := by
      rw [hW]
      exact ⟨(World.rowIs_made w' (.slice none 0 0) (S + 1) _).congr (fun i _ => by simp), fun i hi => by omega⟩
    have hbW : Below w'.heap.size w' W := by rw [hW]; exact (Below.refl _ _).alloc (Nat.le_refl _) _
    rw [← hW]
    clear hW
    have HC0 := hide hc0
    have HBW := hide hbW
    clear hc0 hbW HB0
    obtain ⟨cb, hcb⟩ : ∃ cb, cb = w'.heap.size := ⟨_, rfl⟩
    have HCB := hide hcb
    rw [← hcb] at HC0
    rw [← hcb]
    clear hcb
    go_loopw [24] (fun i wr => ∃ k : Nat, ∃ g : Nat → Nat, k ≤ S + 1 ∧ i = .int .i64 k ∧ ChartW wr cb n S k g ∧ Below w'.heap.size w' wr) (fun i _ => S + 1 - (intOf i).toNat)
    case atStart => exact ⟨0, _, by omega, rfl, HC0.out, HBW.out⟩
    case round =>
      obtain ⟨k, g, r1, rfl, r2, r3⟩ := hrel
      have R2 := hide r2
      have R3 := hide r3
      have z0 := r2.1.lt
      have hmk2 := HM2.out
      by_cases hk : k < S + 1
      · have hcell := r2.1.cell hk
        have hfro := r2.1.frozen k
        simp only [Nat.lt_irrefl, if_false] at hcell
        clear r2 r3
        obtain ⟨g', hg'⟩ : ∃ g' : Nat → Nat, g' = fun i => if i = k then wr.heap.size else g i := ⟨_, rfl⟩
        have e' : g' k = wr.heap.size := by rw [hg']; simp
        by_cases hk0 : (0 : Int) < k
        · go_wp2
          have ho := chart_open R2.out 1 (.inl (Nat.le_refl _))
          rw [← hg'] at ho
          have hbo : Below w'.heap.size w' ((wr.setCell ⟨cb, k, none⟩ (.slice (some ⟨wr.heap.size, 0, none⟩) (n + 1) (n + 1))).alloc (.cells (madeCells #[.int .i64 0, .int .i64 0] ((n + 1) * 2)) 46)) := (R3.out.setCell (p := ⟨cb, k, none⟩) (by rw [HCB.out]; exact Nat.le_refl _) _).alloc (by rw [World.size_setCell]; exact R3.out.size) _
          rw [← e'] at ho hbo
          rw [← e']
          have HE := hide e'
          have hgk : w'.heap.size ≤ g' k := by rw [e']; exact R3.out.size
          obtain ⟨W2, hW2⟩ : ∃ W2, W2 = ((wr.setCell ⟨cb, k, none⟩ (.slice (some ⟨g' k, 0, none⟩) (n + 1) (n + 1))).alloc (.cells (madeCells #[.int .i64 0, .int .i64 0] ((n + 1) * 2)) 46)) := ⟨_, rfl⟩
          rw [← hW2] at ho hbo
          rw [← hW2]
          have HO := hide ho
          have HBO := hide hbo
          have HGK := hide hgk
          clear ho hbo hgk hW2 e' hg' hcell hfro hmk2 z0 R2
          have hk1 : decide ((k : Int) < S + 1) = true := by simp; omega
          have hk2 : decide (0 < k) = true := by simp; omega
          rw [hk1, hk2]
          clear hk1 hk2
          go_loopw [8] (fun i wr => ∃ m : Nat, 2 ≤ m ∧ (m ≤ n + 1 ∨ m = 2) ∧ i = .int .i64 m ∧ ChartO wr cb n S k g' (m - 1) ∧ Below w'.heap.size w' wr) (fun i _ => n + 1 - (intOf i).toNat)
          case atStart => exact ⟨2, by omega, by omega, rfl, HO.out, HBO.out⟩
          case round =>
            obtain ⟨m, m1, m2, rfl, r4, r5⟩ := hrel
            have R4 := hide r4
            have R5 := hide r5
            clear r5
            by_cases hm : m ≤ n
            · have hcell := r4.1.cell hk
              have hcell0 := r4.1.cell (i := k - 1) (by omega)
              have hz1 : k - 1 < k + 1 := by omega
              simp only [Nat.lt_succ_self, if_true, hz1] at hcell hcell0
              clear r4
              have Q1 := hide hcell
              have Q0 := hide hcell0
              clear hcell0 hz1
              try (exfalso; omega)
              all_goals
                have R4' : Hid (ChartO wr.drew cb n S k g' (m - 1)) := R4
                have R5' : Hid (Below w'.heap.size w' wr.drew) := R5.out.drew
                have best := best_any cb (S + 1) (S + 1) m k (g' k) (n + 1) (n + 1) (g' (k - 1)) (n + 1) (n + 1) wr.drew (by omega) hk (by omega) m1 (by omega) (by omega) (by omega) (by omega) Q1.out Q0.out (fun j j1 j2 => R4'.out.2.2.1.cost (by omega) (by omega)) (fun j j1 j2 => (R4'.out.2.1 (k - 1) (by omega)).1.cost (by omega) (by omega))
                have BEST := hide best
                clear best
                go_wp2
                go_region_with (go_at_call 16; refine (BEST.out).mono ?_; rintro e w2 ⟨⟨kf, rfl, hkf⟩, hb⟩; have R6 := hide (R4'.out.below hb); have R7 := hide (below_on R5'.out hb); have HKF := hide hkf; have hcell2 := R6.out.1.cell hk; simp only [Nat.lt_succ_self, if_true] at hcell2; obtain ⟨x0, hx0⟩ := R6.out.2.2.1.some (i := m * 2) (by omega); obtain ⟨x1, hx1⟩ := R6.out.2.2.1.some (i := m * 2 + 1) (by omega); have fx0 := R6.out.2.2.1.frozen (m * 2); have fx1 := R6.out.2.2.1.frozen (m * 2 + 1); clear hkf hb)
                all_goals go_wp2
                all_goals
                  have X1 := R6.out.set m1 HKF.out
                  have X2 := (R7.out.setCell (p := ⟨g' k, m * 2, none⟩) HGK.out (.int .i64 (T k m : Nat))).setCell (p := ⟨g' k, m * 2 + 1, none⟩) HGK.out (.int .i64 kf)
                  exact ⟨⟨m + 1, by omega, by omega, by go_num, X1, X2⟩, by simp [intOf]; omega⟩
            · clear r4
              go_wp2
              have X1 := (R4.out.less (N := n) (.inr (by omega))).close rfl
              go_round
              case rel => exact ⟨k + 1, g', by omega, by go_num, X1, R5.out⟩
              case measure => simp [intOf]; omega
        · have ek0 : k = 0 := by omega
          subst ek0
          have ho := (chart_open R2.out n (.inr rfl)).close rfl
          rw [← hg'] at ho
          have hbo : Below w'.heap.size w' ((wr.setCell ⟨cb, 0, none⟩ (.slice (some ⟨wr.heap.size, 0, none⟩) (n + 1) (n + 1))).alloc (.cells (madeCells #[.int .i64 0, .int .i64 0] ((n + 1) * 2)) 46)) := (R3.out.setCell (p := ⟨cb, 0, none⟩) (by rw [HCB.out]; exact Nat.le_refl _) _).alloc (by rw [World.size_setCell]; exact R3.out.size) _
          have HO := hide ho
          have HBO := hide hbo
          clear ho hbo
          go_wp2
          go_round
          case rel => exact ⟨1, g', by omega, by go_num, HO.out, HBO.out⟩
          case measure => simp [intOf]
      · have ek : k = S + 1 := by omega
        subst ek
        clear r2 r3
        go_wp2
        exact bodyPost_ret (v := .tuple #[.slice (some ⟨cb, 0, none⟩) (S + 1) (S + 1), .int .i64 0]) (by simp [results, Try.results10, go_sem]) rfl ⟨⟨cb, g, rfl, R2.out⟩, R3.out⟩
end Go.Proofs.Ytbdbbnnkagkioaa.V
