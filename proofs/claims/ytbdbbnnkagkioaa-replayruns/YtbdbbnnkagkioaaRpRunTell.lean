/-
  Contract: what Run tells its moves to.
-/
import Derived.Test.YtbdbbnnkagkioaaRpRun
namespace Go.Proofs.Ytbdbbnnkagkioaa.V
open Go.RowKit
set_option linter.unusedVariables false

set_option maxHeartbeats 2000000 in
theorem tellR_any (b : Bk) (n S : Nat) (start : Int) (st : St) (v : Value) (d N : Int) (w : World) (h : RunAt w b n S start st v) (ho : st.Ok n S) (hn : n ≤ 256) (hS : S ≤ 16) (hs : -1099511627776 ≤ start ∧ start ≤ 1099511627776) (hc : st.cost ≤ 1000000) (hB : b.B ≤ w.heap.size) (he : stepE n st d N = 0) :
    Calls Try.prog 14 #[.agg #[.int .i64 d, .int .i64 N], .pointer (some ⟨b.ab, 0, none⟩), .pointer (some ⟨b.nb, 0, none⟩), .pointer (some ⟨b.kv, 0, none⟩), .pointer (some ⟨b.bb, 0, none⟩)] w fun e w' => e = .returned (.tuple #[]) ∧ (∃ v', RunAt w' b n S start (stepS st d N) v') ∧ Sv b w w' := by
  obtain ⟨A, hA⟩ : ∃ A : Obj, A = .cells #[.int .i64 d, .int .i64 N] 41 := ⟨_, rfl⟩
  have h1 := h.alloc A
  have S1 : Sv b w (w.alloc A) := Sv.alloc hB A
  have hB1 : b.B ≤ (w.alloc A).heap.size := by simp; omega
  obtain ⟨ka, _⟩ := cell_of h.ahead
  obtain ⟨kb, _⟩ := cell_of h.back
  obtain ⟨kn, fn⟩ := cell_of h.now
  obtain ⟨kk, _⟩ := cell_of h.kept
  have za := lt_of_block h.ahead
  have zb := lt_of_block h.back
  have zn := lt_of_block h.now
  have zk := lt_of_block h.kept
  have H1 := hide h1
  have SS1 := hide S1
  by_cases d1 : d = 1
  · have hnow : st.now < n := by
      have h1 := ho.now
      have : st.now ≠ n := fun e => by simp [stepE, d1, e] at he
      omega
    have e2 : stepS st d N = { st with now := st.now + 1, cost := st.cost + 1 } := by simp [stepS, d1]
    have E2 := hide e2
    have HC := hide (ahead1_any b n S start st v (w.alloc A) h1 hn hs hnow hc)
    subst d1
    clear e2 h1 S1 h
    go_enter Try.func14, Try.ntmps14
    go_wp2_with (go_at_call 7; rw [← hA]; refine HC.out.mono ?_; rintro e w1 ⟨rfl, q1, q2⟩; obtain ⟨kn1, fn1⟩ := cell_of q1.now; have Q1 := hide q1; have Q2 := hide q2; clear q1 q2 HC)
    have X := Q1.out.setNow (st.now + 1)
    rw [show ((st.now + 1 : Nat) : Int) = (st.now : Int) + 1 by omega] at X
    exact bodyPost_end (v := .tuple #[]) (by simp [results, Try.results14, go_sem]) rfl ⟨rfl, ⟨v, by rw [E2.out]; exact X⟩, (SS1.out.trans Q2.out).trans (Sv.setNow Q1.out _)⟩
  · have c1 : (d == 1) = false := by simpa using d1
    by_cases d2 : d = 2
    · obtain ⟨i, rfl, hi⟩ : ∃ i : Nat, N = i ∧ i < S := by
        have : inS N st.kept.length = true := by
          by_cases q : inS N st.kept.length = true
          · exact q
          · simp [stepE, d2, q] at he
        rw [ho.len] at this
        simp [inS] at this
        exact ⟨N.toNat, by omega, by omega⟩
      have e2 : stepS st d (i : Int) = { st with kept := st.kept.set i (some st.now) } := by simp [stepS, d2]
      have E2 := hide e2
      have x0 := h.row.cell hi
      have x1 := h.row.frozen i
      have zkb := h.row.lt
      have X := (h.setKept ho.len i st.now hi).alloc A
      have Y : Sv b w ((w.setCell ⟨b.kb, i, none⟩ (.int .i64 (start + st.now))).alloc A) := (Sv.setKept i _).trans (Sv.alloc (by rw [World.size_setCell]; exact hB) A)
      have XX := hide X
      have YY := hide Y
      subst d2
      clear e2 h1 S1 h X Y
      go_enter Try.func14, Try.ntmps14
      go_wp2_with fail
      rw [← hA]
      exact bodyPost_end (v := .tuple #[]) (by simp [results, Try.results14, go_sem]) rfl ⟨rfl, ⟨v, by rw [E2.out]; exact XX.out⟩, YY.out⟩
    · have c2 : (d == 2) = false := by simpa using d2
      by_cases d3 : d = 3
      · have hin : inS N st.kept.length = true := by
          by_cases q : inS N st.kept.length = true
          · exact q
          · simp [stepE, d3, q] at he
        have hsl : st.slot N ≠ none := fun q => by simp [stepE, d3, hin, q] at he
        obtain ⟨i, rfl, hi⟩ : ∃ i : Nat, N = i ∧ i < S := by
          rw [ho.len] at hin
          simp [inS] at hin
          exact ⟨N.toNat, by omega, by omega⟩
        obtain ⟨a, ha⟩ : ∃ a, st.slot (i : Int) = some a := by
          cases q : st.slot (i : Int) with
          | none => exact absurd q hsl
          | some a => exact ⟨a, rfl⟩
        have e2 : stepS st d (i : Int) = { st with now := a } := by simp [stepS, d3, ha]
        have E2 := hide e2
        have x0 := h.row.cell hi
        have es : st.kept[i]?.getD none = some a := by simpa [St.slot] using ha
        simp only [es, valO] at x0
        have zkb := h.row.lt
        have X := (h.setNow a).alloc A
        have Y : Sv b w ((w.setCell ⟨b.nb, 0, none⟩ (.int .i64 (start + a))).alloc A) := (Sv.setNow h _).trans (Sv.alloc (by rw [World.size_setCell]; exact hB) A)
        have XX := hide X
        have YY := hide Y
        subst d3
        clear e2 h1 S1 h X Y es hsl ha
        go_enter Try.func14, Try.ntmps14
        go_wp2_with fail
        rw [← hA]
        exact bodyPost_end (v := .tuple #[]) (by simp [results, Try.results14, go_sem]) rfl ⟨rfl, ⟨v, by rw [E2.out]; exact XX.out⟩, YY.out⟩
      · have c3 : (d == 3) = false := by simpa using d3
        have d4 : d = 4 := by
          by_cases q : d = 4
          · exact q
          · simp [stepE, d1, d2, d3, q] at he
        have hbk : st.now + 1 = st.left := by
          by_cases q : st.now + 1 = st.left
          · exact q
          · simp [stepE, d4, q] at he
        have e2 : stepS st d N = { st with left := st.left - 1 } := by simp [stepS, d4]
        have E2 := hide e2
        have HC := hide (back1_any b n S start st v (w.alloc A) h1 hn hs hbk ho.left hB1)
        subst d4
        clear e2 h1 S1 h
        go_enter Try.func14, Try.ntmps14
        go_wp2_with (go_at_call 8; rw [← hA]; refine HC.out.mono ?_; rintro e w1 ⟨rfl, ⟨v', q1⟩, q2⟩; have Q1 := hide q1; have Q2 := hide q2; clear q1 q2 HC)
        exact bodyPost_end (v := .tuple #[]) (by simp [results, Try.results14, go_sem]) rfl ⟨rfl, ⟨v', by rw [E2.out]; exact Q1.out⟩, SS1.out.trans Q2.out⟩
end Go.Proofs.Ytbdbbnnkagkioaa.V
