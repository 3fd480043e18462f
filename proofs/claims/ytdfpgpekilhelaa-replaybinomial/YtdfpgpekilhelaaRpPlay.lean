/-
  Contracts: what a play's methods do.
-/
import Derived.Test.YtdfpgpekilhelaaRpRepeat
import Derived.Test.YtdfpgpekilhelaaRpLeast
import Derived.Test.YtdfpgpekilhelaaRpPlayMath
namespace Go.Proofs.Ytdfpgpekilhelaa.V
open Go.RowKit
set_option linter.unusedVariables false

/-- A play in memory. -/
structure PlayAt (w : World) (pb sb n S : Nat) (s : St) : Prop where
  block : w.heap[pb]? = some (.cells #[.int .i64 n, .int .i64 s.now, .int .i64 s.left, .slice (some ⟨sb, 0, none⟩) S S, .int .i64 s.cost] 48 (0, 0))
  row : w.rowIs sb 3 S (fun i => .int .i64 (encO (s.kept[i]?.getD none)))
  ne : pb ≠ sb
theorem PlayAt.lt {w : World} {pb sb n S : Nat} {s : St} (h : PlayAt w pb sb n S s) : pb < w.heap.size := (Array.getElem?_eq_some_iff.1 h.block).1
theorem PlayAt.below {w w' : World} {pb sb n S : Nat} {s : St} (h : PlayAt w pb sb n S s) (hb : Below w.heap.size w w') : PlayAt w' pb sb n S s :=
  ⟨(hb.block pb h.lt).trans h.block, h.row.of_block (hb.block sb h.row.lt), h.ne⟩
theorem PlayAt.alloc {w : World} {pb sb n S : Nat} {s : St} (h : PlayAt w pb sb n S s) (o : Obj) : PlayAt (w.alloc o) pb sb n S s := h.below ((Below.refl _ _).alloc (Nat.le_refl _) _)
theorem PlayAt.drew {w : World} {pb sb n S : Nat} {s : St} (h : PlayAt w pb sb n S s) : PlayAt w.drew pb sb n S s := ⟨h.block, h.row, h.ne⟩
theorem PlayAt.cells {w : World} {pb sb n S : Nat} {s : St} (h : PlayAt w pb sb n S s) : (w.cell? ⟨pb, 0, none⟩ = some (.int .i64 n) ∧ w.cell? ⟨pb, 1, none⟩ = some (.int .i64 s.now) ∧ w.cell? ⟨pb, 2, none⟩ = some (.int .i64 s.left) ∧ w.cell? ⟨pb, 3, none⟩ = some (.slice (some ⟨sb, 0, none⟩) S S) ∧ w.cell? ⟨pb, 4, none⟩ = some (.int .i64 s.cost)) ∧ (w.frozen? ⟨pb, 1, none⟩ = false ∧ w.frozen? ⟨pb, 2, none⟩ = false ∧ w.frozen? ⟨pb, 4, none⟩ = false) := by
  have hb := h.block
  refine ⟨⟨?_, ?_, ?_, ?_, ?_⟩, ?_, ?_, ?_⟩ <;> simp [World.cell?, World.frozen?, hb]

set_option maxHeartbeats 400000 in
theorem has_any (pb sb n S : Nat) (s : St) (N : Int) (w : World) (h : PlayAt w pb sb n S s) (hS : S ≤ 16) :
    Calls Try.prog 30 #[.pointer (some ⟨pb, 0, none⟩), .int .i64 N] w fun e w' => e = .returned (.bool (inS N S)) ∧ w' = w := by
  obtain ⟨⟨k0, k1, k2, k3, k4⟩, _⟩ := h.cells
  go_enter Try.func30, Try.ntmps30
  go_wp2
  all_goals go_ret
  all_goals exact ⟨by congr 2; simp only [inS]; symm; simp; omega, rfl⟩

theorem PlayAt.set1 {w : World} {pb sb n S : Nat} {s : St} (h : PlayAt w pb sb n S s) (x : Nat) : PlayAt (w.setCell ⟨pb, 1, none⟩ (.int .i64 x)) pb sb n S { s with now := x } := by
  refine ⟨?_, h.row.setOther (a := ⟨pb, 1, none⟩) (Ne.symm h.ne) _, h.ne⟩
  have hb := h.block
  simp [World.setCell, Array.getElem?_modify, hb]
theorem PlayAt.set2 {w : World} {pb sb n S : Nat} {s : St} (h : PlayAt w pb sb n S s) (x : Nat) : PlayAt (w.setCell ⟨pb, 2, none⟩ (.int .i64 x)) pb sb n S { s with left := x } := by
  refine ⟨?_, h.row.setOther (a := ⟨pb, 2, none⟩) (Ne.symm h.ne) _, h.ne⟩
  have hb := h.block
  simp [World.setCell, Array.getElem?_modify, hb]
theorem PlayAt.set4 {w : World} {pb sb n S : Nat} {s : St} (h : PlayAt w pb sb n S s) (x : Nat) : PlayAt (w.setCell ⟨pb, 4, none⟩ (.int .i64 x)) pb sb n S { s with cost := x } := by
  refine ⟨?_, h.row.setOther (a := ⟨pb, 4, none⟩) (Ne.symm h.ne) _, h.ne⟩
  have hb := h.block
  simp [World.setCell, Array.getElem?_modify, hb]
theorem PlayAt.setS {w : World} {pb sb n S : Nat} {s : St} (h : PlayAt w pb sb n S s) (hl : s.kept.length = S) (i x : Nat) (hi : i < S) : PlayAt (w.setCell ⟨sb, i, none⟩ (.int .i64 x)) pb sb n S { s with kept := s.kept.set i (some x) } := by
  refine ⟨(Below.heap_setCell _ _ _ _ h.ne).trans h.block, (h.row.set i (.int .i64 x)).congr fun j hj => ?_, h.ne⟩
  by_cases e : j = i
  · subst e; simp [hl, hi, encO]
  · simp only [e, if_false]
    rw [List.getElem?_set_ne (fun h => e h.symm)]

set_option maxHeartbeats 1000000 in
theorem ahead_any (pb sb n S B : Nat) (s : St) (w : World) (h : PlayAt w pb sb n S s) (hn : n ≤ 256) (hs : s.now ≤ n) (hc : s.cost ≤ 9223372036854775806) (hB : B ≤ pb) :
    Calls Try.prog 24 #[.pointer (some ⟨pb, 0, none⟩)] w fun e w' => e = .returned (.int .i64 (if s.now = n then 13 else 0)) ∧ (s.now ≠ n → PlayAt w' pb sb n S { s with now := s.now + 1, cost := s.cost + 1 }) ∧ Below B w w' := by
  obtain ⟨⟨k0, k1, k2, k3, k4⟩, f1, f2, f4⟩ := h.cells
  have H := hide h
  clear h
  by_cases c : s.now = n
  · rw [if_pos c]
    have c' : ((s.now : Int) == (n : Int)) = true := by simp [c]
    have C := hide c
    clear c
    go_enter Try.func24, Try.ntmps24
    go_wp2
    go_region
    go_wp2
    go_ret
    exact ⟨rfl, fun x => absurd C.out x, (Below.refl _ _).drew⟩
  · rw [if_neg c]
    have c' : ((s.now : Int) == (n : Int)) = false := by simp; omega
    have X := ((H.out.set1 (s.now + 1)).set4 (s.cost + 1))
    have Y := ((Below.refl B w).drew.setCell (p := ⟨pb, 1, none⟩) hB (.int .i64 ((s.now : Int) + 1))).setCell (p := ⟨pb, 4, none⟩) hB (.int .i64 ((s.cost : Int) + 1))
    rw [show ((s.now + 1 : Nat) : Int) = (s.now : Int) + 1 by omega, show ((s.cost + 1 : Nat) : Int) = (s.cost : Int) + 1 by omega] at X
    have XX := hide X
    have YY := hide Y
    clear c X Y
    go_enter Try.func24, Try.ntmps24
    go_wp2
    go_region
    go_wp2
    go_ret
    exact ⟨rfl, fun _ => XX.out.drew, YY.out⟩

set_option maxHeartbeats 1000000 in
theorem back_any (pb sb n S B : Nat) (s : St) (w : World) (h : PlayAt w pb sb n S s) (hn : n ≤ 256) (hs : s.now ≤ n) (hl : s.left ≤ n) (hB : B ≤ pb) :
    Calls Try.prog 27 #[.pointer (some ⟨pb, 0, none⟩)] w fun e w' => e = .returned (.int .i64 (if s.now + 1 = s.left then 0 else 13)) ∧ (s.now + 1 = s.left → PlayAt w' pb sb n S { s with left := s.left - 1 }) ∧ Below B w w' := by
  obtain ⟨⟨k0, k1, k2, k3, k4⟩, f1, f2, f4⟩ := h.cells
  have H := hide h
  clear h
  by_cases c : s.now + 1 = s.left
  · rw [if_pos c]
    have c' : ((s.now : Int) != ((s.left : Int) - 1)) = false := by simp; omega
    have X := H.out.set2 (s.left - 1)
    have e : ((s.left - 1 : Nat) : Int) = (s.left : Int) - 1 := by omega
    rw [e] at X
    have Y := (Below.refl B w).drew.setCell (p := ⟨pb, 2, none⟩) hB (.int .i64 ((s.left : Int) - 1))
    have XX := hide X
    have YY := hide Y
    have C := hide c
    clear c X Y e
    go_enter Try.func27, Try.ntmps27
    go_wp2
    go_region
    go_wp2
    go_ret
    exact ⟨rfl, fun _ => XX.out.drew, YY.out⟩
  · rw [if_neg c]
    have c' : ((s.now : Int) != ((s.left : Int) - 1)) = true := by simp; omega
    have C := hide c
    clear c
    go_enter Try.func27, Try.ntmps27
    go_wp2
    go_region
    go_wp2
    go_ret
    exact ⟨rfl, fun x => absurd x C.out, (Below.refl _ _).drew⟩

set_option maxHeartbeats 1000000 in
theorem keep_any (pb sb n S B : Nat) (s : St) (N : Int) (w : World) (h : PlayAt w pb sb n S s) (hS : S ≤ 16) (hl : s.kept.length = S) (hB : B ≤ sb) :
    Calls Try.prog 25 #[.pointer (some ⟨pb, 0, none⟩), .int .i64 N] w fun e w' => e = .returned (.int .i64 (if inS N S = true then 0 else 4)) ∧ (inS N S = true → PlayAt w' pb sb n S { s with kept := s.kept.set N.toNat (some s.now) }) ∧ Below B w w' := by
  obtain ⟨⟨k0, k1, k2, k3, k4⟩, f1, f2, f4⟩ := h.cells
  have H := hide h
  by_cases c : inS N S = true
  · rw [if_pos c]
    obtain ⟨i, rfl, hi⟩ : ∃ i : Nat, N = i ∧ i < S := by
      simp [inS] at c
      exact ⟨N.toNat, by omega, by omega⟩
    have q0 := h.row.cell hi
    have q1 := h.row.frozen i
    have X := H.out.setS hl i s.now hi
    have Y := (Below.refl B w).drew.setCell (p := ⟨sb, i, none⟩) hB (.int .i64 (s.now : Nat))
    have XX := hide X
    have YY := hide Y
    clear X Y h
    go_enter Try.func25, Try.ntmps25
    go_wp2_with (go_at_call 30; refine (has_any _ _ _ _ _ _ _ H.out hS).mono ?_; rintro e w' ⟨rfl, rfl⟩; rw [c])
    go_region
    go_wp2
    go_ret
    exact ⟨rfl, fun _ => by rw [Int.toNat_natCast]; exact XX.out.drew, YY.out⟩
  · rw [if_neg c]
    have c' : inS N S = false := by simpa using c
    clear h
    go_enter Try.func25, Try.ntmps25
    go_wp2_with (go_at_call 30; refine (has_any _ _ _ _ _ _ _ H.out hS).mono ?_; rintro e w' ⟨rfl, rfl⟩; rw [c'])
    go_ret
    exact ⟨rfl, fun x => absurd x (by simpa using c'), Below.refl _ _⟩

set_option maxHeartbeats 1000000 in
theorem load_any (pb sb n S B : Nat) (s : St) (N : Int) (w : World) (h : PlayAt w pb sb n S s) (hS : S ≤ 16) (hl : s.kept.length = S) (hB : B ≤ pb) :
    Calls Try.prog 26 #[.pointer (some ⟨pb, 0, none⟩), .int .i64 N] w fun e w' => e = .returned (.int .i64 (if inS N S = true then (if s.slot N = none then 9 else 0) else 4)) ∧ ((if inS N S = true then (if s.slot N = none then (9 : Int) else 0) else 4) = 0 → PlayAt w' pb sb n S { s with now := (s.slot N).getD 0 }) ∧ Below B w w' := by
  obtain ⟨⟨k0, k1, k2, k3, k4⟩, f1, f2, f4⟩ := h.cells
  have H := hide h
  by_cases c : inS N S = true
  · simp only [if_pos c]
    obtain ⟨i, rfl, hi⟩ : ∃ i : Nat, N = i ∧ i < S := by
      simp [inS] at c
      exact ⟨N.toNat, by omega, by omega⟩
    have q0 := h.row.cell hi
    have es : s.slot (i : Int) = s.kept[i]?.getD none := by simp [St.slot]
    simp only [← es] at q0
    clear es h
    cases hsl : s.slot (i : Int) with
    | none =>
      rw [hsl] at q0
      simp only [encO] at q0
      clear hsl
      go_enter Try.func26, Try.ntmps26
      go_wp2_with (go_at_call 30; refine (has_any _ _ _ _ _ _ _ H.out hS).mono ?_; rintro e w' ⟨rfl, rfl⟩; rw [c])
      go_ret
      first | exact ⟨rfl, fun x => by simp at x, Below.refl _ _⟩ | exact ⟨rfl, Below.refl _ _⟩
    | some a =>
      rw [hsl] at q0
      simp only [encO] at q0
      clear hsl
      have ca : ((a : Int) == -1) = false := by simp
      have X := H.out.set1 a
      have Y := (Below.refl B w).setCell (p := ⟨pb, 1, none⟩) hB (.int .i64 (a : Nat))
      have XX := hide X
      have YY := hide Y
      clear X Y
      go_enter Try.func26, Try.ntmps26
      go_wp2_with (go_at_call 30; refine (has_any _ _ _ _ _ _ _ H.out hS).mono ?_; rintro e w' ⟨rfl, rfl⟩; rw [c])
      go_ret
      first | exact ⟨rfl, fun _ => XX.out, YY.out⟩ | exact ⟨rfl, XX.out, YY.out⟩
  · simp only [if_neg c]
    have c' : inS N S = false := by simpa using c
    clear h
    go_enter Try.func26, Try.ntmps26
    go_wp2_with (go_at_call 30; refine (has_any _ _ _ _ _ _ _ H.out hS).mono ?_; rintro e w' ⟨rfl, rfl⟩; rw [c'])
    go_ret
    first | exact ⟨rfl, fun x => by omega, Below.refl _ _⟩ | exact ⟨rfl, Below.refl _ _⟩

set_option maxHeartbeats 2000000 in
theorem do_any (pb sb n S B : Nat) (s : St) (d N : Int) (w : World) (h : PlayAt w pb sb n S s) (ho : s.Ok n S) (hn : n ≤ 256) (hS : S ≤ 16) (hc : s.cost ≤ 9223372036854775806) (hB1 : B ≤ pb) (hB2 : B ≤ sb) :
    Calls Try.prog 19 #[.pointer (some ⟨pb, 0, none⟩), .agg #[.int .i64 d, .int .i64 N]] w fun e w' => e = .returned (.int .i64 (stepE n s d N)) ∧ (stepE n s d N = 0 → PlayAt w' pb sb n S (stepS s d N)) ∧ Below B w w' := by
  have H := hide (h.alloc (.cells #[.int .i64 d, .int .i64 N] 45))
  have HL := hide ho.len
  have hnow := ho.now
  have hleft := ho.left
  have hlt := h.lt
  have HB : Hid (Below B w (w.alloc (.cells #[.int .i64 d, .int .i64 N] 45))) := (Below.refl _ _).alloc (by omega) _
  clear h ho
  by_cases d1 : d = 1
  · have e1 : stepE n s d N = if s.now = n then 13 else 0 := by simp [stepE, d1]
    have e2 : stepS s d N = { s with now := s.now + 1, cost := s.cost + 1 } := by simp [stepS, d1]
    subst d1
    have E1 := hide e1
    have E2 := hide e2
    clear e1 e2
    go_enter Try.func19, Try.ntmps19
    go_wp2_with (go_at_call 24; refine (ahead_any _ _ _ _ B _ _ H.out hn hnow hc hB1).mono ?_; rintro e w' ⟨rfl, h1, h2⟩; rw [← E1.out]; have H1 := hide h1; have H2 := hide h2; clear h1 h2)
    go_ret
    exact ⟨rfl, fun x => by rw [E2.out]; exact H1.out (fun y => by rw [E1.out, if_pos y] at x; omega), HB.out.trans H2.out⟩
  · by_cases d2 : d = 2
    · have e1 : stepE n s d N = if inS N S = true then 0 else 4 := by simp [stepE, d2, HL.out]
      have e2 : stepS s d N = { s with kept := s.kept.set N.toNat (some s.now) } := by simp [stepS, d2]
      subst d2
      have E1 := hide e1
      have E2 := hide e2
      clear e1 e2
      go_enter Try.func19, Try.ntmps19
      go_wp2_with (go_at_call 25; refine (keep_any _ _ _ _ B _ N _ H.out hS HL.out hB2).mono ?_; rintro e w' ⟨rfl, h1, h2⟩; rw [← E1.out]; have H1 := hide h1; have H2 := hide h2; clear h1 h2)
      go_ret
      exact ⟨rfl, fun x => by rw [E2.out]; exact H1.out (by by_cases y : inS N S = true; exact y; rw [E1.out, if_neg y] at x; omega), HB.out.trans H2.out⟩
    · by_cases d3 : d = 3
      · have e1 : stepE n s d N = if inS N S = true then (if s.slot N = none then 9 else 0) else 4 := by simp [stepE, d3, HL.out]
        have e2 : stepS s d N = { s with now := (s.slot N).getD 0 } := by simp [stepS, d3]
        subst d3
        have E1 := hide e1
        have E2 := hide e2
        clear e1 e2
        go_enter Try.func19, Try.ntmps19
        go_wp2_with (go_at_call 26; refine (load_any _ _ _ _ B _ N _ H.out hS HL.out hB1).mono ?_; rintro e w' ⟨rfl, h1, h2⟩; rw [← E1.out]; have H1 := hide h1; have H2 := hide h2; clear h1 h2)
        go_ret
        exact ⟨rfl, fun x => by rw [E2.out]; exact H1.out (by rw [E1.out] at x; exact x), HB.out.trans H2.out⟩
      · by_cases d4 : d = 4
        · have e1 : stepE n s d N = if s.now + 1 = s.left then 0 else 13 := by simp [stepE, d4]
          have e2 : stepS s d N = { s with left := s.left - 1 } := by simp [stepS, d4]
          subst d4
          have E1 := hide e1
          have E2 := hide e2
          clear e1 e2
          go_enter Try.func19, Try.ntmps19
          go_wp2_with (go_at_call 27; refine (back_any _ _ _ _ B _ _ H.out hn hnow hleft hB1).mono ?_; rintro e w' ⟨rfl, h1, h2⟩; rw [← E1.out]; have H1 := hide h1; have H2 := hide h2; clear h1 h2)
          go_ret
          exact ⟨rfl, fun x => by rw [E2.out]; exact H1.out (by by_cases y : s.now + 1 = s.left; exact y; rw [E1.out, if_neg y] at x; omega), HB.out.trans H2.out⟩
        · have e1 : stepE n s d N = 1 := by simp [stepE, d1, d2, d3, d4]
          have c1 : (d == 1) = false := by simpa using d1
          have c2 : (d == 2) = false := by simpa using d2
          have c3 : (d == 3) = false := by simpa using d3
          have c4 : (d == 4) = false := by simpa using d4
          rw [e1]
          clear e1 d1 d2 d3 d4
          go_enter Try.func19, Try.ntmps19
          go_wp2
          go_ret
          first | exact ⟨rfl, fun x => by omega, HB.out⟩ | exact ⟨rfl, HB.out⟩

set_option maxHeartbeats 1000000 in
theorem begun_any (n S : Nat) (w : World) (hS : S ≤ 16) :
    Calls Try.prog 18 #[.int .i64 n, .int .i64 S] w fun e w' => (∃ pb sb, e = .returned (.pointer (some ⟨pb, 0, none⟩)) ∧ PlayAt w' pb sb n S (.begun n S) ∧ w.heap.size ≤ pb ∧ w.heap.size ≤ sb) ∧ Below w.heap.size w w' := by
  have hc := cell_new w (-1) 3
  have HB : Hid (Below w.heap.size w (w.alloc (.cells #[.int .i64 (-1)] 3))) := (Below.refl _ _).alloc (Nat.le_refl _) _
  have HC := hide hc
  clear hc
  go_enter Try.func18, Try.ntmps18
  go_wp2_with (go_at_call 23; refine (repeat_any _ S _ hS HC.out).mono ?_; rintro e w1 ⟨⟨sb, rfl, h1, h2⟩, hb⟩; have H1 := hide h1; have H2 := hide h2; have HB1 := hide hb; clear h1 h2 hb)
  go_ret
  have hz := HB1.out.size
  have h1 := H1.out
  simp only [World.size_alloc] at hz h1
  refine ⟨⟨_, sb, rfl, ⟨World.alloc_heap_new w1 _, ?_, ?_⟩, by omega, by omega⟩, (HB.out.trans (HB1.out.mono (by simp))).alloc (by omega) _⟩
  · refine (H2.out.alloc _).congr fun i hi => ?_
    simp [St.begun, hi, encO]
  · have := H2.out.lt
    omega
end Go.Proofs.Ytdfpgpekilhelaa.V
