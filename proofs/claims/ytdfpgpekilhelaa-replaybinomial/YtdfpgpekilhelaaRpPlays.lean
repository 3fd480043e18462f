/-
  Contracts: replay.Play, adjointref8.Play; the law ReplayPlays.
-/
import Derived.Test.YtdfpgpekilhelaaRpPlay
namespace Go.Proofs.Ytdfpgpekilhelaa.V
open Go.RowKit
set_option linter.unusedVariables false

/-- A slice of moves. -/
def Moves (w : World) (a : Option Addr) (len : Nat) (ms : List (Int × Int)) : Prop :=
  ms.length = len ∧ len ≤ 9223372036854775807 ∧ (len = 0 ∨ ∃ b off, a = some ⟨b, off, none⟩ ∧ ∀ j, j < len → w.cell? ⟨b, off + j * 2, none⟩ = some (.int .i64 (ms[j]?.getD (0, 0)).1) ∧ w.cell? ⟨b, off + j * 2 + 1, none⟩ = some (.int .i64 (ms[j]?.getD (0, 0)).2))
theorem Moves.below {w w' : World} {a : Option Addr} {len : Nat} {ms : List (Int × Int)} (h : Moves w a len ms) (hb : Below w.heap.size w w') : Moves w' a len ms := by
  obtain ⟨h1, h2, h3⟩ := h
  refine ⟨h1, h2, ?_⟩
  rcases h3 with h3 | ⟨b, off, e, h3⟩
  · exact .inl h3
  · exact .inr ⟨b, off, e, fun j hj => ⟨(hb.cell (p := ⟨b, off + j * 2, none⟩) (lt_of_cell (h3 j hj).1)).trans (h3 j hj).1, (hb.cell (p := ⟨b, off + j * 2 + 1, none⟩) (lt_of_cell (h3 j hj).2)).trans (h3 j hj).2⟩⟩
theorem Moves.at {w : World} {a : Option Addr} {len : Nat} {ms : List (Int × Int)} (h : Moves w a len ms) {k : Nat} (hk : k < len) : ∃ b off, a = some ⟨b, off, none⟩ ∧ w.cell? ⟨b, off + k * 2, none⟩ = some (.int .i64 (ms[k]?.getD (0, 0)).1) ∧ w.cell? ⟨b, off + k * 2 + 1, none⟩ = some (.int .i64 (ms[k]?.getD (0, 0)).2) := by
  rcases h.2.2 with h3 | ⟨b, off, e, h3⟩
  · omega
  · exact ⟨b, off, e, h3 k hk⟩
theorem drop_at {ms : List (Int × Int)} {k : Nat} (h : k < ms.length) : ms.drop k = ms[k]?.getD (0, 0) :: ms.drop (k + 1) := by
  rw [List.drop_eq_getElem_cons h]; simp [h]

set_option maxHeartbeats 2000000 in
theorem Play_ok (n S : Nat) (a : Option Addr) (len cap : Nat) (ms : List (Int × Int)) (w : World) (hn : n ≤ 256) (hS : S ≤ 16) (h : Moves w a len ms) :
    Calls Try.prog 10 #[.int .i64 n, .int .i64 S, .slice a len cap] w fun e w' => e = .returned (.tuple #[.int .i64 (playL n (.begun n S) ms).1, .int .i64 (playL n (.begun n S) ms).2]) ∧ Below w.heap.size w w' := by
  have c : okB (n : Int) (S : Int) = true := by simp [okB]; omega
  have H := hide h
  have hlen := h.2.1
  have HL := hide h.1
  obtain ⟨R, hR⟩ : ∃ R, R = playL n (.begun n S) ms := ⟨_, rfl⟩
  rw [← hR]
  have HR := hide hR
  clear h hR
  go_enter Try.func10, Try.ntmps10
  go_wp2_with (first
    | (go_at_call 17; refine (allowed_any _ _ _).mono ?_; rintro e w' ⟨rfl, rfl⟩; rw [c])
    | (go_at_call 18; refine (begun_any n S _ hS).mono ?_; rintro e w1 ⟨⟨pb, sb, rfl, hp, h1, h2⟩, hb⟩; have HP := hide hp; have HB := hide hb; clear hp hb))
  go_loopw [21] (fun i wr => ∃ (k : Nat) (st : St), k ≤ len ∧ i = .int .i64 k ∧ PlayAt wr pb sb n S st ∧ st.Ok n S ∧ st.cost ≤ k ∧ playL n st (ms.drop k) = R ∧ Below w'.heap.size w' wr) (fun i _ => len - (intOf i).toNat)
  case atStart => exact ⟨0, _, by omega, rfl, HP.out, St.Ok.begun n S, Nat.zero_le _, by rw [HR.out]; rfl, HB.out⟩
  case round =>
    obtain ⟨k, st, r1, rfl, r2, r3, r4, r5, r6⟩ := hrel
    have R2 := hide r2
    have R3 := hide r3
    have R5 := hide r5
    have R6 := hide r6
    clear r2 r3 r5 r6
    by_cases hk : k < len
    · obtain ⟨b, off, rfl, q0, q1⟩ := (H.out.below R6.out).at hk
      obtain ⟨m, hm⟩ : ∃ m, m = ms[k]?.getD (0, 0) := ⟨_, rfl⟩
      rw [← hm] at q0 q1
      have hst : playL n st (m :: ms.drop (k + 1)) = R := by rw [hm, ← drop_at (by rw [HL.out]; exact hk)]; exact R5.out
      have HST := hide hst
      have z := lt_of_cell q0
      have R7 : Hid (Below w'.heap.size w' (wr.alloc (.cells #[.int .i64 m.1, .int .i64 m.2] 45))) := R6.out.alloc R6.out.size _
      have R8 := hide (R2.out.alloc (.cells #[.int .i64 m.1, .int .i64 m.2] 45))
      clear hst hm R5
      by_cases hE : stepE n st m.1 m.2 = 0
      · have hst : playL n (stepS st m.1 m.2) (ms.drop (k + 1)) = R := by have := HST.out; rw [playL, if_pos hE] at this; exact this
        have HST2 := hide hst
        have HE := hide hE
        clear hst hE
        go_wp2_with (go_at_call 19; refine (do_any _ _ _ _ w'.heap.size _ _ _ _ R8.out R3.out hn hS (by omega) h1 h2).mono ?_; rintro e w2 ⟨rfl, x1, x2⟩; rw [HE.out]; have X1 := hide (x1 HE.out); have X2 := hide x2; clear x1 x2)
        go_round
        case rel => exact ⟨k + 1, _, by omega, by go_num, X1.out, R3.out.step HE.out, by have := stepS_cost st m.1 m.2; omega, HST2.out, R7.out.trans X2.out⟩
        case measure => simp [intOf]; omega
      · have hst : (0, stepE n st m.1 m.2) = R := by have := HST.out; rw [playL, if_neg hE] at this; exact this
        obtain ⟨E, hEE⟩ : ∃ E, E = stepE n st m.1 m.2 := ⟨_, rfl⟩
        rw [← hEE] at hst hE
        have HEE := hide hEE
        have hE' : (E != 0) = true := by simpa using hE
        have HST2 := hide hst
        clear hst hE hEE
        go_wp2_with (go_at_call 19; refine (do_any _ _ _ _ w'.heap.size _ _ _ _ R8.out R3.out hn hS (by omega) h1 h2).mono ?_; rintro e w2 ⟨rfl, x1, x2⟩; rw [← HEE.out]; have X2 := hide x2; clear x1 x2)
        refine bodyPost_ret (v := .tuple #[.int .i64 0, .int .i64 E]) (by simp [results, Try.results10, go_sem]) rfl ⟨by rw [← HST2.out], R7.out.trans X2.out⟩
    · have ek : k = len := by omega
      subst ek
      have hst : playL n st [] = R := by have := R5.out; rw [List.drop_of_length_le (by rw [HL.out]; omega)] at this; exact this
      obtain ⟨⟨k0, k1, k2, k3, k4⟩, _⟩ := R2.out.cells
      by_cases hl : st.left = 0
      · rw [playL, if_pos hl] at hst
        have HST := hide hst
        have hl' : ¬ (0 : Int) < (st.left : Int) := by omega
        clear hst hl
        go_wp2
        refine bodyPost_ret (v := .tuple #[.int .i64 st.cost, .int .i64 0]) (by simp [results, Try.results10, go_sem]) rfl ⟨by rw [← HST.out], R6.out⟩
      · rw [playL, if_neg hl] at hst
        have HST := hide hst
        have hl' : (0 : Int) < (st.left : Int) := by omega
        clear hst hl
        go_wp2
        refine bodyPost_ret (v := .tuple #[.int .i64 0, .int .i64 13]) (by simp [results, Try.results10, go_sem]) rfl ⟨by rw [← HST.out], R6.out⟩

/-- The slots, on the document's side. -/
def Kept (w : World) (kb S : Nat) (s : St) : Prop := w.rowIs kb 3 S (fun i => .int .i64 (encO (s.kept[i]?.getD none)))
theorem Kept.below {w w' : World} {kb S : Nat} {s : St} (h : Kept w kb S s) (hb : Below w.heap.size w w') : Kept w' kb S s := h.of_block (hb.block kb h.lt)
theorem Kept.set {w : World} {kb S : Nat} {s : St} (h : Kept w kb S s) (hl : s.kept.length = S) (i x : Nat) (hi : i < S) : Kept (w.setCell ⟨kb, i, none⟩ (.int .i64 x)) kb S { s with kept := s.kept.set i (some x) } := by
  refine (World.rowIs.set h i (.int .i64 x)).congr fun j hj => ?_
  by_cases e : j = i
  · subst e; simp [hl, hi, encO]
  · simp only [e, if_false]
    rw [List.getElem?_set_ne (fun h => e h.symm)]

set_option maxRecDepth 100000 in
set_option maxHeartbeats 4000000 in
theorem rPlay_ok (n S : Nat) (a : Option Addr) (len cap : Nat) (ms : List (Int × Int)) (w : World) (hn : n ≤ 256) (hS : S ≤ 16) (h : Moves w a len ms) :
    Calls Try.prog 11 #[.int .i64 n, .int .i64 S, .slice a len cap] w fun e w' => e = .returned (.tuple #[.int .i64 (playL n (.begun n S) ms).1, .int .i64 (playL n (.begun n S) ms).2]) ∧ Below w.heap.size w w' := by
  have H := hide h
  have hlen := h.2.1
  have HL := hide h.1
  obtain ⟨R, hR⟩ : ∃ R, R = playL n (.begun n S) ms := ⟨_, rfl⟩
  rw [← hR]
  have HR := hide hR
  have hmk := run_make_row' (P := Try.prog) 41 3 (.int .i64 0) 8 Try.underlying41 infoI rfl .i64 .i64 S (by omega) (by omega)
  have c1 : ¬ (n : Int) < 0 := by omega
  have c2 : ¬ (256 : Int) < n := by omega
  have c3 : ¬ (S : Int) < 0 := by omega
  have c4 : ¬ (16 : Int) < S := by omega
  clear h hR
  go_enter Try.func11, Try.ntmps11
  go_wp2
  clear hmk
  have hm0 : (w.alloc (.cells (madeCells #[.int .i64 0] S) 3)).rowIs w.heap.size 3 S (fun j => if j < 0 then .int .i64 (-1) else .int .i64 0) := (World.rowIs_made w (.int .i64 0) S _).congr (fun i _ => by simp)
  have hb0 : Below w.heap.size w (w.alloc (.cells (madeCells #[.int .i64 0] S) 3)) := (Below.refl _ _).alloc (Nat.le_refl _) _
  have HM0 := hide hm0
  have HB0 := hide hb0
  clear hm0 hb0
  go_loopw [34] (fun i wr => ∃ k : Nat, k ≤ S ∧ i = .int .i64 k ∧ wr.rowIs w.heap.size 3 S (fun j => if j < k then .int .i64 (-1) else .int .i64 0) ∧ Below w.heap.size w wr) (fun i _ => S - (intOf i).toNat)
  case atStart => exact ⟨0, by omega, rfl, HM0.out, HB0.out⟩
  case round =>
    obtain ⟨k, r1, rfl, r2, r3⟩ := hrel
    have R2 := hide r2
    have R3 := hide r3
    by_cases hk : k < S
    · have q0 := r2.cell hk
      have q1 := r2.frozen k
      have X : (wr.setCell ⟨w.heap.size, k, none⟩ (.int .i64 (-1))).rowIs w.heap.size 3 S (fun j => if j < k + 1 then .int .i64 (-1) else .int .i64 0) := by
        refine (r2.set k (.int .i64 (-1))).congr fun j hj => ?_
        by_cases e : j = k
        · subst e; simp
        · by_cases e2 : j < k
          · have : j < k + 1 := by omega
            simp [e, e2, this]
          · have : ¬ j < k + 1 := by omega
            simp [e, e2, this]
      have Y := r3.setCell (p := ⟨w.heap.size, k, none⟩) (Nat.le_refl _) (.int .i64 (-1))
      have XX := hide X
      have YY := hide Y
      clear r2 r3 X Y
      go_wp2
      go_round
      case rel => exact ⟨k + 1, by omega, by go_num, XX.out, YY.out⟩
      case measure => simp [intOf]; omega
    · have ek : k = S := by omega
      subst ek
      have hk0 : Kept wr w.heap.size k (.begun n k) := World.rowIs.congr r2 fun i hi => by simp [St.begun, hi, encO]
      have HK0 := hide hk0
      clear r2 r3 hk0
      go_wp2
      go_loopw [8, 9, 10, 43] (fun v l t i wr => ∃ (j : Nat) (st : St), (j ≤ len ∧ v = .int .i64 st.now ∧ l = .int .i64 st.left ∧ t = .int .i64 st.cost) ∧ i = .int .i64 j ∧ Kept wr w.heap.size k st ∧ st.Ok n k ∧ st.cost ≤ j ∧ playL n st (ms.drop j) = R ∧ Below w.heap.size w wr) (fun _ _ _ i _ => len - (intOf i).toNat)
      case atStart => exact ⟨0, .begun n k, ⟨by omega, rfl, rfl, rfl⟩, rfl, HK0.out, St.Ok.begun n k, Nat.zero_le _, by rw [HR.out]; rfl, R3.out⟩
      case round =>
        obtain ⟨j, st, ⟨r1, rfl, rfl, rfl⟩, rfl, r2, r3, r4, r5, r6⟩ := hrel
        have K2 := hide r2
        have K3 := hide r3
        have K5 := hide r5
        have K6 := hide r6
        have hnow := r3.now
        have hleft := r3.left
        clear r2 r3 r5 r6
        by_cases hj : j < len
        · obtain ⟨b, off, rfl, q0, q1⟩ := (H.out.below K6.out).at hj
          obtain ⟨d, N, hm⟩ : ∃ d N, ms[j]?.getD (0, 0) = (d, N) := ⟨_, _, rfl⟩
          rw [hm] at q0 q1
          have hst : playL n st ((d, N) :: ms.drop (j + 1)) = R := by rw [← hm, ← drop_at (by rw [HL.out]; exact hj)]; exact K5.out
          have HST := hide hst
          have z := lt_of_cell q0
          have z2 := World.rowIs.lt K2.out
          have R7 : Hid (Below w.heap.size w (wr.alloc (.cells #[.int .i64 d, .int .i64 N] 45))) := K6.out.alloc K6.out.size _
          have R8 : Hid (Kept (wr.alloc (.cells #[.int .i64 d, .int .i64 N] 45)) w.heap.size k st) := K2.out.below ((Below.refl _ _).alloc (Nat.le_refl _) _)
          clear hst hm K5
          by_cases d1 : d = 1
          · subst d1
            by_cases hc : st.now = n
            · have hc' : (n : Int) ≤ (st.now : Int) := by omega
              have hs2 : ((0 : Int), (13 : Int)) = R := by have := HST.out; rw [playL, if_neg (by simp [stepE, hc])] at this; rw [← this]; simp [stepE, hc]
              have HS2 := hide hs2
              clear hs2 hc
              go_wp2
              refine bodyPost_ret (v := .tuple #[.int .i64 0, .int .i64 13]) (by simp [results, Try.results11, go_sem]) rfl ⟨by rw [← HS2.out], R7.out⟩
            · have hc' : ¬ (n : Int) ≤ (st.now : Int) := by omega
              have he : stepE n st 1 N = 0 := by simp [stepE, hc]
              have hs2 : playL n (stepS st 1 N) (ms.drop (j + 1)) = R := by have := HST.out; rw [playL, if_pos he] at this; exact this
              have OK := hide (K3.out.step he)
              have HS2 := hide hs2
              clear hs2 he hc
              go_wp2
              go_round
              case rel => exact ⟨j + 1, stepS st 1 N, ⟨by omega, by simp [stepS], by simp [stepS], by simp [stepS]⟩, by go_num, R8.out, OK.out, by simp [stepS]; omega, HS2.out, R7.out⟩
              case measure => simp [intOf]; omega
          · have c1 : (d == 1) = false := by simpa using d1
            by_cases d2 : d = 2
            · subst d2
              by_cases hc : inS N k = true
              · obtain ⟨i, rfl, hi⟩ : ∃ i : Nat, N = i ∧ i < k := by
                  simp [inS] at hc
                  exact ⟨N.toNat, by omega, by omega⟩
                have X := (K2.out.set K3.out.len i st.now hi).below ((Below.refl _ _).alloc (Nat.le_refl _) (.cells #[.int .i64 2, .int .i64 (i : Nat)] 45))
                have Y := (K6.out.setCell (p := ⟨w.heap.size, i, none⟩) (Nat.le_refl _) (.int .i64 (st.now : Nat))).alloc (by rw [World.size_setCell]; exact K6.out.size) (.cells #[.int .i64 2, .int .i64 (i : Nat)] 45)
                have XX := hide X
                have YY := hide Y
                have x0 := World.rowIs.cell K2.out hi
                have x1 := World.rowIs.frozen K2.out i
                have hkl := K3.out.len
                have he : stepE n st 2 (i : Int) = 0 := by simp [stepE, hc, hkl]
                have hs2 : playL n (stepS st 2 (i : Int)) (ms.drop (j + 1)) = R := by have := HST.out; rw [playL, if_pos he] at this; exact this
                have OK := hide (K3.out.step he)
                have HS2 := hide hs2
                clear hs2 he hc X Y hkl
                have hi' : ¬ (k : Int) ≤ (i : Int) := by omega
                go_wp2
                go_round
                case rel => exact ⟨j + 1, stepS st 2 i, ⟨by omega, by simp [stepS], by simp [stepS], by simp [stepS]⟩, by go_num, by unfold Kept; simp only [stepS]; exact XX.out, OK.out, by simp [stepS]; omega, HS2.out, YY.out⟩
                case measure => simp [intOf]; omega
              · have hkl := K3.out.len
                have hcf : inS N k = false := by simpa using hc
                have hs2 : ((0 : Int), (4 : Int)) = R := by have := HST.out; rw [playL, if_neg (by simp [stepE, hkl, hcf])] at this; rw [← this]; simp [stepE, hkl, hcf]
                have HS2 := hide hs2
                clear hs2 hkl
                have hc' : N < 0 ∨ (k : Int) ≤ N := by simp [inS] at hcf; omega
                clear hc hcf
                by_cases hc2 : N < 0
                · go_wp2
                  refine bodyPost_ret (v := .tuple #[.int .i64 0, .int .i64 4]) (by simp [results, Try.results11, go_sem]) rfl ⟨by rw [← HS2.out], R7.out⟩
                have hc3 : (k : Int) ≤ N := by omega
                go_wp2
                refine bodyPost_ret (v := .tuple #[.int .i64 0, .int .i64 4]) (by simp [results, Try.results11, go_sem]) rfl ⟨by rw [← HS2.out], R7.out⟩
            · have c2 : (d == 2) = false := by simpa using d2
              by_cases d3 : d = 3
              · subst d3
                by_cases hc : inS N k = true
                · obtain ⟨i, rfl, hi⟩ : ∃ i : Nat, N = i ∧ i < k := by
                    simp [inS] at hc
                    exact ⟨N.toNat, by omega, by omega⟩
                  have x0 := World.rowIs.cell K2.out hi
                  have es : st.slot (i : Int) = st.kept[i]?.getD none := by simp [St.slot]
                  simp only [← es] at x0
                  have hkl := K3.out.len
                  have hi' : ¬ (k : Int) ≤ (i : Int) := by omega
                  cases hsl : st.slot (i : Int) with
                  | none =>
                    rw [hsl] at x0
                    simp only [encO] at x0
                    have hs2 : ((0 : Int), (9 : Int)) = R := by have := HST.out; rw [playL, if_neg (by simp [stepE, hc, hkl, hsl])] at this; rw [← this]; simp [stepE, hc, hkl, hsl]
                    have HS2 := hide hs2
                    clear hs2 hc hkl hsl es
                    go_wp2
                    refine bodyPost_ret (v := .tuple #[.int .i64 0, .int .i64 9]) (by simp [results, Try.results11, go_sem]) rfl ⟨by rw [← HS2.out], R7.out⟩
                  | some v =>
                    rw [hsl] at x0
                    simp only [encO] at x0
                    have hv : (stepS st 3 (i : Int)).now = v := by simp [stepS, hsl]
                    have HV := hide hv
                    have he : stepE n st 3 (i : Int) = 0 := by simp [stepE, hc, hkl, hsl]
                    have hs2 : playL n (stepS st 3 (i : Int)) (ms.drop (j + 1)) = R := by have := HST.out; rw [playL, if_pos he] at this; exact this
                    have OK := hide (K3.out.step he)
                    have HS2 := hide hs2
                    clear hs2 he hc hkl hsl es hv
                    have hv0 : ¬ (v : Int) < 0 := by omega
                    go_wp2
                    go_round
                    case rel => exact ⟨j + 1, stepS st 3 i, ⟨by omega, by rw [HV.out], by simp [stepS], by simp [stepS]⟩, by go_num, by unfold Kept; simp only [stepS]; exact R8.out, OK.out, by simp [stepS]; omega, HS2.out, R7.out⟩
                    case measure => simp [intOf]; omega
                · have hkl := K3.out.len
                  have hcf : inS N k = false := by simpa using hc
                  have hs2 : ((0 : Int), (4 : Int)) = R := by have := HST.out; rw [playL, if_neg (by simp [stepE, hkl, hcf])] at this; rw [← this]; simp [stepE, hkl, hcf]
                  have HS2 := hide hs2
                  clear hs2 hkl
                  have hc' : N < 0 ∨ (k : Int) ≤ N := by simp [inS] at hcf; omega
                  clear hc hcf
                  by_cases hc2 : N < 0
                  · go_wp2
                    refine bodyPost_ret (v := .tuple #[.int .i64 0, .int .i64 4]) (by simp [results, Try.results11, go_sem]) rfl ⟨by rw [← HS2.out], R7.out⟩
                  have hc3 : (k : Int) ≤ N := by omega
                  go_wp2
                  refine bodyPost_ret (v := .tuple #[.int .i64 0, .int .i64 4]) (by simp [results, Try.results11, go_sem]) rfl ⟨by rw [← HS2.out], R7.out⟩
              · have c3 : (d == 3) = false := by simpa using d3
                by_cases d4 : d = 4
                · subst d4
                  by_cases hc : st.now + 1 = st.left
                  · have hc1 : ((st.left : Int) == 0) = false := by simp; omega
                    have hc2 : ((st.now : Int) != (st.left : Int) - 1) = false := by simp; omega
                    have hl1 : ((stepS st 4 N).left : Int) = (st.left : Int) - 1 := by simp [stepS]; omega
                    have HL1 := hide hl1
                    have he : stepE n st 4 N = 0 := by simp [stepE, hc]
                    have hs2 : playL n (stepS st 4 N) (ms.drop (j + 1)) = R := by have := HST.out; rw [playL, if_pos he] at this; exact this
                    have OK := hide (K3.out.step he)
                    have HS2 := hide hs2
                    clear hs2 he hc hl1
                    go_wp2
                    go_round
                    case rel => exact ⟨j + 1, stepS st 4 N, ⟨by omega, by simp [stepS], by rw [HL1.out], by simp [stepS]⟩, by go_num, by unfold Kept; simp only [stepS]; exact R8.out, OK.out, by simp [stepS]; omega, HS2.out, R7.out⟩
                    case measure => simp [intOf]; omega
                  · by_cases hc0 : st.left = 0
                    · have hc1 : ((st.left : Int) == 0) = true := by simp [hc0]
                      have hs2 : ((0 : Int), (13 : Int)) = R := by have := HST.out; rw [playL, if_neg (by simp [stepE, hc])] at this; rw [← this]; simp [stepE, hc]
                      have HS2 := hide hs2
                      clear hs2 hc hc0
                      go_wp2
                      refine bodyPost_ret (v := .tuple #[.int .i64 0, .int .i64 13]) (by simp [results, Try.results11, go_sem]) rfl ⟨by rw [← HS2.out], R7.out⟩
                    · have hc1 : ((st.left : Int) == 0) = false := by simp; omega
                      have hc2 : ((st.now : Int) != (st.left : Int) - 1) = true := by simp; omega
                      have hs2 : ((0 : Int), (13 : Int)) = R := by have := HST.out; rw [playL, if_neg (by simp [stepE, hc])] at this; rw [← this]; simp [stepE, hc]
                      have HS2 := hide hs2
                      clear hs2 hc hc0
                      go_wp2
                      refine bodyPost_ret (v := .tuple #[.int .i64 0, .int .i64 13]) (by simp [results, Try.results11, go_sem]) rfl ⟨by rw [← HS2.out], R7.out⟩
                · have c4 : (d == 4) = false := by simpa using d4
                  have hs2 : ((0 : Int), (1 : Int)) = R := by have := HST.out; rw [playL, if_neg (by simp [stepE, d1, d2, d3, d4])] at this; rw [← this]; simp [stepE, d1, d2, d3, d4]
                  have HS2 := hide hs2
                  clear hs2 d1 d2 d3 d4
                  go_wp2
                  refine bodyPost_ret (v := .tuple #[.int .i64 0, .int .i64 1]) (by simp [results, Try.results11, go_sem]) rfl ⟨by rw [← HS2.out], R7.out⟩
        · have ej : j = len := by omega
          subst ej
          have hst : playL n st [] = R := by have := K5.out; rw [List.drop_of_length_le (by rw [HL.out]; omega)] at this; exact this
          by_cases hl : st.left = 0
          · rw [playL, if_pos hl] at hst
            have HST := hide hst
            have hl' : ((st.left : Int) != 0) = false := by simp [hl]
            clear hst hl
            go_wp2
            refine bodyPost_ret (v := .tuple #[.int .i64 st.cost, .int .i64 0]) (by simp [results, Try.results11, go_sem]) rfl ⟨by rw [← HST.out], K6.out⟩
          · rw [playL, if_neg hl] at hst
            have HST := hide hst
            have hl' : ((st.left : Int) != 0) = true := by simp; omega
            clear hst hl
            go_wp2
            refine bodyPost_ret (v := .tuple #[.int .i64 0, .int .i64 13]) (by simp [results, Try.results11, go_sem]) rfl ⟨by rw [← HST.out], K6.out⟩

theorem okB_of (n s : Int) : okB n s = true ↔ 0 ≤ n ∧ n ≤ 256 ∧ 0 ≤ s ∧ s ≤ 16 := by simp [okB]; omega
set_option maxHeartbeats 1000000 in
theorem Play_any (n s : Int) (a : Option Addr) (len cap : Nat) (ms : List (Int × Int)) (w : World) (h : Moves w a len ms) :
    Calls Try.prog 10 #[.int .i64 n, .int .i64 s, .slice a len cap] w fun e w' => e = .returned (.tuple #[.int .i64 (playN n s ms).1, .int .i64 (playN n s ms).2]) ∧ Below w.heap.size w w' := by
  by_cases c : 0 ≤ n ∧ n ≤ 256 ∧ 0 ≤ s ∧ s ≤ 16
  · obtain ⟨N, S, rfl, rfl⟩ : ∃ N S : Nat, n = N ∧ s = S := ⟨n.toNat, s.toNat, by omega, by omega⟩
    have e : playN (N : Int) (S : Int) ms = playL N (.begun N S) ms := by rw [playN, if_pos c]; rfl
    rw [e]
    exact Play_ok N S a len cap ms w (by omega) (by omega) h
  · have e : playN n s ms = (0, 4) := by rw [playN, if_neg c]
    rw [e]
    have c' : okB n s = false := by
      cases q : okB n s with
      | false => rfl
      | true => exact absurd ((okB_of n s).1 q) c
    clear c e
    go_enter Try.func10, Try.ntmps10
    go_wp2_with (go_at_call 17; refine (allowed_any _ _ _).mono ?_; rintro e w' ⟨rfl, rfl⟩; rw [c'])
    exact bodyPost_ret (v := .tuple #[.int .i64 0, .int .i64 4]) (by simp [results, Try.results10, go_sem]) rfl ⟨rfl, Below.refl _ _⟩

set_option maxHeartbeats 1000000 in
theorem rPlay_any (n s : Int) (a : Option Addr) (len cap : Nat) (ms : List (Int × Int)) (w : World) (h : Moves w a len ms) :
    Calls Try.prog 11 #[.int .i64 n, .int .i64 s, .slice a len cap] w fun e w' => e = .returned (.tuple #[.int .i64 (playN n s ms).1, .int .i64 (playN n s ms).2]) ∧ Below w.heap.size w w' := by
  by_cases c : 0 ≤ n ∧ n ≤ 256 ∧ 0 ≤ s ∧ s ≤ 16
  · obtain ⟨N, S, rfl, rfl⟩ : ∃ N S : Nat, n = N ∧ s = S := ⟨n.toNat, s.toNat, by omega, by omega⟩
    have e : playN (N : Int) (S : Int) ms = playL N (.begun N S) ms := by rw [playN, if_pos c]; rfl
    rw [e]
    exact rPlay_ok N S a len cap ms w (by omega) (by omega) h
  · have e : playN n s ms = (0, 4) := by rw [playN, if_neg c]
    rw [e]
    clear e
    by_cases c1 : n < 0
    · clear c
      go_enter Try.func11, Try.ntmps11
      go_wp2
      exact bodyPost_ret (v := .tuple #[.int .i64 0, .int .i64 4]) (by simp [results, Try.results11, go_sem]) rfl ⟨rfl, Below.refl _ _⟩
    · by_cases c2 : 256 < n
      · clear c
        go_enter Try.func11, Try.ntmps11
        go_wp2
        exact bodyPost_ret (v := .tuple #[.int .i64 0, .int .i64 4]) (by simp [results, Try.results11, go_sem]) rfl ⟨rfl, Below.refl _ _⟩
      · by_cases c3 : s < 0
        · clear c
          go_enter Try.func11, Try.ntmps11
          go_wp2
          exact bodyPost_ret (v := .tuple #[.int .i64 0, .int .i64 4]) (by simp [results, Try.results11, go_sem]) rfl ⟨rfl, Below.refl _ _⟩
        · have c4 : 16 < s := by omega
          clear c
          go_enter Try.func11, Try.ntmps11
          go_wp2
          exact bodyPost_ret (v := .tuple #[.int .i64 0, .int .i64 4]) (by simp [results, Try.results11, go_sem]) rfl ⟨rfl, Below.refl _ _⟩

set_option maxHeartbeats 1000000 in
theorem replayPlays_walk (n s : Int) (a : Option Addr) (len cap : Nat) (ms : List (Int × Int)) (w : World) (h : Moves w a len ms) :
    Calls Try.prog 4 #[.int .i64 n, .int .i64 s, .slice a len cap] w fun e w' => e = .returned (.bool true) ∧ Below w.heap.size w w' := by
  have H := hide h
  clear h
  go_enter Try.func4, Try.ntmps4
  go_wp2_with (go_at_call 10; refine (Play_any n s _ _ _ ms _ H.out).mono ?_; rintro e w1 ⟨rfl, hb⟩; have HB1 := hide hb; clear hb)
  refine (rPlay_any n s _ _ _ ms _ (H.out.below HB1.out)).mono ?_
  rintro e w2 ⟨rfl, hb⟩
  have HB2 := hide hb
  clear hb
  go_wp2
  go_ret
  exact ⟨by simp, below_on HB1.out HB2.out⟩
end Go.Proofs.Ytdfpgpekilhelaa.V
