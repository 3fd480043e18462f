/-
  The document's list of tokens: text, bad, much, isNumber; IsName. Contract: adjointref3.IsName. The document's side: shape, numbers. The document's side: numbers. The document's side: expr.
-/
import Derived.Test.YtadhlnlcdljamaaGreatDoorTxRead
namespace Go.Proofs.YtadhlnlcdljamaaGreatDoor.V
set_option maxRecDepth 20000
open Go.RowKit
set_option linter.unusedVariables false

/-- The document's tokens lie in memory. -/
structure LsAt (X : Tks) (A : Option Addr) (c : Nat) (w : World) : Prop where
  len : X.ts.length ≤ 65536
  n : X.n ≤ 65536
  toks : X.ts.length = 0 ∨ ∃ G, A = some ⟨G, 0, none⟩ ∧ G < w.heap.size ∧ ∀ j, j < X.ts.length → w.cell? ⟨G, j * 2, none⟩ = some (.string (X.tx j)) ∧ w.cell? ⟨G, j * 2 + 1, none⟩ = some (.int .i64 (X.ps j : Int))
theorem LsAt.below {X : Tks} {A : Option Addr} {c : Nat} {w w' : World} (h : LsAt X A c w) (hb : Below w.heap.size w w') : LsAt X A c w' := by
  refine ⟨h.len, h.n, ?_⟩
  rcases h.toks with h1 | ⟨G, rfl, h2, h3⟩
  · exact .inl h1
  · exact .inr ⟨G, rfl, Nat.lt_of_lt_of_le h2 hb.size, fun j hj => ⟨(hb.cell (p := ⟨G, j * 2, none⟩) h2).trans (h3 j hj).1, (hb.cell (p := ⟨G, j * 2 + 1, none⟩) h2).trans (h3 j hj).2⟩⟩
theorem LsAt.alloc {X : Tks} {A : Option Addr} {c : Nat} {w : World} (h : LsAt X A c w) (o : Obj) : LsAt X A c (w.alloc o) := h.below ((Below.refl _ _).alloc (Nat.le_refl _) o)
/-- The list as a value. -/
abbrev lsV (X : Tks) (A : Option Addr) (c : Nat) : Value := .agg #[.slice A X.ts.length c, .int .i64 (X.n : Int)]

set_option maxHeartbeats 1000000 in
theorem rText {X : Tks} {A : Option Addr} {c : Nat} {w : World} (h : LsAt X A c w) (i : Nat) : Calls Tryz.prog 24 #[lsV X A c, .int .i64 (i : Int)] w fun e w' => e = .returned (.string (X.tx i)) ∧ Below w.heap.size w w' := by
  have h' := h.alloc (.cells #[.slice A X.ts.length c, .int .i64 (X.n : Int)] 41)
  have HB := hide ((Below.refl _ w).alloc (Nat.le_refl _) (.cells #[.slice A X.ts.length c, .int .i64 (X.n : Int)] 41))
  have hl := h.len
  by_cases hi : i < X.ts.length
  · rcases h'.toks with h1 | ⟨G, rfl, h2, h3⟩
    · omega
    · have t0 := (h3 i hi).1
      have i1 : (0 : Int) ≤ (i : Int) := Int.natCast_nonneg _
      have i2 : (i : Int) < (X.ts.length : Int) := by omega
      have i3 : ¬ (X.ts.length : Int) ≤ (i : Int) := by omega
      obtain ⟨tx, htx⟩ : ∃ tx, tx = X.tx i := ⟨_, rfl⟩
      rw [← htx] at t0 ⊢
      unfold lsV
      clear h h' h3 htx hi h2
      go_enter Tryz.func24, Tryz.ntmps24
      go_wp2
      go_ret
      exact ⟨rfl, HB.out⟩
  · rw [Tks.tx_end (by omega)]
    have i3 : (X.ts.length : Int) ≤ (i : Int) := by omega
    unfold lsV
    clear h h' hi
    go_enter Tryz.func24, Tryz.ntmps24
    go_wp2
    go_ret
    exact ⟨rfl, HB.out⟩

set_option maxRecDepth 100000 in
set_option maxHeartbeats 1000000 in
theorem rBad {X : Tks} {A : Option Addr} {c : Nat} {w : World} (h : LsAt X A c w) (i : Nat) : Calls Tryz.prog 25 #[lsV X A c, .int .i64 (i : Int)] w fun e w' => e = .returned (.agg #[.int .i64 7, .int .i64 (X.ps i : Int)]) ∧ Below w.heap.size w w' := by
  have h' := (h.alloc (.cells #[.slice A X.ts.length c, .int .i64 (X.n : Int)] 41)).alloc (.cells #[.int .i64 0, .int .i64 0] 25)
  have HB : Hid (∀ x y, Below w.heap.size w ((w.alloc (.cells #[.slice A X.ts.length c, .int .i64 (X.n : Int)] 41)).alloc (.cells #[x, y] 25))) := fun x y => ((Below.refl _ w).alloc (Nat.le_refl _) _).alloc (by simp) _
  have HTW : Hid (∀ x y, TwoAt 25 ((w.alloc (.cells #[.slice A X.ts.length c, .int .i64 (X.n : Int)] 41)).alloc (.cells #[x, y] 25)) (w.heap.size + 1) x y) := fun x y => by
    have := TwoAt.new 25 (w.alloc (.cells #[.slice A X.ts.length c, .int .i64 (X.n : Int)] 41)) x y
    simpa using this
  have hl := h.len
  have hE : ∀ (W : World) (p : Int), TwoAt 25 W (w.heap.size + 1) (.int .i64 7) (.int .i64 p) → W.cell? ⟨w.heap.size + 1, 0, none⟩ = some (.int .i64 7) ∧ W.cell? ⟨w.heap.size + 1, 1, none⟩ = some (.int .i64 p) := fun W p h => h.cells.1
  have HE := hide hE
  clear hE
  by_cases hi : i < X.ts.length
  · rcases h'.toks with h1 | ⟨G, rfl, h2, h3⟩
    · omega
    · have t0 := (h3 i hi).2
      have i1 : (0 : Int) ≤ (i : Int) := Int.natCast_nonneg _
      have i2 : (i : Int) < (X.ts.length : Int) := by omega
      have i3 : ¬ (X.ts.length : Int) ≤ (i : Int) := by omega
      obtain ⟨p, hp⟩ : ∃ p, p = X.ps i := ⟨_, rfl⟩
      rw [← hp] at t0 ⊢
      unfold lsV
      clear h h' h3 hp hi h2
      go_enter Tryz.func25, Tryz.ntmps25
      go_wp2
      obtain ⟨u0, u1⟩ := HE.out _ _ (HTW.out (.int .i64 7) (.int .i64 (p : Int)))
      exact bodyPost_ret (v := .agg #[.int .i64 7, .int .i64 (p : Int)]) (by simp [results, Tryz.results25, go_sem, u0, u1]) rfl ⟨rfl, HB.out _ _⟩
  · have hp : X.ps i = X.n := if_neg hi
    rw [hp]
    have i3 : (X.ts.length : Int) ≤ (i : Int) := by omega
    unfold lsV
    clear h h' hi hp
    go_enter Tryz.func25, Tryz.ntmps25
    go_wp2
    obtain ⟨u0, u1⟩ := HE.out _ _ (HTW.out (.int .i64 7) (.int .i64 (X.n : Int)))
    exact bodyPost_ret (v := .agg #[.int .i64 7, .int .i64 (X.n : Int)]) (by simp [results, Tryz.results25, go_sem, u0, u1]) rfl ⟨rfl, HB.out _ _⟩

set_option maxRecDepth 100000 in
set_option maxHeartbeats 1000000 in
theorem rMuch {X : Tks} {A : Option Addr} {c : Nat} {w : World} (h : LsAt X A c w) (i : Nat) : Calls Tryz.prog 45 #[lsV X A c, .int .i64 (i : Int)] w fun e w' => e = .returned (.agg #[.int .i64 5, .int .i64 (X.ps i : Int)]) ∧ Below w.heap.size w w' := by
  have HC := hide (rBad ((h.alloc (.cells #[.slice A X.ts.length c, .int .i64 (X.n : Int)] 41)).alloc (.cells #[.int .i64 0, .int .i64 0] 25)) i)
  have HB0 : Hid (Below w.heap.size w ((w.alloc (.cells #[.slice A X.ts.length c, .int .i64 (X.n : Int)] 41)).alloc (.cells #[.int .i64 0, .int .i64 0] 25))) := ((Below.refl _ w).alloc (Nat.le_refl _) _).alloc (by simp) _
  have HD0 : Hid (TwoAt 25 ((w.alloc (.cells #[.slice A X.ts.length c, .int .i64 (X.n : Int)] 41)).alloc (.cells #[.int .i64 0, .int .i64 0] 25)) (w.heap.size + 1) (.int .i64 0) (.int .i64 0)) := by
    have := TwoAt.new 25 (w.alloc (.cells #[.slice A X.ts.length c, .int .i64 (X.n : Int)] 41)) (.int .i64 0) (.int .i64 0)
    simpa [Hid] using this
  obtain ⟨p, hp⟩ : ∃ p, p = X.ps i := ⟨_, rfl⟩
  rw [← hp] at HC ⊢
  unfold lsV at *
  clear h hp
  go_enter Tryz.func45, Tryz.ntmps45
  go_wp2_with (go_at_call 25; refine HC.out.mono ?_; rintro e w1 ⟨rfl, hb⟩; have HB1 := hide (HB0.out.trans (hb.mono HB0.out.size)); have HD1 := hide (HD0.out.below hb); obtain ⟨⟨q0, q1⟩, fq0, fq1⟩ := HD1.out.cells; have hd := HD1.out.lt; clear hb)
  have HO := hide (TwoAt.out (w := w1) (b := w.heap.size + 1) (.int .i64 5) (.int .i64 (p : Int)))
  have HP := hide (HD1.out.put (.int .i64 5) (.int .i64 (p : Int)))
  have HBB := hide (HB1.out.trans (HO.out.under (B := w.heap.size) (by omega) HB1.out.size))
  obtain ⟨⟨u0, u1⟩, _, _⟩ := (HP.out.alloc (.cells #[.int .i64 5, .int .i64 (p : Int)] 25)).cells
  exact bodyPost_ret (v := .agg #[.int .i64 5, .int .i64 (p : Int)]) (by simp [results, Tryz.results45, go_sem, u0, u1]) rfl ⟨rfl, HBB.out.alloc HBB.out.size _⟩

set_option maxHeartbeats 1000000 in
theorem rIsNum {X : Tks} {A : Option Addr} {c : Nat} {w : World} (h : LsAt X A c w) (i : Nat) : Calls Tryz.prog 47 #[lsV X A c, .int .i64 (i : Int)] w fun e w' => e = .returned (.bool (isNumB (X.tx i))) ∧ Below w.heap.size w w' := by
  have HL := hide (h.alloc (.cells #[.slice A X.ts.length c, .int .i64 (X.n : Int)] 41))
  have HB0 : Hid (Below w.heap.size w (w.alloc (.cells #[.slice A X.ts.length c, .int .i64 (X.n : Int)] 41))) := (Below.refl _ w).alloc (Nat.le_refl _) _
  have HT0 : Hid (TwoAt 41 (w.alloc (.cells #[.slice A X.ts.length c, .int .i64 (X.n : Int)] 41)) w.heap.size (.slice A X.ts.length c) (.int .i64 (X.n : Int))) := TwoAt.new _ _ _ _
  unfold isNumB lsV
  clear h
  cases h1 : ((X.tx i).toList == []) with
  | true =>
    go_enter Tryz.func47, Tryz.ntmps47
    go_wp2_with (go_at_call 24; refine (rText HL.out i).mono ?_; rintro e w1 ⟨rfl, hb⟩; have HB1 := hide (HB0.out.trans (hb.mono HB0.out.size)); clear hb)
    go_ret
    exact ⟨rfl, HB1.out⟩
  | false =>
    have h0 := ne_size h1
    rw [xsOf_at _ 0 h0]
    go_enter Tryz.func47, Tryz.ntmps47
    go_wp2_with (first
      | (go_at_call 24; refine (rText HL.out i).mono ?_; rintro e w1 ⟨rfl, hb⟩; have HB1 := hide (HB0.out.trans (hb.mono HB0.out.size)); have HL1 := hide (HL.out.below hb); obtain ⟨⟨q0, q1⟩, _, _⟩ := (HT0.out.below hb).cells; clear hb HL)
      | (go_at_call 24; refine (rText HL1.out i).mono ?_; rintro e w2 ⟨rfl, hb⟩; have HB2 := hide (HB1.out.trans (hb.mono HB1.out.size)); clear hb)
      | (go_at_call 20; refine (rDigit _ _).mono ?_; rintro e w3 ⟨rfl, hw'⟩; obtain rfl := hw'.symm; clear hw'))
    go_ret
    exact ⟨rfl, HB2.out⟩
end Go.Proofs.YtadhlnlcdljamaaGreatDoor.V
namespace Go.Proofs.YtadhlnlcdljamaaGreatDoor.V
set_option maxRecDepth 20000
open Go.RowKit
set_option linter.unusedVariables false

theorem isNameB_eq {s : ByteArray} (h : (s.toList == []) = false) : isNameB s = (letterI ((xsOf s)[0]?.getD 0) && (!isOwnB s && (xsOf s).all wordI)) := by
  unfold isNameB
  rw [h]
  have h0 := ne_size h
  rw [← xsOf_length] at h0
  cases ha : (xsOf s).all wordI with
  | false => simp
  | true =>
    rw [List.all_eq_true] at ha
    have hw := ha ((xsOf s)[0]'h0) (List.getElem_mem h0)
    have e : (xsOf s)[0]?.getD 0 = (xsOf s)[0]'h0 := by simp [h0]
    rw [e]
    obtain ⟨x, hx⟩ : ∃ x, x = (xsOf s)[0]'h0 := ⟨_, rfl⟩
    rw [← hx] at hw ⊢
    unfold wordI at hw
    cases hl : letterI x with
    | true =>
      have : digitI x = false := by
        cases hd : digitI x with
        | false => rfl
        | true =>
          have a := digit_bd hd
          simp only [letterI, Bool.or_eq_true, Bool.and_eq_true, decide_eq_true_eq, beq_iff_eq] at hl
          omega
      rw [this]
      rfl
    | false =>
      rw [hl] at hw
      have : digitI x = true := by simpa using hw
      rw [this]
      rfl

set_option maxRecDepth 100000 in
set_option maxHeartbeats 4000000 in
theorem rIsName (s : ByteArray) (w : World) (hs : s.size ≤ 65536) : Calls Tryz.prog 26 #[.string s] w fun e w' => e = .returned (.bool (isNameB s)) ∧ w' = w := by
  cases h1 : (s.toList == []) with
  | true =>
    have HN : Hid (isNameB s = false) := by rw [Hid, isNameB, h1]; rfl
    rw [HN.out]
    go_enter Tryz.func26, Tryz.ntmps26
    go_wp2
    go_ret
    exact ⟨rfl, rfl⟩
  | false =>
    have h0 := ne_size h1
    rw [isNameB_eq h1, xsOf_at s 0 h0]
    have HL := hide (xsOf_length s)
    have HX := hide (xsOf_at s)
    have HA := hide (rLetter ((s[0].toNat : Nat) : Int) w)
    obtain ⟨b, hb⟩ : ∃ b, b = letterI ((s[0].toNat : Nat) : Int) := ⟨_, rfl⟩
    rw [← hb] at HA ⊢
    clear hb
    cases b with
    | false =>
      go_enter Tryz.func26, Tryz.ntmps26
      go_wp2_with (go_at_call 19; refine HA.out.mono ?_; rintro e w' ⟨rfl, hw'⟩; obtain rfl := hw'.symm)
      go_ret
      exact ⟨rfl, rfl⟩
    | true =>
      unfold isOwnB
      cases g1 : (s.toList == tFn) with
      | true =>
        go_enter Tryz.func26, Tryz.ntmps26
        go_wp2_with (go_at_call 19; refine HA.out.mono ?_; rintro e w' ⟨rfl, hw'⟩; obtain rfl := hw'.symm)
        go_ret
        exact ⟨rfl, rfl⟩
      | false =>
        cases g2 : (s.toList == tLet) with
        | true =>
          go_enter Tryz.func26, Tryz.ntmps26
          go_wp2_with (go_at_call 19; refine HA.out.mono ?_; rintro e w' ⟨rfl, hw'⟩; obtain rfl := hw'.symm)
          go_ret
          exact ⟨rfl, rfl⟩
        | false =>
          cases g3 : (s.toList == tIn) with
          | true =>
            go_enter Tryz.func26, Tryz.ntmps26
            go_wp2_with (go_at_call 19; refine HA.out.mono ?_; rintro e w' ⟨rfl, hw'⟩; obtain rfl := hw'.symm)
            go_ret
            exact ⟨rfl, rfl⟩
          | false =>
            cases g4 : (s.toList == tRepeat) with
            | true =>
              go_enter Tryz.func26, Tryz.ntmps26
              go_wp2_with (go_at_call 19; refine HA.out.mono ?_; rintro e w' ⟨rfl, hw'⟩; obtain rfl := hw'.symm)
              go_ret
              exact ⟨rfl, rfl⟩
            | false =>
              cases g5 : (s.toList == tWith) with
              | true =>
                go_enter Tryz.func26, Tryz.ntmps26
                go_wp2_with (go_at_call 19; refine HA.out.mono ?_; rintro e w' ⟨rfl, hw'⟩; obtain rfl := hw'.symm)
                go_ret
                exact ⟨rfl, rfl⟩
              | false =>
                obtain ⟨xs, hxs⟩ : ∃ xs, xs = xsOf s := ⟨_, rfl⟩
                rw [← hxs] at HL HX ⊢
                clear hxs
                go_enter Tryz.func26, Tryz.ntmps26
                go_wp2_with (go_at_call 19; refine HA.out.mono ?_; rintro e w' ⟨rfl, hw'⟩; obtain rfl := hw'.symm)
                go_loop [3] (fun i => ∃ k : Nat, k ≤ s.size ∧ i = .int .i64 (k : Int) ∧ (xs.take k).all wordI = true) (fun i => s.size - (intOf i).toNat)
                case atStart => exact ⟨0, Nat.zero_le _, rfl, rfl⟩
                case round =>
                  obtain ⟨k, hkn, rfl, ha⟩ := hrel
                  have HAA := hide ha
                  clear ha
                  by_cases hlt : k < s.size
                  · have HW1 := hide (rLetter ((s[k].toNat : Nat) : Int) w)
                    have HW2 := hide (rDigit ((s[k].toNat : Nat) : Int) w)
                    have HY := hide (HX.out k hlt)
                    have HWW : Hid (wordI ((s[k].toNat : Nat) : Int) = (letterI ((s[k].toNat : Nat) : Int) || digitI ((s[k].toNat : Nat) : Int))) := rfl
                    obtain ⟨b1, hb1⟩ : ∃ b, b = letterI ((s[k].toNat : Nat) : Int) := ⟨_, rfl⟩
                    obtain ⟨b2, hb2⟩ : ∃ b, b = digitI ((s[k].toNat : Nat) : Int) := ⟨_, rfl⟩
                    rw [← hb1] at HW1 HWW
                    rw [← hb2] at HW2 HWW
                    clear hb1 hb2
                    cases b1 with
                    | true =>
                      go_wp2_with (go_at_call 19; refine HW1.out.mono ?_; rintro e w' ⟨rfl, hw'⟩; obtain rfl := hw'.symm)
                      go_round
                      case rel => exact ⟨k + 1, by omega, by go_num, allW_succ (by rw [HL.out]; exact hlt) HAA.out (by rw [HY.out, HWW.out]; rfl)⟩
                      case measure => simp [intOf]; omega
                    | false =>
                      cases b2 with
                      | true =>
                        go_wp2_with (first | (go_at_call 19; refine HW1.out.mono ?_; rintro e w' ⟨rfl, hw'⟩; obtain rfl := hw'.symm) | (go_at_call 20; refine HW2.out.mono ?_; rintro e w' ⟨rfl, hw'⟩; obtain rfl := hw'.symm))
                        go_round
                        case rel => exact ⟨k + 1, by omega, by go_num, allW_succ (by rw [HL.out]; exact hlt) HAA.out (by rw [HY.out, HWW.out]; rfl)⟩
                        case measure => simp [intOf]; omega
                      | false =>
                        go_wp2_with (first | (go_at_call 19; refine HW1.out.mono ?_; rintro e w' ⟨rfl, hw'⟩; obtain rfl := hw'.symm) | (go_at_call 20; refine HW2.out.mono ?_; rintro e w' ⟨rfl, hw'⟩; obtain rfl := hw'.symm))
                        go_ret
                        rw [allW_not (xs := xs) (k := k) (by rw [HL.out]; exact hlt) (by rw [HY.out, HWW.out]; rfl)]
                        exact ⟨rfl, rfl⟩
                  · have hk : k = s.size := by omega
                    have HT : Hid (xs.all wordI = true) := by have := HAA.out; rwa [List.take_of_length_le (by rw [HL.out]; omega)] at this
                    go_wp2
                    go_ret
                    rw [HT.out]
                    exact ⟨rfl, rfl⟩
end Go.Proofs.YtadhlnlcdljamaaGreatDoor.V
namespace Go.Proofs.YtadhlnlcdljamaaGreatDoor.V
set_option maxRecDepth 20000
open Go.RowKit
set_option linter.unusedVariables false

/-- How the document's side answers: a fault, or what was read. -/
def RefP {α : Type} (shp : Value → Prop) (rep : World → α → Value → Prop) (r : Res α) (w : World) (e : Ending) (w' : World) : Prop :=
  Below w.heap.size w w' ∧ match r with
  | .bad T k => T ≠ 0 ∧ ∃ (v : Value) (J : Int), e = .returned (.tuple #[v, .int .i64 J, .agg #[.int .i64 T, .int .i64 (k : Int)]]) ∧ shp v
  | .ok a j => ∃ v, e = .returned (.tuple #[v, .int .i64 (j : Int), .agg #[.int .i64 0, .int .i64 0]]) ∧ rep w' a v
def isSl (v : Value) : Prop := ∃ A n c, v = .slice A n c
/-- The list's box, and the cell of the fault. -/
structure Bx (X : Tks) (A : Option Addr) (c b D : Nat) (w W : World) : Prop where
  l0 : LsAt X A c w
  t : TwoAt 41 W b (.slice A X.ts.length c) (.int .i64 (X.n : Int))
  d : TwoAt 25 W D (.int .i64 0) (.int .i64 0)
  bw : Below w.heap.size w W
theorem Bx.l {X : Tks} {A : Option Addr} {c b D : Nat} {w W : World} (h : Bx X A c b D w W) : LsAt X A c W := h.l0.below h.bw
theorem Bx.below {X : Tks} {A : Option Addr} {c b D : Nat} {w W W' : World} (h : Bx X A c b D w W) (hb : Below W.heap.size W W') : Bx X A c b D w W' := ⟨h.l0, h.t.below hb, h.d.below hb, h.bw.trans (hb.mono h.bw.size)⟩
theorem Bx.alloc {X : Tks} {A : Option Addr} {c b D : Nat} {w W : World} (h : Bx X A c b D w W) (o : Obj) : Bx X A c b D w (W.alloc o) := h.below ((Below.refl _ _).alloc (Nat.le_refl _) o)
theorem below_grown {w W W' : World} {row : Option Nat} (h : Below w.heap.size w W) (hg : W.grownBy W' row) (hr : ∀ g, row = some g → w.heap.size ≤ g) : Below w.heap.size w W' :=
  ⟨hg.os.trans h.os, hg.tape.trans h.tape, hg.output.trans h.output, Nat.le_trans h.size hg.size, fun k hk => (hg.block k (Nat.lt_of_lt_of_le hk h.size) (fun e => by have := hr _ e.symm; omega)).trans (h.block k hk)⟩
theorem Bx.grown {X : Tks} {A : Option Addr} {c b D : Nat} {w W W' : World} {row : Option Nat} (h : Bx X A c b D w W) (hg : W.grownBy W' row) (h1 : some b ≠ row) (h2 : some D ≠ row) (hr : ∀ g, row = some g → w.heap.size ≤ g) : Bx X A c b D w W' := ⟨h.l0, h.t.grown hg h1, h.d.grown hg h2, below_grown h.bw hg hr⟩
theorem Bx.new {X : Tks} {A : Option Addr} {c : Nat} {w : World} (h : LsAt X A c w) : Bx X A c w.heap.size (w.heap.size + 1) w ((w.alloc (.cells #[.slice A X.ts.length c, .int .i64 (X.n : Int)] 41)).alloc (.cells #[.int .i64 0, .int .i64 0] 25)) := by
  refine ⟨h, (TwoAt.new _ _ _ _).alloc _, ?_, ((Below.refl _ w).alloc (Nat.le_refl _) _).alloc (by simp) _⟩
  have := TwoAt.new 25 (w.alloc (.cells #[.slice A X.ts.length c, .int .i64 (X.n : Int)] 41)) (.int .i64 0) (.int .i64 0)
  simpa using this
/-- One more entry of a row of the document's side. -/
theorem grow_ref {α : Type} {p : World → (Nat → Prop) → α → List Value → Prop} (H : Stays p) {X : Tks} {A : Option Addr} {c b D B : Nat} {t : TypeId} {k : Nat} {w0 w w' : World} {us : List α} {a : α} {v v' : Value} {cs cs' : List Value} {o : Obj}
    (hb : b < B) (hD : D < B) (hB : w0.heap.size ≤ B) (hx : Bx X A c b D w0 w) (ho : w.ownsRow B t k v us.length cs) (h2 : RowsV (p w fun b => far B b ∧ some b ≠ v.ownBlock) us cs) (ha : p w (fun b => far B b ∧ some b ≠ v.ownBlock) a cs')
    (hg : (w.alloc o).grownBy w' v.ownBlock) (hn : v'.ownBlock = v.ownBlock ∨ v'.ownBlock = some (w.heap.size + 1)) (h' : w'.ownsRow B t k v' (us.length + 1) (cs ++ cs')) :
    Bx X A c b D w0 w' ∧ GrowV p t k w' B (far B) (us ++ [a]) v' := by
  have hne : ∀ x, x < B → some x ≠ v.ownBlock := fun x hx e => by have := (ho.lt x e.symm).1; omega
  refine ⟨(hx.alloc o).grown hg (hne b hb) (hne D hD) (fun g e => by have := (ho.lt g e).1; omega), ?_⟩
  exact GrowV.snoc H (h2.mono fun _ _ h => H.keep h (Keep.alloc _ _)) (H.keep ha (Keep.alloc _ _)) hg (by rw [show (w.alloc o).heap.size = w.heap.size + 1 by simp]; exact hn) h'
theorem GrowV.far {α : Type} {p : World → (Nat → Prop) → α → List Value → Prop} (H : Stays p) {t : TypeId} {k : Nat} {w w' : World} {B : Nat} {us : List α} {v : Value} (h : GrowV p t k w B (far B) us v) (hb : Below w.heap.size w w') : GrowV p t k w' B (V.far B) us v := by
  obtain ⟨cs, h1, h2⟩ := h
  exact GrowV.kept H ⟨cs, h1, h2⟩ (hb.by none) (by cases v.ownBlock <;> simp) (fun _ _ _ => by simp)

set_option maxRecDepth 100000 in
set_option maxHeartbeats 4000000 in
theorem rShape {X : Tks} {A : Option Addr} {c : Nat} {w : World} (ok : X.Ok) (h : LsAt X A c w) (i : Nat) (hi : i ≤ X.ts.length) : Calls Tryz.prog 44 #[lsV X A c, .int .i64 (i : Int)] w (RefP isSl (repD w) (shapeS X i) w) := by
  obtain ⟨i0, hi0, hz0, hz1, hz2⟩ := info_parts dimInfo
  have HI := hide hi0
  have HI0 := hide hz0
  have HI1 := hide hz1
  have HI2 := hide hz2
  have HOK := hide ok
  have HX0 := hide (Bx.new h)
  have hxl := h.len
  unfold lsV shapeS mustS at *
  clear h ok hi0 hz0 hz1 hz2
  cases hb : ((X.tx i).toList == tC 91) with
  | false =>
    rw [if_neg (by simp), Res.bind_bad]
    obtain ⟨p, hp⟩ : ∃ p, p = X.ps i := ⟨_, rfl⟩
    rw [← hp]
    have HPP := hide hp
    clear hp
    go_enter Tryz.func44, Tryz.ntmps44
    go_wp2_with (first
      | (go_at_call 24; refine (rText HX0.out.l i).mono ?_; rintro e w1 ⟨rfl, hb⟩; have HX1 := hide (HX0.out.below hb); obtain ⟨⟨q0, q1⟩, fq0, fq1⟩ := HX1.out.t.cells; obtain ⟨⟨d0, d1⟩, fd0, fd1⟩ := HX1.out.d.cells; clear hb)
      | (go_at_call 25; refine (rBad HX1.out.l i).mono ?_; rintro e w2 ⟨rfl, hb⟩; have HX2 := hide (HX1.out.below hb); obtain ⟨⟨q0, q1⟩, fq0, fq1⟩ := HX2.out.t.cells; obtain ⟨⟨d0, d1⟩, fd0, fd1⟩ := HX2.out.d.cells; rw [← HPP.out]; clear hb)
      )
    have HP := hide (HX2.out.d.put (.int .i64 7) (.int .i64 (p : Int)))
    have HO := hide (TwoAt.out (w := w2) (b := w.heap.size + 1) (.int .i64 7) (.int .i64 (p : Int)))
    have HBF := hide (below_grown HX2.out.bw HO.out (fun g e => by cases e; omega))
    obtain ⟨⟨u0, u1⟩, _, _⟩ := HP.out.cells
    refine bodyPost_ret (v := .tuple #[.slice none 0 0, .int .i64 (i), .agg #[.int .i64 7, .int .i64 (p : Int)]]) (by simp [results, Tryz.results44, go_sem, u0, u1]) rfl ?_
    exact ⟨HBF.out, by decide, _, i, rfl, _, _, _, rfl⟩
  | true =>
    rw [if_pos rfl, Res.bind_ok]
    have hil := Tks.lt_of hb (by simp)
    obtain ⟨r0, hr0⟩ : ∃ r0, r0 = shapeL X (X.ts.length + 1) (i + 1) [] := ⟨_, rfl⟩
    rw [← hr0]
    have HR0 := hide hr0
    clear hr0
    go_enter Tryz.func44, Tryz.ntmps44
    go_wp2_with (first
      | (go_at_call 24; refine (rText HX0.out.l i).mono ?_; rintro e w1 ⟨rfl, hb⟩; have HX1 := hide (HX0.out.below hb); obtain ⟨⟨q0, q1⟩, fq0, fq1⟩ := HX1.out.t.cells; obtain ⟨⟨d0, d1⟩, fd0, fd1⟩ := HX1.out.d.cells; clear hb)
      )
    go_loopw [1, 7] (fun vi vo wr => ∃ (f j : Nat) (ds : List (ByteArray × Int)), vi = .int .i64 (j : Int) ∧ j ≤ X.ts.length ∧ Bx X A c w.heap.size (w.heap.size + 1) w wr ∧ r0 = shapeL X f j ds ∧ X.ts.length - j < f ∧ ds.length ≤ j ∧ w.heap.size + 2 ≤ wr.heap.size ∧ GrowV DimV 72 2 wr (w.heap.size + 2) (far (w.heap.size + 2)) ds vo) (fun vi _ _ => X.ts.length + 1 - (intOf vi).toNat)
    case atStart => exact ⟨_, i + 1, [], by go_num, by omega, HX1.out, HR0.out, by omega, Nat.zero_le _, by have := HX1.out.d.lt; omega, GrowV.nil _ _ _ _ _ _⟩
    case round =>
      obtain ⟨f, j, ds, rfl, hjl, hX, hsl, hf, hd, hsz, hO⟩ := hrel
      obtain ⟨f, rfl⟩ : ∃ g, f = g + 1 := ⟨f - 1, by omega⟩
      rw [shapeL] at hsl
      have HX2 := hide hX
      have HO2 := hide hO
      obtain ⟨⟨q0, q1⟩, fq0, fq1⟩ := hX.t.cells
      clear hX hO HX1
      cases hb2 : ((X.tx j).toList == tC 93) with
      | true =>
        rw [if_pos hb2] at hsl
        have HSL := hide hsl
        clear hsl
        go_wp2_with (first
          | (go_at_call 24; refine (rText HX2.out.l j).mono ?_; rintro e w3 ⟨rfl, hb⟩; have HX3 := hide (HX2.out.below hb); obtain ⟨⟨q0, q1⟩, fq0, fq1⟩ := HX3.out.t.cells; obtain ⟨⟨d0, d1⟩, fd0, fd1⟩ := HX3.out.d.cells; have HO3 := hide (HO2.out.far DimV.stays hb); clear hb)
          )
        have HP := hide (HX3.out.d.put (.int .i64 0) (.int .i64 0))
        have HO := hide (TwoAt.out (w := w3) (b := w.heap.size + 1) (.int .i64 0) (.int .i64 0))
        have HBF := hide (below_grown HX3.out.bw HO.out (fun g e => by cases e; omega))
        obtain ⟨⟨u0, u1⟩, _, _⟩ := HP.out.cells
        refine bodyPost_ret (v := .tuple #[u7, .int .i64 ((j : Int) + 1), .agg #[.int .i64 0, .int .i64 0]]) (by simp [results, Tryz.results44, go_sem, u0, u1]) rfl ?_
        rw [HSL.out]
        have HS3 := HO3.out.slice DimV.stays (fun _ h => h)
        exact ⟨HBF.out, _, by simp, DimV.stays.slice_weaken (DimV.stays.slice HS3 (far_keep HO.out (by omega))) (fun b _ hb => by have h9 : w.heap.size + 2 ≤ b := hb; unfold from_; omega)⟩
      | false =>
        rw [if_neg (by rw [hb2]; simp)] at hsl
        cases hn : isNumB (X.tx j) with
        | true =>
          rw [if_pos hn] at hsl
          have HSL := hide hsl
          have hjlt := isNumB_lt hn
          obtain ⟨hd1, hd2⟩ := HOK.out.num j hn
          have HVL := hide (rValue (X.tx j))
          have HVV := hide (val_yes hd2)
          have hsm := HOK.out.small j
          clear hsl
          go_wp2_with (first
            | (go_at_call 24; refine (rText HX2.out.l j).mono ?_; rintro e w3 ⟨rfl, hb⟩; have HX3 := hide (HX2.out.below hb); obtain ⟨⟨q0, q1⟩, fq0, fq1⟩ := HX3.out.t.cells; obtain ⟨⟨d0, d1⟩, fd0, fd1⟩ := HX3.out.d.cells; have HO3 := hide (HO2.out.far DimV.stays hb); clear HX2 HO2; clear hb)
            | (go_at_call 47; refine (rIsNum HX3.out.l j).mono ?_; rw [hn]; rintro e w4 ⟨rfl, hb⟩; have HX4 := hide (HX3.out.below hb); have HO4 := hide (HO3.out.far DimV.stays hb); obtain ⟨⟨q0, q1⟩, fq0, fq1⟩ := HX4.out.t.cells; clear hb HX3 HO3)
            | (go_at_call 24; refine (rText HX4.out.l j).mono ?_; rintro e w5 ⟨rfl, hb⟩; have HX5 := hide (HX4.out.below hb); obtain ⟨⟨q0, q1⟩, fq0, fq1⟩ := HX5.out.t.cells; obtain ⟨⟨d0, d1⟩, fd0, fd1⟩ := HX5.out.d.cells; obtain ⟨cs5, ho5, hs5⟩ := HO4.out.far DimV.stays hb; have HO5 := hide ho5; have HS5 := hide hs5; clear ho5 hs5 HX4 HO4; have hz5 : w.heap.size + 2 ≤ w5.heap.size := (by have := HX5.out.d.lt; omega); clear hb)
            | (go_at_call 22; refine (HVL.out w5 (by omega) hd1).mono ?_; rw [HVV.out.1, HVV.out.2]; rintro e w6 ⟨rfl, hw'⟩; obtain rfl := hw'.symm; clear hw')
            | (at_builtin; refine wpList_append_own_at _ rfl _ _ 43 rfl (w.heap.size + 2) 72 i0 _ 2 24 Tryz.underlying43 HI.out HI0.out HI1.out HI2.out rfl (by decide) _ _ _ rfl (HO5.out.alloc _) ⟨w5.heap.size, 0, none⟩ 1 1 [.string ByteArray.empty, .int .i64 (numVal (xsOf (X.tx j)))] rfl rfl ?c1 ?c2 ?c3 ?c4 ?c5 ?_)
            )
          case c1 => exact cells_new _ [.string ByteArray.empty, .int .i64 (numVal (xsOf (X.tx j)))] _
          case c2 => intro u hu; simp at hu; rcases hu with rfl | rfl <;> rfl
          case c3 => unfold maxLen; omega
          case c4 => omega
          case c5 => simp; omega
          intro v' w6 hown' hgrow _ hat
          have HQ := hide (grow_ref (a := (ByteArray.empty, numVal (xsOf (X.tx j)))) DimV.stays (by omega) (by omega) (by omega) HX5.out HO5.out HS5.out rfl hgrow hat hown')
          clear hown' hgrow hat
          go_wp2
          go_roundw
          case rel => exact ⟨f, j + 1, _, by go_num, by omega, HQ.out.1, HSL.out, by omega, by rw [List.length_append]; show ds.length + 1 ≤ j + 1; omega, by have := HQ.out.1.d.lt; omega, HQ.out.2⟩
          case measure => simp [intOf]; omega
        | false =>
          rw [if_neg (by rw [hn]; simp)] at hsl
          cases hm2 : isNameB (X.tx j) with
          | true =>
            rw [if_pos hm2] at hsl
            have HSL := hide hsl
            have hjlt := isNameB_lt hm2
            have HNM := hide (rIsName (X.tx j))
            have hsm := HOK.out.small j
            rw [hm2] at HNM
            clear hsl hm2
            go_wp2_with (first
              | (go_at_call 24; refine (rText HX2.out.l j).mono ?_; rintro e w3 ⟨rfl, hb⟩; have HX3 := hide (HX2.out.below hb); obtain ⟨⟨q0, q1⟩, fq0, fq1⟩ := HX3.out.t.cells; obtain ⟨⟨d0, d1⟩, fd0, fd1⟩ := HX3.out.d.cells; have HO3 := hide (HO2.out.far DimV.stays hb); clear HX2 HO2; clear hb)
              | (go_at_call 47; refine (rIsNum HX3.out.l j).mono ?_; rw [hn]; rintro e w4 ⟨rfl, hb⟩; have HX4 := hide (HX3.out.below hb); have HO4 := hide (HO3.out.far DimV.stays hb); obtain ⟨⟨q0, q1⟩, fq0, fq1⟩ := HX4.out.t.cells; clear hb HX3 HO3)
              | (go_at_call 24; refine (rText HX4.out.l j).mono ?_; rintro e w5 ⟨rfl, hb⟩; have HX5 := hide (HX4.out.below hb); obtain ⟨⟨q0, q1⟩, fq0, fq1⟩ := HX5.out.t.cells; obtain ⟨⟨d0, d1⟩, fd0, fd1⟩ := HX5.out.d.cells; have HO5 := hide (HO4.out.far DimV.stays hb); clear HX4 HO4; clear hb)
              | (go_at_call 26; refine (HNM.out w5 (by omega)).mono ?_; rintro e w6 ⟨rfl, hw'⟩; obtain rfl := hw'.symm; clear hw')
              | (go_at_call 24; refine (rText HX5.out.l j).mono ?_; rintro e w7 ⟨rfl, hb⟩; have HX7 := hide (HX5.out.below hb); obtain ⟨⟨q0, q1⟩, fq0, fq1⟩ := HX7.out.t.cells; obtain ⟨⟨d0, d1⟩, fd0, fd1⟩ := HX7.out.d.cells; obtain ⟨cs5, ho5, hs5⟩ := HO5.out.far DimV.stays hb; have HO7 := hide ho5; have HS7 := hide hs5; clear ho5 hs5 HX5 HO5; have hz5 : w.heap.size + 2 ≤ w7.heap.size := (by have := HX7.out.d.lt; omega); clear hb)
              | (at_builtin; refine wpList_append_own_at _ rfl _ _ 43 rfl (w.heap.size + 2) 72 i0 _ 2 24 Tryz.underlying43 HI.out HI0.out HI1.out HI2.out rfl (by decide) _ _ _ rfl (HO7.out.alloc _) ⟨w7.heap.size, 0, none⟩ 1 1 [.string (X.tx j), .int .i64 0] rfl rfl ?c1 ?c2 ?c3 ?c4 ?c5 ?_)
              )
            case c1 => exact cells_new _ [.string (X.tx j), .int .i64 0] _
            case c2 => intro u hu; simp at hu; rcases hu with rfl | rfl <;> rfl
            case c3 => unfold maxLen; omega
            case c4 => omega
            case c5 => simp; omega
            intro v' w8 hown' hgrow _ hat
            have HQ := hide (grow_ref (a := (X.tx j, 0)) DimV.stays (by omega) (by omega) (by omega) HX7.out HO7.out HS7.out rfl hgrow hat hown')
            clear hown' hgrow hat
            go_wp2
            go_roundw
            case rel => exact ⟨f, j + 1, _, by go_num, by omega, HQ.out.1, HSL.out, by omega, by rw [List.length_append]; show ds.length + 1 ≤ j + 1; omega, by have := HQ.out.1.d.lt; omega, HQ.out.2⟩
            case measure => simp [intOf]; omega
          | false =>
            rw [if_neg (by rw [hm2]; simp)] at hsl
            obtain ⟨p, hp⟩ : ∃ p, p = X.ps j := ⟨_, rfl⟩
            rw [← hp] at hsl
            have HPP := hide hp
            have HSL := hide hsl
            have HNM := hide (rIsName (X.tx j))
            have hsm := HOK.out.small j
            rw [hm2] at HNM
            clear hsl hm2 hp
            go_wp2_with (first
              | (go_at_call 24; refine (rText HX2.out.l j).mono ?_; rintro e w3 ⟨rfl, hb⟩; have HX3 := hide (HX2.out.below hb); obtain ⟨⟨q0, q1⟩, fq0, fq1⟩ := HX3.out.t.cells; obtain ⟨⟨d0, d1⟩, fd0, fd1⟩ := HX3.out.d.cells; clear HX2 HO2; clear hb)
              | (go_at_call 47; refine (rIsNum HX3.out.l j).mono ?_; rw [hn]; rintro e w4 ⟨rfl, hb⟩; have HX4 := hide (HX3.out.below hb); obtain ⟨⟨q0, q1⟩, fq0, fq1⟩ := HX4.out.t.cells; clear hb HX3)
              | (go_at_call 24; refine (rText HX4.out.l j).mono ?_; rintro e w5 ⟨rfl, hb⟩; have HX5 := hide (HX4.out.below hb); obtain ⟨⟨q0, q1⟩, fq0, fq1⟩ := HX5.out.t.cells; obtain ⟨⟨d0, d1⟩, fd0, fd1⟩ := HX5.out.d.cells; clear HX4; clear hb)
              | (go_at_call 26; refine (HNM.out w5 (by omega)).mono ?_; rintro e w6 ⟨rfl, hw'⟩; obtain rfl := hw'.symm; clear hw')
              | (go_at_call 25; refine (rBad HX5.out.l j).mono ?_; rintro e w7 ⟨rfl, hb⟩; have HX7 := hide (HX5.out.below hb); obtain ⟨⟨q0, q1⟩, fq0, fq1⟩ := HX7.out.t.cells; obtain ⟨⟨d0, d1⟩, fd0, fd1⟩ := HX7.out.d.cells; rw [← HPP.out]; clear hb)
              )
            have HP := hide (HX7.out.d.put (.int .i64 7) (.int .i64 (p : Int)))
            have HO := hide (TwoAt.out (w := w7) (b := w.heap.size + 1) (.int .i64 7) (.int .i64 (p : Int)))
            have HBF := hide (below_grown HX7.out.bw HO.out (fun g e => by cases e; omega))
            obtain ⟨⟨u0, u1⟩, _, _⟩ := HP.out.cells
            refine bodyPost_ret (v := .tuple #[.slice none 0 0, .int .i64 (j), .agg #[.int .i64 7, .int .i64 ((p : Int) : Int)]]) (by simp [results, Tryz.results44, go_sem, u0, u1]) rfl ?_
            rw [HSL.out]
            exact ⟨HBF.out, by decide, _, j, rfl, _, _, _, rfl⟩
end Go.Proofs.YtadhlnlcdljamaaGreatDoor.V
namespace Go.Proofs.YtadhlnlcdljamaaGreatDoor.V
set_option maxRecDepth 20000
open Go.RowKit
set_option linter.unusedVariables false

set_option maxRecDepth 100000 in
set_option maxHeartbeats 4000000 in
theorem rNumbers {X : Tks} {A : Option Addr} {c : Nat} {w : World} (ok : X.Ok) (h : LsAt X A c w) (i : Nat) (hb : ((X.tx i).toList == tC 123) = true) : Calls Tryz.prog 87 #[lsV X A c, .int .i64 (i : Int)] w (RefP isSl (repL w) (listS X i) w) := by
  obtain ⟨i0, hi0, hz0, hz1, hz2⟩ := info_parts intInfo
  have HI := hide hi0
  have HI0 := hide hz0
  have HI1 := hide hz1
  have HI2 := hide hz2
  have HOK := hide ok
  have HX0 := hide (Bx.new h)
  have hxl := h.len
  have hil := Tks.lt_of hb (by simp)
  unfold lsV listS mustS at *
  rw [if_pos hb, Res.bind_ok]
  obtain ⟨⟨q0, q1⟩, fq0, fq1⟩ := HX0.out.t.cells
  clear h ok hi0 hz0 hz1 hz2 hb
  obtain ⟨r0, hr0⟩ : ∃ r0, r0 = listL X (X.ts.length + 1) (i + 1) [] := ⟨_, rfl⟩
  rw [← hr0]
  have HR0 := hide hr0
  clear hr0
  go_enter Tryz.func87, Tryz.ntmps87
  go_wp2
  go_loopw [1, 7] (fun vi vo wr => ∃ (f j : Nat) (ds : List Int), vi = .int .i64 (j : Int) ∧ j ≤ X.ts.length ∧ Bx X A c w.heap.size (w.heap.size + 1) w wr ∧ r0 = listL X f j ds ∧ X.ts.length - j < f ∧ ds.length ≤ j ∧ w.heap.size + 2 ≤ wr.heap.size ∧ GrowV IntV 3 1 wr (w.heap.size + 2) (far (w.heap.size + 2)) ds vo) (fun vi _ _ => X.ts.length + 1 - (intOf vi).toNat)
  case atStart => exact ⟨_, i + 1, [], by go_num, by omega, HX0.out, HR0.out, by omega, Nat.zero_le _, by have := HX0.out.d.lt; omega, GrowV.nil _ _ _ _ _ _⟩
  case round =>
    obtain ⟨f, j, ds, rfl, hjl, hX, hsl, hf, hd, hsz, hO⟩ := hrel
    obtain ⟨f, rfl⟩ : ∃ g, f = g + 1 := ⟨f - 1, by omega⟩
    rw [listL] at hsl
    have HX2 := hide hX
    have HO2 := hide hO
    obtain ⟨⟨q0, q1⟩, fq0, fq1⟩ := hX.t.cells
    clear hX hO HX0
    cases hb2 : ((X.tx j).toList == tC 125) with
    | true =>
      rw [if_pos hb2] at hsl
      have HSL := hide hsl
      clear hsl
      go_wp2_with (first
        | (go_at_call 24; refine (rText HX2.out.l j).mono ?_; rintro e w3 ⟨rfl, hb⟩; have HX3 := hide (HX2.out.below hb); obtain ⟨⟨q0, q1⟩, fq0, fq1⟩ := HX3.out.t.cells; obtain ⟨⟨d0, d1⟩, fd0, fd1⟩ := HX3.out.d.cells; have HO3 := hide (HO2.out.far IntV.stays hb); clear hb)
        )
      have HP := hide (HX3.out.d.put (.int .i64 0) (.int .i64 0))
      have HO := hide (TwoAt.out (w := w3) (b := w.heap.size + 1) (.int .i64 0) (.int .i64 0))
      have HBF := hide (below_grown HX3.out.bw HO.out (fun g e => by cases e; omega))
      obtain ⟨⟨u0, u1⟩, _, _⟩ := HP.out.cells
      refine bodyPost_ret (v := .tuple #[u7, .int .i64 ((j : Int) + 1), .agg #[.int .i64 0, .int .i64 0]]) (by simp [results, Tryz.results87, go_sem, u0, u1]) rfl ?_
      rw [HSL.out]
      have HS3 := HO3.out.slice IntV.stays (fun _ h => h)
      exact ⟨HBF.out, _, by simp, IntV.stays.slice_weaken (IntV.stays.slice HS3 (far_keep HO.out (by omega))) (fun b _ hb => by have h9 : w.heap.size + 2 ≤ b := hb; unfold from_; omega)⟩
    | false =>
      rw [if_neg (by rw [hb2]; simp)] at hsl
      cases hn : isNumB (X.tx j) with
      | true =>
        rw [if_pos hn] at hsl
        have HSL := hide hsl
        have hjlt := isNumB_lt hn
        obtain ⟨hd1, hd2⟩ := HOK.out.num j hn
        have HVL := hide (rValue (X.tx j))
        have HVV := hide (val_yes hd2)
        have hsm := HOK.out.small j
        clear hsl
        go_wp2_with (first
          | (go_at_call 24; refine (rText HX2.out.l j).mono ?_; rintro e w3 ⟨rfl, hb⟩; have HX3 := hide (HX2.out.below hb); obtain ⟨⟨q0, q1⟩, fq0, fq1⟩ := HX3.out.t.cells; obtain ⟨⟨d0, d1⟩, fd0, fd1⟩ := HX3.out.d.cells; have HO3 := hide (HO2.out.far IntV.stays hb); clear HX2 HO2; clear hb)
          | (go_at_call 47; refine (rIsNum HX3.out.l j).mono ?_; rw [hn]; rintro e w4 ⟨rfl, hb⟩; have HX4 := hide (HX3.out.below hb); have HO4 := hide (HO3.out.far IntV.stays hb); obtain ⟨⟨q0, q1⟩, fq0, fq1⟩ := HX4.out.t.cells; clear hb HX3 HO3)
          | (go_at_call 24; refine (rText HX4.out.l j).mono ?_; rintro e w5 ⟨rfl, hb⟩; have HX5 := hide (HX4.out.below hb); obtain ⟨⟨q0, q1⟩, fq0, fq1⟩ := HX5.out.t.cells; obtain ⟨⟨d0, d1⟩, fd0, fd1⟩ := HX5.out.d.cells; obtain ⟨cs5, ho5, hs5⟩ := HO4.out.far IntV.stays hb; have HO5 := hide ho5; have HS5 := hide hs5; clear ho5 hs5 HX4 HO4; have hz5 : w.heap.size + 2 ≤ w5.heap.size := (by have := HX5.out.d.lt; omega); clear hb)
          | (go_at_call 22; refine (HVL.out w5 (by omega) hd1).mono ?_; rw [HVV.out.1, HVV.out.2]; rintro e w6 ⟨rfl, hw'⟩; obtain rfl := hw'.symm; clear hw')
          | (at_builtin; refine wpList_append_own_at _ rfl _ _ 85 rfl (w.heap.size + 2) 3 i0 _ 1 8 Tryz.underlying85 HI.out HI0.out HI1.out HI2.out rfl (by decide) _ _ _ rfl (HO5.out.alloc _) ⟨w5.heap.size, 0, none⟩ 1 1 [.int .i64 (numVal (xsOf (X.tx j)))] rfl rfl ?c1 ?c2 ?c3 ?c4 ?c5 ?_)
          )
        case c1 => exact cells_new _ [.int .i64 (numVal (xsOf (X.tx j)))] _
        case c2 => intro u hu; simp at hu; subst hu; rfl
        case c3 => unfold maxLen; omega
        case c4 => omega
        case c5 => simp; omega
        intro v' w6 hown' hgrow _ hat
        have HQ := hide (grow_ref (a := numVal (xsOf (X.tx j))) IntV.stays (by omega) (by omega) (by omega) HX5.out HO5.out HS5.out rfl hgrow hat hown')
        clear hown' hgrow hat
        go_wp2
        go_roundw
        case rel => exact ⟨f, j + 1, _, by go_num, by omega, HQ.out.1, HSL.out, by omega, by rw [List.length_append]; show ds.length + 1 ≤ j + 1; omega, by have := HQ.out.1.d.lt; omega, HQ.out.2⟩
        case measure => simp [intOf]; omega
      | false =>
        rw [if_neg (by rw [hn]; simp)] at hsl
        obtain ⟨p, hp⟩ : ∃ p, p = X.ps j := ⟨_, rfl⟩
        rw [← hp] at hsl
        have HPP := hide hp
        have HSL := hide hsl
        clear hsl hp
        go_wp2_with (first
          | (go_at_call 24; refine (rText HX2.out.l j).mono ?_; rintro e w3 ⟨rfl, hb⟩; have HX3 := hide (HX2.out.below hb); obtain ⟨⟨q0, q1⟩, fq0, fq1⟩ := HX3.out.t.cells; obtain ⟨⟨d0, d1⟩, fd0, fd1⟩ := HX3.out.d.cells; clear HX2 HO2; clear hb)
          | (go_at_call 47; refine (rIsNum HX3.out.l j).mono ?_; rw [hn]; rintro e w4 ⟨rfl, hb⟩; have HX4 := hide (HX3.out.below hb); obtain ⟨⟨q0, q1⟩, fq0, fq1⟩ := HX4.out.t.cells; clear hb HX3)
          | (go_at_call 25; refine (rBad HX4.out.l j).mono ?_; rintro e w7 ⟨rfl, hb⟩; have HX7 := hide (HX4.out.below hb); obtain ⟨⟨q0, q1⟩, fq0, fq1⟩ := HX7.out.t.cells; obtain ⟨⟨d0, d1⟩, fd0, fd1⟩ := HX7.out.d.cells; rw [← HPP.out]; clear hb)
          )
        have HP := hide (HX7.out.d.put (.int .i64 7) (.int .i64 (p : Int)))
        have HO := hide (TwoAt.out (w := w7) (b := w.heap.size + 1) (.int .i64 7) (.int .i64 (p : Int)))
        have HBF := hide (below_grown HX7.out.bw HO.out (fun g e => by cases e; omega))
        obtain ⟨⟨u0, u1⟩, _, _⟩ := HP.out.cells
        refine bodyPost_ret (v := .tuple #[.slice none 0 0, .int .i64 (j), .agg #[.int .i64 7, .int .i64 (p : Int)]]) (by simp [results, Tryz.results87, go_sem, u0, u1]) rfl ?_
        rw [HSL.out]
        exact ⟨HBF.out, by decide, _, j, rfl, _, _, _, rfl⟩
end Go.Proofs.YtadhlnlcdljamaaGreatDoor.V
namespace Go.Proofs.YtadhlnlcdljamaaGreatDoor.V
set_option maxRecDepth 20000
open Go.RowKit
set_option linter.unusedVariables false

def isTr (v : Value) : Prop := ∃ (k : Int) (nm : ByteArray) (nu : Int) (sh : Bool) (A : Option Addr) (n m : Nat) (A' : Option Addr) (n' m' : Nat) (A'' : Option Addr) (n'' m'' : Nat), v = .agg #[.int .i64 k, .string nm, .int .i64 nu, .bool sh, .slice A n m, .slice A' n' m', .slice A'' n'' m'']
/-- The list's box, and the cells of what is answered: a tree, a fault. -/
structure Bt (X : Tks) (A : Option Addr) (c b Dt Df : Nat) (w W : World) : Prop where
  l0 : LsAt X A c w
  t : TwoAt 41 W b (.slice A X.ts.length c) (.int .i64 (X.n : Int))
  z : SevZ W Dt
  d : TwoAt 25 W Df (.int .i64 0) (.int .i64 0)
  bw : Below w.heap.size w W
theorem Bt.l {X : Tks} {A : Option Addr} {c b Dt Df : Nat} {w W : World} (h : Bt X A c b Dt Df w W) : LsAt X A c W := h.l0.below h.bw
theorem Bt.below {X : Tks} {A : Option Addr} {c b Dt Df : Nat} {w W W' : World} (h : Bt X A c b Dt Df w W) (hb : Below W.heap.size W W') : Bt X A c b Dt Df w W' := ⟨h.l0, h.t.below hb, h.z.below hb, h.d.below hb, h.bw.trans (hb.mono h.bw.size)⟩
theorem Bt.alloc {X : Tks} {A : Option Addr} {c b Dt Df : Nat} {w W : World} (h : Bt X A c b Dt Df w W) (o : Obj) : Bt X A c b Dt Df w (W.alloc o) := h.below ((Below.refl _ _).alloc (Nat.le_refl _) o)
theorem Bt.new {X : Tks} {A : Option Addr} {c : Nat} {w : World} (h : LsAt X A c w) : Bt X A c w.heap.size (w.heap.size + 1) (w.heap.size + 2) w (((w.alloc (.cells #[.slice A X.ts.length c, .int .i64 (X.n : Int)] 41)).alloc (.cells z7 47)).alloc (.cells #[.int .i64 0, .int .i64 0] 25)) := by
  refine ⟨h, ((TwoAt.new _ _ _ _).alloc _).alloc _, ?_, ?_, (((Below.refl _ w).alloc (Nat.le_refl _) _).alloc (by simp) _).alloc (by simp; omega) _⟩
  · have := (SevAt.new (w.alloc (.cells #[.slice A X.ts.length c, .int .i64 (X.n : Int)] 41)) (.int .i64 0) (.string ⟨#[]⟩) (.int .i64 0) (.bool false) (.slice none 0 0) (.slice none 0 0) (.slice none 0 0)).alloc (.cells #[.int .i64 0, .int .i64 0] 25)
    simpa using this
  · have := TwoAt.new 25 ((w.alloc (.cells #[.slice A X.ts.length c, .int .i64 (X.n : Int)] 41)).alloc (.cells z7 47)) (.int .i64 0) (.int .i64 0)
    simpa using this

set_option maxRecDepth 100000 in
set_option maxHeartbeats 2000000 in
theorem rExpr_deep {X : Tks} {A : Option Addr} {c : Nat} {w : World} (h : LsAt X A c w) (i : Nat) : Calls Tryz.prog 28 #[lsV X A c, .int .i64 (i : Int), .int .i64 65] w (RefP isTr (repT w) (.bad 5 (X.ps i)) w) := by
  have HX0 := hide (Bt.new h)
  obtain ⟨⟨q0, q1⟩, fq0, fq1⟩ := HX0.out.t.cells
  obtain ⟨p, hp⟩ : ∃ p, p = X.ps i := ⟨_, rfl⟩
  rw [← hp]
  have HPP := hide hp
  unfold lsV
  clear h hp
  go_enter Tryz.func28, Tryz.ntmps28
  go_wp2_with (first
    | (go_at_call 45; refine (rMuch HX0.out.l (i)).mono ?_; rw [← HPP.out]; rintro e w1 ⟨rfl, hb⟩; have HX1 := hide (HX0.out.below hb); obtain ⟨⟨q0, q1⟩, fq0, fq1⟩ := HX1.out.t.cells; obtain ⟨⟨d0, d1⟩, fd0, fd1⟩ := HX1.out.d.cells; obtain ⟨z0, z1, z2, z3, z4, z5, z6⟩ := HX1.out.z.cells; obtain ⟨y0, y1, y2, y3, y4, y5, y6⟩ := HX1.out.z.frozen; clear hb)
    )
  have HO1 := hide (SevAt.out w1 (w.heap.size + 1) (.int .i64 0) (.string ⟨#[]⟩) (.int .i64 0) (.bool false) (.slice none 0 0) (.slice none 0 0) (.slice none 0 0))
  have HJ1 := hide (HX1.out.z.put (.int .i64 0) (.string ⟨#[]⟩) (.int .i64 0) (.bool false) (.slice none 0 0) (.slice none 0 0) (.slice none 0 0))
  have HJ2 := hide (HX1.out.d.grown HO1.out (by simp))
  have HO2 := hide (TwoAt.out (w := (((((((w1.setCell ⟨w.heap.size + 1, 0, none⟩ (.int .i64 0)).setCell ⟨w.heap.size + 1, 1, none⟩ (.string ⟨#[]⟩)).setCell ⟨w.heap.size + 1, 2, none⟩ (.int .i64 0)).setCell ⟨w.heap.size + 1, 3, none⟩ (.bool false)).setCell ⟨w.heap.size + 1, 4, none⟩ (.slice none 0 0)).setCell ⟨w.heap.size + 1, 5, none⟩ (.slice none 0 0)).setCell ⟨w.heap.size + 1, 6, none⟩ (.slice none 0 0))) (b := w.heap.size + 2) (.int .i64 5) (.int .i64 (p : Int)))
  have HJ3 := hide (HJ1.out.grown HO2.out (by simp))
  have HJ4 := hide (HJ2.out.put (.int .i64 5) (.int .i64 (p : Int)))
  have HBF := hide (below_grown (below_grown HX1.out.bw HO1.out (fun g e => by cases e; omega)) HO2.out (fun g e => by cases e; omega))
  have HKF : Hid (Keep (far (w.heap.size + 3)) w1 (((((((((w1.setCell ⟨w.heap.size + 1, 0, none⟩ (.int .i64 0)).setCell ⟨w.heap.size + 1, 1, none⟩ (.string ⟨#[]⟩)).setCell ⟨w.heap.size + 1, 2, none⟩ (.int .i64 0)).setCell ⟨w.heap.size + 1, 3, none⟩ (.bool false)).setCell ⟨w.heap.size + 1, 4, none⟩ (.slice none 0 0)).setCell ⟨w.heap.size + 1, 5, none⟩ (.slice none 0 0)).setCell ⟨w.heap.size + 1, 6, none⟩ (.slice none 0 0)).setCell ⟨w.heap.size + 2, 0, none⟩ (.int .i64 5)).setCell ⟨w.heap.size + 2, 1, none⟩ (.int .i64 (p : Int)))) := (far_keep HO1.out (by omega)).trans (far_keep HO2.out (by omega))
  obtain ⟨u0, u1, u2, u3, u4, u5, u6⟩ := HJ3.out.cells
  obtain ⟨⟨v0, v1⟩, _, _⟩ := HJ4.out.cells
  obtain ⟨wf, hwf⟩ : ∃ wf, wf = (((((((((w1.setCell ⟨w.heap.size + 1, 0, none⟩ (.int .i64 0)).setCell ⟨w.heap.size + 1, 1, none⟩ (.string ⟨#[]⟩)).setCell ⟨w.heap.size + 1, 2, none⟩ (.int .i64 0)).setCell ⟨w.heap.size + 1, 3, none⟩ (.bool false)).setCell ⟨w.heap.size + 1, 4, none⟩ (.slice none 0 0)).setCell ⟨w.heap.size + 1, 5, none⟩ (.slice none 0 0)).setCell ⟨w.heap.size + 1, 6, none⟩ (.slice none 0 0)).setCell ⟨w.heap.size + 2, 0, none⟩ (.int .i64 5)).setCell ⟨w.heap.size + 2, 1, none⟩ (.int .i64 (p : Int))) := ⟨_, rfl⟩
  rw [← hwf] at HBF HKF u0 u1 u2 u3 u4 u5 u6 v0 v1 ⊢
  clear hwf HO1 HO2 HJ1 HJ2 HJ3 HJ4
  refine bodyPost_ret (v := .tuple #[.agg #[.int .i64 0, .string ⟨#[]⟩, .int .i64 0, .bool false, .slice none 0 0, .slice none 0 0, .slice none 0 0], .int .i64 (i), .agg #[.int .i64 5, .int .i64 (p : Int)]]) (by simp [results, Tryz.results28, go_sem, u0, u1, u2, u3, u4, u5, u6, v0, v1]) rfl ?_
  exact ⟨HBF.out, by decide, _, i, rfl, 0, ⟨#[]⟩, 0, false, none, 0, 0, none, 0, 0, none, 0, 0, rfl⟩

set_option maxRecDepth 100000 in
set_option maxHeartbeats 8000000 in
theorem rExpr_step {X : Tks} {A : Option Addr} {c L : Nat} {w : World} (ok : X.Ok) (E : Nat → Res Tr) (h : LsAt X A c w) (i : Nat) (hi : i ≤ X.ts.length) (hL : L ≤ 64)
    (hB : ∀ (W : World) (kind num : Int) (wd : ByteArray) (word : List UInt8) (j : Nat), wd.toList = word → word ≠ [] → LsAt X A c W → j ≤ X.ts.length → Calls Tryz.prog 46 #[lsV X A c, .agg #[.int .i64 kind, .string ⟨#[]⟩, .int .i64 num, .bool false, .slice none 0 0, .slice none 0 0, .slice none 0 0], .int .i64 (j : Int), .string wd, .int .i64 (L : Int)] W (RefP isTr (repT W) (boundS X E kind num word j) W))
    (hS : ∀ (W : World) (j : Nat), LsAt X A c W → j ≤ X.ts.length → Calls Tryz.prog 48 #[lsV X A c, .int .i64 (j : Int), .int .i64 (L : Int)] W (RefP isTr (repT W) (chainS X (chainS X (factorS X E) isMulB) isSumB j) W)) :
    Calls Tryz.prog 28 #[lsV X A c, .int .i64 (i : Int), .int .i64 (L : Int)] w (RefP isTr (repT w)
      (if ((X.tx i).toList == tLet) = true then boundS X E 5 0 tIn (i + 1) else if ((X.tx i).toList == tRepeat) = true then (numS X (i + 1)).bind fun n j => boundS X E 6 n tWith j else chainS X (chainS X (factorS X E) isMulB) isSumB i) w) := by
  have HX0 := hide (Bt.new h)
  have HOK := hide ok
  have HBX := hide hB
  have HSX := hide hS
  have hlv : ¬ (64 : Int) < (L : Int) := by omega
  have hxl := h.len
  obtain ⟨⟨q0, q1⟩, fq0, fq1⟩ := HX0.out.t.cells
  unfold lsV at *
  clear h ok hB hS
  cases hb : ((X.tx i).toList == tLet) with
  | true =>
    rw [if_pos rfl]
    have hil := Tks.lt_of hb (by simp)
    cases h7 : boundS X E 5 0 tIn (i + 1) with
    | bad T kk =>
      go_enter Tryz.func28, Tryz.ntmps28
      go_wp2_with (first
        | (go_at_call 24; refine (rText HX0.out.l (i)).mono ?_; rintro e w1 ⟨rfl, hb⟩; have HX1 := hide (HX0.out.below hb); obtain ⟨⟨q0, q1⟩, fq0, fq1⟩ := HX1.out.t.cells; obtain ⟨⟨d0, d1⟩, fd0, fd1⟩ := HX1.out.d.cells; obtain ⟨z0, z1, z2, z3, z4, z5, z6⟩ := HX1.out.z.cells; obtain ⟨y0, y1, y2, y3, y4, y5, y6⟩ := HX1.out.z.frozen; clear hb)
        | (go_at_call 46; refine (HBX.out w1 5 0 ⟨#[105, 110]⟩ tIn (i + 1) (by simp) (by simp) HX1.out.l (by omega)).mono ?_; rw [h7]; rintro e w7 ⟨hb, hT, v, j7, rfl, k, nm, nu, sh, B, n1, m1, B', n1', m1', B'', n1'', m1'', rfl⟩; have HX7 := hide (HX1.out.below hb); have HTT := hide hT; obtain ⟨⟨q0, q1⟩, fq0, fq1⟩ := HX7.out.t.cells; obtain ⟨⟨d0, d1⟩, fd0, fd1⟩ := HX7.out.d.cells; obtain ⟨z0, z1, z2, z3, z4, z5, z6⟩ := HX7.out.z.cells; obtain ⟨y0, y1, y2, y3, y4, y5, y6⟩ := HX7.out.z.frozen; clear hb hT)
        )
      have HO1 := hide (SevAt.out w7 (w.heap.size + 1) (.int .i64 k) (.string nm) (.int .i64 nu) (.bool sh) (.slice B n1 m1) (.slice B' n1' m1') (.slice B'' n1'' m1''))
      have HJ1 := hide (HX7.out.z.put (.int .i64 k) (.string nm) (.int .i64 nu) (.bool sh) (.slice B n1 m1) (.slice B' n1' m1') (.slice B'' n1'' m1''))
      have HJ2 := hide (HX7.out.d.grown HO1.out (by simp))
      have HO2 := hide (TwoAt.out (w := (((((((w7.setCell ⟨w.heap.size + 1, 0, none⟩ (.int .i64 k)).setCell ⟨w.heap.size + 1, 1, none⟩ (.string nm)).setCell ⟨w.heap.size + 1, 2, none⟩ (.int .i64 nu)).setCell ⟨w.heap.size + 1, 3, none⟩ (.bool sh)).setCell ⟨w.heap.size + 1, 4, none⟩ (.slice B n1 m1)).setCell ⟨w.heap.size + 1, 5, none⟩ (.slice B' n1' m1')).setCell ⟨w.heap.size + 1, 6, none⟩ (.slice B'' n1'' m1''))) (b := w.heap.size + 2) (.int .i64 T) (.int .i64 (kk : Int)))
      have HJ3 := hide (HJ1.out.grown HO2.out (by simp))
      have HJ4 := hide (HJ2.out.put (.int .i64 T) (.int .i64 (kk : Int)))
      have HBF := hide (below_grown (below_grown HX7.out.bw HO1.out (fun g e => by cases e; omega)) HO2.out (fun g e => by cases e; omega))
      have HKF : Hid (Keep (far (w.heap.size + 3)) w7 (((((((((w7.setCell ⟨w.heap.size + 1, 0, none⟩ (.int .i64 k)).setCell ⟨w.heap.size + 1, 1, none⟩ (.string nm)).setCell ⟨w.heap.size + 1, 2, none⟩ (.int .i64 nu)).setCell ⟨w.heap.size + 1, 3, none⟩ (.bool sh)).setCell ⟨w.heap.size + 1, 4, none⟩ (.slice B n1 m1)).setCell ⟨w.heap.size + 1, 5, none⟩ (.slice B' n1' m1')).setCell ⟨w.heap.size + 1, 6, none⟩ (.slice B'' n1'' m1'')).setCell ⟨w.heap.size + 2, 0, none⟩ (.int .i64 T)).setCell ⟨w.heap.size + 2, 1, none⟩ (.int .i64 (kk : Int)))) := (far_keep HO1.out (by omega)).trans (far_keep HO2.out (by omega))
      obtain ⟨u0, u1, u2, u3, u4, u5, u6⟩ := HJ3.out.cells
      obtain ⟨⟨v0, v1⟩, _, _⟩ := HJ4.out.cells
      obtain ⟨wf, hwf⟩ : ∃ wf, wf = (((((((((w7.setCell ⟨w.heap.size + 1, 0, none⟩ (.int .i64 k)).setCell ⟨w.heap.size + 1, 1, none⟩ (.string nm)).setCell ⟨w.heap.size + 1, 2, none⟩ (.int .i64 nu)).setCell ⟨w.heap.size + 1, 3, none⟩ (.bool sh)).setCell ⟨w.heap.size + 1, 4, none⟩ (.slice B n1 m1)).setCell ⟨w.heap.size + 1, 5, none⟩ (.slice B' n1' m1')).setCell ⟨w.heap.size + 1, 6, none⟩ (.slice B'' n1'' m1'')).setCell ⟨w.heap.size + 2, 0, none⟩ (.int .i64 T)).setCell ⟨w.heap.size + 2, 1, none⟩ (.int .i64 (kk : Int))) := ⟨_, rfl⟩
      rw [← hwf] at HBF HKF u0 u1 u2 u3 u4 u5 u6 v0 v1 ⊢
      clear hwf HO1 HO2 HJ1 HJ2 HJ3 HJ4
      refine bodyPost_ret (v := .tuple #[.agg #[.int .i64 k, .string nm, .int .i64 nu, .bool sh, .slice B n1 m1, .slice B' n1' m1', .slice B'' n1'' m1''], .int .i64 ((j7 : Int)), .agg #[.int .i64 T, .int .i64 (kk : Int)]]) (by simp [results, Tryz.results28, go_sem, u0, u1, u2, u3, u4, u5, u6, v0, v1]) rfl ?_
      exact ⟨HBF.out, HTT.out, _, j7, rfl, k, nm, nu, sh, B, n1, m1, B', n1', m1', B'', n1'', m1'', rfl⟩
    | ok tt j7 =>
      go_enter Tryz.func28, Tryz.ntmps28
      go_wp2_with (first
        | (go_at_call 24; refine (rText HX0.out.l (i)).mono ?_; rintro e w1 ⟨rfl, hb⟩; have HX1 := hide (HX0.out.below hb); obtain ⟨⟨q0, q1⟩, fq0, fq1⟩ := HX1.out.t.cells; obtain ⟨⟨d0, d1⟩, fd0, fd1⟩ := HX1.out.d.cells; obtain ⟨z0, z1, z2, z3, z4, z5, z6⟩ := HX1.out.z.cells; obtain ⟨y0, y1, y2, y3, y4, y5, y6⟩ := HX1.out.z.frozen; clear hb)
        | (go_at_call 46; refine (HBX.out w1 5 0 ⟨#[105, 110]⟩ tIn (i + 1) (by simp) (by simp) HX1.out.l (by omega)).mono ?_; rw [h7]; rintro e w7 ⟨hb, v, rfl, k, nm, nu, sh, B, n1, m1, B', n1', m1', B'', n1'', m1'', rfl, htr⟩; have HX7 := hide (HX1.out.below hb); have HT7 := hide htr; have hz7 : w.heap.size + 3 ≤ w1.heap.size := (by have := HX1.out.d.lt; omega); obtain ⟨⟨q0, q1⟩, fq0, fq1⟩ := HX7.out.t.cells; obtain ⟨⟨d0, d1⟩, fd0, fd1⟩ := HX7.out.d.cells; obtain ⟨z0, z1, z2, z3, z4, z5, z6⟩ := HX7.out.z.cells; obtain ⟨y0, y1, y2, y3, y4, y5, y6⟩ := HX7.out.z.frozen; clear hb htr)
        )
      have HO1 := hide (SevAt.out w7 (w.heap.size + 1) (.int .i64 k) (.string nm) (.int .i64 nu) (.bool sh) (.slice B n1 m1) (.slice B' n1' m1') (.slice B'' n1'' m1''))
      have HJ1 := hide (HX7.out.z.put (.int .i64 k) (.string nm) (.int .i64 nu) (.bool sh) (.slice B n1 m1) (.slice B' n1' m1') (.slice B'' n1'' m1''))
      have HJ2 := hide (HX7.out.d.grown HO1.out (by simp))
      have HO2 := hide (TwoAt.out (w := (((((((w7.setCell ⟨w.heap.size + 1, 0, none⟩ (.int .i64 k)).setCell ⟨w.heap.size + 1, 1, none⟩ (.string nm)).setCell ⟨w.heap.size + 1, 2, none⟩ (.int .i64 nu)).setCell ⟨w.heap.size + 1, 3, none⟩ (.bool sh)).setCell ⟨w.heap.size + 1, 4, none⟩ (.slice B n1 m1)).setCell ⟨w.heap.size + 1, 5, none⟩ (.slice B' n1' m1')).setCell ⟨w.heap.size + 1, 6, none⟩ (.slice B'' n1'' m1''))) (b := w.heap.size + 2) (.int .i64 0) (.int .i64 0))
      have HJ3 := hide (HJ1.out.grown HO2.out (by simp))
      have HJ4 := hide (HJ2.out.put (.int .i64 0) (.int .i64 0))
      have HBF := hide (below_grown (below_grown HX7.out.bw HO1.out (fun g e => by cases e; omega)) HO2.out (fun g e => by cases e; omega))
      have HKF : Hid (Keep (far (w.heap.size + 3)) w7 (((((((((w7.setCell ⟨w.heap.size + 1, 0, none⟩ (.int .i64 k)).setCell ⟨w.heap.size + 1, 1, none⟩ (.string nm)).setCell ⟨w.heap.size + 1, 2, none⟩ (.int .i64 nu)).setCell ⟨w.heap.size + 1, 3, none⟩ (.bool sh)).setCell ⟨w.heap.size + 1, 4, none⟩ (.slice B n1 m1)).setCell ⟨w.heap.size + 1, 5, none⟩ (.slice B' n1' m1')).setCell ⟨w.heap.size + 1, 6, none⟩ (.slice B'' n1'' m1'')).setCell ⟨w.heap.size + 2, 0, none⟩ (.int .i64 0)).setCell ⟨w.heap.size + 2, 1, none⟩ (.int .i64 0))) := (far_keep HO1.out (by omega)).trans (far_keep HO2.out (by omega))
      obtain ⟨u0, u1, u2, u3, u4, u5, u6⟩ := HJ3.out.cells
      obtain ⟨⟨v0, v1⟩, _, _⟩ := HJ4.out.cells
      obtain ⟨wf, hwf⟩ : ∃ wf, wf = (((((((((w7.setCell ⟨w.heap.size + 1, 0, none⟩ (.int .i64 k)).setCell ⟨w.heap.size + 1, 1, none⟩ (.string nm)).setCell ⟨w.heap.size + 1, 2, none⟩ (.int .i64 nu)).setCell ⟨w.heap.size + 1, 3, none⟩ (.bool sh)).setCell ⟨w.heap.size + 1, 4, none⟩ (.slice B n1 m1)).setCell ⟨w.heap.size + 1, 5, none⟩ (.slice B' n1' m1')).setCell ⟨w.heap.size + 1, 6, none⟩ (.slice B'' n1'' m1'')).setCell ⟨w.heap.size + 2, 0, none⟩ (.int .i64 0)).setCell ⟨w.heap.size + 2, 1, none⟩ (.int .i64 0)) := ⟨_, rfl⟩
      rw [← hwf] at HBF HKF u0 u1 u2 u3 u4 u5 u6 v0 v1 ⊢
      clear hwf HO1 HO2 HJ1 HJ2 HJ3 HJ4
      refine bodyPost_ret (v := .tuple #[.agg #[.int .i64 k, .string nm, .int .i64 nu, .bool sh, .slice B n1 m1, .slice B' n1' m1', .slice B'' n1'' m1''], .int .i64 ((j7 : Int)), .agg #[.int .i64 0, .int .i64 0]]) (by simp [results, Tryz.results28, go_sem, u0, u1, u2, u3, u4, u5, u6, v0, v1]) rfl ?_
      refine ⟨HBF.out, _, rfl, k, nm, nu, sh, B, n1, m1, B', n1', m1', B'', n1'', m1'', rfl, ?_⟩
      exact TreeV.stays.weaken (TreeV.stays.keep (TreeV.stays.weaken (S' := far (w.heap.size + 3)) HT7.out (fun b _ hb => by have h9 : w1.heap.size ≤ b := hb; unfold far; omega)) HKF.out) (fun b _ hb => by have h9 : w.heap.size + 3 ≤ b := hb; unfold from_; omega)
  | false =>
    rw [if_neg (by simp)]
    cases hc : ((X.tx i).toList == tRepeat) with
    | true =>
      rw [if_pos rfl]
      have hil := Tks.lt_of hc (by simp)
      cases hn : isNumB (X.tx (i + 1)) with
      | false =>
        have e3 : numS X (i + 1) = .bad 7 (X.ps (i + 1)) := if_neg (by rw [hn]; simp)
        rw [e3, Res.bind_bad]
        obtain ⟨p, hp⟩ : ∃ p, p = X.ps (i + 1) := ⟨_, rfl⟩
        rw [← hp]
        have HPP := hide hp
        clear hp e3
        go_enter Tryz.func28, Tryz.ntmps28
        go_wp2_with (first
          | (go_at_call 24; refine (rText HX0.out.l (i)).mono ?_; rintro e w1 ⟨rfl, hb⟩; have HX1 := hide (HX0.out.below hb); obtain ⟨⟨q0, q1⟩, fq0, fq1⟩ := HX1.out.t.cells; obtain ⟨⟨d0, d1⟩, fd0, fd1⟩ := HX1.out.d.cells; obtain ⟨z0, z1, z2, z3, z4, z5, z6⟩ := HX1.out.z.cells; obtain ⟨y0, y1, y2, y3, y4, y5, y6⟩ := HX1.out.z.frozen; clear HX0; clear hb)
          | (go_at_call 24; refine (rText HX1.out.l (i)).mono ?_; rintro e w2 ⟨rfl, hb⟩; have HX2 := hide (HX1.out.below hb); obtain ⟨⟨q0, q1⟩, fq0, fq1⟩ := HX2.out.t.cells; obtain ⟨⟨d0, d1⟩, fd0, fd1⟩ := HX2.out.d.cells; obtain ⟨z0, z1, z2, z3, z4, z5, z6⟩ := HX2.out.z.cells; obtain ⟨y0, y1, y2, y3, y4, y5, y6⟩ := HX2.out.z.frozen; clear HX1; clear hb)
          | (go_at_call 47; refine (rIsNum HX2.out.l (i + 1)).mono ?_; rw [hn]; rintro e w3 ⟨rfl, hb⟩; have HX3 := hide (HX2.out.below hb); obtain ⟨⟨q0, q1⟩, fq0, fq1⟩ := HX3.out.t.cells; obtain ⟨⟨d0, d1⟩, fd0, fd1⟩ := HX3.out.d.cells; obtain ⟨z0, z1, z2, z3, z4, z5, z6⟩ := HX3.out.z.cells; obtain ⟨y0, y1, y2, y3, y4, y5, y6⟩ := HX3.out.z.frozen; clear hb)
          | (go_at_call 25; refine (rBad HX3.out.l (i + 1)).mono ?_; rw [← HPP.out]; rintro e w4 ⟨rfl, hb⟩; have HX4 := hide (HX3.out.below hb); obtain ⟨⟨q0, q1⟩, fq0, fq1⟩ := HX4.out.t.cells; obtain ⟨⟨d0, d1⟩, fd0, fd1⟩ := HX4.out.d.cells; obtain ⟨z0, z1, z2, z3, z4, z5, z6⟩ := HX4.out.z.cells; obtain ⟨y0, y1, y2, y3, y4, y5, y6⟩ := HX4.out.z.frozen; clear hb)
          )
        have HO1 := hide (SevAt.out w4 (w.heap.size + 1) (.int .i64 0) (.string ⟨#[]⟩) (.int .i64 0) (.bool false) (.slice none 0 0) (.slice none 0 0) (.slice none 0 0))
        have HJ1 := hide (HX4.out.z.put (.int .i64 0) (.string ⟨#[]⟩) (.int .i64 0) (.bool false) (.slice none 0 0) (.slice none 0 0) (.slice none 0 0))
        have HJ2 := hide (HX4.out.d.grown HO1.out (by simp))
        have HO2 := hide (TwoAt.out (w := (((((((w4.setCell ⟨w.heap.size + 1, 0, none⟩ (.int .i64 0)).setCell ⟨w.heap.size + 1, 1, none⟩ (.string ⟨#[]⟩)).setCell ⟨w.heap.size + 1, 2, none⟩ (.int .i64 0)).setCell ⟨w.heap.size + 1, 3, none⟩ (.bool false)).setCell ⟨w.heap.size + 1, 4, none⟩ (.slice none 0 0)).setCell ⟨w.heap.size + 1, 5, none⟩ (.slice none 0 0)).setCell ⟨w.heap.size + 1, 6, none⟩ (.slice none 0 0))) (b := w.heap.size + 2) (.int .i64 7) (.int .i64 (p : Int)))
        have HJ3 := hide (HJ1.out.grown HO2.out (by simp))
        have HJ4 := hide (HJ2.out.put (.int .i64 7) (.int .i64 (p : Int)))
        have HBF := hide (below_grown (below_grown HX4.out.bw HO1.out (fun g e => by cases e; omega)) HO2.out (fun g e => by cases e; omega))
        have HKF : Hid (Keep (far (w.heap.size + 3)) w4 (((((((((w4.setCell ⟨w.heap.size + 1, 0, none⟩ (.int .i64 0)).setCell ⟨w.heap.size + 1, 1, none⟩ (.string ⟨#[]⟩)).setCell ⟨w.heap.size + 1, 2, none⟩ (.int .i64 0)).setCell ⟨w.heap.size + 1, 3, none⟩ (.bool false)).setCell ⟨w.heap.size + 1, 4, none⟩ (.slice none 0 0)).setCell ⟨w.heap.size + 1, 5, none⟩ (.slice none 0 0)).setCell ⟨w.heap.size + 1, 6, none⟩ (.slice none 0 0)).setCell ⟨w.heap.size + 2, 0, none⟩ (.int .i64 7)).setCell ⟨w.heap.size + 2, 1, none⟩ (.int .i64 (p : Int)))) := (far_keep HO1.out (by omega)).trans (far_keep HO2.out (by omega))
        obtain ⟨u0, u1, u2, u3, u4, u5, u6⟩ := HJ3.out.cells
        obtain ⟨⟨v0, v1⟩, _, _⟩ := HJ4.out.cells
        obtain ⟨wf, hwf⟩ : ∃ wf, wf = (((((((((w4.setCell ⟨w.heap.size + 1, 0, none⟩ (.int .i64 0)).setCell ⟨w.heap.size + 1, 1, none⟩ (.string ⟨#[]⟩)).setCell ⟨w.heap.size + 1, 2, none⟩ (.int .i64 0)).setCell ⟨w.heap.size + 1, 3, none⟩ (.bool false)).setCell ⟨w.heap.size + 1, 4, none⟩ (.slice none 0 0)).setCell ⟨w.heap.size + 1, 5, none⟩ (.slice none 0 0)).setCell ⟨w.heap.size + 1, 6, none⟩ (.slice none 0 0)).setCell ⟨w.heap.size + 2, 0, none⟩ (.int .i64 7)).setCell ⟨w.heap.size + 2, 1, none⟩ (.int .i64 (p : Int))) := ⟨_, rfl⟩
        rw [← hwf] at HBF HKF u0 u1 u2 u3 u4 u5 u6 v0 v1 ⊢
        clear hwf HO1 HO2 HJ1 HJ2 HJ3 HJ4
        refine bodyPost_ret (v := .tuple #[.agg #[.int .i64 0, .string ⟨#[]⟩, .int .i64 0, .bool false, .slice none 0 0, .slice none 0 0, .slice none 0 0], .int .i64 (i), .agg #[.int .i64 7, .int .i64 (p : Int)]]) (by simp [results, Tryz.results28, go_sem, u0, u1, u2, u3, u4, u5, u6, v0, v1]) rfl ?_
        exact ⟨HBF.out, by decide, _, i, rfl, 0, ⟨#[]⟩, 0, false, none, 0, 0, none, 0, 0, none, 0, 0, rfl⟩
      | true =>
        have e3 : numS X (i + 1) = .ok (numVal (xsOf (X.tx (i + 1)))) (i + 1 + 1) := if_pos hn
        rw [e3, Res.bind_ok]
        have hil2 := isNumB_lt hn
        obtain ⟨hd1, hd2⟩ := HOK.out.num (i + 1) hn
        have HVL := hide (rValue (X.tx (i + 1)))
        have HVV := hide (val_yes hd2)
        have hsm := HOK.out.small (i + 1)
        obtain ⟨N, hN⟩ : ∃ N, N = numVal (xsOf (X.tx (i + 1))) := ⟨_, rfl⟩
        rw [← hN] at HVV ⊢
        clear e3 hN
        cases h7 : boundS X E 6 N tWith (i + 1 + 1) with
        | bad T kk =>
          go_enter Tryz.func28, Tryz.ntmps28
          go_wp2_with (first
            | (go_at_call 24; refine (rText HX0.out.l (i)).mono ?_; rintro e w1 ⟨rfl, hb⟩; have HX1 := hide (HX0.out.below hb); obtain ⟨⟨q0, q1⟩, fq0, fq1⟩ := HX1.out.t.cells; obtain ⟨⟨d0, d1⟩, fd0, fd1⟩ := HX1.out.d.cells; obtain ⟨z0, z1, z2, z3, z4, z5, z6⟩ := HX1.out.z.cells; obtain ⟨y0, y1, y2, y3, y4, y5, y6⟩ := HX1.out.z.frozen; clear HX0; clear hb)
            | (go_at_call 24; refine (rText HX1.out.l (i)).mono ?_; rintro e w2 ⟨rfl, hb⟩; have HX2 := hide (HX1.out.below hb); obtain ⟨⟨q0, q1⟩, fq0, fq1⟩ := HX2.out.t.cells; obtain ⟨⟨d0, d1⟩, fd0, fd1⟩ := HX2.out.d.cells; obtain ⟨z0, z1, z2, z3, z4, z5, z6⟩ := HX2.out.z.cells; obtain ⟨y0, y1, y2, y3, y4, y5, y6⟩ := HX2.out.z.frozen; clear HX1; clear hb)
            | (go_at_call 47; refine (rIsNum HX2.out.l (i + 1)).mono ?_; rw [hn]; rintro e w3 ⟨rfl, hb⟩; have HX3 := hide (HX2.out.below hb); obtain ⟨⟨q0, q1⟩, fq0, fq1⟩ := HX3.out.t.cells; obtain ⟨⟨d0, d1⟩, fd0, fd1⟩ := HX3.out.d.cells; obtain ⟨z0, z1, z2, z3, z4, z5, z6⟩ := HX3.out.z.cells; obtain ⟨y0, y1, y2, y3, y4, y5, y6⟩ := HX3.out.z.frozen; clear hb)
            | (go_at_call 24; refine (rText HX3.out.l (i + 1)).mono ?_; rintro e w4 ⟨rfl, hb⟩; have HX4 := hide (HX3.out.below hb); obtain ⟨⟨q0, q1⟩, fq0, fq1⟩ := HX4.out.t.cells; obtain ⟨⟨d0, d1⟩, fd0, fd1⟩ := HX4.out.d.cells; obtain ⟨z0, z1, z2, z3, z4, z5, z6⟩ := HX4.out.z.cells; obtain ⟨y0, y1, y2, y3, y4, y5, y6⟩ := HX4.out.z.frozen; clear HX3; clear hb)
            | (go_at_call 22; refine (HVL.out w4 (by omega) hd1).mono ?_; rw [HVV.out.1, HVV.out.2]; rintro e w6 ⟨rfl, hw'⟩; obtain rfl := hw'.symm; clear hw')
            | (go_at_call 46; refine (HBX.out w4 6 N ⟨#[119, 105, 116, 104]⟩ tWith (i + 2) (by simp) (by simp) HX4.out.l (by omega)).mono ?_; rw [h7]; rintro e w7 ⟨hb, hT, v, j7, rfl, k, nm, nu, sh, B, n1, m1, B', n1', m1', B'', n1'', m1'', rfl⟩; have HX7 := hide (HX4.out.below hb); have HTT := hide hT; obtain ⟨⟨q0, q1⟩, fq0, fq1⟩ := HX7.out.t.cells; obtain ⟨⟨d0, d1⟩, fd0, fd1⟩ := HX7.out.d.cells; obtain ⟨z0, z1, z2, z3, z4, z5, z6⟩ := HX7.out.z.cells; obtain ⟨y0, y1, y2, y3, y4, y5, y6⟩ := HX7.out.z.frozen; clear hb hT)
            )
          have HO1 := hide (SevAt.out w7 (w.heap.size + 1) (.int .i64 k) (.string nm) (.int .i64 nu) (.bool sh) (.slice B n1 m1) (.slice B' n1' m1') (.slice B'' n1'' m1''))
          have HJ1 := hide (HX7.out.z.put (.int .i64 k) (.string nm) (.int .i64 nu) (.bool sh) (.slice B n1 m1) (.slice B' n1' m1') (.slice B'' n1'' m1''))
          have HJ2 := hide (HX7.out.d.grown HO1.out (by simp))
          have HO2 := hide (TwoAt.out (w := (((((((w7.setCell ⟨w.heap.size + 1, 0, none⟩ (.int .i64 k)).setCell ⟨w.heap.size + 1, 1, none⟩ (.string nm)).setCell ⟨w.heap.size + 1, 2, none⟩ (.int .i64 nu)).setCell ⟨w.heap.size + 1, 3, none⟩ (.bool sh)).setCell ⟨w.heap.size + 1, 4, none⟩ (.slice B n1 m1)).setCell ⟨w.heap.size + 1, 5, none⟩ (.slice B' n1' m1')).setCell ⟨w.heap.size + 1, 6, none⟩ (.slice B'' n1'' m1''))) (b := w.heap.size + 2) (.int .i64 T) (.int .i64 (kk : Int)))
          have HJ3 := hide (HJ1.out.grown HO2.out (by simp))
          have HJ4 := hide (HJ2.out.put (.int .i64 T) (.int .i64 (kk : Int)))
          have HBF := hide (below_grown (below_grown HX7.out.bw HO1.out (fun g e => by cases e; omega)) HO2.out (fun g e => by cases e; omega))
          have HKF : Hid (Keep (far (w.heap.size + 3)) w7 (((((((((w7.setCell ⟨w.heap.size + 1, 0, none⟩ (.int .i64 k)).setCell ⟨w.heap.size + 1, 1, none⟩ (.string nm)).setCell ⟨w.heap.size + 1, 2, none⟩ (.int .i64 nu)).setCell ⟨w.heap.size + 1, 3, none⟩ (.bool sh)).setCell ⟨w.heap.size + 1, 4, none⟩ (.slice B n1 m1)).setCell ⟨w.heap.size + 1, 5, none⟩ (.slice B' n1' m1')).setCell ⟨w.heap.size + 1, 6, none⟩ (.slice B'' n1'' m1'')).setCell ⟨w.heap.size + 2, 0, none⟩ (.int .i64 T)).setCell ⟨w.heap.size + 2, 1, none⟩ (.int .i64 (kk : Int)))) := (far_keep HO1.out (by omega)).trans (far_keep HO2.out (by omega))
          obtain ⟨u0, u1, u2, u3, u4, u5, u6⟩ := HJ3.out.cells
          obtain ⟨⟨v0, v1⟩, _, _⟩ := HJ4.out.cells
          obtain ⟨wf, hwf⟩ : ∃ wf, wf = (((((((((w7.setCell ⟨w.heap.size + 1, 0, none⟩ (.int .i64 k)).setCell ⟨w.heap.size + 1, 1, none⟩ (.string nm)).setCell ⟨w.heap.size + 1, 2, none⟩ (.int .i64 nu)).setCell ⟨w.heap.size + 1, 3, none⟩ (.bool sh)).setCell ⟨w.heap.size + 1, 4, none⟩ (.slice B n1 m1)).setCell ⟨w.heap.size + 1, 5, none⟩ (.slice B' n1' m1')).setCell ⟨w.heap.size + 1, 6, none⟩ (.slice B'' n1'' m1'')).setCell ⟨w.heap.size + 2, 0, none⟩ (.int .i64 T)).setCell ⟨w.heap.size + 2, 1, none⟩ (.int .i64 (kk : Int))) := ⟨_, rfl⟩
          rw [← hwf] at HBF HKF u0 u1 u2 u3 u4 u5 u6 v0 v1 ⊢
          clear hwf HO1 HO2 HJ1 HJ2 HJ3 HJ4
          refine bodyPost_ret (v := .tuple #[.agg #[.int .i64 k, .string nm, .int .i64 nu, .bool sh, .slice B n1 m1, .slice B' n1' m1', .slice B'' n1'' m1''], .int .i64 ((j7 : Int)), .agg #[.int .i64 T, .int .i64 (kk : Int)]]) (by simp [results, Tryz.results28, go_sem, u0, u1, u2, u3, u4, u5, u6, v0, v1]) rfl ?_
          exact ⟨HBF.out, HTT.out, _, j7, rfl, k, nm, nu, sh, B, n1, m1, B', n1', m1', B'', n1'', m1'', rfl⟩
        | ok tt j7 =>
          go_enter Tryz.func28, Tryz.ntmps28
          go_wp2_with (first
            | (go_at_call 24; refine (rText HX0.out.l (i)).mono ?_; rintro e w1 ⟨rfl, hb⟩; have HX1 := hide (HX0.out.below hb); obtain ⟨⟨q0, q1⟩, fq0, fq1⟩ := HX1.out.t.cells; obtain ⟨⟨d0, d1⟩, fd0, fd1⟩ := HX1.out.d.cells; obtain ⟨z0, z1, z2, z3, z4, z5, z6⟩ := HX1.out.z.cells; obtain ⟨y0, y1, y2, y3, y4, y5, y6⟩ := HX1.out.z.frozen; clear HX0; clear hb)
            | (go_at_call 24; refine (rText HX1.out.l (i)).mono ?_; rintro e w2 ⟨rfl, hb⟩; have HX2 := hide (HX1.out.below hb); obtain ⟨⟨q0, q1⟩, fq0, fq1⟩ := HX2.out.t.cells; obtain ⟨⟨d0, d1⟩, fd0, fd1⟩ := HX2.out.d.cells; obtain ⟨z0, z1, z2, z3, z4, z5, z6⟩ := HX2.out.z.cells; obtain ⟨y0, y1, y2, y3, y4, y5, y6⟩ := HX2.out.z.frozen; clear HX1; clear hb)
            | (go_at_call 47; refine (rIsNum HX2.out.l (i + 1)).mono ?_; rw [hn]; rintro e w3 ⟨rfl, hb⟩; have HX3 := hide (HX2.out.below hb); obtain ⟨⟨q0, q1⟩, fq0, fq1⟩ := HX3.out.t.cells; obtain ⟨⟨d0, d1⟩, fd0, fd1⟩ := HX3.out.d.cells; obtain ⟨z0, z1, z2, z3, z4, z5, z6⟩ := HX3.out.z.cells; obtain ⟨y0, y1, y2, y3, y4, y5, y6⟩ := HX3.out.z.frozen; clear hb)
            | (go_at_call 24; refine (rText HX3.out.l (i + 1)).mono ?_; rintro e w4 ⟨rfl, hb⟩; have HX4 := hide (HX3.out.below hb); obtain ⟨⟨q0, q1⟩, fq0, fq1⟩ := HX4.out.t.cells; obtain ⟨⟨d0, d1⟩, fd0, fd1⟩ := HX4.out.d.cells; obtain ⟨z0, z1, z2, z3, z4, z5, z6⟩ := HX4.out.z.cells; obtain ⟨y0, y1, y2, y3, y4, y5, y6⟩ := HX4.out.z.frozen; clear HX3; clear hb)
            | (go_at_call 22; refine (HVL.out w4 (by omega) hd1).mono ?_; rw [HVV.out.1, HVV.out.2]; rintro e w6 ⟨rfl, hw'⟩; obtain rfl := hw'.symm; clear hw')
            | (go_at_call 46; refine (HBX.out w4 6 N ⟨#[119, 105, 116, 104]⟩ tWith (i + 2) (by simp) (by simp) HX4.out.l (by omega)).mono ?_; rw [h7]; rintro e w7 ⟨hb, v, rfl, k, nm, nu, sh, B, n1, m1, B', n1', m1', B'', n1'', m1'', rfl, htr⟩; have HX7 := hide (HX4.out.below hb); have HT7 := hide htr; have hz7 : w.heap.size + 3 ≤ w4.heap.size := (by have := HX4.out.d.lt; omega); obtain ⟨⟨q0, q1⟩, fq0, fq1⟩ := HX7.out.t.cells; obtain ⟨⟨d0, d1⟩, fd0, fd1⟩ := HX7.out.d.cells; obtain ⟨z0, z1, z2, z3, z4, z5, z6⟩ := HX7.out.z.cells; obtain ⟨y0, y1, y2, y3, y4, y5, y6⟩ := HX7.out.z.frozen; clear hb htr)
            )
          have HO1 := hide (SevAt.out w7 (w.heap.size + 1) (.int .i64 k) (.string nm) (.int .i64 nu) (.bool sh) (.slice B n1 m1) (.slice B' n1' m1') (.slice B'' n1'' m1''))
          have HJ1 := hide (HX7.out.z.put (.int .i64 k) (.string nm) (.int .i64 nu) (.bool sh) (.slice B n1 m1) (.slice B' n1' m1') (.slice B'' n1'' m1''))
          have HJ2 := hide (HX7.out.d.grown HO1.out (by simp))
          have HO2 := hide (TwoAt.out (w := (((((((w7.setCell ⟨w.heap.size + 1, 0, none⟩ (.int .i64 k)).setCell ⟨w.heap.size + 1, 1, none⟩ (.string nm)).setCell ⟨w.heap.size + 1, 2, none⟩ (.int .i64 nu)).setCell ⟨w.heap.size + 1, 3, none⟩ (.bool sh)).setCell ⟨w.heap.size + 1, 4, none⟩ (.slice B n1 m1)).setCell ⟨w.heap.size + 1, 5, none⟩ (.slice B' n1' m1')).setCell ⟨w.heap.size + 1, 6, none⟩ (.slice B'' n1'' m1''))) (b := w.heap.size + 2) (.int .i64 0) (.int .i64 0))
          have HJ3 := hide (HJ1.out.grown HO2.out (by simp))
          have HJ4 := hide (HJ2.out.put (.int .i64 0) (.int .i64 0))
          have HBF := hide (below_grown (below_grown HX7.out.bw HO1.out (fun g e => by cases e; omega)) HO2.out (fun g e => by cases e; omega))
          have HKF : Hid (Keep (far (w.heap.size + 3)) w7 (((((((((w7.setCell ⟨w.heap.size + 1, 0, none⟩ (.int .i64 k)).setCell ⟨w.heap.size + 1, 1, none⟩ (.string nm)).setCell ⟨w.heap.size + 1, 2, none⟩ (.int .i64 nu)).setCell ⟨w.heap.size + 1, 3, none⟩ (.bool sh)).setCell ⟨w.heap.size + 1, 4, none⟩ (.slice B n1 m1)).setCell ⟨w.heap.size + 1, 5, none⟩ (.slice B' n1' m1')).setCell ⟨w.heap.size + 1, 6, none⟩ (.slice B'' n1'' m1'')).setCell ⟨w.heap.size + 2, 0, none⟩ (.int .i64 0)).setCell ⟨w.heap.size + 2, 1, none⟩ (.int .i64 0))) := (far_keep HO1.out (by omega)).trans (far_keep HO2.out (by omega))
          obtain ⟨u0, u1, u2, u3, u4, u5, u6⟩ := HJ3.out.cells
          obtain ⟨⟨v0, v1⟩, _, _⟩ := HJ4.out.cells
          obtain ⟨wf, hwf⟩ : ∃ wf, wf = (((((((((w7.setCell ⟨w.heap.size + 1, 0, none⟩ (.int .i64 k)).setCell ⟨w.heap.size + 1, 1, none⟩ (.string nm)).setCell ⟨w.heap.size + 1, 2, none⟩ (.int .i64 nu)).setCell ⟨w.heap.size + 1, 3, none⟩ (.bool sh)).setCell ⟨w.heap.size + 1, 4, none⟩ (.slice B n1 m1)).setCell ⟨w.heap.size + 1, 5, none⟩ (.slice B' n1' m1')).setCell ⟨w.heap.size + 1, 6, none⟩ (.slice B'' n1'' m1'')).setCell ⟨w.heap.size + 2, 0, none⟩ (.int .i64 0)).setCell ⟨w.heap.size + 2, 1, none⟩ (.int .i64 0)) := ⟨_, rfl⟩
          rw [← hwf] at HBF HKF u0 u1 u2 u3 u4 u5 u6 v0 v1 ⊢
          clear hwf HO1 HO2 HJ1 HJ2 HJ3 HJ4
          refine bodyPost_ret (v := .tuple #[.agg #[.int .i64 k, .string nm, .int .i64 nu, .bool sh, .slice B n1 m1, .slice B' n1' m1', .slice B'' n1'' m1''], .int .i64 ((j7 : Int)), .agg #[.int .i64 0, .int .i64 0]]) (by simp [results, Tryz.results28, go_sem, u0, u1, u2, u3, u4, u5, u6, v0, v1]) rfl ?_
          refine ⟨HBF.out, _, rfl, k, nm, nu, sh, B, n1, m1, B', n1', m1', B'', n1'', m1'', rfl, ?_⟩
          exact TreeV.stays.weaken (TreeV.stays.keep (TreeV.stays.weaken (S' := far (w.heap.size + 3)) HT7.out (fun b _ hb => by have h9 : w4.heap.size ≤ b := hb; unfold far; omega)) HKF.out) (fun b _ hb => by have h9 : w.heap.size + 3 ≤ b := hb; unfold from_; omega)
    | false =>
      rw [if_neg (by simp)]
      cases h7 : chainS X (chainS X (factorS X E) isMulB) isSumB i with
      | bad T kk =>
        go_enter Tryz.func28, Tryz.ntmps28
        go_wp2_with (first
          | (go_at_call 24; refine (rText HX0.out.l (i)).mono ?_; rintro e w1 ⟨rfl, hb⟩; have HX1 := hide (HX0.out.below hb); obtain ⟨⟨q0, q1⟩, fq0, fq1⟩ := HX1.out.t.cells; obtain ⟨⟨d0, d1⟩, fd0, fd1⟩ := HX1.out.d.cells; obtain ⟨z0, z1, z2, z3, z4, z5, z6⟩ := HX1.out.z.cells; obtain ⟨y0, y1, y2, y3, y4, y5, y6⟩ := HX1.out.z.frozen; clear HX0; clear hb)
          | (go_at_call 24; refine (rText HX1.out.l (i)).mono ?_; rintro e w2 ⟨rfl, hb⟩; have HX2 := hide (HX1.out.below hb); obtain ⟨⟨q0, q1⟩, fq0, fq1⟩ := HX2.out.t.cells; obtain ⟨⟨d0, d1⟩, fd0, fd1⟩ := HX2.out.d.cells; obtain ⟨z0, z1, z2, z3, z4, z5, z6⟩ := HX2.out.z.cells; obtain ⟨y0, y1, y2, y3, y4, y5, y6⟩ := HX2.out.z.frozen; clear HX1; clear hb)
          | (go_at_call 48; refine (HSX.out w2 i HX2.out.l hi).mono ?_; rw [h7]; rintro e w7 ⟨hb, hT, v, j7, rfl, k, nm, nu, sh, B, n1, m1, B', n1', m1', B'', n1'', m1'', rfl⟩; have HX7 := hide (HX2.out.below hb); have HTT := hide hT; obtain ⟨⟨q0, q1⟩, fq0, fq1⟩ := HX7.out.t.cells; obtain ⟨⟨d0, d1⟩, fd0, fd1⟩ := HX7.out.d.cells; obtain ⟨z0, z1, z2, z3, z4, z5, z6⟩ := HX7.out.z.cells; obtain ⟨y0, y1, y2, y3, y4, y5, y6⟩ := HX7.out.z.frozen; clear hb hT)
          )
        have HO1 := hide (SevAt.out w7 (w.heap.size + 1) (.int .i64 k) (.string nm) (.int .i64 nu) (.bool sh) (.slice B n1 m1) (.slice B' n1' m1') (.slice B'' n1'' m1''))
        have HJ1 := hide (HX7.out.z.put (.int .i64 k) (.string nm) (.int .i64 nu) (.bool sh) (.slice B n1 m1) (.slice B' n1' m1') (.slice B'' n1'' m1''))
        have HJ2 := hide (HX7.out.d.grown HO1.out (by simp))
        have HO2 := hide (TwoAt.out (w := (((((((w7.setCell ⟨w.heap.size + 1, 0, none⟩ (.int .i64 k)).setCell ⟨w.heap.size + 1, 1, none⟩ (.string nm)).setCell ⟨w.heap.size + 1, 2, none⟩ (.int .i64 nu)).setCell ⟨w.heap.size + 1, 3, none⟩ (.bool sh)).setCell ⟨w.heap.size + 1, 4, none⟩ (.slice B n1 m1)).setCell ⟨w.heap.size + 1, 5, none⟩ (.slice B' n1' m1')).setCell ⟨w.heap.size + 1, 6, none⟩ (.slice B'' n1'' m1''))) (b := w.heap.size + 2) (.int .i64 T) (.int .i64 (kk : Int)))
        have HJ3 := hide (HJ1.out.grown HO2.out (by simp))
        have HJ4 := hide (HJ2.out.put (.int .i64 T) (.int .i64 (kk : Int)))
        have HBF := hide (below_grown (below_grown HX7.out.bw HO1.out (fun g e => by cases e; omega)) HO2.out (fun g e => by cases e; omega))
        have HKF : Hid (Keep (far (w.heap.size + 3)) w7 (((((((((w7.setCell ⟨w.heap.size + 1, 0, none⟩ (.int .i64 k)).setCell ⟨w.heap.size + 1, 1, none⟩ (.string nm)).setCell ⟨w.heap.size + 1, 2, none⟩ (.int .i64 nu)).setCell ⟨w.heap.size + 1, 3, none⟩ (.bool sh)).setCell ⟨w.heap.size + 1, 4, none⟩ (.slice B n1 m1)).setCell ⟨w.heap.size + 1, 5, none⟩ (.slice B' n1' m1')).setCell ⟨w.heap.size + 1, 6, none⟩ (.slice B'' n1'' m1'')).setCell ⟨w.heap.size + 2, 0, none⟩ (.int .i64 T)).setCell ⟨w.heap.size + 2, 1, none⟩ (.int .i64 (kk : Int)))) := (far_keep HO1.out (by omega)).trans (far_keep HO2.out (by omega))
        obtain ⟨u0, u1, u2, u3, u4, u5, u6⟩ := HJ3.out.cells
        obtain ⟨⟨v0, v1⟩, _, _⟩ := HJ4.out.cells
        obtain ⟨wf, hwf⟩ : ∃ wf, wf = (((((((((w7.setCell ⟨w.heap.size + 1, 0, none⟩ (.int .i64 k)).setCell ⟨w.heap.size + 1, 1, none⟩ (.string nm)).setCell ⟨w.heap.size + 1, 2, none⟩ (.int .i64 nu)).setCell ⟨w.heap.size + 1, 3, none⟩ (.bool sh)).setCell ⟨w.heap.size + 1, 4, none⟩ (.slice B n1 m1)).setCell ⟨w.heap.size + 1, 5, none⟩ (.slice B' n1' m1')).setCell ⟨w.heap.size + 1, 6, none⟩ (.slice B'' n1'' m1'')).setCell ⟨w.heap.size + 2, 0, none⟩ (.int .i64 T)).setCell ⟨w.heap.size + 2, 1, none⟩ (.int .i64 (kk : Int))) := ⟨_, rfl⟩
        rw [← hwf] at HBF HKF u0 u1 u2 u3 u4 u5 u6 v0 v1 ⊢
        clear hwf HO1 HO2 HJ1 HJ2 HJ3 HJ4
        refine bodyPost_ret (v := .tuple #[.agg #[.int .i64 k, .string nm, .int .i64 nu, .bool sh, .slice B n1 m1, .slice B' n1' m1', .slice B'' n1'' m1''], .int .i64 ((j7 : Int)), .agg #[.int .i64 T, .int .i64 (kk : Int)]]) (by simp [results, Tryz.results28, go_sem, u0, u1, u2, u3, u4, u5, u6, v0, v1]) rfl ?_
        exact ⟨HBF.out, HTT.out, _, j7, rfl, k, nm, nu, sh, B, n1, m1, B', n1', m1', B'', n1'', m1'', rfl⟩
      | ok tt j7 =>
        go_enter Tryz.func28, Tryz.ntmps28
        go_wp2_with (first
          | (go_at_call 24; refine (rText HX0.out.l (i)).mono ?_; rintro e w1 ⟨rfl, hb⟩; have HX1 := hide (HX0.out.below hb); obtain ⟨⟨q0, q1⟩, fq0, fq1⟩ := HX1.out.t.cells; obtain ⟨⟨d0, d1⟩, fd0, fd1⟩ := HX1.out.d.cells; obtain ⟨z0, z1, z2, z3, z4, z5, z6⟩ := HX1.out.z.cells; obtain ⟨y0, y1, y2, y3, y4, y5, y6⟩ := HX1.out.z.frozen; clear HX0; clear hb)
          | (go_at_call 24; refine (rText HX1.out.l (i)).mono ?_; rintro e w2 ⟨rfl, hb⟩; have HX2 := hide (HX1.out.below hb); obtain ⟨⟨q0, q1⟩, fq0, fq1⟩ := HX2.out.t.cells; obtain ⟨⟨d0, d1⟩, fd0, fd1⟩ := HX2.out.d.cells; obtain ⟨z0, z1, z2, z3, z4, z5, z6⟩ := HX2.out.z.cells; obtain ⟨y0, y1, y2, y3, y4, y5, y6⟩ := HX2.out.z.frozen; clear HX1; clear hb)
          | (go_at_call 48; refine (HSX.out w2 i HX2.out.l hi).mono ?_; rw [h7]; rintro e w7 ⟨hb, v, rfl, k, nm, nu, sh, B, n1, m1, B', n1', m1', B'', n1'', m1'', rfl, htr⟩; have HX7 := hide (HX2.out.below hb); have HT7 := hide htr; have hz7 : w.heap.size + 3 ≤ w2.heap.size := (by have := HX2.out.d.lt; omega); obtain ⟨⟨q0, q1⟩, fq0, fq1⟩ := HX7.out.t.cells; obtain ⟨⟨d0, d1⟩, fd0, fd1⟩ := HX7.out.d.cells; obtain ⟨z0, z1, z2, z3, z4, z5, z6⟩ := HX7.out.z.cells; obtain ⟨y0, y1, y2, y3, y4, y5, y6⟩ := HX7.out.z.frozen; clear hb htr)
          )
        have HO1 := hide (SevAt.out w7 (w.heap.size + 1) (.int .i64 k) (.string nm) (.int .i64 nu) (.bool sh) (.slice B n1 m1) (.slice B' n1' m1') (.slice B'' n1'' m1''))
        have HJ1 := hide (HX7.out.z.put (.int .i64 k) (.string nm) (.int .i64 nu) (.bool sh) (.slice B n1 m1) (.slice B' n1' m1') (.slice B'' n1'' m1''))
        have HJ2 := hide (HX7.out.d.grown HO1.out (by simp))
        have HO2 := hide (TwoAt.out (w := (((((((w7.setCell ⟨w.heap.size + 1, 0, none⟩ (.int .i64 k)).setCell ⟨w.heap.size + 1, 1, none⟩ (.string nm)).setCell ⟨w.heap.size + 1, 2, none⟩ (.int .i64 nu)).setCell ⟨w.heap.size + 1, 3, none⟩ (.bool sh)).setCell ⟨w.heap.size + 1, 4, none⟩ (.slice B n1 m1)).setCell ⟨w.heap.size + 1, 5, none⟩ (.slice B' n1' m1')).setCell ⟨w.heap.size + 1, 6, none⟩ (.slice B'' n1'' m1''))) (b := w.heap.size + 2) (.int .i64 0) (.int .i64 0))
        have HJ3 := hide (HJ1.out.grown HO2.out (by simp))
        have HJ4 := hide (HJ2.out.put (.int .i64 0) (.int .i64 0))
        have HBF := hide (below_grown (below_grown HX7.out.bw HO1.out (fun g e => by cases e; omega)) HO2.out (fun g e => by cases e; omega))
        have HKF : Hid (Keep (far (w.heap.size + 3)) w7 (((((((((w7.setCell ⟨w.heap.size + 1, 0, none⟩ (.int .i64 k)).setCell ⟨w.heap.size + 1, 1, none⟩ (.string nm)).setCell ⟨w.heap.size + 1, 2, none⟩ (.int .i64 nu)).setCell ⟨w.heap.size + 1, 3, none⟩ (.bool sh)).setCell ⟨w.heap.size + 1, 4, none⟩ (.slice B n1 m1)).setCell ⟨w.heap.size + 1, 5, none⟩ (.slice B' n1' m1')).setCell ⟨w.heap.size + 1, 6, none⟩ (.slice B'' n1'' m1'')).setCell ⟨w.heap.size + 2, 0, none⟩ (.int .i64 0)).setCell ⟨w.heap.size + 2, 1, none⟩ (.int .i64 0))) := (far_keep HO1.out (by omega)).trans (far_keep HO2.out (by omega))
        obtain ⟨u0, u1, u2, u3, u4, u5, u6⟩ := HJ3.out.cells
        obtain ⟨⟨v0, v1⟩, _, _⟩ := HJ4.out.cells
        obtain ⟨wf, hwf⟩ : ∃ wf, wf = (((((((((w7.setCell ⟨w.heap.size + 1, 0, none⟩ (.int .i64 k)).setCell ⟨w.heap.size + 1, 1, none⟩ (.string nm)).setCell ⟨w.heap.size + 1, 2, none⟩ (.int .i64 nu)).setCell ⟨w.heap.size + 1, 3, none⟩ (.bool sh)).setCell ⟨w.heap.size + 1, 4, none⟩ (.slice B n1 m1)).setCell ⟨w.heap.size + 1, 5, none⟩ (.slice B' n1' m1')).setCell ⟨w.heap.size + 1, 6, none⟩ (.slice B'' n1'' m1'')).setCell ⟨w.heap.size + 2, 0, none⟩ (.int .i64 0)).setCell ⟨w.heap.size + 2, 1, none⟩ (.int .i64 0)) := ⟨_, rfl⟩
        rw [← hwf] at HBF HKF u0 u1 u2 u3 u4 u5 u6 v0 v1 ⊢
        clear hwf HO1 HO2 HJ1 HJ2 HJ3 HJ4
        refine bodyPost_ret (v := .tuple #[.agg #[.int .i64 k, .string nm, .int .i64 nu, .bool sh, .slice B n1 m1, .slice B' n1' m1', .slice B'' n1'' m1''], .int .i64 ((j7 : Int)), .agg #[.int .i64 0, .int .i64 0]]) (by simp [results, Tryz.results28, go_sem, u0, u1, u2, u3, u4, u5, u6, v0, v1]) rfl ?_
        refine ⟨HBF.out, _, rfl, k, nm, nu, sh, B, n1, m1, B', n1', m1', B'', n1'', m1'', rfl, ?_⟩
        exact TreeV.stays.weaken (TreeV.stays.keep (TreeV.stays.weaken (S' := far (w.heap.size + 3)) HT7.out (fun b _ hb => by have h9 : w2.heap.size ≤ b := hb; unfold far; omega)) HKF.out) (fun b _ hb => by have h9 : w.heap.size + 3 ≤ b := hb; unfold from_; omega)
end Go.Proofs.YtadhlnlcdljamaaGreatDoor.V
