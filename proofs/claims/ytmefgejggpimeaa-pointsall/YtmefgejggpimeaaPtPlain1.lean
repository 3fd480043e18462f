/-
  Contract: the function that plain.Points hands to the iterator when it goes through it again.
-/
import Derived.Test.YtmefgejggpimeaaPtTell
import Derived.Test.YtmefgejggpimeaaPtLists
import Derived.BigRegion
import Derived.BigQuiet
namespace Go.Proofs.Ytmefgejggpimeaa.V
open Go.RowKit
set_option linter.unusedVariables false

/-- The variables of the second walk. -/
structure Vars (W : World) (okb nob kb gx bl : Nat) (no : Bool) (k : Nat) (f : Nat → Int) : Prop where
  ok : Boxed W okb 4 (.bool true)
  no : Boxed W nob 4 (.bool no)
  k : Boxed W kb 3 (.int .i64 (k : Nat))
  row : W.rowIs gx 3 bl (fun j => .int .i64 (f j))
structure Apart (D okb nob kb gx lb : Nat) : Prop where
  ok : D ≤ okb
  no : D ≤ nob
  k : D ≤ kb
  n1 : okb ≠ nob
  n2 : okb ≠ kb
  n3 : nob ≠ kb
  g1 : okb < gx
  g2 : nob < gx
  g3 : kb < gx
  l : lb < D
theorem Vars.setOk {W : World} {okb nob kb gx bl lb D : Nat} {no : Bool} {k : Nat} {f : Nat → Int} (h : Vars W okb nob kb gx bl no k f) (a : Apart D okb nob kb gx lb) : Vars (W.setCell ⟨okb, 0, none⟩ (.bool true)) okb nob kb gx bl no k f :=
  ⟨h.ok.set _, boxed_setRow h.no (Ne.symm a.n1) _ _, boxed_setRow h.k (Ne.symm a.n2) _ _, h.row.setOther (a := ⟨okb, 0, none⟩) (by have := a.g1; simp only; omega) _⟩
theorem Vars.setX {W : World} {okb nob kb gx bl lb D : Nat} {no : Bool} {k : Nat} {f : Nat → Int} (h : Vars W okb nob kb gx bl no k f) (a : Apart D okb nob kb gx lb) (i : Nat) (v : Int) : Vars (W.setCell ⟨gx, i, none⟩ (.int .i64 v)) okb nob kb gx bl no k (fun j => if j = i then v else f j) :=
  ⟨boxed_setRow h.ok (by have := a.g1; omega) _ _, boxed_setRow h.no (by have := a.g2; omega) _ _, boxed_setRow h.k (by have := a.g3; omega) _ _, (h.row.set i _).congr (fun j _ => by split <;> rfl)⟩
theorem Vars.setK {W : World} {okb nob kb gx bl lb D : Nat} {no : Bool} {k : Nat} {f : Nat → Int} (h : Vars W okb nob kb gx bl no k f) (a : Apart D okb nob kb gx lb) (k' : Nat) : Vars (W.setCell ⟨kb, 0, none⟩ (.int .i64 (k' : Nat))) okb nob kb gx bl no k' f :=
  ⟨boxed_setRow h.ok a.n2 _ _, boxed_setRow h.no a.n3 _ _, h.k.set _, h.row.setOther (a := ⟨kb, 0, none⟩) (by have := a.g3; simp only; omega) _⟩
theorem Vars.setNo {W : World} {okb nob kb gx bl lb D : Nat} {no : Bool} {k : Nat} {f : Nat → Int} (h : Vars W okb nob kb gx bl no k f) (a : Apart D okb nob kb gx lb) (b : Bool) : Vars (W.setCell ⟨nob, 0, none⟩ (.bool b)) okb nob kb gx bl b k f :=
  ⟨boxed_setRow h.ok a.n1 _ _, h.no.set _, boxed_setRow h.k (Ne.symm a.n3) _ _, h.row.setOther (a := ⟨nob, 0, none⟩) (by have := a.g2; simp only; omega) _⟩
theorem Vars.drew {W : World} {okb nob kb gx bl : Nat} {no : Bool} {k : Nat} {f : Nat → Int} (h : Vars W okb nob kb gx bl no k f) : Vars W.drew okb nob kb gx bl no k f := ⟨h.ok, h.no, h.k, h.row⟩

set_option maxRecDepth 100000 in
set_option maxHeartbeats 8000000 in
theorem plain1_any (Wd : World) (lb okb nob kb gx bl n : Nat) (A : Option Addr) (c : Nat) (L pre post : List (List Int)) (x : List Int) (W : World) (hL : L = pre ++ x :: post) (hn : L.length = n) (hn4 : n ≤ 4096)
    (hl : Boxed Wd lb 38 (.slice A n c)) (hLL : LL Wd A n L) (hB : Below Wd.heap.size Wd W) (ha : Apart Wd.heap.size okb nob kb gx lb) (hT : Told Wd.heap.size gx bl x W) (hV : Vars W okb nob kb gx bl false pre.length (fun j => x[j]?.getD 0)) :
    Calls Try.prog 33 #[.slice (some ⟨gx, 0, none⟩) bl bl, .pointer (some ⟨okb, 0, none⟩), .pointer (some ⟨nob, 0, none⟩), .pointer (some ⟨kb, 0, none⟩), .pointer (some ⟨lb, 0, none⟩)] W fun e W' => (e = .returned (.bool (decide (pre.length + 1 ≤ n / 2))) ∧ Vars W' okb nob kb gx bl (decide (n / 2 < pre.length + 1)) (pre.length + 1) (fun _ => -1)) ∧ Below Wd.heap.size Wd W' ∧ W.heap.size ≤ W'.heap.size := by
  have hk : pre.length < n := by rw [← hn, hL]; simp
  have hLx : L[pre.length]?.getD [] = x := by rw [hL]; simp
  obtain ⟨b, off, rfl, hat⟩ := hLL.at (by omega)
  obtain ⟨ya, yl, yc, y1, y2, _⟩ := hat pre.length hk
  rw [hLx] at y2
  obtain rfl : yl = bl := by have := y2.1.1; have := hT.2.2.1; omega
  obtain ⟨K, hK⟩ : ∃ K, K = pre.length := ⟨_, rfl⟩
  rw [← hK] at hk y1 hV
  rw [← hK]
  obtain ⟨h2, hh2⟩ : ∃ h2, h2 = n / 2 := ⟨_, rfl⟩
  have hb2 : h2 ≤ 4096 := by omega
  rw [← hh2]
  have HH2 := hide hh2
  clear hh2
  have HL := hide hl
  have HY := hide y2
  have HT := hide hT
  have HA := hide ha
  have zb := lt_of_cell y1
  simp only at zb
  have zl := hl.lt
  have hbl4 := hT.2.2.2.1
  have HXB := hide hT.2.2.2.2
  have HXL := hide hT.2.2.1
  have Hy1 := hide y1
  clear hL hn hl hLL hat y2 hLx hT hK ha y1
  have c1 := hV.ok.cell
  have c2 := hV.no.cell
  have c3 := hV.k.cell
  have f1 := hV.ok.frozen
  have c4 := (hB.cell (p := ⟨lb, 0, none⟩) zl).trans HL.out.cell
  have c5 := (hB.cell (p := ⟨b, off + K, none⟩) zb).trans Hy1.out
  have z1 := hV.ok.lt
  have z2 := hV.row.lt
  have zw := hB.size
  have HV := hide (hV.setOk HA.out)
  have HB := hide (hB.setCell (p := ⟨okb, 0, none⟩) HA.out.ok (.bool true))
  clear hV hB
  go_enter Try.func33, Try.ntmps33
  go_wp2_with fail
  clear c1 c2 c3 c4 c5 f1 z1 z2
  go_loopw [31] (fun i wr => ∃ j : Nat, j ≤ yl ∧ i = .int .i64 j ∧ Vars wr okb nob kb gx yl false K (fun q => if q < j then -1 else x[q]?.getD 0) ∧ Below Wd.heap.size Wd wr ∧ W.heap.size ≤ wr.heap.size) (fun i _ => yl - (intOf i).toNat)
  case atStart => exact ⟨0, Nat.zero_le _, rfl, by simpa using HV.out, HB.out, by simp⟩
  case round =>
    clear HV HB
    obtain ⟨j, hj, rfl, hV, hB, hsz⟩ := hrel
    have HSZ := hide hsz
    clear hsz
    by_cases hlt : j < yl
    · have HLT := hide hlt
      have c1 := hV.ok.cell
      have c3 := hV.k.cell
      have f1 := hV.ok.frozen
      have c4 := (hB.cell (p := ⟨lb, 0, none⟩) zl).trans HL.out.cell
      have c5 := (hB.cell (p := ⟨b, off + K, none⟩) zb).trans Hy1.out
      obtain ⟨yb, yo, rfl, hyb, hyc⟩ := HY.out.1.at (by omega)
      have c6 := (hB.cell (p := ⟨yb, yo + j, none⟩) hyb).trans (hyc j hlt)
      have c7 := hV.row.cell hlt
      have f7 := hV.row.frozen j
      simp only [Nat.lt_irrefl, if_false] at c7
      have hxb := HXB.out _ (mem_getD x j (by rw [HXL.out]; exact hlt))
      obtain ⟨X, hX⟩ : ∃ X, X = x[j]?.getD 0 := ⟨_, rfl⟩
      rw [← hX] at c6 c7 hxb
      have q1 : (X == X) = true := by simp
      have z1 := hV.ok.lt
      have z2 := hV.row.lt
      have zw := hB.size
      have HS := hide (((hV.setOk HA.out).setX HA.out j (-1)))
      have HBs := hide ((hB.setCell (p := ⟨okb, 0, none⟩) HA.out.ok (.bool true)).setCell (p := ⟨gx, j, none⟩) HT.out.1 (.int .i64 (-1)))
      have c8 := (hV.setOk HA.out).row.cell hlt
      have f8 := (hV.setOk HA.out).row.frozen j
      simp only [Nat.lt_irrefl, if_false] at c8
      rw [← hX] at c8
      have HX := hide hX
      have hne := HA.out.g1
      clear hV hB hyc hX
      go_wp2_with fail
      go_region
      go_wp2_with fail
      go_roundw
      case rel =>
        refine ⟨j + 1, by have := HLT.out; omega, by have := HLT.out; go_num, ?_, HBs.out.drew, by have := HSZ.out; simpa using this⟩
        have E := HS.out.drew
        refine ⟨E.ok, E.no, E.k, E.row.congr (fun q hq => ?_)⟩
        congr 1
        by_cases e : q = j
        · rw [if_pos e, if_pos (by omega)]
        · rw [if_neg e]
          by_cases e2 : q < j
          · rw [if_pos e2, if_pos (by omega)]
          · rw [if_neg e2, if_neg (by omega)]
      case measure => have := HLT.out; simp [intOf]; omega
    · obtain rfl : j = yl := by omega
      have c3 := hV.k.cell
      have f3 := hV.k.frozen
      have f2 := (hV.setK HA.out (K + 1)).no.frozen
      have c2 := (hV.setK HA.out (K + 1)).no.cell
      have d3 := (hV.setK HA.out (K + 1)).k.cell
      have c4 := (hB.cell (p := ⟨lb, 0, none⟩) zl).trans HL.out.cell
      have c4' := ((hB.setCell (p := ⟨kb, 0, none⟩) HA.out.k (.int .i64 ((K + 1 : Nat) : Int))).cell (p := ⟨lb, 0, none⟩) zl).trans HL.out.cell
      have ek : ((K + 1 : Nat) : Int) = (K : Int) + 1 := by omega
      have HS := hide ((hV.setK HA.out (K + 1)).setNo HA.out (decide (n / 2 < K + 1)))
      have HBs := hide ((hB.setCell (p := ⟨kb, 0, none⟩) HA.out.k (.int .i64 ((K + 1 : Nat) : Int))).setCell (p := ⟨nob, 0, none⟩) HA.out.no (.bool (decide (n / 2 < K + 1))))
      rw [ek] at d3 c2 f2 c4' HS HBs
      have z1 := hV.k.lt
      have z2 := hV.no.lt
      have zw := hB.size
      have ht : IntKind.i64.wrap ((n : Int).tdiv 2) = ((n / 2 : Nat) : Int) := by
        rw [Int.tdiv_eq_ediv_of_nonneg (by omega)]
        rw [wrap_in _ (by omega) (by omega)]
        omega
      rw [← HH2.out] at ht HS HBs
      clear hV hB ek
      by_cases q : h2 < K + 1
      · have q1 : decide ((n : Int) / 2 < (K : Int) + 1) = true := by have := HH2.out; simp; omega
        have e1 : decide (h2 < K + 1) = true := by simpa using q
        have e2 : decide (K + 1 ≤ h2) = false := by simp; omega
        rw [e1] at HS HBs
        have E1 := hide e1
        have E2 := hide e2
        clear e1 e2
        go_wp2_with fail
        go_ret
        refine ⟨⟨by rw [E2.out]; rfl, ?_⟩, HBs.out, by have := HSZ.out; simpa using this⟩
        rw [E1.out]
        have E := HS.out
        exact ⟨E.ok, E.no, E.k, E.row.congr (fun q hq => by rw [if_pos hq])⟩
      · have q1 : decide ((n : Int) / 2 < (K : Int) + 1) = false := by have := HH2.out; simp; omega
        have e1 : decide (h2 < K + 1) = false := by simpa using q
        have e2 : decide (K + 1 ≤ h2) = true := by simp; omega
        rw [e1] at HS HBs
        have E1 := hide e1
        have E2 := hide e2
        clear e1 e2
        go_wp2_with fail
        go_ret
        refine ⟨⟨by rw [E2.out]; rfl, ?_⟩, HBs.out, by have := HSZ.out; simpa using this⟩
        rw [E1.out]
        have E := HS.out
        exact ⟨E.ok, E.no, E.k, E.row.congr (fun q hq => by rw [if_pos hq])⟩
end Go.Proofs.Ytmefgejggpimeaa.V
