/-
  Contract: graph.nodeDims. Contract: graph.Dims, graph.Wrong. Contract: graph.Weight.
-/
import Derived.Test.YtmpigjdkkbfbcaaK11
import Derived.Test.YtmpigjdkkbfbcaaK33
import Derived.Test.YtmpigjdkkbfbcaaK2
import Derived.Deep.RegionHeld3
namespace Go.Proofs.Ytmpigjdkkbfbcaa.V
set_option maxRecDepth 20000
open Go.RowKit
set_option linter.unusedVariables false

/-- A node's dimensions, those of the nodes ahead of it being ds. -/
def nodeP (d : Nd) (isPar : Bool) (ds : List (List Int)) : List Int × Int :=
  if farA d.ar ds.length = true then ([], 10)
  else if d.k ≠ 1 then dimsP d.k d.es d.ps d.lo d.hi d.st (pickD ds d.ar)
  else if isPar = false ∨ d.ps ≠ [(ds.length : Int)] then ([], 7)
  else if 0 < d.ar.length then ([], 2)
  else if sizeE d.es ≠ 0 then ([], sizeE d.es)
  else (d.es, 0)
/-- The words of a node that lies in a block of its own. -/
theorem Nw.new (u : Nw) (w : World) : u.At (w.alloc (.cells #[.int .i64 u.k, u.e.v, u.p.v, u.lo.v, u.hi.v, u.st.v, .int .i64 u.x, u.ar.v] 39)) w.heap.size 0 := by
  have h := World.alloc_heap_new w (.cells #[.int .i64 u.k, u.e.v, u.p.v, u.lo.v, u.hi.v, u.st.v, .int .i64 u.x, u.ar.v] 39)
  constructor <;> (unfold World.cell?; rw [h]; rfl)
theorem Nw.At.cells {u : Nw} {w : World} {b : Nat} (h : u.At w b 0) : w.cell? ⟨b, 0, none⟩ = some (.int .i64 u.k) ∧ w.cell? ⟨b, 1, none⟩ = some u.e.v ∧ w.cell? ⟨b, 2, none⟩ = some u.p.v ∧ w.cell? ⟨b, 3, none⟩ = some u.lo.v ∧ w.cell? ⟨b, 4, none⟩ = some u.hi.v ∧ w.cell? ⟨b, 5, none⟩ = some u.st.v ∧ w.cell? ⟨b, 6, none⟩ = some (.int .i64 u.x) ∧ w.cell? ⟨b, 7, none⟩ = some u.ar.v :=
  ⟨h.c0, h.c1, h.c2, h.c3, h.c4, h.c5, h.c6, h.c7⟩

set_option maxRecDepth 100000 in
set_option maxHeartbeats 4000000 in
theorem nodeDims_any (u : Nw) (d : Nd) (isPar : Bool) (A : Option Addr) (cap : Nat) (ds : List (List Int)) (w : World) (hu : u.Is w d) (h : Lsts w A ds.length ds) :
    Calls Try.prog 13 #[u.v, .bool isPar, .slice A ds.length cap] w fun e w' => OutP e w' (nodeP d isPar ds) ∧ Below w.heap.size w w' := by
  have HU := hide hu
  have H := hide h
  have hm := h.2.1
  obtain ⟨n, hn⟩ : ∃ n, n = ds.length := ⟨_, rfl⟩
  have HN := hide hn
  rw [← hn] at hm H ⊢
  have HB1 := hide (bl_new (w := w) (.cells #[.int .i64 u.k, u.e.v, u.p.v, u.lo.v, u.hi.v, u.st.v, .int .i64 u.x, u.ar.v] 39))
  have HA1 := hide (Nw.new u w)
  have HAM := hide (fun W (hW : Below w.heap.size w W) => among_any u.ar.a u.ar.l u.ar.c d.ar n W (hu.ar.below hW).1.1)
  have hk := hu.k
  have HT := hide (fun W (hW : Below w.heap.size w W) hf => thesl_any u.ar.a u.ar.l u.ar.c d.ar A n cap ds W (hu.ar.below hW).1.1 (H.out.below hW) hf hu.ar.2)
  have HD := hide (fun W G (hW : Below w.heap.size w W) (hl : Lsts W (some ⟨G, 0, none⟩) u.ar.l (pickD ds d.ar)) => Dims_any d.k u.x u.e.a u.e.l u.e.c d.es u.p.a u.p.l u.p.c d.ps u.lo.a u.lo.l u.lo.c d.lo u.hi.a u.hi.l u.hi.c d.hi u.st.a u.st.l u.st.c d.st (some ⟨G, 0, none⟩) u.ar.l u.ar.l (pickD ds d.ar) W (hu.e.below hW).1 (hu.p.below hW).1 (hu.lo.below hW).1 (hu.hi.below hW).1 (hu.st.below hW).1 hl (Nat.le_refl _) hu.ar.2 hu.e.2 hu.p.2 hu.lo.2 hu.hi.2 hu.st.2)
  have HS := hide (fun W (hW : Below w.heap.size w W) => size_any u.e.a u.e.l u.e.c d.es W (hu.e.below hW).1.1)
  have HF := hide (fun W (hW : Below w.heap.size w W) => afresh_any u.e.a u.e.l u.e.c d.es W (hu.e.below hW).1.1 (by have := hu.e.2; omega))
  have HE := hide (fun W (hW : Below w.heap.size w W) B (hB : Ints W (some ⟨B, 0, none⟩) 1 [(n : Int)]) => equal_any u.p.a u.p.l u.p.c d.ps (some ⟨B, 0, none⟩) 1 1 [(n : Int)] W (hu.p.below hW).1.1 hB)
  have HAL := hide hu.ar.1.1.1
  have hal := hu.ar.2
  have hnp : nodeP d isPar ds = if farA d.ar n = true then ([], 10) else if d.k ≠ 1 then dimsP d.k d.es d.ps d.lo d.hi d.st (pickD ds d.ar) else if isPar = false ∨ d.ps ≠ [(n : Int)] then ([], 7) else if 0 < d.ar.length then ([], 2) else if sizeE d.es ≠ 0 then ([], sizeE d.es) else (d.es, 0) := by rw [hn]; rfl
  obtain ⟨R, hR⟩ : ∃ R, R = nodeP d isPar ds := ⟨_, rfl⟩
  rw [← hR] at hnp ⊢
  have HNP := hide hnp
  clear hu h hn hR hnp
  obtain ⟨k, ⟨ea, el, ec⟩, ⟨pa, pl, pc⟩, ⟨la, ll, lc⟩, ⟨ha, hl, hhc⟩, ⟨ta, tl, tc⟩, x, ⟨aa, al, ac⟩⟩ := u
  simp only at hk hal
  rw [← hk] at HD HNP
  simp only [Nw.v, Sw.v] at HA1 HB1 HAM HT HD HS HF HE HAL HNP ⊢
  obtain ⟨b0, b1, b2, b3, b4, b5, b6, b7⟩ := HA1.out.cells
  simp only [Sw.v] at b1 b2 b3 b4 b5 b7
  clear hk
  obtain ⟨W1, hW1⟩ : ∃ W1, W1 = w.alloc (.cells #[.int .i64 k, .slice ea el ec, .slice pa pl pc, .slice la ll lc, .slice ha hl hhc, .slice ta tl tc, .int .i64 x, .slice aa al ac] 39) := ⟨_, rfl⟩
  cases hfa : farA d.ar n with
  | true =>
    rw [hfa] at HNP
    go_enter Try.func13, Try.ntmps13
    go_wp2_with (go_at_call 14; refine (HAM.out _ HB1.out).mono ?_; rintro e w2 ⟨rfl, hb2⟩; rw [hfa]; have HB2 := hide (bl_on HB1.out hb2); clear hb2; simp only [Bool.not_true])
    go_ret2
    have e1 := HNP.out
    simp at e1
    rw [e1]
    exact ⟨outP_none _ _, HB2.out⟩
  | false =>
    rw [hfa] at HNP
    by_cases hk1 : k = 1
    · have hq : (k != 1) = false := by simp [hk1]
      rw [if_neg Bool.false_ne_true, if_neg (by simpa using hk1)] at HNP
      clear hk1
      have e7 : (isPar = false ∨ d.ps ≠ [(n : Int)]) → R = ([], 7) := fun h => by rw [HNP.out, if_pos h]
      have HE7 := hide e7
      clear e7
      cases isPar with
      | false =>
        go_enter Try.func13, Try.ntmps13
        go_wp2_with (go_at_call 14; refine (HAM.out _ HB1.out).mono ?_; rintro e w2 ⟨rfl, hb2⟩; rw [hfa]; have HB2 := hide (bl_on HB1.out hb2); have HA2 := hide (HA1.out.below hb2); clear hb2 b0 b1 b2 b3 b4 b5 b6 b7; obtain ⟨b0, b1, b2, b3, b4, b5, b6, b7⟩ := HA2.out.cells; simp only [Sw.v] at b1 b2 b3 b4 b5 b7; simp only [Bool.not_false])
        go_ret2
        rw [HE7.out (.inl trivial)]
        exact ⟨outP_none _ _, HB2.out⟩
      | true =>
        have HLO : Hid (∀ W : World, ∀ B, W.heap.size = B → Ints (W.alloc (.cells #[.int .i64 (n : Int)] 3)) (some ⟨B, 0, none⟩) 1 [(n : Int)]) := fun W B hB => (lst_oneB W B hB n (by omega) 3).1
        by_cases hps : d.ps = [(n : Int)]
        · have HD1 : Hid (decide (d.ps = [(n : Int)]) = true) := decide_eq_true hps
          have e2 : 0 < al → R = ([], 2) := fun h => by rw [HNP.out, if_neg (by simp [hps]), if_pos (by rw [HAL.out]; exact h)]
          have e3 : ¬ 0 < al → sizeE d.es ≠ 0 → R = ([], sizeE d.es) := fun h h' => by rw [HNP.out, if_neg (by simp [hps]), if_neg (by rw [HAL.out]; exact h), if_pos h']
          have e4 : ¬ 0 < al → sizeE d.es = 0 → R = (d.es, 0) := fun h h' => by rw [HNP.out, if_neg (by simp [hps]), if_neg (by rw [HAL.out]; exact h), if_neg (by simp [h'])]
          have HE2 := hide e2
          have HE3 := hide e3
          have HE4 := hide e4
          clear e2 e3 e4 hps
          by_cases hal0 : 0 < al
          · have i0 : (0 : Int) < (al : Int) := by omega
            have HA0 := hide hal0
            clear hal0
            go_enter Try.func13, Try.ntmps13
            go_wp2_with (first
              | (go_at_call 14; refine (HAM.out _ HB1.out).mono ?_; rintro e w2 ⟨rfl, hb2⟩; rw [hfa]; have HB2 := hide (bl_on HB1.out hb2); have HA2 := hide (HA1.out.below hb2); clear hb2 b0 b1 b2 b3 b4 b5 b6 b7; obtain ⟨b0, b1, b2, b3, b4, b5, b6, b7⟩ := HA2.out.cells; simp only [Sw.v] at b1 b2 b3 b4 b5 b7; simp only [Bool.not_false])
              | (go_at_call 24; (refine (HE.out _ (HB2.out.alloc HB2.out.size _) _ (HLO.out w2 _ rfl)).mono ?_); rintro e w3 ⟨rfl, nn, hw3⟩; have hb3 : Below (w2.alloc (.cells #[.int .i64 (n : Int)] 3)).heap.size (w2.alloc (.cells #[.int .i64 (n : Int)] 3)) w3 := (by rw [hw3]; exact below_drewN _ _); rw [HD1.out]; have HB3 := hide (bl_on (HB2.out.alloc HB2.out.size _) hb3); have HA3 := hide ((HA2.out.below (bl_new _)).below hb3); clear hb3 hw3 b0 b1 b2 b3 b4 b5 b6 b7; obtain ⟨b0, b1, b2, b3, b4, b5, b6, b7⟩ := HA3.out.cells; simp only [Sw.v] at b1 b2 b3 b4 b5 b7))
            go_ret2
            rw [HE2.out HA0.out]
            exact ⟨outP_none _ _, HB3.out⟩
          · have i0 : ¬ ((0 : Int) < (al : Int)) := by omega
            have HA0 := hide hal0
            clear hal0
            by_cases hz : sizeE d.es = 0
            · have HZ := hide hz
              clear hz
              go_enter Try.func13, Try.ntmps13
              go_wp2_with (first
                | (go_at_call 14; refine (HAM.out _ HB1.out).mono ?_; rintro e w2 ⟨rfl, hb2⟩; rw [hfa]; have HB2 := hide (bl_on HB1.out hb2); have HA2 := hide (HA1.out.below hb2); clear hb2 b0 b1 b2 b3 b4 b5 b6 b7; obtain ⟨b0, b1, b2, b3, b4, b5, b6, b7⟩ := HA2.out.cells; simp only [Sw.v] at b1 b2 b3 b4 b5 b7; simp only [Bool.not_false])
                | (go_at_call 24; refine (HE.out _ (HB2.out.alloc HB2.out.size _) _ (HLO.out w2 _ rfl)).mono ?_; rintro e w3 ⟨rfl, nn, hw3⟩; have hb3 : Below (w2.alloc (.cells #[.int .i64 (n : Int)] 3)).heap.size (w2.alloc (.cells #[.int .i64 (n : Int)] 3)) w3 := (by rw [hw3]; exact below_drewN _ _); rw [HD1.out]; have HB3 := hide (bl_on (HB2.out.alloc HB2.out.size _) hb3); have HA3 := hide ((HA2.out.below (bl_new _)).below hb3); clear hb3 hw3 b0 b1 b2 b3 b4 b5 b6 b7; obtain ⟨b0, b1, b2, b3, b4, b5, b6, b7⟩ := HA3.out.cells; simp only [Sw.v] at b1 b2 b3 b4 b5 b7)
                | (go_at_call 25; refine (HS.out _ HB3.out).mono ?_; rintro e w4 ⟨rfl, hw4⟩; obtain rfl := hw4.symm; rw [HZ.out])
                | (go_at_call 26; refine (HF.out _ HB3.out).mono ?_; rintro e w5 ⟨⟨g5, rfl, hr5, hg5⟩, hb5⟩; have HR5 := hide hr5; have HB5 := hide (bl_on HB3.out hb5); clear hr5 hb5 hg5))
              go_ret2
              rw [HE4.out HA0.out HZ.out]
              exact ⟨⟨_, _, _, rfl, ints_of_rowI HR5.out (HU.out.e.1.1.1) (HU.out.e.1.1.2.1) (HU.out.e.1.1.2.2.1), Nat.le_refl _⟩, HB5.out⟩
            · have hzq : (sizeE d.es != 0) = true := by simp [hz]
              have HZ := hide hz
              obtain ⟨Z, hZ⟩ : ∃ Z, Z = sizeE d.es := ⟨_, rfl⟩
              rw [← hZ] at hzq HE3 HZ
              have HZZ := hide hZ
              clear hz hZ
              go_enter Try.func13, Try.ntmps13
              go_wp2_with (first
                | (go_at_call 14; refine (HAM.out _ HB1.out).mono ?_; rintro e w2 ⟨rfl, hb2⟩; rw [hfa]; have HB2 := hide (bl_on HB1.out hb2); have HA2 := hide (HA1.out.below hb2); clear hb2 b0 b1 b2 b3 b4 b5 b6 b7; obtain ⟨b0, b1, b2, b3, b4, b5, b6, b7⟩ := HA2.out.cells; simp only [Sw.v] at b1 b2 b3 b4 b5 b7; simp only [Bool.not_false])
                | (go_at_call 24; refine (HE.out _ (HB2.out.alloc HB2.out.size _) _ (HLO.out w2 _ rfl)).mono ?_; rintro e w3 ⟨rfl, nn, hw3⟩; have hb3 : Below (w2.alloc (.cells #[.int .i64 (n : Int)] 3)).heap.size (w2.alloc (.cells #[.int .i64 (n : Int)] 3)) w3 := (by rw [hw3]; exact below_drewN _ _); rw [HD1.out]; have HB3 := hide (bl_on (HB2.out.alloc HB2.out.size _) hb3); have HA3 := hide ((HA2.out.below (bl_new _)).below hb3); clear hb3 hw3 b0 b1 b2 b3 b4 b5 b6 b7; obtain ⟨b0, b1, b2, b3, b4, b5, b6, b7⟩ := HA3.out.cells; simp only [Sw.v] at b1 b2 b3 b4 b5 b7)
                | (go_at_call 25; refine (HS.out _ HB3.out).mono ?_; rintro e w4 ⟨rfl, hw4⟩; obtain rfl := hw4.symm; rw [← HZZ.out]))
              go_ret2
              rw [HE3.out HA0.out HZ.out]
              exact ⟨outP_none _ _, HB3.out⟩
        · have HD1 : Hid (decide (d.ps = [(n : Int)]) = false) := decide_eq_false hps
          have HPS := hide hps
          clear hps
          go_enter Try.func13, Try.ntmps13
          go_wp2_with (first
            | (go_at_call 14; refine (HAM.out _ HB1.out).mono ?_; rintro e w2 ⟨rfl, hb2⟩; rw [hfa]; have HB2 := hide (bl_on HB1.out hb2); have HA2 := hide (HA1.out.below hb2); clear hb2 b0 b1 b2 b3 b4 b5 b6 b7; obtain ⟨b0, b1, b2, b3, b4, b5, b6, b7⟩ := HA2.out.cells; simp only [Sw.v] at b1 b2 b3 b4 b5 b7; simp only [Bool.not_false])
            | (go_at_call 24; refine (HE.out _ (HB2.out.alloc HB2.out.size _) _ (HLO.out w2 _ rfl)).mono ?_; rintro e w3 ⟨rfl, nn, hw3⟩; have hb3 : Below (w2.alloc (.cells #[.int .i64 (n : Int)] 3)).heap.size (w2.alloc (.cells #[.int .i64 (n : Int)] 3)) w3 := (by rw [hw3]; exact below_drewN _ _); rw [HD1.out]; have HB3 := hide (bl_on (HB2.out.alloc HB2.out.size _) hb3); clear hb3 hw3))
          go_ret2
          rw [HE7.out (.inr HPS.out)]
          exact ⟨outP_none _ _, HB3.out⟩
    · have hq : (k != 1) = true := by simp [hk1]
      have HK := hide hk1
      clear hk1
      go_enter Try.func13, Try.ntmps13
      go_upto_region 1 with fail
      go_wp2_with fail
      refine (HAM.out _ HB1.out).mono ?_
      rintro e w2 ⟨rfl, hb2⟩
      rw [hfa]
      have HB2 := hide (bl_on HB1.out hb2)
      have HA2 := hide (HA1.out.below hb2)
      clear hb2 b0 b1 b2 b3 b4 b5 b6 b7
      obtain ⟨b0, b1, b2, b3, b4, b5, b6, b7⟩ := HA2.out.cells
      simp only [Sw.v] at b1 b2 b3 b4 b5 b7
      simp only [Bool.not_false]
      go_wp2_with fail
      go_region_held3 (fun w' => w'.cell? ⟨w.heap.size, 0, none⟩ = some (.int .i64 k) ∧ w'.cell? ⟨w.heap.size, 1, none⟩ = some (.slice ea el ec) ∧ w'.cell? ⟨w.heap.size, 2, none⟩ = some (.slice pa pl pc) ∧ w'.cell? ⟨w.heap.size, 3, none⟩ = some (.slice la ll lc) ∧ w'.cell? ⟨w.heap.size, 4, none⟩ = some (.slice ha hl hhc) ∧ w'.cell? ⟨w.heap.size, 5, none⟩ = some (.slice ta tl tc) ∧ w'.cell? ⟨w.heap.size, 6, none⟩ = some (.int .i64 x) ∧ w'.cell? ⟨w.heap.size, 7, none⟩ = some (.slice aa al ac)) (refine ⟨?_, ?_, ?_, ?_, ?_, ?_, ?_, ?_⟩ <;> with_reducible (repeat (first | assumption | apply drew_cell | apply alloc_cell))) ((first
        | (go_at_call 21; refine (HT.out _ HB2.out.drew hfa).mono ?_; rintro e w3 ⟨⟨G3, rfl, hl3⟩, hb3⟩; have HL3 := hide hl3; have HB3 := hide (bl_on HB2.out.drew hb3); have HA3 := hide ((HA2.out.below ((Below.refl _ _).drew)).below hb3); clear hl3 hb3; obtain ⟨d0, d1, d2, d3, d4, d5, d6, d7⟩ := HA3.out.cells; simp only [Sw.v] at d1 d2 d3 d4 d5 d7)
        | (go_at_call 23; refine (HD.out _ _ HB3.out HL3.out).mono ?_; rintro e w4 ⟨⟨X4, n4, c4, rfl, hi4, hc4⟩, hb4⟩; have HI4 := hide hi4; have HC4 := hide hc4; have HB4 := hide (bl_on HB3.out hb4); have HA4 := hide (HA3.out.below hb4); clear hi4 hb4 hc4; obtain ⟨f0, f1, f2, f3, f4, f5, f6, f7⟩ := HA4.out.cells; simp only [Sw.v] at f1 f2 f3 f4 f5 f7)))
      all_goals go_wp2
      all_goals go_ret2
      all_goals (
        have e1 := HNP.out
        rw [if_neg Bool.false_ne_true, if_pos HK.out] at e1
        rw [e1]
        exact ⟨⟨X4, n4, c4, rfl, HI4.out, HC4.out⟩, HB4.out⟩)
end Go.Proofs.Ytmpigjdkkbfbcaa.V
namespace Go.Proofs.Ytmpigjdkkbfbcaa.V
set_option maxRecDepth 20000
open Go.RowKit
set_option linter.unusedVariables false

/-- The dimensions of the first k nodes, or what is wrong. -/
def nodesP (l : List Nd) (P : Nat) : Nat → List (List Int) × Int
  | 0 => ([], 0)
  | k + 1 => if (nodesP l P k).2 ≠ 0 then ([], (nodesP l P k).2)
    else if (nodeP (l[k]?.getD ndD) (decide (k < P)) (nodesP l P k).1).2 ≠ 0 then ([], (nodeP (l[k]?.getD ndD) (decide (k < P)) (nodesP l P k).1).2)
    else ((nodesP l P k).1 ++ [(nodeP (l[k]?.getD ndD) (decide (k < P)) (nodesP l P k).1).1], 0)
theorem nodesP_err (l : List Nd) (P k : Nat) (h : (nodesP l P k).2 ≠ 0) : ∀ j, k ≤ j → (nodesP l P j).2 = (nodesP l P k).2 := by
  intro j hj
  induction j with
  | zero => obtain rfl : k = 0 := by omega
            rfl
  | succ j ih =>
    by_cases e : k = j + 1
    · subst e; rfl
    · have := ih (by omega)
      rw [nodesP, if_pos (by rw [this]; exact h)]
      exact this
theorem nodesP_len (l : List Nd) (P : Nat) : ∀ k, (nodesP l P k).2 = 0 → (nodesP l P k).1.length = k
  | 0, _ => rfl
  | k + 1, h => by
    rw [nodesP] at h ⊢
    by_cases c1 : (nodesP l P k).2 ≠ 0
    · rw [if_pos c1] at h; exact absurd h c1
    · rw [if_neg c1] at h ⊢
      by_cases c2 : (nodeP (l[k]?.getD ndD) (decide (k < P)) (nodesP l P k).1).2 ≠ 0
      · rw [if_pos c2] at h; exact absurd h c2
      · rw [if_neg c2]
        simp [nodesP_len l P k (by simpa using c1)]
/-- What Dims tells. -/
def grP (l : List Nd) (outs : List Int) : List (List Int) × Int :=
  if 4096 < l.length then ([], 5)
  else if (nodesP l (parN l) l.length).2 ≠ 0 then ([], (nodesP l (parN l) l.length).2)
  else if farA outs l.length = true then ([], 4)
  else ((nodesP l (parN l) l.length).1, 0)
/-- Lists of lists that are answered. -/
def OutLs (e : Ending) (w' : World) (p : List (List Int) × Int) : Prop := ∃ A n c, e = .returned (.tuple #[.slice A n c, .int .i64 p.2]) ∧ n ≤ c ∧ Lsts w' A n p.1
theorem outLs_none (w' : World) (E : Int) : OutLs (.returned (.tuple #[.slice none 0 0, .int .i64 E])) w' ([], E) := ⟨none, 0, 0, rfl, Nat.le_refl _, lsts_nil _ _⟩
theorem make_sls (n : Nat) (hn : n ≤ 4096) (w : World) :
    (Instr.makeSlice 26 (.int .i64 0) (.int .i64 (n : Int))).run Try.prog w = .ok (.slice (some ⟨w.heap.size, 0, none⟩) 0 n) (w.alloc (.cells (madeCells #[.slice none 0 0] n) 23)) := by
  obtain ⟨i, hi, hzz⟩ := Option.map_eq_some_iff.1 info_sls
  simp only [Prod.mk.injEq] at hzz
  obtain ⟨hz, hs, hb⟩ := hzz
  have hr := run_make (P := Try.prog) w 26 23 i _ Try.underlying26 hi hz .i64 .i64 0 n (by omega) (by omega) (by rw [hb]; omega) (by omega)
  rw [hs] at hr
  simp only [Nat.mul_one] at hr
  exact hr
/-- A graph's box. -/
def GrAt (w : World) (b : Nat) (A : Option Addr) (n cap : Nat) (oa : Option Addr) (ol oc : Nat) : Prop := w.cell? ⟨b, 0, none⟩ = some (.slice A n cap) ∧ w.cell? ⟨b, 1, none⟩ = some (.slice oa ol oc)
theorem GrAt.new (w : World) (A : Option Addr) (n cap : Nat) (oa : Option Addr) (ol oc : Nat) : GrAt (w.alloc (.cells #[.slice A n cap, .slice oa ol oc] 25)) w.heap.size A n cap oa ol oc := by
  have h := World.alloc_heap_new w (.cells #[.slice A n cap, .slice oa ol oc] 25)
  constructor <;> (unfold World.cell?; rw [h]; rfl)
theorem GrAt.below {w w1 : World} {b : Nat} {A : Option Addr} {n cap : Nat} {oa : Option Addr} {ol oc : Nat} (h : GrAt w b A n cap oa ol oc) (hb : Below (b + 1) w w1) : GrAt w1 b A n cap oa ol oc :=
  ⟨(World.cell?_of_block (hb.block b (Nat.lt_succ_self _))).trans h.1, (World.cell?_of_block (hb.block b (Nat.lt_succ_self _))).trans h.2⟩

set_option maxRecDepth 100000 in
set_option maxHeartbeats 4000000 in
theorem gDims_any (A : Option Addr) (n cap : Nat) (l : List Nd) (oa : Option Addr) (ol oc : Nat) (outs : List Int) (w : World) (h : Nds w A n l) (ho : Ints w oa ol outs) :
    Calls Try.prog 4 #[.agg #[.slice A n cap, .slice oa ol oc]] w fun e w' => OutLs e w' (grP l outs) ∧ Below w.heap.size w w' := by
  have H := hide h
  have HO := hide ho
  have hm := h.2.1
  have HNL := hide h.1
  have HB0 := hide (bl_new (w := w) (.cells #[.slice A n cap, .slice oa ol oc] 25))
  have HG0 := hide (GrAt.new w A n cap oa ol oc)
  obtain ⟨g0, g1⟩ := HG0.out
  have HP := hide (fun W (hW : Below w.heap.size w W) => params_any A n cap l oa ol oc W (h.below hW))
  have HGP : Hid (grP l outs = if 4096 < n then ([], 5) else if (nodesP l (parN l) n).2 ≠ 0 then ([], (nodesP l (parN l) n).2) else if farA outs n = true then ([], 4) else ((nodesP l (parN l) n).1, 0)) := by rw [Hid, ← h.1]; rfl
  obtain ⟨R, hR⟩ : ∃ R, R = grP l outs := ⟨_, rfl⟩
  rw [← hR] at HGP ⊢
  clear h ho hR
  by_cases hbig : 4096 < n
  · have i0 : (4096 : Int) < (n : Int) := by omega
    rw [if_pos hbig] at HGP
    go_enter Try.func4, Try.ntmps4
    go_wp2
    go_ret2
    rw [HGP.out]
    exact ⟨outLs_none _ _, HB0.out⟩
  · have i0 : ¬ ((4096 : Int) < (n : Int)) := by omega
    rw [if_neg hbig] at HGP
    have HMK := hide (make_sls n (by omega))
    clear hbig
    go_enter Try.func4, Try.ntmps4
    go_upto_region 3 with fail
    go_wp2_with fail
    refine (HP.out _ HB0.out).mono ?_
    rintro e w1 ⟨rfl, hb1⟩
    obtain ⟨P, hP⟩ : ∃ P, P = parN l := ⟨_, rfl⟩
    rw [← hP] at HGP ⊢
    have HPL : Hid (P ≤ n) := by rw [Hid, hP, ← HNL.out]; exact parN_le l
    have HB1 := hide (bl_on HB0.out hb1)
    have HG1 := hide (HG0.out.below (by simpa using hb1))
    obtain ⟨g2, g3⟩ := HG1.out
    have hs1 : w.heap.size + 1 ≤ w1.heap.size := by have := hb1.size; simpa using this
    clear hb1 g0 g1 hP
    have hmk := HMK.out w1
    have hs2 : w.heap.size < w1.heap.size := by omega
    go_wp2
    go_loopw [5, 23] (fun v i wr => ∃ k : Nat, k ≤ n ∧ i = .int .i64 k ∧ (nodesP l P k).2 = 0 ∧ LsR wr w1.heap.size v (nodesP l P k).1 ∧ Below w1.heap.size w1 wr) (fun _ i _ => n - (intOf i).toNat)
    case atStart => exact ⟨0, Nat.zero_le _, rfl, rfl, LsR.made w1 w1.heap.size n (Nat.le_refl _) (by unfold maxLen; omega), bl_new _⟩
    case round =>
      obtain ⟨k, hk, rfl, h0, hls, hb⟩ := hrel
      have H0 := hide h0
      have HLS := hide hls
      have HB := hide hb
      have hlen := nodesP_len l P k h0
      have HLEN := hide hlen
      have hsz := hb.size
      have HBw := hide (bl_on HB1.out hb)
      have HGr := hide (HG1.out.below (hb.mono hs1))
      obtain ⟨A5, c5, rfl, hc5, hl5⟩ := hls.slice (by omega)
      rw [hlen] at hc5 hl5 HLS ⊢
      have HL5 := hide hl5
      clear h0 hls hb hlen hl5 g2 g3
      obtain ⟨g2, g3⟩ := HGr.out
      by_cases hlt : k < n
      · obtain ⟨b, off, rfl, hc⟩ := (H.out.below HBw.out).at (by omega)
        obtain ⟨u, hu, hi⟩ := hc k hlt
        have HI := hide hi
        have HNX : Hid (nodesP l P (k + 1) = if (nodeP (l[k]?.getD ndD) (decide (k < P)) (nodesP l P k).1).2 ≠ 0 then ([], (nodeP (l[k]?.getD ndD) (decide (k < P)) (nodesP l P k).1).2) else ((nodesP l P k).1 ++ [(nodeP (l[k]?.getD ndD) (decide (k < P)) (nodesP l P k).1).1], 0)) := by
          rw [Hid, nodesP, if_neg (by rw [H0.out]; exact fun h => h rfl)]
        have HER : Hid ((nodesP l P (k + 1)).2 ≠ 0 → R = ([], (nodesP l P (k + 1)).2)) := fun hne => by
          rw [HGP.out, nodesP_err l P (k + 1) hne n hlt, if_pos hne]
        have HND := hide (fun W (hW : Below wr.heap.size wr W) => nodeDims_any u (l[k]?.getD ndD) (decide (k < P)) A5 c5 (nodesP l P k).1 W (hi.below hW) (by rw [HLEN.out]; exact HL5.out.below hW))
        rw [HLEN.out] at HND
        obtain ⟨c0, c1, c2, c3, c4, c5', c6, c7⟩ := hu
        have z := lt_of_cell c0
        simp only at z
        have i1 : (k : Int) < (n : Int) := by omega
        obtain ⟨r, hr⟩ : ∃ r, r = nodeP (l[k]?.getD ndD) (decide (k < P)) (nodesP l P k).1 := ⟨_, rfl⟩
        rw [← hr] at HNX HND
        have HBX := hide (bl_new (w := wr) (.cells #[.int .i64 u.k, u.e.v, u.p.v, u.lo.v, u.hi.v, u.st.v, .int .i64 u.x, u.ar.v] 39))
        have hs3 : w.heap.size < wr.heap.size := by omega
        have HLT := hide hlt
        clear hc hi hr
        obtain ⟨ku, ⟨ea, el, ec⟩, ⟨pa, pl, pc⟩, ⟨la, ll, lc⟩, ⟨ha, hl, hhc⟩, ⟨ta, tl, tc⟩, x, ⟨aa, al, ac⟩⟩ := u
        simp only [Nw.v, Sw.v] at c0 c1 c2 c3 c4 c5' c6 c7 HND HBX
        go_wp2_with fail
        refine (HND.out _ HBX.out).mono ?_
        rintro e w3 ⟨⟨X3, m3, c3x, rfl, hi3, hc3⟩, hb3⟩
        have HI3 := hide (lst_ints hi3 hc3)
        have HBN := hide (bl_on HBX.out hb3)
        clear hi3 hc3 hb3 c0 c1 c2 c3 c4 c5' c6 c7 g2 g3 z
        by_cases hr0 : r.2 = 0
        · have hq : (r.2 != 0) = false := by simp [hr0]
          rw [if_neg (by simpa using hr0)] at HNX
          have hs4 : wr.heap.size ≤ w3.heap.size := HBN.out.size
          clear hr0
          go_wp2_with (at_builtin; (refine append_ls (by rfl) (.tmp 40) (.tmp 42) (by rfl) w1.heap.size _ (nodesP l P k).1 (by rfl) X3 m3 c3x r.1 (HLS.out.below HBN.out) HI3.out (by rfl) (by rw [HLEN.out]; omega) (by omega) ?_); intro v4 w4 hls4 hg4 hsr4 _; have HLS4 := hide hls4; have HG4 := hide hg4; have HSR4 := hide hsr4; clear hls4 hg4 hsr4)
          go_roundw
          case rel =>
            obtain ⟨vs4, hsr⟩ := HSR4.out
            refine ⟨k + 1, by omega, by go_num, by rw [HNX.out], by rw [HNX.out]; exact HLS4.out, ?_⟩
            exact ((bl_on HB.out HBN.out).alloc (by omega) _).grown HG4.out (by simp; omega) (fun j e => (hsr.lt e).1)
          case measure => simp [intOf]; omega
        · have hq : (r.2 != 0) = true := by simp [hr0]
          rw [if_pos hr0] at HNX
          have HR0 := hide hr0
          clear hr0
          go_wp2
          go_ret2
          have hne : (nodesP l P (k + 1)).2 ≠ 0 := by rw [HNX.out]; exact HR0.out
          rw [HER.out hne, HNX.out]
          exact ⟨outLs_none _ _, bl_on HBw.out HBN.out⟩
      · obtain rfl : k = n := by omega
        have HAM := hide (fun W (hW : Below w.heap.size w W) => among_any oa ol oc outs k W (HO.out.below hW))
        rw [H0.out, if_neg (fun h => h rfl)] at HGP
        cases hfa : farA outs k with
        | true =>
          go_wp2_with (go_at_call 14; refine (HAM.out _ HBw.out).mono ?_; rintro e w5 ⟨rfl, hb5⟩; rw [hfa]; have HB5 := hide (bl_on HBw.out hb5); clear hb5; simp only [Bool.not_true])
          go_ret2
          rw [HGP.out, if_pos hfa]
          exact ⟨outLs_none _ _, HB5.out⟩
        | false =>
          go_wp2_with (go_at_call 14; refine (HAM.out _ HBw.out).mono ?_; rintro e w5 ⟨rfl, hb5⟩; rw [hfa]; have HB5 := hide (bl_on HBw.out hb5); have HL6 := hide (HL5.out.below hb5); clear hb5; simp only [Bool.not_false])
          go_ret2
          rw [HGP.out, if_neg (by rw [hfa]; exact Bool.false_ne_true)]
          exact ⟨⟨_, _, _, rfl, hc5, HL6.out⟩, HB5.out⟩
end Go.Proofs.Ytmpigjdkkbfbcaa.V
namespace Go.Proofs.Ytmpigjdkkbfbcaa.V
set_option maxRecDepth 20000
open Go.RowKit
set_option linter.unusedVariables false

/-- What a node weighs. -/
def wtN (D : List (List Int)) (d : Nd) : Int := (weightP d.k d.es d.ps d.lo d.hi d.st (pickD D d.ar)).1
/-- What the first j behind the parameters weigh. -/
def wtTo (l : List Nd) (D : List (List Int)) (P : Nat) : Nat → Int
  | 0 => 0
  | j + 1 => wrap64 (wtTo l D P j + wtN D (l[P + j]?.getD ndD))
/-- What Weight tells. -/
def grW (l : List Nd) (outs : List Int) : Int × Int := if (grP l outs).2 ≠ 0 then (0, (grP l outs).2) else (wtTo l (grP l outs).1 (parN l) (l.length - parN l), 0)
theorem wtTo_bd (l : List Nd) (D : List (List Int)) (P : Nat) : ∀ j, -9223372036854775808 ≤ wtTo l D P j ∧ wtTo l D P j ≤ 9223372036854775807
  | 0 => by simp [wtTo]
  | j + 1 => by rw [wtTo]; unfold wrap64; omega
theorem farA_mono {xs : List Int} {m n : Nat} (h : farA xs m = false) (hmn : m ≤ n) : farA xs n = false := by
  unfold farA at h ⊢
  rw [List.any_eq_false] at h ⊢
  intro x hx
  have := h x hx
  simp at this ⊢
  omega
theorem nodesP_far (l : List Nd) (P : Nat) : ∀ k, (nodesP l P k).2 = 0 → ∀ i, i < k → farA (l[i]?.getD ndD).ar i = false
  | 0, _, i, hi => by omega
  | k + 1, h, i, hi => by
    rw [nodesP] at h
    by_cases c1 : (nodesP l P k).2 ≠ 0
    · rw [if_pos c1] at h; exact absurd h c1
    · rw [if_neg c1] at h
      by_cases c2 : (nodeP (l[k]?.getD ndD) (decide (k < P)) (nodesP l P k).1).2 ≠ 0
      · rw [if_pos c2] at h; exact absurd h c2
      · by_cases e : i = k
        · subst e
          have hl := nodesP_len l P i (by simpa using c1)
          cases hf : farA (l[i]?.getD ndD).ar i with
          | false => rfl
          | true => exact absurd (by rw [nodeP, hl, if_pos hf]; simp) c2
        · exact nodesP_far l P k (by simpa using c1) i (by omega)
theorem grP_ok {l : List Nd} {outs : List Int} (h : (grP l outs).2 = 0) : l.length ≤ 4096 ∧ (grP l outs).1.length = l.length ∧ ∀ i, i < l.length → farA (l[i]?.getD ndD).ar l.length = false := by
  unfold grP at h ⊢
  by_cases c1 : 4096 < l.length
  · rw [if_pos c1] at h; simp at h
  · rw [if_neg c1] at h ⊢
    by_cases c2 : (nodesP l (parN l) l.length).2 ≠ 0
    · rw [if_pos c2] at h; exact absurd h c2
    · rw [if_neg c2] at h ⊢
      by_cases c3 : farA outs l.length = true
      · rw [if_pos c3] at h; simp at h
      · rw [if_neg c3]
        exact ⟨by omega, nodesP_len l _ _ (by simpa using c2), fun i hi => farA_mono (nodesP_far l _ _ (by simpa using c2) i hi) (by omega)⟩

set_option maxRecDepth 100000 in
set_option maxHeartbeats 4000000 in
theorem gWeight_any (A : Option Addr) (n cap : Nat) (l : List Nd) (oa : Option Addr) (ol oc : Nat) (outs : List Int) (w : World) (h : Nds w A n l) (ho : Ints w oa ol outs) (hcap : n ≤ cap) (hc63 : cap ≤ 9223372036854775807) :
    Calls Try.prog 11 #[.agg #[.slice A n cap, .slice oa ol oc]] w fun e w' => e = .returned (.tuple #[.int .i64 (grW l outs).1, .int .i64 (grW l outs).2]) ∧ Below w.heap.size w w' := by
  have H := hide h
  have hm := h.2.1
  have HNL := hide h.1
  have HB0 := hide (bl_new (w := w) (.cells #[.slice A n cap, .slice oa ol oc] 25))
  have HG0 := hide (GrAt.new w A n cap oa ol oc)
  obtain ⟨g0, g1⟩ := HG0.out
  have HP := hide (fun W (hW : Below w.heap.size w W) => params_any A n cap l oa ol oc W (h.below hW))
  have HD := hide (gDims_any A n cap l oa ol oc outs _ (h.below HB0.out) (ho.below HB0.out))
  have HGW : Hid (grW l outs = if (grP l outs).2 ≠ 0 then (0, (grP l outs).2) else (wtTo l (grP l outs).1 (parN l) (n - parN l), 0)) := by rw [Hid, ← h.1]; rfl
  have HOK := hide (@grP_ok l outs)
  rw [h.1] at HOK
  obtain ⟨R, hR⟩ : ∃ R, R = grW l outs := ⟨_, rfl⟩
  obtain ⟨G, hG⟩ : ∃ G, G = grP l outs := ⟨_, rfl⟩
  obtain ⟨P, hP⟩ : ∃ P, P = parN l := ⟨_, rfl⟩
  have HPL : Hid (P ≤ n) := by rw [Hid, hP, ← HNL.out]; exact parN_le l
  rw [← hR, ← hG, ← hP] at HGW
  rw [← hR]
  rw [← hG] at HD HOK
  rw [← hP] at HP
  clear h ho hR hG hP
  go_enter Try.func11, Try.ntmps11
  go_wp2_with fail
  refine HD.out.mono ?_
  rintro e w1 ⟨⟨A4, n4, c4, rfl, hc4, hl4⟩, hb1⟩
  have HB1 := hide (bl_on HB0.out hb1)
  have HG1 := hide (HG0.out.below (by simpa using hb1))
  have hs1 : w.heap.size < w1.heap.size := by have := hb1.size; simp at this; omega
  have HL4 := hide hl4
  clear hb1 g0 g1 hl4
  by_cases hg0 : G.2 = 0
  · have hq : (G.2 != 0) = false := by simp [hg0]
    rw [if_neg (by simpa using hg0)] at HGW
    obtain ⟨hn4, hGl, hfar⟩ := HOK.out hg0
    have hn4' : n4 = n := by rw [← HL4.out.1, hGl]
    subst hn4'
    have HFAR := hide hfar
    have HGL := hide hGl
    clear hg0 hGl hfar HOK
    obtain ⟨g0, g1⟩ := HG1.out
    by_cases hPn : P < n4
    · obtain ⟨b, off, rfl, hc⟩ := (H.out.below HB1.out).at (by omega)
      have hcP : ¬ cap = P := by omega
      have i1 : (0 : Int) ≤ (P : Int) := Int.natCast_nonneg _
      have i2 : (P : Int) ≤ (n4 : Int) := by omega
      have i3 : (n4 : Int) ≤ (cap : Int) := by omega
      clear hc
      go_upto_region 5 with fail
      go_region_held3 (fun w' => w'.cell? ⟨w.heap.size, 0, none⟩ = some (.slice (some ⟨b, off, none⟩) n4 cap) ∧ w'.cell? ⟨w.heap.size, 1, none⟩ = some (.slice oa ol oc)) (refine ⟨?_, ?_⟩ <;> with_reducible (repeat (first | assumption | apply drew_cell))) ((go_at_call 9; refine (HP.out _ HB1.out.drew).mono ?_; rintro e w2 ⟨rfl, hb2⟩; have HB2 := hide (bl_on HB1.out.drew hb2); have HG2 := hide ((HG1.out.below ((Below.refl _ _).drew)).below (hb2.mono (show w.heap.size + 1 ≤ w1.drew.heap.size from hs1))); have HL2 := hide ((HL4.out.below ((Below.refl _ _).drew)).below hb2); clear hb2; obtain ⟨k0, k1⟩ := HG2.out))
      obtain ⟨m, hmP⟩ : ∃ m, m = n4 - P := ⟨_, rfl⟩
      rw [← hmP] at HGW ⊢
      have hmP2 : P + m = n4 := by omega
      have HMP := hide hmP2
      clear hmP hmP2 hPn hcP i1 i2 i3 k0 k1 g0 g1
      go_wp2
      go_loopw [6, 25] (fun v i wr => ∃ t : Nat, t ≤ m ∧ i = .int .i64 t ∧ v = .int .i64 (wtTo l G.1 P t) ∧ Below w2.heap.size w2 wr) (fun _ i _ => m - (intOf i).toNat)
      case atStart => exact ⟨0, Nat.zero_le _, rfl, rfl, Below.refl _ _⟩
      case round =>
        obtain ⟨t, ht, rfl, rfl, hb⟩ := hrel
        have HB := hide hb
        have HBw := hide (bl_on HB2.out hb)
        have HLr := hide (HL2.out.below hb)
        have hmn : m ≤ n4 := by have := HMP.out; omega
        clear hb
        by_cases hlt : t < m
        · have hPt : P + t < n4 := by have := HMP.out; omega
          obtain ⟨b', off', e', hc⟩ := (H.out.below HBw.out).at (by omega)
          cases e'
          obtain ⟨u, hu, hi⟩ := hc (P + t) hPt
          have eo : off + (P + t) * 8 = off + P * 8 + t * 8 := by omega
          rw [eo] at hu
          have HFA := hide (HFAR.out (P + t) (by omega))
          have HNX : Hid (wtTo l G.1 P (t + 1) = wrap64 (wtTo l G.1 P t + wtN G.1 (l[P + t]?.getD ndD))) := rfl
          obtain ⟨d, hd⟩ : ∃ d, d = l[P + t]?.getD ndD := ⟨_, rfl⟩
          rw [← hd] at HFA HNX hi
          have HBX := hide (bl_new (w := wr) (.cells #[.int .i64 u.k, u.e.v, u.p.v, u.lo.v, u.hi.v, u.st.v, .int .i64 u.x, u.ar.v] 39))
          have HAX := hide (Nw.new u wr)
          have HT := hide (fun W (hW : Below wr.heap.size wr W) => thesl_any u.ar.a u.ar.l u.ar.c d.ar A4 n4 c4 G.1 W (hi.ar.below hW).1.1 (HLr.out.below hW) HFA.out hi.ar.2)
          have HWT := hide (fun W Gb (hW : Below wr.heap.size wr W) (hl : Lsts W (some ⟨Gb, 0, none⟩) u.ar.l (pickD G.1 d.ar)) => Weight_any d.k u.x u.e.a u.e.l u.e.c d.es u.p.a u.p.l u.p.c d.ps u.lo.a u.lo.l u.lo.c d.lo u.hi.a u.hi.l u.hi.c d.hi u.st.a u.st.l u.st.c d.st (some ⟨Gb, 0, none⟩) u.ar.l u.ar.l (pickD G.1 d.ar) W (hi.e.below hW).1 (hi.p.below hW).1 (hi.lo.below hW).1 (hi.hi.below hW).1 (hi.st.below hW).1 hl (Nat.le_refl _) hi.ar.2 hi.e.2 hi.p.2 hi.lo.2 hi.hi.2 hi.st.2)
          have hk := hi.k
          have HWN : Hid ((weightP d.k d.es d.ps d.lo d.hi d.st (pickD G.1 d.ar)).1 = wtN G.1 d) := rfl
          obtain ⟨c0, c1, c2, c3, c4', c5, c6, c7⟩ := hu
          have z := lt_of_cell c0
          simp only at z
          have j1 : (t : Int) < (m : Int) := by omega
          clear hc hi hd eo hPt
          obtain ⟨ku, ⟨ea, el, ec⟩, ⟨pa, pl, pc⟩, ⟨la, ll, lc⟩, ⟨ha, hl, hhc⟩, ⟨ta, tl, tc⟩, x, ⟨aa, al, ac⟩⟩ := u
          simp only at hk
          rw [← hk] at HWT HWN
          simp only [Sw.v] at c0 c1 c2 c3 c4' c5 c6 c7 HBX HAX HT HWT
          obtain ⟨V, hV⟩ : ∃ V, V = wtTo l G.1 P t := ⟨_, rfl⟩
          obtain ⟨V2, hV2⟩ : ∃ V2, V2 = (weightP ku d.es d.ps d.lo d.hi d.st (pickD G.1 d.ar)).1 := ⟨_, rfl⟩
          obtain ⟨V3, hV3⟩ : ∃ V3, V3 = (weightP ku d.es d.ps d.lo d.hi d.st (pickD G.1 d.ar)).2 := ⟨_, rfl⟩
          rw [← hV2] at HWN
          rw [← hV2, ← hV3] at HWT
          rw [← hV] at HNX ⊢
          rw [← HWN.out] at HNX
          clear hV hV2 hV3 hk
          go_upto_region 8 with fail
          obtain ⟨b0, b1, b2, b3, b4, b5, b6, b7⟩ := HAX.out.cells
          simp only [Sw.v] at b1 b2 b3 b4 b5 b7
          clear c0 c1 c2 c3 c4' c5 c6 c7
          go_region_held3 (fun w' => w'.cell? ⟨wr.heap.size, 0, none⟩ = some (.int .i64 ku) ∧ w'.cell? ⟨wr.heap.size, 1, none⟩ = some (.slice ea el ec) ∧ w'.cell? ⟨wr.heap.size, 2, none⟩ = some (.slice pa pl pc) ∧ w'.cell? ⟨wr.heap.size, 3, none⟩ = some (.slice la ll lc) ∧ w'.cell? ⟨wr.heap.size, 4, none⟩ = some (.slice ha hl hhc) ∧ w'.cell? ⟨wr.heap.size, 5, none⟩ = some (.slice ta tl tc) ∧ w'.cell? ⟨wr.heap.size, 6, none⟩ = some (.int .i64 x) ∧ w'.cell? ⟨wr.heap.size, 7, none⟩ = some (.slice aa al ac)) (refine ⟨?_, ?_, ?_, ?_, ?_, ?_, ?_, ?_⟩ <;> with_reducible (repeat (first | assumption | apply drew_cell | apply alloc_cell))) ((first
            | (go_at_call 21; refine (HT.out _ HBX.out.drew).mono ?_; rintro e w3 ⟨⟨G3, rfl, hl3⟩, hb3⟩; have HL3 := hide hl3; have HB3 := hide (bl_on HBX.out.drew hb3); have HA3 := hide ((HAX.out.below ((Below.refl _ _).drew)).below hb3); clear hl3 hb3; obtain ⟨d0, d1, d2, d3, d4, d5, d6, d7⟩ := HA3.out.cells; simp only [Sw.v] at d1 d2 d3 d4 d5 d7)
            | (go_at_call 20; refine (HWT.out _ _ HB3.out HL3.out).mono ?_; rintro e w4 ⟨rfl, hb4⟩; have HB4 := hide (bl_on HB3.out hb4); have HA4 := hide (HA3.out.below hb4); clear hb4; obtain ⟨f0, f1, f2, f3, f4, f5, f6, f7⟩ := HA4.out.cells; simp only [Sw.v] at f1 f2 f3 f4 f5 f7)))
          all_goals go_wp2
          all_goals go_roundw
          all_goals first
            | (case rel => exact ⟨t + 1, by omega, by go_num, by rw [HNX.out], bl_on HB.out HB4.out⟩)
            | (case measure => simp [intOf]; omega)
        · obtain rfl : t = m := by omega
          go_wp2
          go_ret2
          rw [HGW.out]
          exact ⟨rfl, HBw.out⟩
    · obtain rfl : P = n4 := by have := HPL.out; omega
      rw [Nat.sub_self] at HGW
      have hw0 : wtTo l G.1 P 0 = 0 := rfl
      rw [hw0] at HGW
      have i1 : (0 : Int) ≤ (P : Int) := Int.natCast_nonneg _
      have i2 : (P : Int) ≤ (P : Int) := Int.le_refl _
      have i3 : (P : Int) ≤ (cap : Int) := by omega
      clear hPn
      cases A with
      | none =>
        obtain rfl : P = 0 := by
          rcases H.out.2.2 with e | ⟨_, _, e, _⟩
          · exact e
          · cases e
        go_upto_region 5 with fail
        go_region_held3 (fun w' => w'.cell? ⟨w.heap.size, 0, none⟩ = some (.slice none 0 cap) ∧ w'.cell? ⟨w.heap.size, 1, none⟩ = some (.slice oa ol oc)) (refine ⟨?_, ?_⟩ <;> with_reducible (repeat (first | assumption | apply drew_cell))) ((go_at_call 9; refine (HP.out _ HB1.out.drew).mono ?_; rintro e w2 ⟨rfl, hb2⟩; have HB2 := hide (bl_on HB1.out.drew hb2); have HG2 := hide ((HG1.out.below ((Below.refl _ _).drew)).below (hb2.mono (show w.heap.size + 1 ≤ w1.drew.heap.size from hs1))); clear hb2; obtain ⟨k0, k1⟩ := HG2.out))
        go_wp2
        go_loopw [6, 25] (fun v i wr => i = .int .i64 0 ∧ v = .int .i64 0 ∧ wr = w2) (fun _ _ _ => 0)
        case atStart => exact ⟨rfl, rfl, rfl⟩
        case round =>
          obtain ⟨rfl, rfl, rfl⟩ := hrel
          go_wp2
          go_ret2
          rw [HGW.out]
          exact ⟨rfl, HB2.out⟩
      | some p0 =>
        by_cases hcP : cap = P
        · subst hcP
          go_upto_region 5 with fail
          go_region_held3 (fun w' => w'.cell? ⟨w.heap.size, 0, none⟩ = some (.slice (some p0) cap cap) ∧ w'.cell? ⟨w.heap.size, 1, none⟩ = some (.slice oa ol oc)) (refine ⟨?_, ?_⟩ <;> with_reducible (repeat (first | assumption | apply drew_cell))) ((go_at_call 9; refine (HP.out _ HB1.out.drew).mono ?_; rintro e w2 ⟨rfl, hb2⟩; have HB2 := hide (bl_on HB1.out.drew hb2); have HG2 := hide ((HG1.out.below ((Below.refl _ _).drew)).below (hb2.mono (show w.heap.size + 1 ≤ w1.drew.heap.size from hs1))); clear hb2; obtain ⟨k0, k1⟩ := HG2.out))
          go_wp2
          go_loopw [6, 25] (fun v i wr => i = .int .i64 0 ∧ v = .int .i64 0 ∧ wr = w2) (fun _ _ _ => 0)
          case atStart => exact ⟨rfl, rfl, rfl⟩
          case round =>
            obtain ⟨rfl, rfl, rfl⟩ := hrel
            go_wp2
            go_ret2
            rw [HGW.out]
            exact ⟨rfl, HB2.out⟩
        · have hcP2 : ¬ cap = P := hcP
          go_upto_region 5 with fail
          go_region_held3 (fun w' => w'.cell? ⟨w.heap.size, 0, none⟩ = some (.slice (some p0) P cap) ∧ w'.cell? ⟨w.heap.size, 1, none⟩ = some (.slice oa ol oc)) (refine ⟨?_, ?_⟩ <;> with_reducible (repeat (first | assumption | apply drew_cell))) ((go_at_call 9; refine (HP.out _ HB1.out.drew).mono ?_; rintro e w2 ⟨rfl, hb2⟩; have HB2 := hide (bl_on HB1.out.drew hb2); have HG2 := hide ((HG1.out.below ((Below.refl _ _).drew)).below (hb2.mono (show w.heap.size + 1 ≤ w1.drew.heap.size from hs1))); clear hb2; obtain ⟨k0, k1⟩ := HG2.out))
          go_wp2
          go_loopw [6, 25] (fun v i wr => i = .int .i64 0 ∧ v = .int .i64 0 ∧ wr = w2) (fun _ _ _ => 0)
          case atStart => exact ⟨rfl, rfl, rfl⟩
          case round =>
            obtain ⟨rfl, rfl, rfl⟩ := hrel
            go_wp2
            go_ret2
            rw [HGW.out]
            exact ⟨rfl, HB2.out⟩
  · have hq : (G.2 != 0) = true := by simp [hg0]
    rw [if_pos hg0] at HGW
    clear hg0
    go_wp2
    go_ret2
    rw [HGW.out]
    exact ⟨rfl, HB1.out⟩
end Go.Proofs.Ytmpigjdkkbfbcaa.V
