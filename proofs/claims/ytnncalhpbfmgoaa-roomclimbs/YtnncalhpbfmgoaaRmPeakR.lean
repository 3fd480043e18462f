/-
  Contracts: room.Peak, adjointref12.Peak.
-/
import Derived.Test.YtnncalhpbfmgoaaRmPeak
namespace Go.Proofs.Ytnncalhpbfmgoaa.V
open Go.RowKit
set_option linter.unusedVariables false

/-- What Peak answers. -/
def peakA (ab ws ord : List Int) : Int × Int := if treeE ab ws = 0 then peakV ab ws ord else (0, treeE ab ws)
set_option maxHeartbeats 4000000 in
theorem roomPeak_any (a : Option Addr) (n cap : Nat) (ab : List Int) (b : Option Addr) (m cap' : Nat) (ws : List Int) (o : Option Addr) (len ocap : Nat) (ord : List Int) (w : World) (h : Ints w a n ab) (h' : Ints w b m ws) (ho : Ints w o len ord) :
    Calls Try.prog 15 #[.slice a n cap, .slice b m cap', .slice o len ocap] w fun e w' => e = .returned (.tuple #[.int .i64 (peakA ab ws ord).1, .int .i64 (peakA ab ws ord).2]) ∧ Below w.heap.size w w' := by
  have HA := hide (treeOf_any a n cap ab b m cap' ws w h h')
  have HW := hide h'
  have HO := hide ho
  have HL := hide h.1
  have HL' := hide h'.1
  by_cases e0 : treeE ab ws = 0
  · have HE := hide e0
    have hok := treeE_ok e0
    have HOK := hide hok
    have hmn : m = n := by have := hok.same; rw [h.1, h'.1] at this; exact this
    subst hmn
    clear h h' ho e0 hok
    go_enter Try.func15, Try.ntmps15
    go_wp2_with (first
      | (go_at_call 31; refine HA.out.mono ?_; rintro e w1 ⟨⟨_, hans⟩, hb⟩; obtain ⟨L, v, rfl, hbel⟩ := hans HE.out; have HB1 := hide hb; have HBL := hide hbel; clear hans hb hbel)
      | (go_at_call 32; refine (peakT_any w.heap.size L m v (kids ab) ab ws ord b cap' o len ocap _ (HBL.out.below (bl_new _)) (fun _ _ => List.Perm.refl _) HOK.out HL.out ((HW.out.below HB1.out).below (bl_new _)) ((HO.out.below HB1.out).below (bl_new _))).mono ?_; rintro e w2 ⟨rfl, hb2⟩; have HB2 := hide hb2; clear hb2))
    go_ret2
    refine ⟨?_, bl_on (bl_on HB1.out (bl_new _)) HB2.out⟩
    rw [peakA, if_pos HE.out]
    rfl
  · have HE := hide e0
    have hne : (treeE ab ws != 0) = true := by simpa using e0
    obtain ⟨E, hE⟩ : ∃ E, E = treeE ab ws := ⟨_, rfl⟩
    rw [← hE] at hne
    have HEE := hide hE
    clear h h' ho e0 hE
    go_enter Try.func15, Try.ntmps15
    go_wp2_with (go_at_call 31; refine HA.out.mono ?_; rintro e w1 ⟨⟨hans, _⟩, hb⟩; rw [hans HE.out, ← HEE.out]; have HB1 := hide hb; clear hans hb)
    go_ret2
    refine ⟨?_, bl_on HB1.out (bl_new _)⟩
    rw [peakA, if_neg HE.out, HEE.out]
    rfl
structure PrInv (w : World) (n : Nat) (ab : List Int) (M : Nat → Bool) (wr : World) : Prop where
  bel : Below w.heap.size w wr
  made : wr.rowIs w.heap.size 4 n (fun j => .bool (M j))
  cl : Closed n ab M
theorem PrInv.set {w : World} {n : Nat} {ab : List Int} {M : Nat → Bool} {wr : World} (h : PrInv w n ab M wr) (i : Nat) : Below w.heap.size w (wr.setCell ⟨w.heap.size, i, none⟩ (.bool true)) ∧ (wr.setCell ⟨w.heap.size, i, none⟩ (.bool true)).rowIs w.heap.size 4 n (fun j => .bool (setB M i j)) := by
  refine ⟨h.bel.setCell (p := ⟨w.heap.size, i, none⟩) (by simp) _, (h.made.set i (.bool true)).congr fun j _ => ?_⟩
  unfold setB
  by_cases e : j = i
  · rw [if_pos e, if_pos e]
  · rw [if_neg e, if_neg e]
/-- Of the first j those below the node are made. -/
def kidsUp (ab : List Int) (M : Nat → Bool) (i j : Nat) : Prop := ∀ q, q < j → nth ab q = (i : Int) → M q = true
theorem kidsUp_next {ab : List Int} {M : Nat → Bool} {i j : Nat} (h : kidsUp ab M i j) (hj : nth ab j = (i : Int) → M j = true) : kidsUp ab M i (j + 1) := fun q hq e => by
  by_cases e1 : q = j
  · subst e1; exact hj e
  · exact h q (by omega) e
theorem seen_bound {ab ws : List Int} (hT : TreeOk ab ws) (M : Nat → Bool) (i j : Nat) (hj : j ≤ ab.length) : 0 ≤ sumTo (seenV ab ws M i) j ∧ sumTo (seenV ab ws M i) j ≤ 4294967296 := by
  have h := sumTo_bound (f := seenV ab ws M i) j fun k hk => by
    have := hT.wd k (by omega)
    unfold seenV
    split <;> omega
  have := hT.few
  omega
theorem seen_val {ab ws : List Int} {M : Nat → Bool} {s j : Nat} {A z : Int} (hA : A = nth ab j) (hz : z = nth ws j) : seenV ab ws M s j = if (M j && (decide (j = s) || decide (A = (s : Int)) || (decide (A < 0) || !M A.toNat))) = true then z else 0 := by
  subst hA hz; rfl
theorem kid_bad {ab : List Int} {M : Nat → Bool} {s j : Nat} (hj : j < ab.length) (e : nth ab j = (s : Int)) (h : setB M s j = false) : stepBad ab M (s : Int) = true := by
  have h1 : M j = false := by
    unfold setB at h
    by_cases e1 : j = s
    · rw [if_pos e1] at h; cases h
    · rw [if_neg e1] at h; exact h
  have h2 : ((kids ab s).any fun b => !M b) = true := by
    rw [List.any_eq_true]
    exact ⟨j, by simp [kids, kidsTo, hj, e], by simp [h1]⟩
  simp only [stepBad, Int.toNat_natCast]
  rw [h2]
  simp
theorem kids_done {ab ws : List Int} {M : Nat → Bool} {s : Nat} (hT : TreeOk ab ws) (hs : s < ab.length) (h : kidsUp ab (setB M s) s ab.length) : kidsIn ab.length ab M s := by
  intro q hq e
  have h1 := h q hq e
  unfold setB at h1
  have hne : q ≠ s := by
    rintro rfl
    by_cases hl : q + 1 = ab.length
    · rw [hT.root q hl] at e; omega
    · have := hT.up q (by omega); omega
  rw [if_neg hne] at h1
  exact h1
theorem step_good {ab : List Int} {M : Nat → Bool} {s : Nat} (hs : s < ab.length) (hM : M s = false) (h : kidsIn ab.length ab M s) : stepBad ab M (s : Int) = false := by
  have h2 : ((kids ab s).any fun b => !M b) = false := by
    rw [List.any_eq_false]
    intro q hq
    simp [kids, kidsTo] at hq
    simp [h q hq.1 hq.2]
  simp only [stepBad, Int.toNat_natCast]
  rw [h2, hM]
  simp
  omega
set_option maxRecDepth 100000 in
set_option maxHeartbeats 8000000 in
theorem rPeak_any (a : Option Addr) (n cap : Nat) (ab : List Int) (b : Option Addr) (m cap' : Nat) (ws : List Int) (o : Option Addr) (len ocap : Nat) (ord : List Int) (w : World) (h : Ints w a n ab) (h' : Ints w b m ws) (ho : Ints w o len ord) :
    Calls Try.prog 16 #[.slice a n cap, .slice b m cap', .slice o len ocap] w fun e w' => e = .returned (.tuple #[.int .i64 (peakA ab ws ord).1, .int .i64 (peakA ab ws ord).2]) ∧ Below w.heap.size w w' := by
  have HA := hide (rTree_any a n cap ab b m cap' ws w h h')
  have H := hide h
  have HW := hide h'
  have HO := hide ho
  have HL := hide h.1
  have HOL := hide ho.1
  have hom := ho.2.1
  by_cases e0 : treeE ab ws = 0
  · have HE := hide e0
    have hok := treeE_ok e0
    have HOK := hide hok
    have hmn : m = n := by have := hok.same; rw [h.1, h'.1] at this; exact this
    subst hmn
    have hn4 : m ≤ 4096 := by have := hok.few; rw [h.1] at this; exact this
    have hmk := run_make_row' (P := Try.prog) 53 4 (.bool false) 1 Try.underlying53 info_bool4 rfl .i64 .i64 m (by omega) (by omega)
    have PA : Hid (peakA ab ws ord = peakV ab ws ord) := by rw [Hid, peakA, if_pos e0]
    clear h h' ho e0 hok
    go_enter Try.func16, Try.ntmps16
    go_wp2_with (go_at_call 20; refine HA.out.mono ?_; rintro e w1 ⟨rfl, hw⟩; rw [hw, HE.out]; clear hw w1)
    go_loopw [10, 27] (fun ms i wr => ∃ (k : Nat) (M : Nat → Bool) (most : Int), k ≤ len ∧ i = .int .i64 k ∧ ms = .int .i64 most ∧ 0 ≤ most ∧ most ≤ 8589934592 ∧ pk ab ws M most (ord.drop k) = pk ab ws (fun _ => false) 0 ord ∧ PrInv w m ab M wr) (fun _ i _ => len - (intOf i).toNat)
    case atStart => exact ⟨0, _, 0, Nat.zero_le _, rfl, rfl, by decide, by decide, rfl, ⟨bl_new _, World.rowIs_made w (.bool false) m 4, closed_none _ _⟩⟩
    case round =>
      clear hmk
      obtain ⟨k, M, most, hk, rfl, rfl, hm0, hm1, hpk, hinv⟩ := hrel
      have HPK := hide hpk
      have HV := hide hinv
      clear hpk hinv
      by_cases hlt : k < len
      · obtain ⟨b1, o1, rfl, zb1, c1⟩ := (HO.out.below HV.out.bel).at (show 0 < len by omega)
        have q1 := c1 k hlt
        obtain ⟨i, hi⟩ : ∃ i, i = nth ord k := ⟨_, rfl⟩
        have hpk := HPK.out
        rw [drop_nth ord k (by rw [HOL.out]; exact hlt), pk, ← hi] at hpk
        simp only [nth] at hi
        rw [← hi] at q1
        have HPK2 := hide hpk
        have hkz : (k : Int) < (len : Int) := by omega
        clear c1 hpk hi HPK
        obtain ⟨N, hN⟩ : ∃ N, N = needV ab.length ab ws M := ⟨_, rfl⟩
        have HNV := hide hN
        rw [← hN] at HPK2
        clear hN
        by_cases f1 : i < 0
        · have PB : Hid (peakV ab ws ord = (0, 10)) := peak_bad (by rw [← HPK2.out, if_pos (by simp [stepBad, f1])])
          go_wp2
          go_ret2
          exact ⟨by rw [PA.out, PB.out]; rfl, HV.out.bel⟩
        by_cases f2 : i ≥ (m : Int)
        · have PB : Hid (peakV ab ws ord = (0, 10)) := peak_bad (by rw [← HPK2.out, if_pos (by simp [stepBad, HL.out]; omega)])
          go_wp2
          go_ret2
          exact ⟨by rw [PA.out, PB.out]; rfl, HV.out.bel⟩
        obtain ⟨s, hs⟩ : ∃ s : Nat, i = (s : Int) := ⟨i.toNat, by omega⟩
        subst hs
        have hsm : s < m := by omega
        have c2 := HV.out.made.cell (i := s) hsm
        have z2 := HV.out.made.lt
        by_cases f3 : M s = true
        · rw [f3] at c2
          have PB : Hid (peakV ab ws ord = (0, 10)) := peak_bad (by rw [← HPK2.out, if_pos (by simp [stepBad, f3])])
          go_wp2
          go_ret2
          exact ⟨by rw [PA.out, PB.out]; rfl, HV.out.bel⟩
        have f3' : M s = false := by simpa using f3
        rw [f3'] at c2
        have hsz : (s : Int) < (m : Int) := by omega
        have fz := HV.out.made.frozen s
        obtain ⟨hb2, hr2⟩ := HV.out.set s
        have HB2 := hide hb2
        have HR2 := hide hr2
        have HF3 := hide f3'
        clear hb2 hr2 f3 f3'
        obtain ⟨b2, o2, rfl, _, _⟩ := (HW.out.below HV.out.bel).at (show 0 < m by omega)
        obtain ⟨b3, o3, rfl, _, _⟩ := (H.out.below HV.out.bel).at (show 0 < m by omega)
        have HWD : Hid (∀ W, Below w.heap.size w W → ∀ j, j < m → W.cell? ⟨b2, o2 + j, none⟩ = some (.int .i64 (nth ws j))) := fun W hW j hj => by
          obtain ⟨b4, o4, e, _, c⟩ := (HW.out.below hW).at (show 0 < m by omega)
          cases e
          exact c j hj
        have HAD : Hid (∀ W, Below w.heap.size w W → ∀ j, j < m → W.cell? ⟨b3, o3 + j, none⟩ = some (.int .i64 (nth ab j))) := fun W hW j hj => by
          obtain ⟨b4, o4, e, _, c⟩ := (H.out.below hW).at (show 0 < m by omega)
          cases e
          exact c j hj
        go_wp2
        go_loop [13, 50] (fun n i => ∃ j : Nat, j ≤ m ∧ i = .int .i64 j ∧ n = .int .i64 (sumTo (seenV ab ws (setB M s) s) j) ∧ kidsUp ab (setB M s) s j) (fun _ i => m - (intOf i).toNat)
        case atStart => exact ⟨0, Nat.zero_le _, rfl, rfl, fun q hq => by omega⟩
        case round =>
          obtain ⟨j, hj, rfl, rfl, hku⟩ := hrel
          have HKU := hide hku
          clear hku
          by_cases hjm : j < m
          · have x6 := HAD.out _ HB2.out j hjm
            have x7 := HWD.out _ HB2.out j hjm
            have c6 := HR2.out.cell (i := j) hjm
            have y6 := lt_of_cell x6
            have y7 := lt_of_cell x7
            have z6 := HR2.out.lt
            simp only at y6 y7
            obtain ⟨A, hA⟩ : ∃ A, A = nth ab j := ⟨_, rfl⟩
            obtain ⟨z, hz⟩ : ∃ z, z = nth ws j := ⟨_, rfl⟩
            obtain ⟨S, hS⟩ : ∃ S, S = sumTo (seenV ab ws (setB M s) s) j := ⟨_, rfl⟩
            have hzb := HOK.out.wd j (by rw [HL.out]; exact hjm)
            have hSb := seen_bound HOK.out (setB M s) s j (by rw [HL.out]; exact hj)
            have hAb : A = -1 ∨ 0 ≤ A ∧ A < (m : Int) := by
              by_cases hl : j + 1 = ab.length
              · exact .inl (by rw [hA, HOK.out.root j hl])
              · have := HOK.out.up j (by have := HL.out; omega)
                rw [HL.out] at this
                exact .inr (by omega)
            rw [← hA] at x6
            rw [← hz] at x7 hzb
            rw [← hS] at hSb ⊢
            have HA0 := hide hA
            have HZ0 := hide hz
            have HS0 := hide hS
            have hw1 : IntKind.i64.wrap (S + z) = S + z := by rw [IntKind.wrap_i64]; omega
            have hjz : (j : Int) < (m : Int) := by omega
            clear hA hz hS hzb hSb
            by_cases g1 : setB M s j = true
            · have G1 := hide g1
              rw [g1] at c6
              by_cases g2 : A = (s : Int)
              · subst g2
                by_cases g3 : j = s
                · have hJ : ((j : Int) == (s : Int)) = true := by simp [g3]
                  have VAL : Hid (seenV ab ws (setB M s) s j = z) := by rw [Hid, seen_val HA0.out HZ0.out]; simp [g1]
                  have KU : Hid (kidsUp ab (setB M s) s (j + 1)) := kidsUp_next HKU.out (fun e => G1.out)
                  clear g3
                  go_wp2
                  go_round
                  case rel => exact ⟨j + 1, by omega, by go_num, by rw [sumTo, ← HS0.out, VAL.out], KU.out⟩
                  case measure => simp [intOf]; omega
                · have hJ : ((j : Int) == (s : Int)) = false := by simp; omega
                  have VAL : Hid (seenV ab ws (setB M s) s j = z) := by rw [Hid, seen_val HA0.out HZ0.out]; simp [g1]
                  have KU : Hid (kidsUp ab (setB M s) s (j + 1)) := kidsUp_next HKU.out (fun e => G1.out)
                  go_wp2
                  go_round
                  case rel => exact ⟨j + 1, by omega, by go_num, by rw [sumTo, ← HS0.out, VAL.out], KU.out⟩
                  case measure => simp [intOf]; omega
              · have hA2 : (A == (s : Int)) = false := by simpa using g2
                by_cases g3 : j = s
                · have hJ : ((j : Int) == (s : Int)) = true := by simp [g3]
                  have VAL : Hid (seenV ab ws (setB M s) s j = z) := by rw [Hid, seen_val HA0.out HZ0.out]; simp [g3, (show setB M s s = true by simp [setB])]
                  have KU : Hid (kidsUp ab (setB M s) s (j + 1)) := kidsUp_next HKU.out (fun e => G1.out)
                  clear g3
                  go_wp2
                  go_round
                  case rel => exact ⟨j + 1, by omega, by go_num, by rw [sumTo, ← HS0.out, VAL.out], KU.out⟩
                  case measure => simp [intOf]; omega
                · have hJ : ((j : Int) == (s : Int)) = false := by simp; omega
                  by_cases g4 : A < 0
                  · skip
                    have VAL : Hid (seenV ab ws (setB M s) s j = z) := by rw [Hid, seen_val HA0.out HZ0.out]; simp [g1, g4]
                    have KU : Hid (kidsUp ab (setB M s) s (j + 1)) := kidsUp_next HKU.out (fun e => G1.out)
                    go_wp2
                    go_round
                    case rel => exact ⟨j + 1, by omega, by go_num, by rw [sumTo, ← HS0.out, VAL.out], KU.out⟩
                    case measure => simp [intOf]; omega
                  · obtain ⟨q, hq⟩ : ∃ q : Nat, A = (q : Int) := ⟨A.toNat, by omega⟩
                    subst hq
                    have hqm : q < m := by omega
                    have c7 := HR2.out.cell (i := q) hqm
                    have hqz : (q : Int) < (m : Int) := by omega
                    have hq0 : ¬ (q : Int) < 0 := by omega
                    by_cases g5 : setB M s q = true
                    · rw [g5] at c7
                      have VAL : Hid (seenV ab ws (setB M s) s j = 0) := by rw [Hid, seen_val HA0.out HZ0.out]; simp [g1, g2, g3, g5, hq0]
                      have KU : Hid (kidsUp ab (setB M s) s (j + 1)) := kidsUp_next HKU.out (fun e => G1.out)
                      go_wp2
                      go_round
                      case rel => exact ⟨j + 1, by omega, by go_num, by rw [sumTo, ← HS0.out, VAL.out]; congr 1; omega, KU.out⟩
                      case measure => simp [intOf]; omega
                    · have g5' : setB M s q = false := by simpa using g5
                      rw [g5'] at c7
                      have VAL : Hid (seenV ab ws (setB M s) s j = z) := by rw [Hid, seen_val HA0.out HZ0.out]; simp [g1, g5']
                      have KU : Hid (kidsUp ab (setB M s) s (j + 1)) := kidsUp_next HKU.out (fun e => G1.out)
                      go_wp2
                      go_round
                      case rel => exact ⟨j + 1, by omega, by go_num, by rw [sumTo, ← HS0.out, VAL.out], KU.out⟩
                      case measure => simp [intOf]; omega
            · have g1' : setB M s j = false := by simpa using g1
              rw [g1'] at c6
              by_cases g2 : A = (s : Int)
              · have hA2 : (A == (s : Int)) = true := by simpa using g2
                have PB : Hid (peakV ab ws ord = (0, 10)) := peak_bad (by rw [← HPK2.out, if_pos (kid_bad (j := j) (by rw [HL.out]; exact hjm) (by rw [← HA0.out]; exact g2) g1')])
                go_wp2
                go_ret2
                exact ⟨by rw [PA.out, PB.out]; rfl, HB2.out⟩
              · have hA2 : (A == (s : Int)) = false := by simpa using g2
                have VAL : Hid (seenV ab ws (setB M s) s j = 0) := by rw [Hid, seen_val HA0.out HZ0.out]; simp [g1']
                have KU : Hid (kidsUp ab (setB M s) s (j + 1)) := kidsUp_next HKU.out (fun e => absurd (HA0.out.trans e) g2)
                go_wp2
                go_round
                case rel => exact ⟨j + 1, by omega, by go_num, by rw [sumTo, ← HS0.out, VAL.out]; congr 1; omega, KU.out⟩
                case measure => simp [intOf]; omega
          · obtain rfl : j = m := by omega
            clear hjm hj
            have hKI := kids_done HOK.out (by rw [HL.out]; exact hsm) (by rw [HL.out]; exact HKU.out)
            have HSB := hide (step_good (by rw [HL.out]; exact hsm) HF3.out hKI)
            have HSN : Hid (sumTo (seenV ab ws (setB M s) s) j = N + nth ws s) := by
              have h := seen_need (ws := ws) (i := s) (M := M) (by rw [HL.out]; exact hsm) HF3.out
              rw [HL.out] at h
              rw [Hid, h, HNV.out, HL.out]
            have hSb := seen_bound HOK.out (setB M s) s j (by rw [HL.out]; exact Nat.le_refl _)
            obtain ⟨S, hS⟩ : ∃ S, S = sumTo (seenV ab ws (setB M s) s) j := ⟨_, rfl⟩
            rw [← hS] at hSb HSN ⊢
            have HIV : Hid (PrInv w j ab (setB M s) (wr.setCell ⟨w.heap.size, s, none⟩ (.bool true))) := ⟨HB2.out, HR2.out, closed_set HV.out.cl (by have h := hKI; rw [HL.out] at h; exact h)⟩
            clear hKI
            have HSS := hide hS
            clear hS
            by_cases g6 : S > most
            · go_wp2
              go_roundw
              case rel =>
                refine ⟨k + 1, setB M s, _, by omega, by go_num, rfl, by omega, by omega, ?_, HIV.out⟩
                rw [← HPK2.out, if_neg (by rw [HSB.out]; simp), Int.toNat_natCast, ← HSN.out]
                congr 1
                omega
              case measure => simp [intOf]; omega
            · go_wp2
              go_roundw
              case rel =>
                refine ⟨k + 1, setB M s, _, by omega, by go_num, rfl, by omega, by omega, ?_, HIV.out⟩
                rw [← HPK2.out, if_neg (by rw [HSB.out]; simp), Int.toNat_natCast, ← HSN.out]
                congr 1
                omega
              case measure => simp [intOf]; omega
      · obtain rfl : k = len := by omega
        have hpk := HPK.out
        rw [List.drop_eq_nil_of_le (by rw [HOL.out]; omega), pk] at hpk
        by_cases e1 : k = m
        · have PB : Hid (peakV ab ws ord = (most, 0)) := by
            rw [Hid, peakV, ← hpk]
            simp only [peakX]
            rw [if_pos (by rw [HOL.out, HL.out, e1])]
          subst e1
          clear hpk
          go_wp2
          go_ret2
          exact ⟨by rw [PA.out, PB.out]; rfl, HV.out.bel⟩
        · have PB : Hid (peakV ab ws ord = (0, 10)) := peak_long (by rw [HOL.out, HL.out]; exact e1)
          have e2 : ((k : Int) != (m : Int)) = true := by simp; omega
          clear hpk
          go_wp2
          go_ret2
          exact ⟨by rw [PA.out, PB.out]; rfl, HV.out.bel⟩
  · have HE := hide e0
    have hne : (treeE ab ws != 0) = true := by simpa using e0
    obtain ⟨E, hE⟩ : ∃ E, E = treeE ab ws := ⟨_, rfl⟩
    rw [← hE] at hne
    have HEE := hide hE
    clear h h' ho e0 hE
    go_enter Try.func16, Try.ntmps16
    go_wp2_with (go_at_call 20; refine HA.out.mono ?_; rintro e w1 ⟨rfl, hw⟩; rw [hw, ← HEE.out]; clear hw w1)
    go_ret2
    refine ⟨?_, Below.refl _ _⟩
    rw [peakA, if_neg HE.out, HEE.out]
    rfl
end Go.Proofs.Ytnncalhpbfmgoaa.V
