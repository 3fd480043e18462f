/-
  Contract: adjointref12.Lay.
-/
import Derived.Test.YtcnnghhaohehoaaRmRefM
import Derived.Deep.DeepCutAuto
import Derived.Deep.QuietTactic
namespace Go.Proofs.Ytcnnghhaohehoaa.V
open Go Go.Shelf Go.RowKit Go.Lib Go.Sort Go.Proofs
set_option linter.unusedVariables false

theorem info_bool : (Try.prog.info? 4).map (fun i => (i.zero, i.size, i.bytes)) = some (some (.bool false), 1, 1) := by kernel_rfl
theorem RowB.set {w : World} {g len : Nat} {f : Nat → Bool} (h : RowB w g len f) (k : Nat) (v : Bool) : RowB (w.setCell ⟨g, k, none⟩ (.bool v)) g len (fun j => if j = k then v else f j) := by
  refine (World.rowIs.set h k (.bool v)).congr (fun i hi => ?_)
  by_cases e : i = k
  · simp [e]
  · simp [e]
theorem RowB.congr {w : World} {g len : Nat} {f f' : Nat → Bool} (h : RowB w g len f) (e : ∀ i, i < len → f i = f' i) : RowB w g len f' := World.rowIs.congr h (fun i hi => by rw [e i hi])
theorem doneF_succ {os : List Nat} {j : Nat} (hj : j < os.length) (k : Nat) : doneF os (j + 1) k = if k = os[j]?.getD 0 then true else doneF os j k := by
  have e0 : os[j]?.getD 0 = os[j] := by simp [hj]
  have e1 : (k ∈ os.take (j + 1)) ↔ (k = os[j] ∨ k ∈ os.take j) := by
    rw [List.take_succ_eq_append_getElem hj, List.mem_append, List.mem_singleton]
    exact or_comm
  unfold doneF
  rw [e0]
  by_cases e : k = os[j]
  · rw [if_pos e, decide_eq_true (e1.2 (.inl e))]
  · rw [if_neg e]
    by_cases c : k ∈ os.take j
    · rw [decide_eq_true c, decide_eq_true (e1.2 (.inr c))]
    · rw [decide_eq_false c, decide_eq_false (fun h => (e1.1 h).elim e c)]
theorem liesF_succ {ls : List Lf} {os : List Nat} {j : Nat} (hj : j < os.length) (k : Nat) : liesF ls os (j + 1) k = if k = os[j]?.getD 0 then takes (lifeAt ls k) else liesF ls os j k := by
  have := doneF_succ hj k
  unfold liesF
  unfold doneF at this
  rw [this]
  by_cases e : k = os[j]?.getD 0
  · rw [if_pos e, if_pos e]; simp
  · rw [if_neg e, if_neg e]
set_option maxHeartbeats 16000000 in
set_option maxRecDepth 100000 in
theorem rLay_any (a : Option Addr) (len cap : Nat) (ls : List Lf) (os : List Nat) (w : World) (h : Lives w a len ls) (hord : livesE ls = 0 → Ord ls os) :
    Calls Try.prog 13 #[.slice a len cap] w fun e w' => (∃ a' l' c', e = .returned (.tuple #[.slice a' l' c', .int .i64 (layN ls os), .int .i64 (layE ls os)]) ∧ Ints w' a' l' (layL ls os)) ∧ Below w.heap.size w w' := by
  have HL := hide h.1
  have H := hide h
  have HW := hide (rRmWrong_any a len cap ls w h)
  have HORD0 := hide hord
  clear h hord
  by_cases hE : livesE ls = 0
  · obtain ⟨hl4, hok⟩ := livesE_ok hE
    have hlen : len ≤ 4096 := by rw [← HL.out]; exact hl4
    have HE := hide hE
    have HO := hide hok
    have HORD := hide (HORD0.out hE)
    have hol : os.length = len := by rw [HORD.out.perm.length_eq]; simp [HL.out]
    have HOL := hide hol
    clear hE hl4 hok hol
    have hmk := fun (W : World) => run_make_row' (P := Try.prog) 27 3 (.int .i64 0) 8 Try.underlying27 info_int rfl .i64 .i64 len (by omega) (by omega) W
    have hmb := fun (W : World) => run_make_row' (P := Try.prog) 53 4 (.bool false) 1 Try.underlying53 info_bool rfl .i64 .i64 len (by omega) (by omega) W
    go_enter Try.func13, Try.ntmps13
    go_wp2_with (go_at_call 11; refine HW.out.mono ?_; rintro e w1 ⟨rfl, hb⟩; rw [HE.out]; have HB1 := hide hb; clear hb)
    obtain ⟨W4, hW4⟩ : ∃ W4, W4 = ((w1.alloc (.cells (madeCells #[.int .i64 0] len) 3)).alloc (.cells (madeCells #[.bool false] len) 4)).alloc (.cells (madeCells #[.bool false] len) 4) := ⟨_, rfl⟩
    have hB4 : Below w1.heap.size w1 W4 := by rw [hW4]; exact bl_on (bl_on (bl_new _) (bl_new _)) (bl_new _)
    have hR4 : RowI W4 w1.heap.size len (List.replicate len 0) := by
      rw [hW4]
      refine (((World.rowIs_made w1 (.int .i64 0) len 3).alloc _).alloc _).congr (fun i hi => ?_)
      simp [hi]
    have hL4 : RowB W4 (w1.heap.size + 1) len (fun _ => false) := by
      rw [hW4]
      have := (World.rowIs_made (w1.alloc (.cells (madeCells #[.int .i64 0] len) 3)) (.bool false) len 4).alloc (.cells (madeCells #[.bool false] len) 4)
      rw [World.size_alloc] at this
      exact this
    have hD4 : RowB W4 (w1.heap.size + 2) len (fun _ => false) := by
      rw [hW4]
      have := World.rowIs_made ((w1.alloc (.cells (madeCells #[.int .i64 0] len) 3)).alloc (.cells (madeCells #[.bool false] len) 4)) (.bool false) len 4
      rw [World.size_alloc, World.size_alloc] at this
      exact this
    rw [← hW4]
    obtain ⟨GO, hGO⟩ : ∃ GO, GO = w1.heap.size := ⟨_, rfl⟩
    rw [← hGO] at hR4 hL4 hD4 ⊢
    have HB4 := hide (bl_on HB1.out hB4)
    have HR4 := hide hR4
    have HL4 := hide hL4
    have HD4 := hide hD4
    have hGw : w.heap.size ≤ GO := by rw [hGO]; exact HB1.out.size
    have HGO := hide hGO
    clear hW4 hB4 hR4 hL4 hD4 hGO hmk hmb HW HB1
    go_loopw [9, 32] (fun v9 i wr => ∃ j : Nat, j ≤ len ∧ i = .int .i64 j ∧ v9 = .int .i64 (layS ls (os.take j)).en ∧ RowI wr GO len (layS ls (os.take j)).at_ ∧ RowB wr (GO + 1) len (liesF ls os j) ∧ RowB wr (GO + 2) len (doneF os j) ∧ Below w.heap.size w wr) (fun _ i _ => len - (intOf i).toNat)
    case atStart => exact ⟨0, Nat.zero_le _, rfl, rfl, by rw [List.take_zero]; show RowI _ _ _ (List.replicate ls.length 0); rw [HL.out]; exact HR4.out, HL4.out.congr (fun i _ => by simp [liesF]), HD4.out.congr (fun i _ => by simp [doneF]), HB4.out⟩
    case round =>
      clear HR4 HL4 HD4 HB4
      obtain ⟨j, hj, rfl, rfl, hr, hl, hd, hB⟩ := hrel
      have hinv := lay_pre HORD.out HO.out (os.take j) (os.drop j) (List.take_append_drop j os).symm
      obtain ⟨s, hsd⟩ : ∃ s, s = layS ls (os.take j) := ⟨_, rfl⟩
      rw [← hsd] at hr hinv ⊢
      have HSD := hide hsd
      have HR := hide hr
      have HLI := hide hl
      have HDN := hide hd
      have HB := hide hB
      have HINV := hide hinv
      have zd := World.rowIs.lt hd
      clear hr hl hd hB hinv hsd
      by_cases hlt : j < len
      · have hjl : j < os.length := by rw [HOL.out]; exact hlt
        obtain ⟨m, hmd⟩ : ∃ m, m = os[j]?.getD 0 := ⟨_, rfl⟩
        have hmm : m ∈ os := by rw [hmd]; simp [hjl]
        have hml : m < len := by rw [← HL.out]; simpa using HORD.out.perm.mem_iff.1 hmm
        have htk : os.take (j + 1) = os.take j ++ [m] := by rw [List.take_succ_eq_append_getElem hjl, hmd]; simp [hjl]
        have hstep : layS ls (os.take (j + 1)) = stepL ls s m := by rw [htk, HSD.out]; simp [layS]
        have hLS : ∀ k, liesF ls os (j + 1) k = if k = m then takes (lifeAt ls k) else liesF ls os j k := fun k => by rw [liesF_succ hjl, hmd]
        have hDS : ∀ k, doneF os (j + 1) k = if k = m then true else doneF os j k := fun k => by rw [doneF_succ hjl, hmd]
        have hfr : ∀ q ∈ os.take j, (lifeAt ls q).fr ≤ (lifeAt ls m).fr := fun q hq => by
          have e0 : os = os.take j ++ m :: os.drop (j + 1) := by rw [hmd]; simp [hjl]
          have hs := HORD.out.sorted
          rw [e0, List.pairwise_append] at hs
          have := hs.2.2 q hq m (by simp)
          unfold befL at this
          simp only [lifeAt]
          omega
        have hpl : ∀ q ∈ os.take j, q < ls.length := fun q hq => by simpa using HORD.out.perm.mem_iff.1 (List.mem_of_mem_take hq)
        have HEND : Hid (∀ i : Int, Sel ls (doneF os j) len i → i = (m : Int)) := fun i hi => by
          rw [hmd]
          exact Sel.end_ HORD.out hjl (by rw [HL.out]; exact hi)
        have HST := hide hstep
        have HLS := hide hLS
        have HDS := hide hDS
        have HFR := hide hfr
        have HPL := hide hpl
        clear hmd hmm htk hstep hLS hDS hfr hpl hjl
        obtain ⟨W0, hW0⟩ : ∃ W0, W0 = wr := ⟨_, rfl⟩
        subst hW0
        go_wp2
        go_loopw [10, 36] (fun v10 v36 wr => ∃ (k : Nat) (i : Int), k ≤ len ∧ v36 = .int .i64 k ∧ v10 = .int .i64 i ∧ Sel ls (doneF os j) k i ∧ Below W0.heap.size W0 wr) (fun _ v36 _ => len - (intOf v36).toNat)
        case atStart => exact ⟨0, -1, Nat.zero_le _, rfl, rfl, Sel.start _ _, Below.refl _ _⟩
        case round =>
          obtain ⟨k, i, hk, rfl, rfl, hsel, hB5⟩ := hrel
          have HSEL := hide hsel
          have HB5 := hide hB5
          clear hsel hB5
          by_cases hkl : k < len
          · have HLV := hide (H.out.below (bl_on HB.out HB5.out))
            obtain ⟨b, off, rfl, c1, c2, c3⟩ := HLV.out.at hkl
            have d1 := (HB5.out.cell (p := ⟨GO + 2, k, none⟩) zd).trans (World.rowIs.cell HDN.out hkl)
            have z1 := lt_of_cell c1
            simp only at z1
            have zz := HB5.out.size
            obtain ⟨D, hD⟩ : ∃ D, D = doneF os j k := ⟨_, rfl⟩
            rw [← hD] at d1
            have HD := hide hD
            clear hD c2 c3
            go_wp2_with fail
            obtain ⟨V, hV⟩ : ∃ V : Bool, V = (!D && (decide (i < 0) || decide ((lifeAt ls k).fr < (lifeAt ls i.toNat).fr))) := ⟨_, rfl⟩
            have HV := hide hV
            clear hV
            go_cut [60] (fun c wx => c = .bool V ∧ Below wr.heap.size wr wx)
            case first =>
              cases D
              · by_cases hi0 : i < 0
                · go_quiet (fail)
                  go_wp2
                  go_meet
                  exact ⟨by rw [HV.out]; simp [hi0], below_drewN2 _ _⟩
                · obtain ⟨q, rfl⟩ : ∃ q : Nat, i = q := ⟨i.toNat, by omega⟩
                  have hq : q < len := by
                    rcases HSEL.out with ⟨e, _⟩ | ⟨m', e, h1, _⟩ <;> omega
                  obtain ⟨b', off', e', f1, _, _⟩ := HLV.out.at hq
                  cases e'
                  have hqz : (q : Int) < (len : Int) := by omega
                  obtain ⟨A1, hA1⟩ : ∃ A1, A1 = (ls[k]?.getD lfD).fr := ⟨_, rfl⟩
                  obtain ⟨A2, hA2⟩ : ∃ A2, A2 = (ls[q]?.getD lfD).fr := ⟨_, rfl⟩
                  have hv : V = decide (A1 < A2) := by rw [HV.out, decide_eq_false hi0, hA1, hA2]; simp
                  rw [← hA1] at c1
                  rw [← hA2] at f1
                  clear hA1 hA2
                  by_cases hlq : A1 < A2
                  · have HVT : Hid (V = true) := by rw [Hid, hv]; simp [hlq]
                    clear hv HV
                    go_quiet (fail)
                    go_wp2
                    go_meet
                    exact ⟨by rw [HVT.out], below_drewN2 _ _⟩
                  · have HVT : Hid (V = false) := by rw [Hid, hv]; simp [hlq]
                    clear hv HV
                    go_quiet (fail)
                    go_wp2
                    go_meet
                    exact ⟨by rw [HVT.out], below_drewN2 _ _⟩
              · go_quiet (fail)
                go_wp2
                go_meet
                exact ⟨by rw [HV.out]; simp, below_drewN2 _ _⟩
            case rest =>
              obtain ⟨rfl, hb6⟩ := hcut
              have HB6 := hide (bl_on HB5.out hb6)
              clear hb6 d1 c1
              cases hDv : D
              · rw [hDv] at HD
                by_cases hi0 : i < 0
                · have hi1 : i = -1 := by rcases HSEL.out with ⟨e, _⟩ | ⟨m', e, _⟩ <;> omega
                  subst hi1
                  have HS2 := hide (HSEL.out.first HD.out.symm)
                  have hVv : V = true := by rw [HV.out, hDv]; simp
                  clear HV
                  subst hVv
                  go_wp2
                  go_roundw
                  case rel => exact ⟨k + 1, (k : Int), by omega, by go_num, rfl, HS2.out, HB6.out⟩
                  case measure => simp [intOf]; omega
                · obtain ⟨q, rfl⟩ : ∃ q : Nat, i = q := ⟨i.toNat, by omega⟩
                  have hq0 : decide ((q : Int) < 0) = false := decide_eq_false hi0
                  by_cases hlq : (lifeAt ls k).fr < (lifeAt ls q).fr
                  · have HS2 := hide (HSEL.out.less HD.out.symm hlq)
                    have hVv : V = true := by rw [HV.out, hDv, hq0, Int.toNat_natCast]; simp; exact hlq
                    clear HV
                    subst hVv
                    go_wp2
                    go_roundw
                    case rel => exact ⟨k + 1, (k : Int), by omega, by go_num, rfl, HS2.out, HB6.out⟩
                    case measure => simp [intOf]; omega
                  · have HS2 := hide (HSEL.out.more HD.out.symm hlq)
                    have hVv : V = false := by rw [HV.out, hDv, hq0, Int.toNat_natCast]; simp; omega
                    clear HV
                    subst hVv
                    go_wp2
                    go_roundw
                    case rel => exact ⟨k + 1, (q : Int), by omega, by go_num, rfl, HS2.out, HB6.out⟩
                    case measure => simp [intOf]; omega
              · rw [hDv] at HD
                have HS2 := hide (HSEL.out.done HD.out.symm)
                have hVv : V = false := by rw [HV.out, hDv]; simp
                clear HV
                subst hVv
                go_wp2
                go_roundw
                case rel => exact ⟨k + 1, i, by omega, by go_num, rfl, HS2.out, HB6.out⟩
                case measure => simp [intOf]; omega
          · obtain rfl : k = len := by omega
            obtain rfl : i = (m : Int) := HEND.out i HSEL.out
            have HBx := hide (bl_on HB.out HB5.out)
            have HR5 := hide (HR.out.below HB5.out)
            have HLI5 := hide (HLI.out.below HB5.out)
            have HDN5 := hide (HDN.out.below HB5.out)
            have s0 := World.rowIs.cell HDN5.out hml
            have f0 := World.rowIs.frozen HDN5.out m
            have zd5 := World.rowIs.lt HDN5.out
            obtain ⟨W5, hW5⟩ : ∃ W5, W5 = wr := ⟨_, rfl⟩
            subst hW5
            go_wp2_with fail
            have HBw6 : Hid (Below w.heap.size w (W5.setCell ⟨GO + 2, m, none⟩ (.bool true))) := HBx.out.setCell (p := ⟨GO + 2, m, none⟩) (by simp only; omega) _
            have HR6 : Hid (RowI (W5.setCell ⟨GO + 2, m, none⟩ (.bool true)) GO k s.at_) := World.rowIs.setOther HR5.out (by simp) _
            have HLI6 : Hid (RowB (W5.setCell ⟨GO + 2, m, none⟩ (.bool true)) (GO + 1) k (liesF ls os j)) := World.rowIs.setOther HLI5.out (by simp) _
            have HDN6 : Hid (RowB (W5.setCell ⟨GO + 2, m, none⟩ (.bool true)) (GO + 2) k (doneF os (j + 1))) := (HDN5.out.set m true).congr (fun i hi => by rw [HDS.out])
            have zW5 : (W5.setCell ⟨GO + 2, m, none⟩ (.bool true)).heap.size = W5.heap.size := by simp
            generalize W5.setCell ⟨GO + 2, m, none⟩ (.bool true) = W6 at HBw6 HR6 HLI6 HDN6 zW5 ⊢
            have HLV6 := hide (H.out.below HBw6.out)
            obtain ⟨b, off, hab, d1, d2, d3⟩ := HLV6.out.at hml
            have hbw : b < w.heap.size := by
              obtain ⟨b', off', e', c1', _, _⟩ := H.out.at hml
              rw [hab] at e'
              cases e'
              exact lt_of_cell c1'
            subst hab
            obtain ⟨q, hq⟩ : ∃ q, q = ls[m]?.getD lfD := ⟨_, rfl⟩
            have hqo := HO.out _ (mem_getLf ls m (by rw [HL.out]; exact hml))
            rw [← hq] at d1 d2 d3 hqo
            have HQ := hide hq
            have hq0 := hqo.w0
            have hq1 := hqo.w1
            have hqft := hqo.ft
            have zb6 := lt_of_cell d1
            have zo6 := World.rowIs.lt HR6.out
            have zl6 := World.rowIs.lt HLI6.out
            simp only at zb6
            clear s0 f0 hq hqo HR5 HLI5 HDN5 HBx
            go_cut [84] (fun c wx => c = .bool (!takes q) ∧ Below W6.heap.size W6 wx)
            case first =>
              by_cases hw0 : q.wd = 0
              · have htf : Hid (takes q = false) := by rw [Hid]; simp [takes, hw0]
                go_quiet (fail)
                go_wp2
                go_meet
                exact ⟨by rw [htf.out]; simp, below_drewN2 _ _⟩
              · have hw0b : (q.wd == 0) = false := by simpa using hw0
                by_cases hft : q.fr = q.to
                · have htf : Hid (takes q = false) := by rw [Hid]; simp [takes, hft]
                  have hftb : (q.fr == q.to) = true := by simpa using hft
                  clear hft
                  go_quiet (fail)
                  go_wp2
                  go_meet
                  exact ⟨by rw [htf.out]; simp, below_drewN2 _ _⟩
                · have htf : Hid (takes q = true) := by rw [Hid]; simp only [takes, Bool.and_eq_true, decide_eq_true_eq]; omega
                  have hftb : (q.fr == q.to) = false := by simpa using hft
                  go_quiet (fail)
                  go_wp2
                  go_meet
                  exact ⟨by rw [htf.out]; simp, below_drewN2 _ _⟩
            case rest =>
              obtain ⟨rfl, hb6⟩ := hcut
              cases htq : takes q
              · have hst : layS ls (os.take (j + 1)) = s := by
                  rw [HST.out]; unfold stepL; rw [if_neg (by show ¬ takes (ls[m]?.getD lfD) = true; rw [← HQ.out, htq]; simp)]
                have HSS := hide hst
                have HLI7 : Hid (RowB wc (GO + 1) k (liesF ls os (j + 1))) := (HLI6.out.below hb6).congr (fun i hi => by
                  rw [HLS.out]
                  by_cases e : i = m
                  · rw [if_pos e, e]
                    unfold liesF
                    have : takes (lifeAt ls m) = false := by show takes (ls[m]?.getD lfD) = false; rw [← HQ.out]; exact htq
                    rw [this]; simp
                  · rw [if_neg e])
                have HR7 := hide (HR6.out.below hb6)
                have HD7 := hide (HDN6.out.below hb6)
                have HB7 := hide (bl_on HBw6.out hb6)
                clear hst hb6
                go_wp2
                go_roundw
                case rel => exact ⟨j + 1, by omega, by go_num, by rw [HSS.out], by rw [HSS.out]; exact HR7.out, HLI7.out, HD7.out, HB7.out⟩
                case measure => simp [intOf]; omega
              · have HTT : Hid (takes (lifeAt ls m) = true) := by show takes (ls[m]?.getD lfD) = true; rw [← HQ.out]; exact htq
                obtain ⟨g1, g2, g3⟩ := gap_best HINV.out HPL.out HFR.out HTT.out
                have hst : layS ls (os.take (j + 1)) = ⟨s.at_.set m (gapV (lifeAt ls m).wd (s.sh.filter (stays (lifeAt ls m).fr)) 0).2, insL (s.sh.filter (stays (lifeAt ls m).fr)) (gapV (lifeAt ls m).wd (s.sh.filter (stays (lifeAt ls m).fr)) 0).1 ⟨lifeAt ls m, (gapV (lifeAt ls m).wd (s.sh.filter (stays (lifeAt ls m).fr)) 0).2⟩, max s.en ((gapV (lifeAt ls m).wd (s.sh.filter (stays (lifeAt ls m).fr)) 0).2 + q.wd)⟩ := by
                  rw [HST.out]; unfold stepL; rw [if_pos HTT.out, HQ.out]
                obtain ⟨SHL, hSHL⟩ : ∃ SHL, SHL = insL (s.sh.filter (stays (lifeAt ls m).fr)) (gapV (lifeAt ls m).wd (s.sh.filter (stays (lifeAt ls m).fr)) 0).1 ⟨lifeAt ls m, (gapV (lifeAt ls m).wd (s.sh.filter (stays (lifeAt ls m).fr)) 0).2⟩ := ⟨_, rfl⟩
                rw [← hSHL] at hst
                obtain ⟨G, hG⟩ : ∃ G, G = (gapV (lifeAt ls m).wd (s.sh.filter (stays (lifeAt ls m).fr)) 0).2 := ⟨_, rfl⟩
                rw [← hG] at g1 g2 g3 hst
                obtain ⟨FR, hFR⟩ : ∃ FR : Int → Bool, FR = fun p => freeB ls s.at_ (liesF ls os j) m p := ⟨_, rfl⟩
                obtain ⟨EK, hEKd⟩ : ∃ EK : Nat → Int, EK = fun k => numAt s.at_ k + (lifeAt ls k).wd := ⟨_, rfl⟩
                have HEK : Hid (∀ k, EK k = (s.at_[k]?.getD 0) + (ls[k]?.getD lfD).wd) := fun k => by rw [hEKd]
                have HG1 : Hid (FR G = true) := by rw [Hid, hFR]; exact g1
                have HG2 : Hid (∀ p, 0 ≤ p → FR p = true → G ≤ p) := by rw [Hid, hFR]; exact g2
                have HG3 : Hid (G = 0 ∨ ∃ q, q < k ∧ liesF ls os j q = true ∧ G = EK q) := by rw [Hid, hEKd, ← HL.out]; exact g3
                have HSS := hide hst
                have HOUT : Hid (∀ k, k < ls.length → 0 ≤ numAt s.at_ k ∧ numAt s.at_ k ≤ 4294967296) := fun i hi => by
                  have h1 := HINV.out.enB
                  have h2 : (os.take j).length ≤ 4096 := by rw [List.length_take]; omega
                  have h3 := (HO.out _ (mem_getLf ls i hi)).w0
                  by_cases hp : i ∈ os.take j ∧ takes (lifeAt ls i) = true
                  · have h4 := HINV.out.placed i hp.1 hp.2
                    simp only [lifeAt] at h4
                    omega
                  · have h4 := HINV.out.none_ i (by
                      by_cases c : i ∈ os.take j
                      · exact .inr (by cases ht : takes (lifeAt ls i); rfl; exact absurd ⟨c, ht⟩ hp)
                      · exact .inl c)
                    omega
                rw [HL.out] at HOUT
                have hGb : 0 ≤ G ∧ G ≤ 4294967296 + 1048576 := by
                  rcases g3 with e | ⟨i, hi, _, e⟩
                  · omega
                  · have h1 := HOUT.out i (by rw [← HL.out]; exact hi)
                    have h2 := HO.out _ (mem_getLf ls i hi)
                    have h3 := h2.w0
                    have h4 := h2.w1
                    simp only [lifeAt] at e
                    omega
                have HFRC : Hid (∀ (p : Int) (V : World), Below W6.heap.size W6 V → (0 ≤ p ∧ p ≤ 8589934592) → Calls Try.prog 30 #[.slice (some ⟨b, off, none⟩) k cap, .slice (some ⟨GO, 0, none⟩) k k, .slice (some ⟨GO + 1, 0, none⟩) k k, .int .i64 (m : Int), .int .i64 p] V fun e w' => e = .returned (.bool (FR p)) ∧ Below V.heap.size V w') := fun p V hV hp => by
                  rw [hFR]
                  exact rFree_any (some ⟨b, off, none⟩) k cap ls GO (GO + 1) s.at_ (liesF ls os j) m p V (HLV6.out.below hV) (HR6.out.below hV) (HLI6.out.below hV) hml hp HOUT.out HO.out
                have HF0 := hide (HFRC.out 0 wc hb6 (by omega))
                have HWC := hide hb6
                clear g1 g2 g3 hst hSHL hG hFR hEKd hb6 d1 d2 d3
                obtain ⟨len, hlk⟩ : ∃ len, len = k := ⟨_, rfl⟩
                subst hlk
                cases hf0 : FR 0
                · go_wp2_with (go_at_call 30; refine HF0.out.mono ?_; rintro e w9 ⟨rfl, hb9⟩; rw [hf0]; have HB9 := hide (bl_on HWC.out hb9); clear hb9)
                  go_loopw [12, 92] (fun v12 v92 wr => ∃ (k : Nat) (b : Int), k ≤ len ∧ v92 = .int .i64 k ∧ v12 = .int .i64 b ∧ Bst FR EK (liesF ls os j) k b ∧ Below W6.heap.size W6 wr) (fun _ v92 _ => len - (intOf v92).toNat)
                  case atStart => exact ⟨0, -1, Nat.zero_le _, rfl, rfl, Bst.start_no hf0, HB9.out⟩
                  case round =>
                    obtain ⟨k, bb, hk, rfl, rfl, hbst, hB7⟩ := hrel
                    have HBST := hide hbst
                    have HB7 := hide hB7
                    have hbb : -1 ≤ bb ∧ bb ≤ 8589934592 := by rcases hbst with ⟨e, _⟩ | ⟨e, _⟩ <;> omega
                    clear hbst hB7
                    by_cases hkl : k < len
                    · obtain ⟨b8, off8, e8, k1, k2, k3⟩ := (HLV6.out.below HB7.out).at hkl
                      cases e8
                      have o1 := (HB7.out.cell (p := ⟨GO, k, none⟩) zo6).trans (World.rowIs.cell HR6.out hkl)
                      have l1 := (HB7.out.cell (p := ⟨GO + 1, k, none⟩) zl6).trans (World.rowIs.cell HLI6.out hkl)
                      have hEK : EK k = (s.at_[k]?.getD 0) + (ls[k]?.getD lfD).wd := HEK.out k
                      have hob := HOUT.out k hkl
                      have hyo := HO.out _ (mem_getLf ls k (by rw [HL.out]; exact hkl))
                      simp only [numAt] at hob
                      obtain ⟨y, hy⟩ : ∃ y, y = ls[k]?.getD lfD := ⟨_, rfl⟩
                      obtain ⟨r, hr⟩ : ∃ r, r = s.at_[k]?.getD 0 := ⟨_, rfl⟩
                      obtain ⟨lb, hlb⟩ : ∃ lb, lb = liesF ls os j k := ⟨_, rfl⟩
                      rw [← hy] at k1 k2 k3 hyo hEK
                      rw [← hr] at o1 hob hEK
                      rw [← hlb] at l1
                      have HLB := hide hlb
                      have HEKK := hide hEK
                      have hy0 := hyo.w0
                      have hy1 := hyo.w1
                      have hwk : IntKind.i64.wrap (r + y.wd) = r + y.wd := by rw [IntKind.wrap_i64]; omega
                      have z8 := lt_of_cell k1
                      have z9 := lt_of_cell o1
                      have z10 := lt_of_cell l1
                      simp only at z8 z9 z10
                      have HB8 := hide (bl_on HB7.out (bl_new (.cells #[.int .i64 y.fr, .int .i64 y.to, .int .i64 y.wd] 37)))
                      have g2 : (wr.alloc (.cells #[.int .i64 y.fr, .int .i64 y.to, .int .i64 y.wd] 37)).cell? ⟨wr.heap.size, 2, none⟩ = some (.int .i64 y.wd) := by simp
                      have a4 := alloc_cell (o := .cells #[.int .i64 y.fr, .int .i64 y.to, .int .i64 y.wd] 37) o1
                      have a5 := alloc_cell (o := .cells #[.int .i64 y.fr, .int .i64 y.to, .int .i64 y.wd] 37) l1
                      have zW : (wr.alloc (.cells #[.int .i64 y.fr, .int .i64 y.to, .int .i64 y.wd] 37)).heap.size = wr.heap.size + 1 := by simp
                      clear hy hr hlb hyo hEK
                      go_wp2_with fail
                      generalize wr.alloc (.cells #[.int .i64 y.fr, .int .i64 y.to, .int .i64 y.wd] 37) = W8 at g2 a4 a5 zW HB8 ⊢
                      clear k1 k2 k3 o1 l1
                      go_quiet (fail)
                      have HB88 := hide (bl_on HB8.out (below_drewN2 W8 nq))
                      have a6 : (W8.drewN nq).cell? ⟨GO + 1, k, none⟩ = some (.bool lb) := a5
                      have zW8 : (W8.drewN nq).heap.size = wr.heap.size + 1 := zW
                      have HFC := hide (HFRC.out (r + y.wd) (W8.drewN nq) HB88.out (by omega))
                      generalize W8.drewN nq = W9 at HB88 a6 zW8 HFC ⊢
                      clear a4 a5 g2 zW
                      cases lb
                      · have HN2 := hide (HBST.out.skip (fun hl => by rw [← HLB.out] at hl; cases hl))
                        go_wp2
                        go_roundw
                        case rel => exact ⟨k + 1, bb, by omega, by go_num, rfl, HN2.out, HB88.out⟩
                        case measure => simp [intOf]; omega
                      · by_cases hb0 : bb < 0
                        · cases hfr : FR (r + y.wd)
                          · have HN2 := hide (HBST.out.skip (fun _ hF => by rw [HEKK.out, hfr] at hF; cases hF))
                            go_wp2_with (go_at_call 30; refine HFC.out.mono ?_; rintro e w9 ⟨rfl, hb9⟩; rw [hfr]; have HB10 := hide (bl_on HB88.out hb9); clear hb9)
                            go_roundw
                            case rel => exact ⟨k + 1, bb, by omega, by go_num, rfl, HN2.out, HB10.out⟩
                            case measure => simp [intOf]; omega
                          · have HN2 := hide (HBST.out.take (by rw [HEKK.out]; exact hfr) (by rw [HEKK.out]; omega) (.inl hb0))
                            rw [HEKK.out] at HN2
                            go_wp2_with (go_at_call 30; refine HFC.out.mono ?_; rintro e w9 ⟨rfl, hb9⟩; rw [hfr]; have HB10 := hide (bl_on HB88.out hb9); clear hb9)
                            go_roundw
                            case rel => exact ⟨k + 1, r + y.wd, by omega, by go_num, rfl, HN2.out, HB10.out⟩
                            case measure => simp [intOf]; omega
                        · by_cases hlb2 : r + y.wd < bb
                          · cases hfr : FR (r + y.wd)
                            · have HN2 := hide (HBST.out.skip (fun _ hF => by rw [HEKK.out, hfr] at hF; cases hF))
                              go_wp2_with (go_at_call 30; refine HFC.out.mono ?_; rintro e w9 ⟨rfl, hb9⟩; rw [hfr]; have HB10 := hide (bl_on HB88.out hb9); clear hb9)
                              go_roundw
                              case rel => exact ⟨k + 1, bb, by omega, by go_num, rfl, HN2.out, HB10.out⟩
                              case measure => simp [intOf]; omega
                            · have HN2 := hide (HBST.out.take (by rw [HEKK.out]; exact hfr) (by rw [HEKK.out]; omega) (.inr (by rw [HEKK.out]; exact hlb2)))
                              rw [HEKK.out] at HN2
                              go_wp2_with (go_at_call 30; refine HFC.out.mono ?_; rintro e w9 ⟨rfl, hb9⟩; rw [hfr]; have HB10 := hide (bl_on HB88.out hb9); clear hb9)
                              go_roundw
                              case rel => exact ⟨k + 1, r + y.wd, by omega, by go_num, rfl, HN2.out, HB10.out⟩
                              case measure => simp [intOf]; omega
                          · have HN2 := hide (HBST.out.skip (fun _ _ => by rw [HEKK.out]; omega))
                            go_wp2
                            go_roundw
                            case rel => exact ⟨k + 1, bb, by omega, by go_num, rfl, HN2.out, HB88.out⟩
                            case measure => simp [intOf]; omega
                    · obtain rfl : k = len := by omega
                      obtain rfl : bb = G := HBST.out.end_ HG1.out HG2.out HG3.out
                      have HR8 := hide (HR6.out.below HB7.out)
                      have HL8 := hide (HLI6.out.below HB7.out)
                      have HD8 := hide (HDN6.out.below HB7.out)
                      obtain ⟨b8, off8, e8, k1, k2, k3⟩ := (HLV6.out.below HB7.out).at hml
                      cases e8
                      rw [← HQ.out] at k3
                      have u0 := World.rowIs.cell HR8.out hml
                      have u1 := World.rowIs.frozen HR8.out m
                      have v0 := World.rowIs.cell HL8.out hml
                      have v1 := World.rowIs.frozen HL8.out m
                      have t0 := World.rowIs.lt HR8.out
                      have t1 := World.rowIs.lt HL8.out
                      have t2 := lt_of_cell k3
                      simp only at t2
                      have HB12 : Hid (Below w.heap.size w ((wr.setCell ⟨GO, m, none⟩ (.int .i64 bb)).setCell ⟨GO + 1, m, none⟩ (.bool true))) := ((bl_on HBw6.out HB7.out).setCell (p := ⟨GO, m, none⟩) hGw _).setCell (p := ⟨GO + 1, m, none⟩) (by simp only; omega) _
                      have HR12 : Hid (RowI ((wr.setCell ⟨GO, m, none⟩ (.int .i64 bb)).setCell ⟨GO + 1, m, none⟩ (.bool true)) GO k (s.at_.set m bb)) := World.rowIs.setOther (rowI_set HR8.out m bb hml (by rw [HINV.out.len, HL.out])) (by simp) _
                      have HL12 : Hid (RowB ((wr.setCell ⟨GO, m, none⟩ (.int .i64 bb)).setCell ⟨GO + 1, m, none⟩ (.bool true)) (GO + 1) k (liesF ls os (j + 1))) := by
                        have h1 : RowB (wr.setCell ⟨GO, m, none⟩ (.int .i64 bb)) (GO + 1) k (liesF ls os j) := World.rowIs.setOther HL8.out (by simp) _
                        refine (h1.set m true).congr (fun i hi => ?_)
                        rw [HLS.out]
                        by_cases e : i = m
                        · rw [if_pos e, if_pos e, e]; exact HTT.out.symm
                        · rw [if_neg e, if_neg e]
                      have HD12 : Hid (RowB ((wr.setCell ⟨GO, m, none⟩ (.int .i64 bb)).setCell ⟨GO + 1, m, none⟩ (.bool true)) (GO + 2) k (doneF os (j + 1))) := World.rowIs.setOther (World.rowIs.setOther HD8.out (by simp) _) (by simp) _
                      have y3 : ((wr.setCell ⟨GO, m, none⟩ (.int .i64 bb)).setCell ⟨GO + 1, m, none⟩ (.bool true)).cell? ⟨b, off + m * 3 + 2, none⟩ = some (.int .i64 q.wd) := by
                        rw [World.cell?_setCell_other _ _ _ _ (by intro e; simp only [Addr.mk.injEq] at e; omega), World.cell?_setCell_other _ _ _ _ (by intro e; simp only [Addr.mk.injEq] at e; omega)]
                        exact k3
                      have hwG : IntKind.i64.wrap (bb + q.wd) = bb + q.wd := by rw [IntKind.wrap_i64]; omega
                      have HFS := HSS.out
                      clear k1 k2 HR8 HL8 HD8
                      by_cases hgt : bb + q.wd > s.en
                      · have hmx : max s.en (bb + q.wd) = bb + q.wd := by omega
                        rw [hmx] at HFS
                        have HFS2 := hide HFS
                        clear HFS hmx
                        go_wp2
                        go_roundw
                        case rel => exact ⟨j + 1, by omega, by go_num, by rw [HFS2.out], by rw [HFS2.out]; exact HR12.out, HL12.out, HD12.out, HB12.out⟩
                        case measure => simp [intOf]; omega
                      · have hmx : max s.en (bb + q.wd) = s.en := by omega
                        rw [hmx] at HFS
                        have HFS2 := hide HFS
                        clear HFS hmx
                        go_wp2
                        go_roundw
                        case rel => exact ⟨j + 1, by omega, by go_num, by rw [HFS2.out], by rw [HFS2.out]; exact HR12.out, HL12.out, HD12.out, HB12.out⟩
                        case measure => simp [intOf]; omega
                · go_wp2_with (go_at_call 30; refine HF0.out.mono ?_; rintro e w9 ⟨rfl, hb9⟩; rw [hf0]; have HB9 := hide (bl_on HWC.out hb9); clear hb9)
                  go_loopw [12, 92] (fun v12 v92 wr => ∃ (k : Nat) (b : Int), k ≤ len ∧ v92 = .int .i64 k ∧ v12 = .int .i64 b ∧ Bst FR EK (liesF ls os j) k b ∧ Below W6.heap.size W6 wr) (fun _ v92 _ => len - (intOf v92).toNat)
                  case atStart => exact ⟨0, 0, Nat.zero_le _, rfl, rfl, Bst.start_yes hf0, HB9.out⟩
                  case round =>
                    obtain ⟨k, bb, hk, rfl, rfl, hbst, hB7⟩ := hrel
                    have HBST := hide hbst
                    have HB7 := hide hB7
                    have hbb : -1 ≤ bb ∧ bb ≤ 8589934592 := by rcases hbst with ⟨e, _⟩ | ⟨e, _⟩ <;> omega
                    clear hbst hB7
                    by_cases hkl : k < len
                    · obtain ⟨b8, off8, e8, k1, k2, k3⟩ := (HLV6.out.below HB7.out).at hkl
                      cases e8
                      have o1 := (HB7.out.cell (p := ⟨GO, k, none⟩) zo6).trans (World.rowIs.cell HR6.out hkl)
                      have l1 := (HB7.out.cell (p := ⟨GO + 1, k, none⟩) zl6).trans (World.rowIs.cell HLI6.out hkl)
                      have hEK : EK k = (s.at_[k]?.getD 0) + (ls[k]?.getD lfD).wd := HEK.out k
                      have hob := HOUT.out k hkl
                      have hyo := HO.out _ (mem_getLf ls k (by rw [HL.out]; exact hkl))
                      simp only [numAt] at hob
                      obtain ⟨y, hy⟩ : ∃ y, y = ls[k]?.getD lfD := ⟨_, rfl⟩
                      obtain ⟨r, hr⟩ : ∃ r, r = s.at_[k]?.getD 0 := ⟨_, rfl⟩
                      obtain ⟨lb, hlb⟩ : ∃ lb, lb = liesF ls os j k := ⟨_, rfl⟩
                      rw [← hy] at k1 k2 k3 hyo hEK
                      rw [← hr] at o1 hob hEK
                      rw [← hlb] at l1
                      have HLB := hide hlb
                      have HEKK := hide hEK
                      have hy0 := hyo.w0
                      have hy1 := hyo.w1
                      have hwk : IntKind.i64.wrap (r + y.wd) = r + y.wd := by rw [IntKind.wrap_i64]; omega
                      have z8 := lt_of_cell k1
                      have z9 := lt_of_cell o1
                      have z10 := lt_of_cell l1
                      simp only at z8 z9 z10
                      have HB8 := hide (bl_on HB7.out (bl_new (.cells #[.int .i64 y.fr, .int .i64 y.to, .int .i64 y.wd] 37)))
                      have g2 : (wr.alloc (.cells #[.int .i64 y.fr, .int .i64 y.to, .int .i64 y.wd] 37)).cell? ⟨wr.heap.size, 2, none⟩ = some (.int .i64 y.wd) := by simp
                      have a4 := alloc_cell (o := .cells #[.int .i64 y.fr, .int .i64 y.to, .int .i64 y.wd] 37) o1
                      have a5 := alloc_cell (o := .cells #[.int .i64 y.fr, .int .i64 y.to, .int .i64 y.wd] 37) l1
                      have zW : (wr.alloc (.cells #[.int .i64 y.fr, .int .i64 y.to, .int .i64 y.wd] 37)).heap.size = wr.heap.size + 1 := by simp
                      clear hy hr hlb hyo hEK
                      go_wp2_with fail
                      generalize wr.alloc (.cells #[.int .i64 y.fr, .int .i64 y.to, .int .i64 y.wd] 37) = W8 at g2 a4 a5 zW HB8 ⊢
                      clear k1 k2 k3 o1 l1
                      go_quiet (fail)
                      have HB88 := hide (bl_on HB8.out (below_drewN2 W8 nq))
                      have a6 : (W8.drewN nq).cell? ⟨GO + 1, k, none⟩ = some (.bool lb) := a5
                      have zW8 : (W8.drewN nq).heap.size = wr.heap.size + 1 := zW
                      have HFC := hide (HFRC.out (r + y.wd) (W8.drewN nq) HB88.out (by omega))
                      generalize W8.drewN nq = W9 at HB88 a6 zW8 HFC ⊢
                      clear a4 a5 g2 zW
                      cases lb
                      · have HN2 := hide (HBST.out.skip (fun hl => by rw [← HLB.out] at hl; cases hl))
                        go_wp2
                        go_roundw
                        case rel => exact ⟨k + 1, bb, by omega, by go_num, rfl, HN2.out, HB88.out⟩
                        case measure => simp [intOf]; omega
                      · by_cases hb0 : bb < 0
                        · cases hfr : FR (r + y.wd)
                          · have HN2 := hide (HBST.out.skip (fun _ hF => by rw [HEKK.out, hfr] at hF; cases hF))
                            go_wp2_with (go_at_call 30; refine HFC.out.mono ?_; rintro e w9 ⟨rfl, hb9⟩; rw [hfr]; have HB10 := hide (bl_on HB88.out hb9); clear hb9)
                            go_roundw
                            case rel => exact ⟨k + 1, bb, by omega, by go_num, rfl, HN2.out, HB10.out⟩
                            case measure => simp [intOf]; omega
                          · have HN2 := hide (HBST.out.take (by rw [HEKK.out]; exact hfr) (by rw [HEKK.out]; omega) (.inl hb0))
                            rw [HEKK.out] at HN2
                            go_wp2_with (go_at_call 30; refine HFC.out.mono ?_; rintro e w9 ⟨rfl, hb9⟩; rw [hfr]; have HB10 := hide (bl_on HB88.out hb9); clear hb9)
                            go_roundw
                            case rel => exact ⟨k + 1, r + y.wd, by omega, by go_num, rfl, HN2.out, HB10.out⟩
                            case measure => simp [intOf]; omega
                        · by_cases hlb2 : r + y.wd < bb
                          · cases hfr : FR (r + y.wd)
                            · have HN2 := hide (HBST.out.skip (fun _ hF => by rw [HEKK.out, hfr] at hF; cases hF))
                              go_wp2_with (go_at_call 30; refine HFC.out.mono ?_; rintro e w9 ⟨rfl, hb9⟩; rw [hfr]; have HB10 := hide (bl_on HB88.out hb9); clear hb9)
                              go_roundw
                              case rel => exact ⟨k + 1, bb, by omega, by go_num, rfl, HN2.out, HB10.out⟩
                              case measure => simp [intOf]; omega
                            · have HN2 := hide (HBST.out.take (by rw [HEKK.out]; exact hfr) (by rw [HEKK.out]; omega) (.inr (by rw [HEKK.out]; exact hlb2)))
                              rw [HEKK.out] at HN2
                              go_wp2_with (go_at_call 30; refine HFC.out.mono ?_; rintro e w9 ⟨rfl, hb9⟩; rw [hfr]; have HB10 := hide (bl_on HB88.out hb9); clear hb9)
                              go_roundw
                              case rel => exact ⟨k + 1, r + y.wd, by omega, by go_num, rfl, HN2.out, HB10.out⟩
                              case measure => simp [intOf]; omega
                          · have HN2 := hide (HBST.out.skip (fun _ _ => by rw [HEKK.out]; omega))
                            go_wp2
                            go_roundw
                            case rel => exact ⟨k + 1, bb, by omega, by go_num, rfl, HN2.out, HB88.out⟩
                            case measure => simp [intOf]; omega
                    · obtain rfl : k = len := by omega
                      obtain rfl : bb = G := HBST.out.end_ HG1.out HG2.out HG3.out
                      have HR8 := hide (HR6.out.below HB7.out)
                      have HL8 := hide (HLI6.out.below HB7.out)
                      have HD8 := hide (HDN6.out.below HB7.out)
                      obtain ⟨b8, off8, e8, k1, k2, k3⟩ := (HLV6.out.below HB7.out).at hml
                      cases e8
                      rw [← HQ.out] at k3
                      have u0 := World.rowIs.cell HR8.out hml
                      have u1 := World.rowIs.frozen HR8.out m
                      have v0 := World.rowIs.cell HL8.out hml
                      have v1 := World.rowIs.frozen HL8.out m
                      have t0 := World.rowIs.lt HR8.out
                      have t1 := World.rowIs.lt HL8.out
                      have t2 := lt_of_cell k3
                      simp only at t2
                      have HB12 : Hid (Below w.heap.size w ((wr.setCell ⟨GO, m, none⟩ (.int .i64 bb)).setCell ⟨GO + 1, m, none⟩ (.bool true))) := ((bl_on HBw6.out HB7.out).setCell (p := ⟨GO, m, none⟩) hGw _).setCell (p := ⟨GO + 1, m, none⟩) (by simp only; omega) _
                      have HR12 : Hid (RowI ((wr.setCell ⟨GO, m, none⟩ (.int .i64 bb)).setCell ⟨GO + 1, m, none⟩ (.bool true)) GO k (s.at_.set m bb)) := World.rowIs.setOther (rowI_set HR8.out m bb hml (by rw [HINV.out.len, HL.out])) (by simp) _
                      have HL12 : Hid (RowB ((wr.setCell ⟨GO, m, none⟩ (.int .i64 bb)).setCell ⟨GO + 1, m, none⟩ (.bool true)) (GO + 1) k (liesF ls os (j + 1))) := by
                        have h1 : RowB (wr.setCell ⟨GO, m, none⟩ (.int .i64 bb)) (GO + 1) k (liesF ls os j) := World.rowIs.setOther HL8.out (by simp) _
                        refine (h1.set m true).congr (fun i hi => ?_)
                        rw [HLS.out]
                        by_cases e : i = m
                        · rw [if_pos e, if_pos e, e]; exact HTT.out.symm
                        · rw [if_neg e, if_neg e]
                      have HD12 : Hid (RowB ((wr.setCell ⟨GO, m, none⟩ (.int .i64 bb)).setCell ⟨GO + 1, m, none⟩ (.bool true)) (GO + 2) k (doneF os (j + 1))) := World.rowIs.setOther (World.rowIs.setOther HD8.out (by simp) _) (by simp) _
                      have y3 : ((wr.setCell ⟨GO, m, none⟩ (.int .i64 bb)).setCell ⟨GO + 1, m, none⟩ (.bool true)).cell? ⟨b, off + m * 3 + 2, none⟩ = some (.int .i64 q.wd) := by
                        rw [World.cell?_setCell_other _ _ _ _ (by intro e; simp only [Addr.mk.injEq] at e; omega), World.cell?_setCell_other _ _ _ _ (by intro e; simp only [Addr.mk.injEq] at e; omega)]
                        exact k3
                      have hwG : IntKind.i64.wrap (bb + q.wd) = bb + q.wd := by rw [IntKind.wrap_i64]; omega
                      have HFS := HSS.out
                      clear k1 k2 HR8 HL8 HD8
                      by_cases hgt : bb + q.wd > s.en
                      · have hmx : max s.en (bb + q.wd) = bb + q.wd := by omega
                        rw [hmx] at HFS
                        have HFS2 := hide HFS
                        clear HFS hmx
                        go_wp2
                        go_roundw
                        case rel => exact ⟨j + 1, by omega, by go_num, by rw [HFS2.out], by rw [HFS2.out]; exact HR12.out, HL12.out, HD12.out, HB12.out⟩
                        case measure => simp [intOf]; omega
                      · have hmx : max s.en (bb + q.wd) = s.en := by omega
                        rw [hmx] at HFS
                        have HFS2 := hide HFS
                        clear HFS hmx
                        go_wp2
                        go_roundw
                        case rel => exact ⟨j + 1, by omega, by go_num, by rw [HFS2.out], by rw [HFS2.out]; exact HR12.out, HL12.out, HD12.out, HB12.out⟩
                        case measure => simp [intOf]; omega
      · obtain rfl : j = len := by omega
        have htk : os.take j = os := List.take_of_length_le (by rw [HOL.out]; exact Nat.le_refl _)
        have hs := HSD.out
        rw [htk] at hs
        have HSD2 := hide hs
        have hle : ∀ x ∈ s.at_, -9223372036854775808 ≤ x ∧ x ≤ 9223372036854775807 := fun x hx => by
          have h1 := HINV.out.enB
          rw [htk, HOL.out] at h1
          obtain ⟨i, hi, e⟩ := List.getElem_of_mem hx
          have e2 : numAt s.at_ i = x := by simp [numAt, hi, e]
          by_cases hp : takes (lifeAt ls i) = true
          · have h2 := HINV.out.placed i (by rw [htk]; exact HORD.out.perm.mem_iff.2 (by simpa [HINV.out.len] using hi)) hp
            have h3 := (HO.out _ (mem_getLf ls i (by simpa [HINV.out.len] using hi))).w0
            simp only [lifeAt] at h2
            rw [e2] at h2
            omega
          · have h2 := HINV.out.none_ i (.inr (by simpa using hp))
            rw [e2] at h2
            omega
        have HLE := hide hle
        clear hs htk hle
        by_cases hen : 1048576 < s.en
        · have he : layE ls os = 5 := by unfold layE; rw [if_neg (by simpa using HE.out), ← HSD2.out, if_pos hen]
          have hn : layN ls os = 0 := by unfold layN; rw [he, if_neg (by omega)]
          have hl : layL ls os = [] := by unfold layL; rw [he, if_neg (by omega)]
          have HF := hide (⟨he, hn, hl⟩ : layE ls os = 5 ∧ layN ls os = 0 ∧ layL ls os = [])
          clear he hn hl
          go_wp2
          refine bodyPost_ret (v := .tuple #[.slice none 0 0, .int .i64 0, .int .i64 5]) (by simp [results, Try.results13, go_sem]) rfl ?_
          have hfin : Ints wr none 0 (layL ls os) := by rw [HF.out.2.2]; exact ⟨rfl, by omega, by simp, .inl rfl⟩
          first
            | exact ⟨⟨none, 0, 0, by rw [HF.out.1, HF.out.2.1], hfin⟩, HB.out⟩
            | exact ⟨⟨none, 0, ⟨0, by rw [HF.out.1, HF.out.2.1]⟩, hfin⟩, HB.out⟩
        · have he : layE ls os = 0 := by unfold layE; rw [if_neg (by simpa using HE.out), ← HSD2.out, if_neg hen]
          have hn : layN ls os = s.en := by unfold layN; rw [he, if_pos rfl, ← HSD2.out]
          have hl : layL ls os = s.at_ := by unfold layL; rw [he, if_pos rfl, ← HSD2.out]
          have HF := hide (⟨he, hn, hl⟩ : layE ls os = 0 ∧ layN ls os = s.en ∧ layL ls os = s.at_)
          clear he hn hl
          go_wp2
          refine bodyPost_ret (v := .tuple #[.slice (some ⟨GO, 0, none⟩) j j, .int .i64 s.en, .int .i64 0]) (by simp [results, Try.results13, go_sem]) rfl ?_
          have hfin : Ints wr (some ⟨GO, 0, none⟩) j (layL ls os) := by rw [HF.out.2.2]; exact ints_of_rowI HR.out (by rw [HINV.out.len, HL.out]) (by omega) HLE.out
          first
            | exact ⟨⟨some ⟨GO, 0, none⟩, j, j, by rw [HF.out.1, HF.out.2.1], hfin⟩, HB.out⟩
            | exact ⟨⟨some ⟨GO, 0, none⟩, j, ⟨j, by rw [HF.out.1, HF.out.2.1]⟩, hfin⟩, HB.out⟩
  · obtain ⟨E, hEE⟩ : ∃ E, E = livesE ls := ⟨_, rfl⟩
    have he : layE ls os = E := by unfold layE; rw [if_pos hE, hEE]
    have hE0 : ¬ E = 0 := by rw [hEE]; exact hE
    have hn : layN ls os = 0 := by unfold layN; rw [he, if_neg hE0]
    have hl : layL ls os = [] := by unfold layL; rw [he, if_neg hE0]
    have HEE := hide hEE
    have HF := hide (⟨he, hn, hl⟩ : layE ls os = E ∧ layN ls os = 0 ∧ layL ls os = [])
    have hE' : (E != 0) = true := by simpa using hE0
    clear hEE he hn hl hE hE0
    go_enter Try.func13, Try.ntmps13
    go_wp2_with (go_at_call 11; refine HW.out.mono ?_; rintro e w1 ⟨rfl, hb⟩; rw [← HEE.out]; have HB1 := hide hb; clear hb)
    refine bodyPost_ret (v := .tuple #[.slice none 0 0, .int .i64 0, .int .i64 E]) (by simp [results, Try.results13, go_sem]) rfl ?_
    have hfin : Ints w1 none 0 (layL ls os) := by rw [HF.out.2.2]; exact ⟨rfl, by omega, by simp, .inl rfl⟩
    first
      | exact ⟨⟨none, 0, 0, by rw [HF.out.1, HF.out.2.1], hfin⟩, HB1.out⟩
      | exact ⟨⟨none, 0, ⟨0, by rw [HF.out.1, HF.out.2.1]⟩, hfin⟩, HB1.out⟩
end Go.Proofs.Ytcnnghhaohehoaa.V
