/-
  Contract: adjointref3.Tokens, the walk.
-/
import Derived.Test.YtadhlnlcdljamaaGreatDoorM8
import Derived.Laws.Strings2
namespace Go.Proofs.YtadhlnlcdljamaaGreatDoor.V
set_option maxRecDepth 20000
open Go.RowKit

theorem letter_digit {c : Int} (h : letterI c = true) : digitI c = false := by
  unfold letterI at h
  unfold digitI
  rw [Bool.and_eq_false_iff]
  simp at h
  by_cases h1 : c ≤ 57
  · left; simp; omega
  · right; simp; omega
theorem run_cut (s : ByteArray) (k j : Nat) (h1 : k ≤ j) (h2 : j ≤ s.size) (W : World) : (Instr.slice 9 (.string s) (some (.int .i64 (k : Int))) (some (.int .i64 (j : Int))) none).run Tryz.prog W = .ok (.string (s.extract k j)) W := by
  have := run_slice_string (P := Tryz.prog) W 9 s .i64 .i64 (k : Int) (j : Int) Tryz.underlying9 (by omega) (by omega) (by omega)
  simpa using this
theorem run_cut1 (s : ByteArray) (k : Nat) (h2 : k < s.size) (W : World) : (Instr.slice 9 (.string s) (some (.int .i64 (k : Int))) (some (.int .i64 ((k : Int) + 1))) none).run Tryz.prog W = .ok (.string (s.extract k (k + 1))) W := run_cut s k (k + 1) (by omega) h2 W
theorem extract_size {s : ByteArray} {k j : Nat} (h1 : k ≤ j) (h2 : j ≤ s.size) : (s.extract k j).size = j - k := by
  rw [ByteArray.size_extract]; omega
theorem extract_first {s : ByteArray} {k j : Nat} (hk : k < s.size) (h : 0 < (s.extract k j).size) : (((s.extract k j)[0]'h).toNat : Int) = (s[k].toNat : Int) := by
  have e1 := xsOf_at (s.extract k j) 0 h
  have e2 := xsOf_at s k hk
  rw [extract_xs] at e1
  have h2 : 0 < j - k := by
    rw [ByteArray.size_extract] at h
    omega
  rw [part_at 0 h2, Nat.add_zero, e2] at e1
  exact e1.symm

set_option maxRecDepth 100000 in
set_option maxHeartbeats 8000000 in
theorem rTokens_some (s : ByteArray) (w : World) (hs : s.size ≤ 65536) : Calls Tryz.prog 11 #[.string s] w (TokP s w) := by
  have HX := hide (xsOf_at s)
  have HS := hide hs
  have HL := hide (xsOf_length s)
  have HA := hide (TwoAt.new 25 w (.int .i64 0) (.int .i64 0))
  have HB := hide ((Below.refl w.heap.size w).alloc (Nat.le_refl _) (.cells #[.int .i64 0, .int .i64 0] 25))
  obtain ⟨i0, hi, hz0, hz1, hz2⟩ := info_parts tokInfo
  have HI := hide hi
  have HI0 := hide hz0
  have HI1 := hide hz1
  have HI2 := hide hz2
  clear hi hz0 hz1 hz2
  have hns : ¬ (65536 : Int) < (s.size : Int) := by omega
  go_enter Tryz.func11, Tryz.ntmps11
  go_wp2
  go_loopw [4, 5] (fun v i wr => RelR s w wr v i) (fun _ i _ => s.size - (intOf i).toNat)
  case atStart => exact ⟨0, [], rfl, by omega, Nat.le_refl _, rfl, World.ownsRow_nil _ _ _ _, HA.out, HB.out⟩
  case round =>
    clear HA HB
    obtain ⟨k, ts, rfl, hk, htl, hsc, ho, ha, hB⟩ := hrel
    have HTL := hide htl
    have HSC := hide hsc
    have HO := hide ho
    have HA := hide ha
    have HB := hide hB
    obtain ⟨⟨r0, r1⟩, fr0, fr1⟩ := HA.out.cells
    have HZ := hide ha.lt
    clear htl hsc ho ha hB
    by_cases hlt : k < s.size
    · have HC := hide (HX.out k hlt)
      obtain ⟨c, hc⟩ : ∃ c, c = ((s[k].toNat : Nat) : Int) := ⟨_, rfl⟩
      rw [← hc] at HC
      have hidx : ∀ h : k < s.size, (((s[k]'h).toNat : Nat) : Int) = c := fun _ => hc.symm
      have H1 := hide (rBlank c)
      clear hc
      cases b1 : blankI c with
      | true =>
        rw [b1] at H1
        have HPR : Hid (pieceR (xsOf s) k = (0, k + 1, false)) := by unfold Hid pieceR; rw [HC.out, if_pos b1]
        go_wp2_with (first
          | (go_at_call 18; refine (H1.out _).mono ?_; rintro e w' ⟨rfl, hw'⟩; obtain rfl := hw'.symm))
        go_roundw
        case rel => exact rel_next hlt HTL.out HSC.out HO.out HA.out HB.out (by rw [HPR.out]) (by rw [HPR.out]) (by rw [HPR.out])
        case measure => simp [intOf]; omega
      | false =>
        rw [b1] at H1
        cases b2 : (c == 35) with
        | true =>
          have HPR : Hid (pieceR (xsOf s) k = (0, reachN isRest (xsOf s) k, false)) := by unfold Hid pieceR; rw [HC.out, b1, if_neg Bool.false_ne_true, if_pos b2]
          go_wp2_with (first
            | (go_at_call 18; refine (H1.out _).mono ?_; rintro e w' ⟨rfl, hw'⟩; obtain rfl := hw'.symm))
          go_loop [5] (fun i => ∃ j : Nat, j ≤ s.size ∧ i = .int .i64 (j : Int) ∧ reachN isRest (xsOf s) j = reachN isRest (xsOf s) k) (fun i => s.size - (intOf i).toNat)
          case atStart => exact ⟨k, hk, rfl, rfl⟩
          case round =>
            clear hidx b1 b2 H1
            obtain ⟨j, hj, rfl, hr⟩ := hrel
            have HR := hide hr
            clear hr
            by_cases hjl : j < s.size
            · have HCJ := hide (HX.out j hjl)
              obtain ⟨d, hd⟩ : ∃ d, d = ((s[j].toNat : Nat) : Int) := ⟨_, rfl⟩
              rw [← hd] at HCJ
              have hidx2 : ∀ h : j < s.size, (((s[j]'h).toNat : Nat) : Int) = d := fun _ => hd.symm
              clear hd
              cases b3 : (d != 10) with
              | true =>
                go_wp2
                go_round
                case rel => exact ⟨j + 1, by omega, by go_num, (reachN_go (by rw [HL.out]; exact hjl) (by rw [HCJ.out]; exact b3)).symm.trans HR.out⟩
                case measure => simp [intOf]; omega
              | false =>
                have HE : Hid (reachN isRest (xsOf s) k = j) := HR.out.symm.trans (reachN_stop (fun h => by rw [HCJ.out] at h; exact absurd (b3.symm.trans h.2) (by simp)))
                go_wp2
                go_roundw
                case rel => exact rel_next hlt HTL.out HSC.out HO.out HA.out HB.out (by rw [HPR.out]) (by rw [HPR.out]) (by rw [HPR.out]; exact HE.out)
                case measure => have h9 := (pieceR_end (xs := xsOf s) (k := k) (by rw [HL.out]; exact hlt)).1; rw [HPR.out] at h9; have h8 : k < j := Nat.lt_of_lt_of_eq h9 HE.out; clear h9; simp [intOf]; omega
            · have HE : Hid (reachN isRest (xsOf s) k = j) := HR.out.symm.trans (reachN_stop (fun h => by rw [HL.out] at h; omega))
              go_wp2
              go_roundw
              case rel => exact rel_next hlt HTL.out HSC.out HO.out HA.out HB.out (by rw [HPR.out]) (by rw [HPR.out]) (by rw [HPR.out]; exact HE.out)
              case measure => have h9 := (pieceR_end (xs := xsOf s) (k := k) (by rw [HL.out]; exact hlt)).1; rw [HPR.out] at h9; have h8 : k < j := Nat.lt_of_lt_of_eq h9 HE.out; clear h9; simp [intOf]; omega
        | false =>
          have HLE := hide (rLetter c)
          have HDI := hide (rDigit c)
          have HSG := hide (rSign c)
          cases b3 : letterI c with
          | true =>
            rw [b3] at HLE
            rw [letter_digit b3] at HDI
            have HPR : Hid (pieceR (xsOf s) k = (0, reachN wordI (xsOf s) k, true)) := by unfold Hid pieceR; rw [HC.out, b1, if_neg Bool.false_ne_true, b2, if_neg Bool.false_ne_true, if_pos b3]
            have HGT := hide (reachN_gt (p := wordI) (xs := xsOf s) (k := k) (by rw [HL.out]; exact hlt) (by rw [HC.out]; unfold wordI; rw [b3]; rfl))
            clear b3
            go_wp2_with (first
              | (go_at_call 18; refine (H1.out _).mono ?_; rintro e w' ⟨rfl, hw'⟩; obtain rfl := hw'.symm)
              | (go_at_call 19; refine (HLE.out _).mono ?_; rintro e w' ⟨rfl, hw'⟩; obtain rfl := hw'.symm))
            go_loop [6] (fun i => ∃ j : Nat, k ≤ j ∧ j ≤ s.size ∧ i = .int .i64 (j : Int) ∧ reachN wordI (xsOf s) j = reachN wordI (xsOf s) k) (fun i => s.size - (intOf i).toNat)
            case atStart => exact ⟨k, Nat.le_refl _, hk, rfl, rfl⟩
            case round =>
              have HIX := hide hidx
              clear hidx b1 b2
              obtain ⟨j, hkj, hj, rfl, hr⟩ := hrel
              have HR := hide hr
              clear hr
              by_cases hjl : j < s.size
              · have HCJ := hide (HX.out j hjl)
                obtain ⟨d, hd⟩ : ∃ d, d = ((s[j].toNat : Nat) : Int) := ⟨_, rfl⟩
                rw [← hd] at HCJ
                have hidx2 : ∀ h : j < s.size, (((s[j]'h).toNat : Nat) : Int) = d := fun _ => hd.symm
                clear hd
                have GLE := hide (rLetter d)
                have GDI := hide (rDigit d)
                cases b5 : letterI d with
                | true =>
                  rw [b5] at GLE
                  clear GDI
                  go_wp2_with (first
                    | (go_at_call 19; refine (GLE.out _).mono ?_; rintro e w' ⟨rfl, hw'⟩; obtain rfl := hw'.symm))
                  go_round
                  case rel => exact ⟨j + 1, by omega, by omega, by go_num, (reachN_go (by rw [HL.out]; exact hjl) (by rw [HCJ.out]; unfold wordI; rw [b5]; rfl)).symm.trans HR.out⟩
                  case measure => simp [intOf]; omega
                | false =>
                  rw [b5] at GLE
                  cases b6 : digitI d with
                  | true =>
                    rw [b6] at GDI
                    go_wp2_with (first
                      | (go_at_call 19; refine (GLE.out _).mono ?_; rintro e w' ⟨rfl, hw'⟩; obtain rfl := hw'.symm)
                      | (go_at_call 20; refine (GDI.out _).mono ?_; rintro e w' ⟨rfl, hw'⟩; obtain rfl := hw'.symm))
                    go_round
                    case rel => exact ⟨j + 1, by omega, by omega, by go_num, (reachN_go (by rw [HL.out]; exact hjl) (by rw [HCJ.out]; unfold wordI; rw [b6, Bool.or_true])).symm.trans HR.out⟩
                    case measure => simp [intOf]; omega
                  | false =>
                    rw [b6] at GDI
                    have HE : Hid (reachN wordI (xsOf s) k = j) := HR.out.symm.trans (reachN_stop (fun h => by rw [HCJ.out] at h; unfold wordI at h; rw [b5, b6] at h; exact absurd h.2 (by simp)))
                    have hkj' : k < j := by rw [← HE.out]; exact HGT.out
                    clear b5 b6
                    obtain ⟨tv, htv⟩ : ∃ tv, s.extract k j = tv := ⟨_, rfl⟩
                    have htz : tv.size = j - k := by rw [← htv]; exact extract_size (by omega) (by omega)
                    have h0t : 0 < tv.size := by omega
                    have hti : ∀ h : 0 < tv.size, (((tv[0]'h).toNat : Nat) : Int) = c := by rw [← htv]; intro h; rw [extract_first hlt h]; exact HIX.out hlt
                    have HTZ := hide htz
                    have hsl := run_cut s k j (by omega) (by omega)
                    rw [htv] at hsl
                    clear htz
                    go_wp2_with (first
                      | (go_at_call 19; refine (GLE.out _).mono ?_; rintro e w' ⟨rfl, hw'⟩; obtain rfl := hw'.symm)
                      | (go_at_call 20; refine (GDI.out _).mono ?_; rintro e w' ⟨rfl, hw'⟩; obtain rfl := hw'.symm)
                      | (go_at_call 20; refine (HDI.out _).mono ?_; rintro e w' ⟨rfl, hw'⟩; obtain rfl := hw'.symm)
                      | (at_builtin; refine wpList_append_own _ rfl (.tmp 90) (.tmp 94) 31 rfl (w.heap.size + 1) 34 i0 _ 2 24 Tryz.underlying31 HI.out HI0.out HI1.out HI2.out rfl (by decide) _ _ _ rfl (HO.out.alloc _) ⟨wr.heap.size, 0, none⟩ 1 1 [.string tv, .int .i64 (k : Int)] rfl rfl ?c1 ?c2 ?c3 ?c4 ?c5 ?_))
                    case c1 =>
                      intro j u hj
                      match j, hj with
                      | 0, hj => simp at hj; subst hj; simp [Addr.add]
                      | 1, hj => simp at hj; subst hj; simp [Addr.add]
                    case c2 => intro u hu; simp at hu; rcases hu with rfl | rfl <;> rfl
                    case c3 => have := HTL.out; have := HS.out; unfold maxLen; omega
                    case c4 => have := HTL.out; have := HS.out; omega
                    case c5 => have := HZ.out; simp; omega
                    intro v' w2 hown' hgrow _
                    have HREL := hide (rel_tok (E := j) hlt HTL.out HSC.out HO.out HA.out HB.out (by rw [HPR.out]) (by rw [HPR.out]) (by rw [HPR.out]; exact HE.out) (by rw [htv]; exact hown') hgrow)
                    clear hown' hgrow
                    go_wp2
                    go_roundw
                    case rel => exact HREL.out
                    case measure => simp [intOf]; omega

              · have HE : Hid (reachN wordI (xsOf s) k = j) := HR.out.symm.trans (reachN_stop (fun h => by rw [HL.out] at h; omega))
                have hkj' : k < j := by rw [← HE.out]; exact HGT.out
                obtain ⟨tv, htv⟩ : ∃ tv, s.extract k j = tv := ⟨_, rfl⟩
                have htz : tv.size = j - k := by rw [← htv]; exact extract_size (by omega) (by omega)
                have h0t : 0 < tv.size := by omega
                have hti : ∀ h : 0 < tv.size, (((tv[0]'h).toNat : Nat) : Int) = c := by rw [← htv]; intro h; rw [extract_first hlt h]; exact HIX.out hlt
                have HTZ := hide htz
                have hsl := run_cut s k j (by omega) (by omega)
                rw [htv] at hsl
                clear htz
                go_wp2_with (first
                  | (go_at_call 20; refine (HDI.out _).mono ?_; rintro e w' ⟨rfl, hw'⟩; obtain rfl := hw'.symm)
                  | (at_builtin; refine wpList_append_own _ rfl (.tmp 90) (.tmp 94) 31 rfl (w.heap.size + 1) 34 i0 _ 2 24 Tryz.underlying31 HI.out HI0.out HI1.out HI2.out rfl (by decide) _ _ _ rfl (HO.out.alloc _) ⟨wr.heap.size, 0, none⟩ 1 1 [.string tv, .int .i64 (k : Int)] rfl rfl ?c1 ?c2 ?c3 ?c4 ?c5 ?_))
                case c1 =>
                  intro j u hj
                  match j, hj with
                  | 0, hj => simp at hj; subst hj; simp [Addr.add]
                  | 1, hj => simp at hj; subst hj; simp [Addr.add]
                case c2 => intro u hu; simp at hu; rcases hu with rfl | rfl <;> rfl
                case c3 => have := HTL.out; have := HS.out; unfold maxLen; omega
                case c4 => have := HTL.out; have := HS.out; omega
                case c5 => have := HZ.out; simp; omega
                intro v' w2 hown' hgrow _
                have HREL := hide (rel_tok (E := j) hlt HTL.out HSC.out HO.out HA.out HB.out (by rw [HPR.out]) (by rw [HPR.out]) (by rw [HPR.out]; exact HE.out) (by rw [htv]; exact hown') hgrow)
                clear hown' hgrow
                go_wp2
                go_roundw
                case rel => exact HREL.out
                case measure => simp [intOf]; omega

          | false =>
            rw [b3] at HLE
            cases b4 : digitI c with
            | true =>
              rw [b4] at HDI
              have HPR : Hid (pieceR (xsOf s) k = (wrongI (wordAt (xsOf s) k), reachN wordI (xsOf s) k, true)) := by unfold Hid pieceR; rw [HC.out, b1, if_neg Bool.false_ne_true, b2, if_neg Bool.false_ne_true, b3, if_neg Bool.false_ne_true, if_pos b4]
              have HGT := hide (reachN_gt (p := wordI) (xs := xsOf s) (k := k) (by rw [HL.out]; exact hlt) (by rw [HC.out]; unfold wordI; rw [b4, Bool.or_true]))
              clear b3 b4
              go_wp2_with (first
                | (go_at_call 18; refine (H1.out _).mono ?_; rintro e w' ⟨rfl, hw'⟩; obtain rfl := hw'.symm)
                | (go_at_call 19; refine (HLE.out _).mono ?_; rintro e w' ⟨rfl, hw'⟩; obtain rfl := hw'.symm)
                | (go_at_call 20; refine (HDI.out _).mono ?_; rintro e w' ⟨rfl, hw'⟩; obtain rfl := hw'.symm))
              go_loop [6] (fun i => ∃ j : Nat, k ≤ j ∧ j ≤ s.size ∧ i = .int .i64 (j : Int) ∧ reachN wordI (xsOf s) j = reachN wordI (xsOf s) k) (fun i => s.size - (intOf i).toNat)
              case atStart => exact ⟨k, Nat.le_refl _, hk, rfl, rfl⟩
              case round =>
                have HIX := hide hidx
                clear hidx b1 b2
                obtain ⟨j, hkj, hj, rfl, hr⟩ := hrel
                have HR := hide hr
                clear hr
                by_cases hjl : j < s.size
                · have HCJ := hide (HX.out j hjl)
                  obtain ⟨d, hd⟩ : ∃ d, d = ((s[j].toNat : Nat) : Int) := ⟨_, rfl⟩
                  rw [← hd] at HCJ
                  have hidx2 : ∀ h : j < s.size, (((s[j]'h).toNat : Nat) : Int) = d := fun _ => hd.symm
                  clear hd
                  have GLE := hide (rLetter d)
                  have GDI := hide (rDigit d)
                  cases b5 : letterI d with
                  | true =>
                    rw [b5] at GLE
                    clear GDI
                    go_wp2_with (first
                      | (go_at_call 19; refine (GLE.out _).mono ?_; rintro e w' ⟨rfl, hw'⟩; obtain rfl := hw'.symm))
                    go_round
                    case rel => exact ⟨j + 1, by omega, by omega, by go_num, (reachN_go (by rw [HL.out]; exact hjl) (by rw [HCJ.out]; unfold wordI; rw [b5]; rfl)).symm.trans HR.out⟩
                    case measure => simp [intOf]; omega
                  | false =>
                    rw [b5] at GLE
                    cases b6 : digitI d with
                    | true =>
                      rw [b6] at GDI
                      go_wp2_with (first
                        | (go_at_call 19; refine (GLE.out _).mono ?_; rintro e w' ⟨rfl, hw'⟩; obtain rfl := hw'.symm)
                        | (go_at_call 20; refine (GDI.out _).mono ?_; rintro e w' ⟨rfl, hw'⟩; obtain rfl := hw'.symm))
                      go_round
                      case rel => exact ⟨j + 1, by omega, by omega, by go_num, (reachN_go (by rw [HL.out]; exact hjl) (by rw [HCJ.out]; unfold wordI; rw [b6, Bool.or_true])).symm.trans HR.out⟩
                      case measure => simp [intOf]; omega
                    | false =>
                      rw [b6] at GDI
                      have HE : Hid (reachN wordI (xsOf s) k = j) := HR.out.symm.trans (reachN_stop (fun h => by rw [HCJ.out] at h; unfold wordI at h; rw [b5, b6] at h; exact absurd h.2 (by simp)))
                      have hkj' : k < j := by rw [← HE.out]; exact HGT.out
                      clear b5 b6
                      obtain ⟨tv, htv⟩ : ∃ tv, s.extract k j = tv := ⟨_, rfl⟩
                      have htz : tv.size = j - k := by rw [← htv]; exact extract_size (by omega) (by omega)
                      have h0t : 0 < tv.size := by omega
                      have hti : ∀ h : 0 < tv.size, (((tv[0]'h).toNat : Nat) : Int) = c := by rw [← htv]; intro h; rw [extract_first hlt h]; exact HIX.out hlt
                      have HWD : Hid (wordAt (xsOf s) k = xsOf tv) := by rw [← htv, extract_xs]; unfold Hid wordAt part; rw [HE.out]
                      have HTZ := hide htz
                      have hsl := run_cut s k j (by omega) (by omega)
                      rw [htv] at hsl
                      have HWR := hide (wrong_num (xs := xsOf tv) (by rw [xsOf_length]; omega))
                      have HNU := hide (rNumeral tv wr h0t (by omega))
                      have HTL2 := hide (show tv.size ≤ 9223372036854775807 by omega)
                      rw [HWD.out] at HPR
                      clear htz
                      cases bn : numeralB (xsOf tv) with
                      | false =>
                        rw [bn] at HNU
                        have HT7 : Hid (wrongI (xsOf tv) = 7) := by unfold Hid; rw [HWR.out, bn, if_neg Bool.false_ne_true]
                        rw [HT7.out] at HPR
                        obtain ⟨⟨u0, u1⟩, _⟩ := (HA.out.put (.int .i64 7) (.int .i64 (k : Int))).cells
                        have HXB := hide (rel_bad (w := w) (T := 7) HS.out hlt HSC.out (by rw [HPR.out]) (by decide) rfl (HB.out.trans ((TwoAt.out (w := wr) (b := w.heap.size) (.int .i64 7) (.int .i64 (k : Int))).under (Nat.le_refl _) HB.out.size)))
                        go_wp2_with (first
                          | (go_at_call 19; refine (GLE.out _).mono ?_; rintro e w' ⟨rfl, hw'⟩; obtain rfl := hw'.symm)
                          | (go_at_call 20; refine (GDI.out _).mono ?_; rintro e w' ⟨rfl, hw'⟩; obtain rfl := hw'.symm)
                          | (go_at_call 20; refine (HDI.out _).mono ?_; rintro e w' ⟨rfl, hw'⟩; obtain rfl := hw'.symm)
                          | (go_at_call 21; refine HNU.out.mono ?_; rintro e w' ⟨rfl, hw'⟩; obtain rfl := hw'.symm))
                        refine bodyPost_ret ?_ rfl HXB.out
                        simp [results, Tryz.results11, go_sem, u0, u1]
                      | true =>
                        rw [bn] at HNU
                        have HAL : Hid ((xsOf tv).all digitI = true) := by unfold numeralB at bn; rw [Bool.and_eq_true] at bn; exact bn.1
                        have HVA := hide (rValue tv wr HTL2.out HAL.out)
                        cases bv : valB (xsOf tv) with
                        | false =>
                          rw [bv] at HVA
                          have HT4 : Hid (wrongI (xsOf tv) = 4) := by unfold Hid; rw [HWR.out, bn, if_pos rfl, bv, if_neg Bool.false_ne_true]
                          rw [HT4.out] at HPR
                          obtain ⟨⟨u0, u1⟩, _⟩ := (HA.out.put (.int .i64 4) (.int .i64 (k : Int))).cells
                          have HXB := hide (rel_bad (w := w) (T := 4) HS.out hlt HSC.out (by rw [HPR.out]) (by decide) rfl (HB.out.trans ((TwoAt.out (w := wr) (b := w.heap.size) (.int .i64 4) (.int .i64 (k : Int))).under (Nat.le_refl _) HB.out.size)))
                          go_wp2_with (first
                            | (go_at_call 19; refine (GLE.out _).mono ?_; rintro e w' ⟨rfl, hw'⟩; obtain rfl := hw'.symm)
                            | (go_at_call 20; refine (GDI.out _).mono ?_; rintro e w' ⟨rfl, hw'⟩; obtain rfl := hw'.symm)
                            | (go_at_call 20; refine (HDI.out _).mono ?_; rintro e w' ⟨rfl, hw'⟩; obtain rfl := hw'.symm)
                            | (go_at_call 21; refine HNU.out.mono ?_; rintro e w' ⟨rfl, hw'⟩; obtain rfl := hw'.symm)
                            | (go_at_call 22; refine HVA.out.mono ?_; rintro e w' ⟨rfl, hw'⟩; obtain rfl := hw'.symm))
                          refine bodyPost_ret ?_ rfl HXB.out
                          simp [results, Tryz.results11, go_sem, u0, u1]
                        | true =>
                          rw [bv] at HVA
                          have HT0 : Hid (wrongI (xsOf tv) = 0) := by unfold Hid; rw [HWR.out, bn, if_pos rfl, bv, if_pos rfl]
                          rw [HT0.out] at HPR
                          go_wp2_with (first
                            | (go_at_call 19; refine (GLE.out _).mono ?_; rintro e w' ⟨rfl, hw'⟩; obtain rfl := hw'.symm)
                            | (go_at_call 20; refine (GDI.out _).mono ?_; rintro e w' ⟨rfl, hw'⟩; obtain rfl := hw'.symm)
                            | (go_at_call 20; refine (HDI.out _).mono ?_; rintro e w' ⟨rfl, hw'⟩; obtain rfl := hw'.symm)
                            | (go_at_call 21; refine HNU.out.mono ?_; rintro e w' ⟨rfl, hw'⟩; obtain rfl := hw'.symm)
                            | (go_at_call 22; refine HVA.out.mono ?_; rintro e w' ⟨rfl, hw'⟩; obtain rfl := hw'.symm)
                            | (at_builtin; refine wpList_append_own _ rfl (.tmp 90) (.tmp 94) 31 rfl (w.heap.size + 1) 34 i0 _ 2 24 Tryz.underlying31 HI.out HI0.out HI1.out HI2.out rfl (by decide) _ _ _ rfl (HO.out.alloc _) ⟨wr.heap.size, 0, none⟩ 1 1 [.string tv, .int .i64 (k : Int)] rfl rfl ?c1 ?c2 ?c3 ?c4 ?c5 ?_))
                          case c1 =>
                            intro j u hj
                            match j, hj with
                            | 0, hj => simp at hj; subst hj; simp [Addr.add]
                            | 1, hj => simp at hj; subst hj; simp [Addr.add]
                          case c2 => intro u hu; simp at hu; rcases hu with rfl | rfl <;> rfl
                          case c3 => have := HTL.out; have := HS.out; unfold maxLen; omega
                          case c4 => have := HTL.out; have := HS.out; omega
                          case c5 => have := HZ.out; simp; omega
                          intro v' w2 hown' hgrow _
                          have HREL := hide (rel_tok (E := j) hlt HTL.out HSC.out HO.out HA.out HB.out (by rw [HPR.out]) (by rw [HPR.out]) (by rw [HPR.out]; exact HE.out) (by rw [htv]; exact hown') hgrow)
                          clear hown' hgrow
                          go_wp2
                          go_roundw
                          case rel => exact HREL.out
                          case measure => simp [intOf]; omega

                · have HE : Hid (reachN wordI (xsOf s) k = j) := HR.out.symm.trans (reachN_stop (fun h => by rw [HL.out] at h; omega))
                  have hkj' : k < j := by rw [← HE.out]; exact HGT.out
                  obtain ⟨tv, htv⟩ : ∃ tv, s.extract k j = tv := ⟨_, rfl⟩
                  have htz : tv.size = j - k := by rw [← htv]; exact extract_size (by omega) (by omega)
                  have h0t : 0 < tv.size := by omega
                  have hti : ∀ h : 0 < tv.size, (((tv[0]'h).toNat : Nat) : Int) = c := by rw [← htv]; intro h; rw [extract_first hlt h]; exact HIX.out hlt
                  have HWD : Hid (wordAt (xsOf s) k = xsOf tv) := by rw [← htv, extract_xs]; unfold Hid wordAt part; rw [HE.out]
                  have HTZ := hide htz
                  have hsl := run_cut s k j (by omega) (by omega)
                  rw [htv] at hsl
                  have HWR := hide (wrong_num (xs := xsOf tv) (by rw [xsOf_length]; omega))
                  have HNU := hide (rNumeral tv wr h0t (by omega))
                  have HTL2 := hide (show tv.size ≤ 9223372036854775807 by omega)
                  rw [HWD.out] at HPR
                  clear htz
                  cases bn : numeralB (xsOf tv) with
                  | false =>
                    rw [bn] at HNU
                    have HT7 : Hid (wrongI (xsOf tv) = 7) := by unfold Hid; rw [HWR.out, bn, if_neg Bool.false_ne_true]
                    rw [HT7.out] at HPR
                    obtain ⟨⟨u0, u1⟩, _⟩ := (HA.out.put (.int .i64 7) (.int .i64 (k : Int))).cells
                    have HXB := hide (rel_bad (w := w) (T := 7) HS.out hlt HSC.out (by rw [HPR.out]) (by decide) rfl (HB.out.trans ((TwoAt.out (w := wr) (b := w.heap.size) (.int .i64 7) (.int .i64 (k : Int))).under (Nat.le_refl _) HB.out.size)))
                    go_wp2_with (first
                      | (go_at_call 20; refine (HDI.out _).mono ?_; rintro e w' ⟨rfl, hw'⟩; obtain rfl := hw'.symm)
                      | (go_at_call 21; refine HNU.out.mono ?_; rintro e w' ⟨rfl, hw'⟩; obtain rfl := hw'.symm))
                    refine bodyPost_ret ?_ rfl HXB.out
                    simp [results, Tryz.results11, go_sem, u0, u1]
                  | true =>
                    rw [bn] at HNU
                    have HAL : Hid ((xsOf tv).all digitI = true) := by unfold numeralB at bn; rw [Bool.and_eq_true] at bn; exact bn.1
                    have HVA := hide (rValue tv wr HTL2.out HAL.out)
                    cases bv : valB (xsOf tv) with
                    | false =>
                      rw [bv] at HVA
                      have HT4 : Hid (wrongI (xsOf tv) = 4) := by unfold Hid; rw [HWR.out, bn, if_pos rfl, bv, if_neg Bool.false_ne_true]
                      rw [HT4.out] at HPR
                      obtain ⟨⟨u0, u1⟩, _⟩ := (HA.out.put (.int .i64 4) (.int .i64 (k : Int))).cells
                      have HXB := hide (rel_bad (w := w) (T := 4) HS.out hlt HSC.out (by rw [HPR.out]) (by decide) rfl (HB.out.trans ((TwoAt.out (w := wr) (b := w.heap.size) (.int .i64 4) (.int .i64 (k : Int))).under (Nat.le_refl _) HB.out.size)))
                      go_wp2_with (first
                        | (go_at_call 20; refine (HDI.out _).mono ?_; rintro e w' ⟨rfl, hw'⟩; obtain rfl := hw'.symm)
                        | (go_at_call 21; refine HNU.out.mono ?_; rintro e w' ⟨rfl, hw'⟩; obtain rfl := hw'.symm)
                        | (go_at_call 22; refine HVA.out.mono ?_; rintro e w' ⟨rfl, hw'⟩; obtain rfl := hw'.symm))
                      refine bodyPost_ret ?_ rfl HXB.out
                      simp [results, Tryz.results11, go_sem, u0, u1]
                    | true =>
                      rw [bv] at HVA
                      have HT0 : Hid (wrongI (xsOf tv) = 0) := by unfold Hid; rw [HWR.out, bn, if_pos rfl, bv, if_pos rfl]
                      rw [HT0.out] at HPR
                      go_wp2_with (first
                        | (go_at_call 20; refine (HDI.out _).mono ?_; rintro e w' ⟨rfl, hw'⟩; obtain rfl := hw'.symm)
                        | (go_at_call 21; refine HNU.out.mono ?_; rintro e w' ⟨rfl, hw'⟩; obtain rfl := hw'.symm)
                        | (go_at_call 22; refine HVA.out.mono ?_; rintro e w' ⟨rfl, hw'⟩; obtain rfl := hw'.symm)
                        | (at_builtin; refine wpList_append_own _ rfl (.tmp 90) (.tmp 94) 31 rfl (w.heap.size + 1) 34 i0 _ 2 24 Tryz.underlying31 HI.out HI0.out HI1.out HI2.out rfl (by decide) _ _ _ rfl (HO.out.alloc _) ⟨wr.heap.size, 0, none⟩ 1 1 [.string tv, .int .i64 (k : Int)] rfl rfl ?c1 ?c2 ?c3 ?c4 ?c5 ?_))
                      case c1 =>
                        intro j u hj
                        match j, hj with
                        | 0, hj => simp at hj; subst hj; simp [Addr.add]
                        | 1, hj => simp at hj; subst hj; simp [Addr.add]
                      case c2 => intro u hu; simp at hu; rcases hu with rfl | rfl <;> rfl
                      case c3 => have := HTL.out; have := HS.out; unfold maxLen; omega
                      case c4 => have := HTL.out; have := HS.out; omega
                      case c5 => have := HZ.out; simp; omega
                      intro v' w2 hown' hgrow _
                      have HREL := hide (rel_tok (E := j) hlt HTL.out HSC.out HO.out HA.out HB.out (by rw [HPR.out]) (by rw [HPR.out]) (by rw [HPR.out]; exact HE.out) (by rw [htv]; exact hown') hgrow)
                      clear hown' hgrow
                      go_wp2
                      go_roundw
                      case rel => exact HREL.out
                      case measure => simp [intOf]; omega

            | false =>
              rw [b4] at HDI
              cases b5 : markI c with
              | true =>
                rw [b5] at HSG
                have HPR : Hid (pieceR (xsOf s) k = (0, k + 1, true)) := by unfold Hid pieceR; rw [HC.out, b1, if_neg Bool.false_ne_true, b2, if_neg Bool.false_ne_true, b3, if_neg Bool.false_ne_true, b4, if_neg Bool.false_ne_true, if_pos b5]
                clear b3 b4 b5
                have hsl := run_cut1 s k hlt
                go_wp2_with (first
                  | (go_at_call 18; refine (H1.out _).mono ?_; rintro e w' ⟨rfl, hw'⟩; obtain rfl := hw'.symm)
                  | (go_at_call 19; refine (HLE.out _).mono ?_; rintro e w' ⟨rfl, hw'⟩; obtain rfl := hw'.symm)
                  | (go_at_call 20; refine (HDI.out _).mono ?_; rintro e w' ⟨rfl, hw'⟩; obtain rfl := hw'.symm)
                  | (go_at_call 23; refine (HSG.out _).mono ?_; rintro e w' ⟨rfl, hw'⟩; obtain rfl := hw'.symm)
                  | (at_builtin; refine wpList_append_own _ rfl (.tmp 101) (.tmp 109) 31 rfl (w.heap.size + 1) 34 i0 _ 2 24 Tryz.underlying31 HI.out HI0.out HI1.out HI2.out rfl (by decide) _ _ _ rfl (HO.out.alloc _) ⟨wr.heap.size, 0, none⟩ 1 1 [.string (s.extract k (k + 1)), .int .i64 (k : Int)] rfl rfl ?c1 ?c2 ?c3 ?c4 ?c5 ?_))
                case c1 =>
                  intro j u hj
                  match j, hj with
                  | 0, hj => simp at hj; subst hj; simp [Addr.add]
                  | 1, hj => simp at hj; subst hj; simp [Addr.add]
                case c2 => intro u hu; simp at hu; rcases hu with rfl | rfl <;> rfl
                case c3 => have := HTL.out; have := HS.out; unfold maxLen; omega
                case c4 => have := HTL.out; have := HS.out; omega
                case c5 => have := HZ.out; simp; omega
                intro v' w2 hown' hgrow _
                have HREL := hide (rel_tok (E := k + 1) hlt HTL.out HSC.out HO.out HA.out HB.out (by rw [HPR.out]) (by rw [HPR.out]) (by rw [HPR.out]) hown' hgrow)
                clear hown' hgrow
                go_wp2
                go_roundw
                case rel => exact HREL.out
                case measure => simp [intOf]; omega
              | false =>
                rw [b5] at HSG
                have HPR : Hid (pieceR (xsOf s) k = (7, k + 1, false)) := by unfold Hid pieceR; rw [HC.out, b1, if_neg Bool.false_ne_true, b2, if_neg Bool.false_ne_true, b3, if_neg Bool.false_ne_true, b4, if_neg Bool.false_ne_true, b5, if_neg Bool.false_ne_true]
                clear b3 b4 b5
                obtain ⟨⟨u0, u1⟩, _⟩ := (HA.out.put (.int .i64 7) (.int .i64 (k : Int))).cells
                have HXB := hide (rel_bad (w := w) (T := 7) HS.out hlt HSC.out (by rw [HPR.out]) (by decide) rfl (HB.out.trans ((TwoAt.out (w := wr) (b := w.heap.size) (.int .i64 7) (.int .i64 (k : Int))).under (Nat.le_refl _) HB.out.size)))
                go_wp2_with (first
                  | (go_at_call 18; refine (H1.out _).mono ?_; rintro e w' ⟨rfl, hw'⟩; obtain rfl := hw'.symm)
                  | (go_at_call 19; refine (HLE.out _).mono ?_; rintro e w' ⟨rfl, hw'⟩; obtain rfl := hw'.symm)
                  | (go_at_call 20; refine (HDI.out _).mono ?_; rintro e w' ⟨rfl, hw'⟩; obtain rfl := hw'.symm)
                  | (go_at_call 23; refine (HSG.out _).mono ?_; rintro e w' ⟨rfl, hw'⟩; obtain rfl := hw'.symm))
                refine bodyPost_ret ?_ rfl HXB.out
                simp [results, Tryz.results11, go_sem, u0, u1]
    · have HXE := hide (rel_end (w := w) HS.out hlt HSC.out HO.out HB.out rfl (TwoAt.out (b := w.heap.size) (.int .i64 0) (.int .i64 0)))
      obtain ⟨⟨u0, u1⟩, _⟩ := (HA.out.put (.int .i64 0) (.int .i64 0)).cells
      go_wp2
      refine bodyPost_ret ?_ rfl HXE.out
      simp [results, Tryz.results11, go_sem, u0, u1]
end Go.Proofs.YtadhlnlcdljamaaGreatDoor.V
