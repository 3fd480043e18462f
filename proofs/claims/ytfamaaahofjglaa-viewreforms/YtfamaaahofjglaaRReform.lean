/-
  Contract: adjointref1.Reform, where the numbers fit.
-/
import Derived.Test.YtfamaaahofjglaaRLies
import Derived.Test.YtfamaaahofjglaaRFlipAny
import Derived.Test.YtfamaaahofjglaaBut
namespace Go.Proofs.Ytfamaaahofjglaa.V
open Go.RowKit

set_option maxRecDepth 100000 in
set_option maxHeartbeats 8000000 in
theorem rreform_ok (s : Int) (da : Option Addr) (dl dc : Nat) (ds : List Int) (sa : Option Addr) (sl sc : Nat) (ss : List Int) (ea : Option Addr) (el ec : Nat) (es : List Int) (w : World) (hd : Ints w da dl ds) (hs : Ints w sa sl ss) (he : Ints w ea el es) (hec : el ≤ ec)
    (hW : wrongE s ds ss = 0) (hE : sizeE es = 0) (hN : sizeN es = prod ds) (hpos : ∀ x ∈ es, 1 ≤ x) :
    Calls Try.prog 26 #[.agg #[.int .i64 s, .slice da dl dc, .slice sa sl sc], .slice ea el ec] w fun e w' => GivesF w ea e w' (okS (reformE s ds ss es) s) (okL (reformE s ds ss es) es) (okL (reformE s ds ss es) (reformSteps (readsV s ds ss) es)) (reformE s ds ss es) ∧ Below w.heap.size w w' := by
  have hp1 := prod_pos es hpos
  obtain ⟨z1, z2, z3, _⟩ := sizeE_ok hE
  obtain ⟨hp2, hn⟩ := z3 hpos
  have hpe : prod es = prod ds := by omega
  have hRE : reformE s ds ss es = if allEvenB (readsV s ds ss) es = true then (if beyondB s (reformSteps (readsV s ds ss) es) = true then 5 else 0) else 9 := by
    unfold reformE
    rw [if_neg (by simp [hW]), if_neg (by simp [hE]), if_neg (by simp [hN]), if_neg (by omega)]
  have hsm := small_of hW
  have hsE := (wrongE_ok hW).1
  have hcs := dims_cases hsE
  have hdpos : (∀ x ∈ ds, 1 ≤ x) ∧ sizeN ds = prod ds := by
    rcases hcs with ⟨_, _, h⟩ | ⟨h, h', _⟩
    · omega
    · exact ⟨h, h'⟩
  obtain ⟨L, hL⟩ : ∃ L, readsV s ds ss = L := ⟨_, rfl⟩
  have hLl : L.length = (prod es).toNat := by rw [← hL, readsV_length, hpe]
  have hLb : ∀ x ∈ L, -28115000000000000 ≤ x ∧ x ≤ 28115000000000000 := by rw [← hL]; exact readsV_bd hsm hdpos.1
  have hL0 : L[0]?.getD 0 = s := by rw [← hL, readsV_getD s ds ss 0 (by omega)]; simp [lieN_zero]
  rw [hL] at hRE ⊢
  obtain ⟨E, hEE⟩ : ∃ E, reformE s ds ss es = E := ⟨_, rfl⟩
  rw [hEE] at hRE ⊢
  have HRE := hide hRE
  have HTEST := hide (reform_test hpos hLl (by omega) hL0 hLb)
  obtain ⟨N, hNn⟩ : ∃ N : Nat, prod es = (N : Int) := ⟨(prod es).toNat, by omega⟩
  have hN1 : 1 ≤ N := by omega
  have hN2 : N ≤ 65536 := by omega
  have hLN : L.length = N := by omega
  have HSN : Hid (sizeN es = (N : Int)) := by rw [Hid, hn, hNn]
  have HSD : Hid (sizeN ds = (N : Int)) := by rw [Hid, hdpos.2, ← hpe, hNn]
  have HD := hide hd
  have HS := hide hs
  have HE := hide he
  have HL := hide hL
  have HW := hide hW
  have HZE := hide hE
  have HLN := hide hLN
  have HLB := hide hLb
  have HPN := hide hNn
  have HPOS := hide hpos
  have HZ2 := hide z2
  have HEL := hide he.1
  have hel : el ≤ 6 := by have := he.1; omega
  have hne : ((N : Int) == 0) = false := by simp; omega
  clear hd hs he hW hE hN hpos hp1 z1 z2 z3 hp2 hn hpe hRE hEE hsm hcs hdpos hL hLl hLb hNn hLN hL0 hsE
  have hmk := run_make_row' (P := Try.prog) 22 3 (.int .i64 0) 8 Try.underlying22 info_int rfl .i64 .i64 el (by omega) (by omega)
  have hb2 : Below w.heap.size w ((w.alloc (.cells #[.int .i64 s, .slice da dl dc, .slice sa sl sc] 24)).alloc (.cells #[.int .i64 0, .slice none 0 0, .slice none 0 0] 24)) := ((Below.refl _ _).alloc (Nat.le_refl _) _).alloc (by simp) _
  have HB2 := hide hb2
  clear hb2
  go_enter Try.func26, Try.ntmps26
  go_wp2_with (first
    | (go_at_call 13; refine (rwrong_any _ _ _ _ ds _ _ _ ss _ (HD.out.below HB2.out) (HS.out.below HB2.out)).mono ?_; rintro e w1 ⟨rfl, hb⟩; rw [HW.out]; have HB := hide (Below.on HB2.out hb); have HV1 := hide (((ViewAt.new w (.int .i64 s) (.slice da dl dc) (.slice sa sl sc)).alloc (.cells #[.int .i64 0, .slice none 0 0, .slice none 0 0] 24)).below hb); have HR1 := hide ((ViewAt.new (w.alloc (.cells #[.int .i64 s, .slice da dl dc, .slice sa sl sc] 24)) (.int .i64 0) (.slice none 0 0) (.slice none 0 0)).below hb); obtain ⟨⟨v0, v1, v2⟩, _⟩ := HV1.out.cells; have l0 := HV1.out.lt; have l1 := HR1.out.lt; clear hb)
    | (go_at_call_of 32 (Value.slice ea el ec); refine (rsize_any _ _ _ es _ (HE.out.below HB.out)).mono ?_; rintro e w' ⟨rfl, hw'⟩; obtain rfl := hw'.symm; rw [HSN.out, HZE.out])
    | (go_at_call 32; refine (rsize_any _ _ _ ds _ (HD.out.below HB.out)).mono ?_; rintro e w' ⟨rfl, hw'⟩; obtain rfl := hw'.symm; rw [HSD.out]))
  simp only [World.size_alloc] at HR1 l1
  go_cut [11] (fun p wc => ∃ C g : Nat, p = .pointer (some ⟨C, 0, none⟩) ∧ (ViewAt wc w.heap.size (.int .i64 s) (.slice da dl dc) (.slice sa sl sc) ∧ ViewAt wc (w.heap.size + 1) (.int .i64 0) (.slice none 0 0) (.slice none 0 0) ∧ ViewAt wc C (.int .i64 s) (.slice ea el ec) (.slice (some ⟨g, 0, none⟩) el el)) ∧ wc.rowIs g 3 el (fun _ => .int .i64 0) ∧ (w.heap.size + 1 < C ∧ w.heap.size + 1 < g ∧ C ≠ g) ∧ Below w.heap.size w wc)
  case first =>
    go_region
    all_goals go_wp2
    all_goals go_meet
    · have hr := World.rowIs_made w1 (.int .i64 0) el 3
      refine ⟨w1.heap.size + 1, w1.heap.size, rfl, ⟨(HV1.out.alloc _).alloc _, (HR1.out.alloc _).alloc _, ?_⟩, ?_, ⟨by omega, by omega, by omega⟩, (bl_alloc (bl_alloc HB.out)).drew⟩
      · have := ViewAt.new (w1.alloc (.cells (madeCells #[.int .i64 0] el) 3)) (.int .i64 s) (.slice ea el ec) (.slice (some ⟨w1.heap.size, 0, none⟩) el el)
        rw [World.size_alloc] at this
        exact vw_drew this
      · exact (World.rowIs.alloc hr _).drew
    · have hr := World.rowIs_made (w1.alloc (.cells #[.int .i64 s, .slice ea el ec, .slice (some ⟨w1.heap.size + 1, 0, none⟩) el el] 24)) (.int .i64 0) el 3
      rw [World.size_alloc] at hr
      exact ⟨w1.heap.size, w1.heap.size + 1, rfl, ⟨(HV1.out.alloc _).alloc _, (HR1.out.alloc _).alloc _, vw_drew ((ViewAt.new w1 _ _ _).alloc _)⟩, hr.drew, ⟨by omega, by omega, by omega⟩, (bl_alloc (bl_alloc HB.out)).drew⟩
  case rest =>
    obtain ⟨C, g, rfl, ⟨hv, hr, ho⟩, hrow, ⟨b1, b2, b3⟩, hB⟩ := hcut
    obtain ⟨⟨v0', v1', v2'⟩, _⟩ := hv.cells
    have HV := hide hv
    have HR := hide hr
    have HO := hide ho
    have HROW := hide hrow
    have HBc := hide hB
    have lC := ho.lt
    have lg := hrow.lt
    clear hv hr ho hrow hB v0 v1 v2 HV1 HR1 HB hmk
    go_wp2_with (first
      | (go_at_call 15; refine (rreads_any _ _ _ _ ds _ _ _ ss _ (HD.out.below HBc.out) (HS.out.below HBc.out)).mono ?_; rintro e w2 ⟨⟨A, n1, c1, rfl, hi, hnc, hfar⟩, hb⟩; rw [HW.out] at hi ⊢; simp only [okL, if_true] at hi; rw [HL.out] at hi; obtain rfl : n1 = N := hi.1.symm.trans HLN.out; have HIA := hide hi; have HFA := hide hfar; have HV2 := hide (HV.out.below hb); have HR2 := hide (HR.out.below hb); have HO2 := hide (HO.out.below hb); have HROW2 := hide (World.rowIs.of_block HROW.out (hb.block _ HROW.out.lt)); have HB2' := hide (Below.on HBc.out hb); have s2 := hb.size; clear hb hi hfar)
      | (go_at_call 33; refine (rsteps_any _ _ _ es _ (HE.out.below HB2'.out) hec hel HZ2.out).mono ?_; rintro e w3 ⟨⟨g3, c3, rfl, hgc, hi3⟩, hb⟩; have HI3 := hide hi3; have HIA3 := hide (HIA.out.below hb); have HV3 := hide (HV2.out.below hb); have HR3 := hide (HR2.out.below hb); have HO3 := hide (HO2.out.below hb); have HROW3 := hide (World.rowIs.of_block HROW2.out (hb.block _ HROW2.out.lt)); have HB3 := hide (Below.on HB2'.out hb); have s3 := hb.size; clear hb hi3))
    have hAne : ∀ b o, A = some ⟨b, o, none⟩ → b ≠ g := fun b o e => by have := HFA.out b o e; omega
    have HAN := hide hAne
    clear hAne HV2 HR2 HO2 HROW2 HB2' HIA v0' v1' v2'
    go_loopw [61] (fun i wr => ∃ k : Nat, k ≤ el ∧ i = .int .i64 k ∧ wr.rowIs g 3 el (stepsF L es k) ∧ But g w3 wr ∧ Below w.heap.size w wr) (fun i _ => el - (intOf i).toNat)
    case atStart => exact ⟨0, Nat.zero_le _, rfl, World.rowIs.congr HROW3.out (fun j _ => by simp [stepsF]), But.refl _ _, HB3.out⟩
    case round =>
      obtain ⟨k, hk, rfl, hrow, hbut, hB⟩ := hrel
      have HRW := hide hrow
      have HBUT := hide hbut
      have HBW := hide hB
      clear hrow hbut hB
      by_cases hlt : k < el
      · have hkd : k < es.length := by rw [HEL.out]; exact hlt
        have hD1 := getD_pos HPOS.out hkd
        have hD2 := (HZ2.out _ (mem_getD es k hkd)).2
        have hB1 := beh_pos HPOS.out k
        obtain ⟨D, hDn⟩ : ∃ D : Nat, es[k]?.getD 0 = (D : Int) := ⟨(es[k]?.getD 0).toNat, by omega⟩
        obtain ⟨B, hBn⟩ : ∃ B : Nat, beh es k = (B : Int) := ⟨(beh es k).toNat, by omega⟩
        obtain ⟨eb, eo, rfl, heb, hec'⟩ := HE.out.at (by omega)
        obtain ⟨ab, ao, rfl, hab, hac⟩ := HIA3.out.at (by omega)
        have hi3 := HBUT.out.ints HI3.out (fun b o e => by cases e; have := hgc.2.1; omega)
        obtain ⟨sb, so, e3, hsb, hsc'⟩ := hi3.at (by omega)
        cases e3
        have ce : wr.cell? ⟨eb, eo + k, none⟩ = some (.int .i64 (D : Int)) := by rw [← hDn]; exact (HBW.out.cell (p := ⟨eb, eo + k, none⟩) heb).trans (hec' k hlt)
        have cs : wr.cell? ⟨g3, k, none⟩ = some (.int .i64 (B : Int)) := by
          have := hsc' k hlt
          rw [Nat.zero_add, stepsV_getD' es k hkd, stepV_pos HPOS.out, hBn] at this
          exact this
        have hag : ab ≠ g := HAN.out ab ao rfl
        have HDN := hide hDn
        have HBN := hide hBn
        have HAC := hide hac
        have i1 : (0 : Int) ≤ (k : Int) := Int.natCast_nonneg _
        have i2 : (k : Int) < (el : Int) := by omega
        by_cases hD : D = 1
        · have d1 : ¬ ((1 : Int) < (D : Int)) := by omega
          clear hDn hBn hec' hac hi3 hsc'
          go_wp2
          go_roundw
          case rel => exact ⟨k + 1, by omega, by go_num, HRW.out.congr (fun j _ => stepsF_one L es k j (by rw [HDN.out, Int.toNat_natCast, hD])), HBUT.out, HBW.out⟩
          case measure => simp [intOf]; omega
        · have d1 : (1 : Int) < (D : Int) := by omega
          have hBN : B < n1 := by
            have e := prod_drop es k hkd
            have h3 := (prod_drop_le es HPOS.out k).2
            have h4 : beh es k = prod (es.drop (k + 1)) := rfl
            rw [← h4, hBn, hDn, ← Int.natCast_mul] at e
            have h5 := HPN.out
            have : B * 1 < B * D := Nat.mul_lt_mul_of_pos_left (by omega) (by omega)
            rw [Nat.mul_comm B D] at this
            omega
          have cB : wr.cell? ⟨ab, ao + B, none⟩ = some (.int .i64 (L[B]?.getD 0)) := (World.cell?_of_block (w := w3) (HBUT.out.1 ab hag)).trans (hac B hBN)
          have c0 : wr.cell? ⟨ab, ao, none⟩ = some (.int .i64 (L[0]?.getD 0)) := by
            have h := hac 0 (by omega)
            rw [Nat.add_zero] at h
            exact (World.cell?_of_block (w := w3) (HBUT.out.1 ab hag)).trans h
          have bB := HLB.out _ (mem_getD L B (by rw [HLN.out]; exact hBN))
          have bL0 := HLB.out _ (mem_getD L 0 (by rw [HLN.out]; omega))
          obtain ⟨X, hX⟩ : ∃ X, L[B]?.getD 0 = X := ⟨_, rfl⟩
          obtain ⟨Y, hY⟩ : ∃ Y, L[0]?.getD 0 = Y := ⟨_, rfl⟩
          rw [hX] at cB bB
          rw [hY] at c0 bL0
          have HX := hide hX
          have HY := hide hY
          have w1' : IntKind.i64.wrap (X - Y) = X - Y := wrap_in _ (by omega) (by omega)
          obtain ⟨⟨o0, o1, o2⟩, _⟩ := (HBUT.out.view HO3.out b3).cells
          have q0 := HRW.out.cell hlt
          have r0 := HRW.out.frozen k
          have j1 : (0 : Int) ≤ (B : Int) := by omega
          have j2 : (B : Int) < (n1 : Int) := by omega
          have j3 : (0 : Int) < (n1 : Int) := by omega
          clear hDn hBn hec' hac hi3 hsc' hX hY
          go_wp2_with fail
          go_region
          go_wp2
          go_roundw
          case rel =>
            refine ⟨k + 1, by omega, by go_num, ?_, (HBUT.out.set k _).drew, (HBW.out.setCell (p := ⟨g, k, none⟩) (by simp; omega) _).drew⟩
            refine (HRW.out.set k _).drew.congr (fun j _ => ?_)
            have e : stepE L (es[k]?.getD 0).toNat (beh es k).toNat = X - Y := by
              rw [HDN.out, HBN.out, Int.toNat_natCast, Int.toNat_natCast, stepE, if_neg hD, HX.out, HY.out]
            rw [← e]
            exact stepsF_succ L es k j
          case measure => simp [intOf]; omega
      · obtain rfl : k = el := by omega
        have hst : Ints wr (some ⟨g, 0, none⟩) k (reformSteps L es) := by
          refine ints_of_rowI (HRW.out.congr (fun j hj => ?_)) (by rw [reformSteps_length]; exact HEL.out) (by omega) (reformSteps_bd HLB.out)
          rw [reformSteps_getD L es j (by rw [HEL.out]; exact hj)]
          unfold stepsF
          rw [if_pos hj]
        have HST := hide hst
        have HIA4 := hide (HBUT.out.ints HIA3.out HAN.out)
        have HO4 := hide (HBUT.out.view HO3.out b3)
        have HR4 := hide (HBUT.out.view HR3.out (by omega))
        have sz4 : C < wr.heap.size := HO4.out.lt
        clear hst HV3 HR3 HO3 HROW3 HB3 HIA3 HI3
        go_wp2_with (go_at_call 36; refine (rall_any _ _ _ es _ (HE.out.below HBW.out) HZE.out).mono ?_; rintro e w4 ⟨⟨LA, lc, rfl, hls⟩, hb⟩; have hNt : (prod es).toNat = n1 := (by have := HPN.out; omega); rw [hNt] at hls ⊢; have HLS := hide hls; clear hNt; have HST4 := hide (HST.out.below hb); have HIA5 := hide (HIA4.out.below hb); have HO5 := hide (HO4.out.below hb); have HR5 := hide (HR4.out.below hb); have HB5 := hide (Below.on HBW.out hb); have s4 := hb.size; clear hb hls)
        clear HRW HBUT HBW HST HIA4 HO4 HR4
        go_loopw [87] (fun i wr => ∃ k' : Nat, k' ≤ n1 ∧ i = .int .i64 k' ∧ (∀ j, j < k' → liesS s (reformSteps L es) (dig es j) k = L[j]?.getD 0) ∧ Below w4.heap.size w4 wr) (fun i _ => n1 - (intOf i).toNat)
        case atStart => exact ⟨0, Nat.zero_le _, rfl, fun j hj => by omega, Below.refl _ _⟩
        case round =>
          obtain ⟨q, hq, rfl, hall, hB⟩ := hrel
          have HALL := hide hall
          have HBW := hide hB
          clear hall hB
          by_cases hqlt : q < n1
          · rcases HLS.out with h0 | ⟨b, rfl, _, hcl⟩
            · omega
            obtain ⟨gk, ck, _, hck0, hik0⟩ := hcl q hqlt
            have hck := (HBW.out.cell (p := ⟨b, q, none⟩) (lt_of_cell hck0)).trans hck0
            have HIK := hide (hik0.below HBW.out)
            have HSTw := hide (HST4.out.below HBW.out)
            obtain ⟨⟨o0, o1, o2⟩, _⟩ := (HO5.out.below HBW.out).cells
            obtain ⟨ab, ao, rfl, hab, hac⟩ := (HIA5.out.below HBW.out).at (by omega)
            obtain ⟨X, hX⟩ : ∃ X, L[q]?.getD 0 = X := ⟨_, rfl⟩
            have cX := hac q hqlt
            rw [hX] at cX
            obtain ⟨Y, hY⟩ : ∃ Y, liesS s (reformSteps L es) (dig es q) k = Y := ⟨_, rfl⟩
            have HX := hide hX
            have HY := hide hY
            have i1 : (0 : Int) ≤ (q : Int) := Int.natCast_nonneg _
            have i2 : (q : Int) < (n1 : Int) := by omega
            obtain ⟨⟨r0, r1, r2⟩, f0, f1, f2⟩ := (HR5.out.below HBW.out).cells
            clear hcl hck0 hik0 hX hY hac
            by_cases heq : Y = X
            · have e1 : (Y != X) = false := by simp [heq]
              have HEQ := hide heq
              clear heq
              go_wp2_with fail
              go_region_with (go_at_call 37; refine (rlies_any s (.slice ea k ec) (some ⟨g, 0, none⟩) k k (reformSteps L es) _ _ _ (dig es q) _ (HSTw.out.below (Below.refl _ _).drew) (HIK.out.below (Below.refl _ _).drew) (Nat.le_refl _) ea k ec rfl).mono ?_; rintro e w5 ⟨rfl, hb⟩; rw [HY.out]; have HB6 := hide ((Below.refl _ wr).drew.trans hb); have c5 := (hb.cell (p := ⟨ab, ao + q, none⟩) hab).trans cX; clear hb)
              all_goals go_wp2
              all_goals go_roundw
              all_goals first
                | (refine ⟨q + 1, by omega, by go_num, fun j hj => ?_, Below.on HBW.out HB6.out⟩
                   by_cases hj' : j < q
                   · exact HALL.out j hj'
                   · obtain rfl : j = q := by omega
                     exact HY.out.trans (HEQ.out.trans HX.out.symm))
                | (simp [intOf]; omega)
            · have e1 : (Y != X) = true := by simp [heq]
              have HEQ := hide heq
              clear heq
              go_wp2_with fail
              go_region_with (go_at_call 37; refine (rlies_any s (.slice ea k ec) (some ⟨g, 0, none⟩) k k (reformSteps L es) _ _ _ (dig es q) _ (HSTw.out.below (Below.refl _ _).drew) (HIK.out.below (Below.refl _ _).drew) (Nat.le_refl _) ea k ec rfl).mono ?_; rintro e w5 ⟨rfl, hb⟩; rw [HY.out]; have HB6 := hide ((Below.refl _ wr).drew.trans hb); have c5 := (hb.cell (p := ⟨ab, ao + q, none⟩) hab).trans cX; have HR6 := hide ((HR5.out.below HBW.out).below ((Below.refl _ wr).drew.trans hb)); obtain ⟨⟨t0, t1, t2⟩, h0', h1', h2'⟩ := HR6.out.cells; clear hb)
              all_goals go_wp2
              all_goals
                have hnev : allEvenB L es = false := by
                  cases hc : allEvenB L es with
                  | false => rfl
                  | true =>
                    have := (HTEST.out.1 hc) q (by rw [HLN.out]; exact hqlt)
                    rw [HEL.out, HY.out, HX.out] at this
                    exact absurd this HEQ.out
                have hEv : E = 9 := by have := HRE.out; rw [hnev] at this; simpa using this
                subst hEv
                have q1 := view_put' (x := .int .i64 0) (y := .slice none 0 0) (z := .slice none 0 0) HR6.out
                obtain ⟨⟨u0, u1, u2⟩, _⟩ := q1.cells
                exact bodyPost_ret (v := .tuple #[.agg #[.int .i64 0, .slice none 0 0, .slice none 0 0], .int .i64 9]) (by simp [results, Try.results26, go_sem, u0, u1, u2]) rfl ⟨givesF_none _ _ _ _, below_put (Below.on (Below.on HB5.out HBW.out) HB6.out) (by omega)⟩
          · obtain rfl : q = n1 := by omega
            have hev : allEvenB L es = true := HTEST.out.2 fun i hi => by rw [HEL.out]; exact HALL.out i (by rw [← HLN.out]; exact hi)
            have HEV := hide hev
            obtain ⟨⟨o0, o1, o2⟩, _⟩ := (HO5.out.below HBW.out).cells
            have HBt := hide (Below.on HB5.out HBW.out)
            have HSTw := hide (HST4.out.below HBW.out)
            have HRw := hide (HR5.out.below HBW.out)
            have hCl : C < wr.heap.size := by have := HBW.out.size; omega
            clear hev
            cases hbe : beyondB s (reformSteps L es) with
            | true =>
              have hwe : wrongE s es (reformSteps L es) ≠ 0 := by
                unfold wrongE
                rw [if_neg (by rw [HZE.out]; simp), if_neg (by rw [reformSteps_length]; simp), if_pos hbe]
                omega
              have HWE := hide hwe
              have HBE := hide hbe
              clear hwe hbe
              go_wp2_with (go_at_call 44; refine (made_any _ _ _ _ es _ _ _ (reformSteps L es) _ (HE.out.below HBt.out) HSTw.out).mono ?_; rintro e w6 ⟨rfl, hb⟩; rw [if_pos HWE.out]; have HR6 := hide (HRw.out.below hb); have HB6 := hide (Below.on HBt.out hb); obtain ⟨⟨t0, t1, t2⟩, h0', h1', h2'⟩ := HR6.out.cells; clear hb)
              have hEv : E = 5 := by have := HRE.out; rw [HEV.out, HBE.out] at this; simpa using this
              subst hEv
              have q1 := view_put' (x := .int .i64 0) (y := .slice none 0 0) (z := .slice none 0 0) HR6.out
              obtain ⟨⟨u0, u1, u2⟩, _⟩ := q1.cells
              exact bodyPost_ret (v := .tuple #[.agg #[.int .i64 0, .slice none 0 0, .slice none 0 0], .int .i64 5]) (by simp [results, Try.results26, go_sem, u0, u1, u2]) rfl ⟨givesF_none _ _ _ _, below_put HB6.out (by omega)⟩
            | false =>
              have hwe : wrongE s es (reformSteps L es) = 0 := by
                unfold wrongE
                rw [if_neg (by rw [HZE.out]; simp), if_neg (by rw [reformSteps_length]; simp), if_neg (by rw [hbe]; simp)]
              have HWE := hide hwe
              have HBE := hide hbe
              clear hwe hbe
              go_wp2_with (go_at_call 44; refine (made_any _ _ _ _ es _ _ _ (reformSteps L es) _ (HE.out.below HBt.out) HSTw.out).mono ?_; rintro e w6 ⟨rfl, hb⟩; rw [if_neg (by rw [HWE.out]; simp)]; have HR6 := hide (HRw.out.below hb); have HB6 := hide (Below.on HBt.out hb); have HST6 := hide (HSTw.out.below hb); obtain ⟨⟨t0, t1, t2⟩, h0', h1', h2'⟩ := HR6.out.cells; clear hb)
              have hEv : E = 0 := by have := HRE.out; rw [HEV.out, HBE.out] at this; simpa using this
              subst hEv
              have q1 := view_put' (x := .int .i64 s) (y := .slice ea k ec) (z := .slice (some ⟨g, 0, none⟩) k k) HR6.out
              obtain ⟨⟨u0, u1, u2⟩, _⟩ := q1.cells
              have q3 := below_put (C := w.heap.size + 1) (x := .int .i64 s) (y := .slice ea k ec) (z := .slice (some ⟨g, 0, none⟩) k k) HB6.out (by omega)
              refine bodyPost_ret (v := .tuple #[.agg #[.int .i64 s, .slice ea k ec, .slice (some ⟨g, 0, none⟩) k k], .int .i64 0]) (by simp [results, Try.results26, go_sem, u0, u1, u2]) rfl ⟨?_, q3⟩
              simp only [okS, okL, if_true]
              exact ⟨_, _, _, _, _, _, rfl, HE.out.below q3, ints_set3 HST6.out (by omega), ⟨hec, Nat.le_refl _⟩, .inl rfl, far_some (by omega)⟩
end Go.Proofs.Ytfamaaahofjglaa.V
