/-
  Contract: the document's Play.
-/
import Derived.Test.YticcoacoepajpaaPK41
import Derived.Test.YticcoacoepajpaaPK29
namespace Go.Proofs.Yticcoacoepajpaa.V
open Go Go.RowKit
set_option linter.unusedVariables false
set_option linter.unusedSimpArgs false

set_option maxRecDepth 20000 in
set_option maxHeartbeats 60000000 in
theorem rPlay_any (d : Int) (da : Option Addr) (dcap : Nat) (xss : List (List Int)) (sa : Option Addr) (scap : Nat) (sc : List Stp) (W : World) (hd : LsA W da xss.length xss) (hs : sc = [] ∨ ∃ sb soff, sa = some ⟨sb, soff, none⟩ ∧ ScA W W.heap.size sb soff sc) (hsz : sc.length * 72 ≤ 140737488355328) :
    Calls Try.prog 7 #[.int .i64 d, .slice da xss.length dcap, .slice sa sc.length scap] W fun e w' => PlayAns W d xss sc e w' := by
  have HD := hide hd
  have HS := hide hs
  obtain ⟨n, hnn⟩ : ∃ n, n = xss.length := ⟨_, rfl⟩
  obtain ⟨m, hmm⟩ : ∃ m, m = sc.length := ⟨_, rfl⟩
  have hn9 := hd.2.1
  rw [← hnn] at hn9 ⊢
  rw [← hmm] at hsz ⊢
  rw [← hnn] at HD
  have HN := hide hnn
  have HM := hide hmm
  have HSZ := hide hsz
  obtain ⟨i5, h5, h5z, h5s, h5b⟩ := info_parts info_start
  obtain ⟨i7, h7, h7z, h7s, h7b⟩ := info_parts info_seen
  obtain ⟨i4, h4, h4z, h4s, h4b⟩ := info_parts info_note
  clear hd hs hnn hmm
  go_enter Try.func7, Try.ntmps7
  go_wp2_with fail
  go_loopw [9, 25] (fun v i wr => ∃ k : Nat, k ≤ n ∧ i = .int .i64 k ∧ (∀ j, j < k → wrongM d (n : Int) (j : Int) (xss[j]?.getD []).length = 0) ∧ (0 < k → d = (d.toNat : Int)) ∧ (∃ S Q, TmB W d.toNat n k xss v S Q wr)) (fun _ i _ => n - (intOf i).toNat)
  case atStart => exact ⟨0, Nat.zero_le _, by first | rfl | trivial, (fun j hj => by omega), (fun h => by omega), ⟨_, fun _ => ⟨slZ, slZ, slZ⟩, TmB.start W d.toNat n xss _⟩⟩
  case round =>
    obtain ⟨k, hk, rfl, hw0, hd0, S, Q, ht⟩ := hrel
    have HW0 := hide hw0
    have HD0 := hide hd0
    have HT := hide ht
    clear hw0 hd0 ht
    by_cases hlt : k < n
    · obtain ⟨db, doff, rfl, hat⟩ := (HD.out.below HT.out.bel).at (by omega)
      obtain ⟨X, xm, xc, c1, hx, hxc⟩ := hat k hlt
      have z1 := lt_of_cell c1
      have hkz : (k : Int) < (n : Int) := by omega
      have HXI := hide hx
      have hxl : (xss[k]?.getD []).length = xm := hx.1
      have hwr := fun w => rWrong_any d (n : Int) (k : Int) xm w
      have HWR := hide hwr
      have HXL := hide hxl
      clear hx hat hxl hwr
      by_cases hw : wrongM d (n : Int) (k : Int) xm = 0
      · have HWW := hide hw
        obtain ⟨dN, hdN, hn1, hn16, hl6, hokB⟩ := beg_right HXL.out hw hlt
        have hdT : d.toNat = dN := by omega
        have HOKB := hide hokB
        have HBG := hide (rBegin_any dN n k ⟨X, xm, xc⟩ _ wr HXI.out hxc hn1 hn16 hlt hl6)
        have HDN := hide hdT
        rw [hw] at HWR
        rw [hdT] at HT
        subst hdN
        have hwz : ((0 : Int) != 0) = false := rfl
        clear hw hokB
        go_upto_region 10 with (first
          | (go_at_call 10; refine (HWR.out _).mono ?_; rintro e w9 ⟨rfl, rfl⟩)
          | (go_at_call 21; refine HBG.out.mono ?_; rintro e w1 ⟨⟨qo, qp, qe⟩, rfl, hb1, hst1, htop1⟩; have HB1 := hide hb1; have HST1 := hide hst1; have HTOP1 := hide htop1; clear hb1 hst1 htop1; unfold Rs.v)
          | (at_builtin; refine stp ?_))
        unfold Stp1
        have hbs := HT.out.bel.size
        have hbs1 := HB1.out.size
        refine wpList_append_own_at _ (by rfl) (.tmp 39) (.tmp 45) 58 (by rfl) W.heap.size 60 i5 _ 5 88 Try.underlying58 h5 h5z h5s h5b rfl (by decide) _ k _ (by rfl) (own_kp HT.out.row (fun g' e => ((bl_new _).block g' (Nat.lt_of_lt_of_le (HT.out.row.lt g' e).2 hbs1)).trans (HB1.out.block g' (HT.out.row.lt g' e).2))) ⟨w1.heap.size, 0, none⟩ 1 1 (rsL ⟨qo, qp, qe⟩ (begM dN n k (xss[k]?.getD []))) (by rfl) (by simp [rsL]) (fun j u hj => by rw [add_pl, Nat.zero_add]; exact box_cell _ _ _ j u (by simpa [rsL] using hj)) (by intro u hu; simp [rsL] at hu; rcases hu with rfl | rfl | rfl | rfl | rfl <;> rfl) (by unfold maxLen; omega) (by omega) (by simp; omega) ?_
        intro v1 w2 hown hgr _ hat
        have hgr2 : w1.grownBy w2 _ := grown_after (bl_new _) hgr
        have hfin := HT.out.more HB1.out ⟨qo, qp, qe⟩ HST1.out HTOP1.out HOKB.out hown hgr2 (hat.imp id fun e => ⟨_, e, by simp⟩)
        have HFIN := hide hfin
        clear hown hgr hgr2 hat hfin hbs hbs1
        go_wp2_with fail
        go_roundw
        case rel =>
          have hf := HFIN.out
          rw [← HDN.out] at hf
          refine ⟨k + 1, by omega, by first | rfl | go_num, (fun j hj => ?_), (fun _ => by simp), _, _, hf⟩
          by_cases e : j = k
          · subst e; rw [HXL.out]; exact HWW.out
          · exact HW0.out j (by omega)
        case measure => simp [intOf]; omega
      · have hte : teamE d xss = wrongM d (n : Int) (k : Int) xm := by
          have h5 := team_bad (d := d) (xss := xss) (k := k) (by rw [← HN.out]; exact hlt) (by rw [← HN.out]; exact HW0.out) (by rw [← HN.out, HXL.out]; exact hw)
          rw [← HN.out, HXL.out] at h5
          exact h5
        obtain ⟨we, hwe⟩ : ∃ we, we = wrongM d (n : Int) (k : Int) xm := ⟨_, rfl⟩
        rw [← hwe] at hte hw HWR
        have HTE := hide hte
        have HWE := hide hw
        have hwz : (we != 0) = true := by simpa using hw
        have hwz2 : ¬ we = 0 := hw
        clear hte hwe hw
        go_wp2_with (go_at_call 10; refine (HWR.out _).mono ?_; rintro e w9 ⟨rfl, rfl⟩)
        go_ret2
        exact ⟨fun _ => by rw [HTE.out]; rfl, fun h9 => (HWE.out (by rw [← HTE.out]; exact h9)).elim, HT.out.bel⟩
    · obtain rfl : n = k := by omega
      have hte : teamE d xss = 0 := team_good (by rw [← HN.out]; exact HW0.out)
      have HTE := hide hte
      obtain ⟨dN, hdN⟩ : ∃ dN, dN = d.toNat := ⟨_, rfl⟩
      rw [← hdN] at HT
      obtain ⟨tb, A9, tc, rfl, hA9, htc, hpy⟩ := HT.out.play
      have HPY0 := hide hpy
      have HDN := hide hdN
      have HA9 := hide hA9
      have HSM := hide HT.out.old
      have HBT := hide HT.out.bel
      have HND : Hid (0 < n → d = (dN : Int)) := fun h0 => by rw [hdN]; exact HD0.out h0
      have hn16 : n ≤ 16 := by
        by_cases h0 : n = 0
        · omega
        · exact wrong16 (HW0.out 0 (by omega))
      clear hte hdN hA9 hpy
      go_wp2_with fail
      go_loopw [13, 14, 50] (fun v13 v14 i wq => ∃ k : Nat, k ≤ m ∧ i = .int .i64 k ∧ PlO W dN n tb xss sc k v13 v14 wq) (fun _ _ i _ => m - (intOf i).toNat)
      case atStart => exact ⟨0, Nat.zero_le _, by first | rfl | trivial, _, Q, [], [], HPY0.out, rfl, rfl, HSM.out, HBT.out⟩
      case round =>
        obtain ⟨w0, rfl⟩ : ∃ w, w = wr := ⟨_, rfl⟩
        obtain ⟨k, hk, rfl, S2, Q2, ps, qs, hpy, hps, hqs, hold, hbw⟩ := hrel
        have HPY1 := hide hpy
        have HPS := hide hps
        have HQS := hide hqs
        have HOLD := hide hold
        have HBW := hide hbw
        have HLQ : Hid (qs.length = k) := by
          show qs.length = k
          have h1 := congrArg List.length hqs
          rw [List.length_map, play_len, List.length_take] at h1
          have := HM.out
          omega
        clear hpy hps hqs hold hbw
        by_cases hltm : k < m
        · have hkz : (k : Int) < (m : Int) := by omega
          have hkl : k < sc.length := by have := HM.out; omega
          obtain ⟨⟨pa_, pm_, pk_, ⟨pf_, pt_, ps_, pd_⟩⟩, hp⟩ : ∃ p, sc[k]? = some p := ⟨sc[k], by simp [hkl]⟩
          have HTAKE : Hid (sc.take (k + 1) = sc.take k ++ [⟨pa_, pm_, pk_, ⟨pf_, pt_, ps_, pd_⟩⟩]) := by
            show sc.take (k + 1) = _
            rw [List.take_add_one, hp]
            rfl
          rcases HS.out with e0 | ⟨sb, soff, rfl, hsc⟩
          · rw [e0] at hkl; simp at hkl
          obtain ⟨sX, sm, scp, j0, j1, j2, j3, j4, j5, j6, s7, s8, s9, s10⟩ := (hsc.below HBW.out) k _ hp
          simp only at j0 j1 j2 j3 j4 j5 j6 s7
          have sz := lt_of_cell j0
          have HSD : Hid (Stt S2 w0 fun V => Ints V sX sm pd_) := fun V hV => ints_keep s7 fun b off e h0 => hV b (HOLD.out b (s10 b off e h0))
          have HSC := hide s8
          clear hp hkl hsc s7 s10 s9 s8
          go_upto_region 17 with fail
          obtain ⟨V, hV⟩ : ∃ V, V = (w0.alloc (.cells #[.int .i64 pa_, .int .i64 pm_, .int .i64 pk_, .int .i64 pf_, .int .i64 pt_, .int .i64 ps_, .slice sX sm scp] 45)).alloc (.cells #[.bool false, .int .i64 0, .int .i64 0, .int .i64 0, .slice none 0 0, .int .i64 0, .slice none 0 0] 41) := ⟨_, rfl⟩
          rw [← hV]
          obtain ⟨sbx, hsbx⟩ : ∃ b, b = w0.heap.size := ⟨_, rfl⟩
          obtain ⟨xb, hxb⟩ : ∃ b, b = w0.heap.size + 1 := ⟨_, rfl⟩
          rw [← hxb, ← hsbx]
          have hb0V : Below w0.heap.size w0 V := by rw [hV]; exact (bl_new _).alloc (by simp) _
          have hSB : V.heap[sbx]? = some (.cells #[.int .i64 pa_, .int .i64 pm_, .int .i64 pk_, .int .i64 pf_, .int .i64 pt_, .int .i64 ps_, .slice sX sm scp] 45 (0, 0)) := by rw [hV, hsbx]; exact ((bl_new (w := w0.alloc _) _).block _ (by simp)).trans (World.alloc_heap_new _ _)
          have hXB : V.heap[xb]? = some (.cells #[.bool false, .int .i64 0, .int .i64 0, .int .i64 0, .slice none 0 0, .int .i64 0, .slice none 0 0] 41 (0, 0)) := by rw [hV, hxb]; exact World.alloc_heap_new' _ _ (by simp)
          have HBE : Hid (sbx = w0.heap.size ∧ xb = w0.heap.size + 1) := ⟨hsbx, hxb⟩
          have HPY := hide (HPY1.out.grow hb0V)
          have HBV := hide (HBW.out.trans (hb0V.mono HBW.out.size))
          have HB0V := hide hb0V
          have HSB := hide hSB
          have HXB := hide hXB
          have s0 : V.cell? ⟨sbx, 0, none⟩ = some (.int .i64 pa_) := by simp only [World.cell?, hSB]; rfl
          have s1 : V.cell? ⟨sbx, 1, none⟩ = some (.int .i64 pm_) := by simp only [World.cell?, hSB]; rfl
          have s2 : V.cell? ⟨sbx, 2, none⟩ = some (.int .i64 pk_) := by simp only [World.cell?, hSB]; rfl
          have s3 : V.cell? ⟨sbx, 3, none⟩ = some (.int .i64 pf_) := by simp only [World.cell?, hSB]; rfl
          have s4 : V.cell? ⟨sbx, 4, none⟩ = some (.int .i64 pt_) := by simp only [World.cell?, hSB]; rfl
          have s5 : V.cell? ⟨sbx, 5, none⟩ = some (.int .i64 ps_) := by simp only [World.cell?, hSB]; rfl
          have s6 : V.cell? ⟨sbx, 6, none⟩ = some (.slice sX sm scp) := by simp only [World.cell?, hSB]; rfl
          have sbz := (Array.getElem?_eq_some_iff.1 hSB).1
          clear hV hsbx hxb hb0V hSB hXB j0 j1 j2 j3 j4 j5 j6 sz
          obtain ⟨ib, hib⟩ : ∃ b, b = inN n pm_ := ⟨_, rfl⟩
          go_cut [13, 14, 16, 17, 18, 50] (fun v13 v14 v16 v17 v18 v50 wx => v13 = u13 ∧ v14 = u14 ∧ v16 = .pointer (some ⟨sbx, 0, none⟩) ∧ v17 = .pointer (some ⟨xb, 0, none⟩) ∧ v18 = .bool ib ∧ v50 = .int .i64 (k : Int) ∧ wx = V)
          case first =>
            by_cases hn0 : 0 ≤ pm_
            · by_cases hn1 : pm_ < (n : Int)
              · have hq : inN n pm_ = true := by unfold inN; simp [hn0, hn1]
                go_wp2_with fail
                go_meet
                exact ⟨rfl, rfl, rfl, rfl, by rw [hib, hq], rfl, rfl⟩
              · have hq : inN n pm_ = false := by unfold inN; simp [hn0, hn1]
                go_wp2_with fail
                go_meet
                exact ⟨rfl, rfl, rfl, rfl, by rw [hib, hq], rfl, rfl⟩
            · have hq : inN n pm_ = false := by unfold inN; simp [hn0]
              go_wp2_with fail
              go_meet
              exact ⟨rfl, rfl, rfl, rfl, by rw [hib, hq], rfl, rfl⟩
          case rest =>
            obtain ⟨h13, h14, rfl, rfl, rfl, rfl, hwc⟩ := hcut
            obtain rfl := h13.symm
            obtain rfl := h14.symm
            obtain rfl := hwc.symm
            have hin : ib = true → ∃ i : Nat, i < n ∧ pm_ = (i : Int) := fun h => by
              rw [hib] at h
              unfold inN at h
              simp at h
              exact ⟨pm_.toNat, by omega, by omega⟩
            obtain ⟨b1_, hb1_⟩ : ∃ b, b = (decide (pa_ = 1) && ib) := ⟨_, rfl⟩
            have HB1_ := hide hb1_
            have HIB := hide hib
            have HIN := hide hin
            clear hb1_ hib hin
            go_upto_region 18 with fail
            go_cut [13, 14, 16, 17, 18, 50, 68] (fun v13 v14 v16 v17 v18 v50 v68 wx => v13 = u13 ∧ v14 = u14 ∧ v16 = .pointer (some ⟨sbx, 0, none⟩) ∧ v17 = .pointer (some ⟨xb, 0, none⟩) ∧ v18 = .bool ib ∧ v50 = .int .i64 (k : Int) ∧ v68 = .bool b1_ ∧ wx = V)
            case first =>
              by_cases e1 : pa_ = 1
              · subst e1
                go_wp2_with fail
                go_meet
                case rel => exact ⟨rfl, rfl, rfl, rfl, rfl, rfl, by rw [HB1_.out]; simp, rfl⟩
              · go_wp2_with fail
                go_meet
                case rel => exact ⟨rfl, rfl, rfl, rfl, rfl, rfl, by rw [HB1_.out]; simp [e1], rfl⟩
            case rest =>
              obtain ⟨h13, h14, rfl, rfl, rfl, rfl, rfl, hwc⟩ := hcut
              obtain rfl := h13.symm
              obtain rfl := h14.symm
              obtain rfl := hwc.symm
              go_upto_if 68 with fail
              go_cut [13, 14, 17, 50] (fun v13 v14 v17 v50 wx => v13 = u13 ∧ v17 = .pointer (some ⟨xb, 0, none⟩) ∧ v50 = .int .i64 (k : Int) ∧ SwP W dN n tb (playM dN n (begP dN n xss) (sc.take k)).1 xb ⟨pa_, pm_, pk_, ⟨pf_, pt_, ps_, pd_⟩⟩ u13 qs v14 wx)
              case first =>
                by_cases e1 : pa_ = 1
                · subst e1
                  cases ib with
                  | true =>
                    obtain ⟨i, hi, rfl⟩ := HIN.out rfl
                    as_aux_lemma =>
                      obtain rfl : true = b1_ := by rw [HB1_.out]; simp
                      have hi0 : 0 < n := by omega
                      obtain rfl : A9 = some ⟨tb, 0, none⟩ := HA9.out hi0
                      have hdz := HND.out hi0
                      have HDZ := hide hdz
                      obtain ⟨cur, htm, hcur⟩ := HPY.out.tm hi0
                      obtain ⟨q, hq⟩ : ∃ q, q = Q2 i := ⟨_, rfl⟩
                      obtain ⟨s, hs⟩ : ∃ s, s = (playM dN n (begP dN n xss) (sc.take k)).1.ss i := ⟨_, rfl⟩
                      have hst := HPY.out.st i hi
                      have htop := HPY.out.top i hi
                      have hok := HPY.out.ok i hi
                      have her := HPY.out.er i hi
                      have hc5 := fun j hj => hcur i j hi hj
                      rw [← hs] at hst hok her hc5
                      rw [← hq] at hst htop hc5
                      obtain ⟨⟨oa, on, oc⟩, ⟨pa, pn, pc⟩, ⟨ea, en, ec⟩⟩ := q
                      have HQ := hide hq
                      have HSS := hide hs
                      have HST := hide hst
                      have HTOP := hide htop
                      have HOK := hide hok
                      have HER := hide her
                      have m0 : V.cell? ⟨tb, i * 5, none⟩ = some (.slice oa on oc) := by simp only [World.cell?, htm]; exact hc5 0 (by omega)
                      have m1 : V.cell? ⟨tb, i * 5 + 1, none⟩ = some (.slice pa pn pc) := by simp only [World.cell?, htm]; exact hc5 1 (by omega)
                      have m2 : V.cell? ⟨tb, i * 5 + 2, none⟩ = some (.int .i64 (s.sent : Int)) := by simp only [World.cell?, htm]; exact hc5 2 (by omega)
                      have m3 : V.cell? ⟨tb, i * 5 + 3, none⟩ = some (.int .i64 (s.taken : Int)) := by simp only [World.cell?, htm]; exact hc5 3 (by omega)
                      have m4 : V.cell? ⟨tb, i * 5 + 4, none⟩ = some (.slice ea en ec) := by simp only [World.cell?, htm]; exact hc5 4 (by omega)
                      have tz := (Array.getElem?_eq_some_iff.1 htm).1
                      have hiz : (i : Int) < (n : Int) := by omega
                      have hii : (0 : Int) ≤ (i : Int) := by omega
                      have HTZ : Hid (tb < w0.heap.size) := by
                        obtain ⟨cur0, k1, _⟩ := HPY1.out.tm hi0
                        exact (Array.getElem?_eq_some_iff.1 k1).1
                      have HLS := hide HPY.out.low
                      clear hdz hcur htm hst htop hok her hc5 hq hs
                      have hbe := HBE.out
                      have htz := HTZ.out
                      have hsx : sbx ≠ xb := by omega
                      have htx : tb ≠ xb := by omega
                      have HXS : Hid (¬ S2 xb) := fun h => by
                        have := HPY1.out.low xb h
                        omega
                      have HXV : Hid (xb < V.heap.size) := (Array.getElem?_eq_some_iff.1 HXB.out).1
                      have HXO : Hid (u13.ownBlock ≠ some xb) := fun e => by
                        have := (HPY1.out.out.lt xb e).2.1
                        omega
                      have HXW : Hid (u14.ownBlock ≠ some xb) := fun e => by
                        have := (HPY1.out.way.lt xb e).2.1
                        omega
                      have HWX : Hid (W.heap.size ≤ xb) := by
                        show W.heap.size ≤ xb
                        have := HBW.out.size
                        omega
                      have HWT : Hid (W.heap.size ≤ tb) := by
                        show W.heap.size ≤ tb
                        by_cases h : tb < W.heap.size
                        · exact (HPY1.out.ntb hi0 (HOLD.out tb h)).elim
                        · omega
                      clear hbe htz
                      cases hcan_ : canM dN n s with
                      | true =>
                        have hcan : canM dN n s = true := hcan_
                        obtain ⟨sq, hs1⟩ : ∃ r, r = nextM dN n s := ⟨_, rfl⟩
                        obtain ⟨⟨nf_, nt_, ns_, nd_⟩, hNT⟩ : ∃ r, r = nxN dN n i s := ⟨_, rfl⟩
                        have hnx := fun (wz : World) (hI : IxI V xb [(5, .int .i64 0), (6, .slice none 0 0)] wz) => rNext_at ⟨⟨oa, on, oc⟩, ⟨pa, pn, pc⟩, ⟨ea, en, ec⟩⟩ dN n i s wz S2 (fun b h => Nat.lt_of_lt_of_le (HLS.out b h) hI.2.1) (HST.out.agr (hI.agr HLS.out HXS.out)) HOK.out
                        rw [← hs1, ← hNT, ← HDZ.out, hcan] at hnx
                        unfold Rs.v at hnx
                        simp only at hnx
                        have HNX := hide hnx
                        have HOK1 : Hid (StOk dN n i sq) := by
                          show StOk dN n i sq
                          rw [hs1]
                          exact HOK.out.next
                        have HER1 : Hid (ErOk sq) := by
                          show ErOk sq
                          rw [hs1]
                          exact HER.out.next
                        have he : stepM dN n (playM dN n (begP dN n xss) (sc.take k)).1 ⟨1, (i : Int), pk_, ⟨pf_, pt_, ps_, pd_⟩⟩ = (⟨updN (playM dN n (begP dN n xss) (sc.take k)).1.ss i sq, (playM dN n (begP dN n xss) (sc.take k)).1.ws ++ [⟨nf_, nt_, ns_, nd_⟩]⟩, ⟨true, ⟨nf_, nt_, ns_, nd_⟩, 0, []⟩) := by
                          have hin : inN n (i : Int) = true := by unfold inN; simp; omega
                          have hsi : (playM dN n (begP dN n xss) (sc.take k)).1.ss (i : Int).toNat = s := HSS.out.symm
                          unfold stepM
                          rw [if_pos ⟨rfl, hin⟩, hNT, hs1]
                          simp only [hsi]
                          unfold nxN
                          rw [if_pos hcan, if_pos hcan]
                          rfl
                        have HTO : Hid (∃ i, i < n ∧ nt_ = ((i : Nat) : Int)) := by
                          unfold nxN at hNT
                          rw [if_pos hcan] at hNT
                          exact ⟨toN dN n i s.sent, toN_lt hi0, congrArg Nt.to hNT⟩
                        have HE := hide he
                        have HST1 : Hid (Stt S2 V fun V => RsA V ⟨⟨oa, on, oc⟩, ⟨pa, pn, pc⟩, ⟨ea, en, ec⟩⟩ n sq) := by
                          intro U hU
                          rw [hs1]
                          exact (HST.out U hU).next _ _
                        clear hs1 hNT hnx he hcan hcan_
                        go_upto_region 19 with fail
                        refine region_madeS 22 24 [fIs (.slice (some ⟨tb, 0, none⟩) n tc), fIs (.pointer (some ⟨sbx, 1, none⟩)), fIs (.int .i64 (i : Int)), fIs (.int .i64 d), fIs (.int .i64 (n : Int)), fIs (.pointer (some ⟨sbx, 1, none⟩)), fIs (.int .i64 (i : Int)), fIs (.slice (some ⟨tb, 0, none⟩) n tc), fIs (.pointer (some ⟨sbx, 1, none⟩)), fIs (.int .i64 (i : Int)), fIs (.pointer (some ⟨tb, i * 5, none⟩)), fIs (.agg #[.slice oa on oc, .slice pa pn pc, .int .i64 (s.sent : Int), .int .i64 (s.taken : Int), .slice ea en ec]), fLow V.heap.size (fNx V.heap.size S2 ⟨nf_, nt_, ns_, nd_⟩ true (.agg #[.slice oa on oc, .slice pa pn pc, .int .i64 (sq.sent : Int), .int .i64 (sq.taken : Int), .slice ea en ec])), fLow V.heap.size (fNx V.heap.size S2 ⟨nf_, nt_, ns_, nd_⟩ true (.agg #[.slice oa on oc, .slice pa pn pc, .int .i64 (sq.sent : Int), .int .i64 (sq.taken : Int), .slice ea en ec])), fLow V.heap.size (fNy V.heap.size S2 ⟨nf_, nt_, ns_, nd_⟩), fIs (.bool true), fIs (.agg #[.slice oa on oc, .slice pa pn pc, .int .i64 (sq.sent : Int), .int .i64 (sq.taken : Int), .slice ea en ec]), fIs (.pointer (some ⟨xb, 1, none⟩)), fXn V.heap.size S2 xb ⟨nf_, nt_, ns_, nd_⟩, fIs (.pointer (some ⟨xb, 0, none⟩)), fXc xb 0 (.bool true), fIs (.pointer (some ⟨tb, i * 5, none⟩))] (IxI V xb [(5, .int .i64 0), (6, .slice none 0 0)]) [(18, XsR xb [1, 2, 3, 4]), (20, XsR xb [0])] (by kernel_rfl) (by kernel_rfl) (by kernel_rfl) (fun ch p q w3 e h => by obtain ⟨t1, d1⟩ := p; obtain ⟨t2, d2⟩ := q; cases e; exact h) (fun w hb => IxI.of HXB.out rfl (by simp) hb) (fun w w' h hb => h.grow hb) ⟨fun _ _ _ h _ => h, fun _ _ _ h _ => h, fun _ _ _ h _ => h, fun _ _ _ h _ => h, fun _ _ _ h _ => h, fun _ _ _ h _ => h, fun _ _ _ h _ => h, fun _ _ _ h _ => h, fun _ _ _ h _ => h, fun _ _ _ h _ => h, fun _ _ _ h _ => h, fun _ _ _ h _ => h, (fNx_good HLS.out _ _ _).1, (fNx_good HLS.out _ _ _).1, (fNy_good HLS.out _).1, fun _ _ _ h _ => h, fun _ _ _ h _ => h, fun _ _ _ h _ => h, fXn_good HLS.out _ _, fun _ _ _ h _ => h, fXc_good _ _ _, fun _ _ _ h _ => h, trivial⟩ ⟨⟨fun w w' h hr => h.xs (by decide) hr, ⟨fun _ _ _ _ _ _ h => h, fun _ _ _ _ _ _ h => h, fun _ _ _ _ _ _ h => h, fun _ _ _ _ _ _ h => h, fun _ _ _ _ _ _ h => h, fun _ _ _ _ _ _ h => h, fun _ _ _ _ _ _ h => h, fun _ _ _ _ _ _ h => h, fun _ _ _ _ _ _ h => h, fun _ _ _ _ _ _ h => h, fun _ _ _ _ _ _ h => h, fun _ _ _ _ _ _ h => h, fun _ _ _ _ hI hr h => fNx_xs HXS.out HXV.out hr h, fun _ _ _ _ hI hr h => fNx_xs HXS.out HXV.out hr h, fun _ _ _ _ hI hr h => fNy_xs HXS.out HXV.out hr h, fun _ _ _ _ hI hr h => h, fun _ _ _ _ hI hr h => h, fun _ _ _ _ _ _ h => h, fun hne => (hne rfl).elim, fun _ _ _ _ _ _ h => h, fun _ _ _ _ hI hr h => fXc_xs (by decide) hI hr h, fun _ _ _ _ _ _ h => h, trivial⟩⟩, ⟨fun w w' h hr => h.xs (by decide) hr, ⟨fun _ _ _ _ _ _ h => h, fun _ _ _ _ _ _ h => h, fun _ _ _ _ _ _ h => h, fun _ _ _ _ _ _ h => h, fun _ _ _ _ _ _ h => h, fun _ _ _ _ _ _ h => h, fun _ _ _ _ _ _ h => h, fun _ _ _ _ _ _ h => h, fun _ _ _ _ _ _ h => h, fun _ _ _ _ _ _ h => h, fun _ _ _ _ _ _ h => h, fun _ _ _ _ _ _ h => h, fun _ _ _ _ hI hr h => fNx_xs HXS.out HXV.out hr h, fun _ _ _ _ hI hr h => fNx_xs HXS.out HXV.out hr h, fun _ _ _ _ hI hr h => fNy_xs HXS.out HXV.out hr h, fun _ _ _ _ hI hr h => h, fun _ _ _ _ hI hr h => h, fun _ _ _ _ _ _ h => h, fun _ _ _ _ hI hr h => fXn_xs HXS.out HXV.out (by decide) (by decide) (by decide) (by decide) hI hr h, fun _ _ _ _ _ _ h => h, fun hne => (hne rfl).elim, fun _ _ _ _ _ _ h => h, trivial⟩⟩, trivial⟩ ?mkS ?restS
                        case mkS =>
                          refine ⟨fun u wz hI hd => ?_, fun u wz hI hd => ?_, fun u wz hI hd => ?_, fun u wz hI hd => ?_, fun u wz hI hd => ?_, fun u wz hI hd => ?_, fun u wz hI hd => ?_, fun u wz hI hd => ?_, fun u wz hI hd => ?_, fun u wz hI hd => ?_, fun u wz hI hd => ?_, fun u wz hI hd => ?_, fun u wz hI hd => ?_, fun u wz hI hd => ?_, fun u wz hI hd => ?_, fun u wz hI hd => ?_, fun u wz hI hd => ?_, fun u wz hI hd => ?_, fun u wz hI hd => ?_, fun u wz hI hd => ?_, fun u wz hI hd => ?_, fun u wz hI hd => ?_, trivial⟩
                          all_goals simp only [Act.put, List.setIfInBounds_toArray, List.set_cons_zero, List.set_cons_succ]
                          · go_simp
                            exact ⟨rfl, stpS_of rfl (Below.refl _ _)⟩
                          · go_simp
                            exact ⟨rfl, stpS_of rfl (Below.refl _ _)⟩
                          · have e1 : u 1 = .pointer (some ⟨sbx, 1, none⟩) := hd 1 (by omega) (by kernel_rfl)
                            rw [e1]
                            have s1' := hI.cell hsx s1
                            have z_sbx : sbx < wz.heap.size := Nat.lt_of_lt_of_le sbz hI.2.1
                            go_simp
                            exact ⟨rfl, stpS_of rfl (Below.refl _ _)⟩
                          · go_simp
                            exact ⟨rfl, stpS_of rfl (Below.refl _ _)⟩
                          · go_simp
                            exact ⟨rfl, stpS_of rfl (Below.refl _ _)⟩
                          · go_simp
                            exact ⟨rfl, stpS_of rfl (Below.refl _ _)⟩
                          · have e5 : u 5 = .pointer (some ⟨sbx, 1, none⟩) := hd 5 (by omega) (by kernel_rfl)
                            rw [e5]
                            have s1' := hI.cell hsx s1
                            have z_sbx : sbx < wz.heap.size := Nat.lt_of_lt_of_le sbz hI.2.1
                            go_simp
                            exact ⟨rfl, stpS_of rfl (Below.refl _ _)⟩
                          · go_simp
                            exact ⟨rfl, stpS_of rfl (Below.refl _ _)⟩
                          · go_simp
                            exact ⟨rfl, stpS_of rfl (Below.refl _ _)⟩
                          · have e8 : u 8 = .pointer (some ⟨sbx, 1, none⟩) := hd 8 (by omega) (by kernel_rfl)
                            rw [e8]
                            have s1' := hI.cell hsx s1
                            have z_sbx : sbx < wz.heap.size := Nat.lt_of_lt_of_le sbz hI.2.1
                            go_simp
                            exact ⟨rfl, stpS_of rfl (Below.refl _ _)⟩
                          · have e7 : u 7 = .slice (some ⟨tb, 0, none⟩) n tc := hd 7 (by omega) (by kernel_rfl)
                            have e9 : u 9 = .int .i64 (i : Int) := hd 9 (by omega) (by kernel_rfl)
                            rw [e7, e9]
                            go_simp
                            exact ⟨rfl, stpS_of rfl (Below.refl _ _)⟩
                          · have e10 : u 10 = .pointer (some ⟨tb, i * 5, none⟩) := hd 10 (by omega) (by kernel_rfl)
                            rw [e10]
                            have m0' := hI.cell htx m0
                            have m1' := hI.cell htx m1
                            have m2' := hI.cell htx m2
                            have m3' := hI.cell htx m3
                            have m4' := hI.cell htx m4
                            have z_tb : tb < wz.heap.size := Nat.lt_of_lt_of_le tz hI.2.1
                            go_simp
                            exact ⟨rfl, stpS_of rfl (Below.refl _ _)⟩
                          · have e3 : u 3 = .int .i64 d := hd 3 (by omega) (by kernel_rfl)
                            have e4 : u 4 = .int .i64 (n : Int) := hd 4 (by omega) (by kernel_rfl)
                            have e6 : u 6 = .int .i64 (i : Int) := hd 6 (by omega) (by kernel_rfl)
                            have e11 : u 11 = .agg #[.slice oa on oc, .slice pa pn pc, .int .i64 (s.sent : Int), .int .i64 (s.taken : Int), .slice ea en ec] := hd 11 (by omega) (by kernel_rfl)
                            rw [e3, e4, e6, e11]
                            go_simp
                            refine (HNX.out wz hI).mono ?_
                            rintro e w2 ⟨⟨y, rfl, k1, k2⟩, hb2⟩
                            exact ⟨⟨Nat.le_trans hI.2.1 hb2.size, y, rfl, k1.mono (fun b h => h.imp id fun h => ⟨Nat.le_trans hI.2.1 h.1, h.2⟩), k2⟩, stpS_of rfl hb2⟩
                          · obtain ⟨N9, q9, e9, k9, l9⟩ := hd 12 (by omega) (by kernel_rfl)
                            rw [e9]
                            go_simp
                            exact ⟨⟨N9, q9, rfl, k9, l9⟩, stpS_of rfl (Below.refl _ _)⟩
                          · obtain ⟨N9, q9, e9, k9, l9⟩ := hd 13 (by omega) (by kernel_rfl)
                            rw [e9]
                            go_simp
                            exact ⟨⟨N9, q9, rfl, k9, l9⟩, stpS_of rfl (Below.refl _ _)⟩
                          · obtain ⟨N9, q9, e9, k9, l9⟩ := hd 13 (by omega) (by kernel_rfl)
                            rw [e9]
                            go_simp
                            exact ⟨rfl, stpS_of rfl (Below.refl _ _)⟩
                          · obtain ⟨N9, q9, e9, k9, l9⟩ := hd 13 (by omega) (by kernel_rfl)
                            rw [e9]
                            go_simp
                            exact ⟨rfl, stpS_of rfl (Below.refl _ _)⟩
                          · go_simp
                            exact ⟨rfl, stpS_of rfl (Below.refl _ _)⟩
                          · have e17 : u 17 = .pointer (some ⟨xb, 1, none⟩) := hd 17 (by omega) (by kernel_rfl)
                            obtain ⟨N9, y9, e9, k9, l9⟩ := hd 14 (by omega) (by kernel_rfl)
                            rw [e17, e9]
                            obtain ⟨⟨o1, g1⟩, gf, gz, _⟩ := x_store hI (k := 1) (by decide)
                            obtain ⟨⟨o2, g2⟩, _⟩ := x_store hI (k := 2) (by decide)
                            obtain ⟨⟨o3, g3⟩, _⟩ := x_store hI (k := 3) (by decide)
                            obtain ⟨⟨o4, g4⟩, _⟩ := x_store hI (k := 4) (by decide)
                            have gs := x_store4 hI (.int .i64 nf_) (.int .i64 nt_) (.int .i64 ns_) (.slice y9.a y9.n y9.c)
                            have gx := xs_set4 xb wz (.int .i64 nf_) (.int .i64 nt_) (.int .i64 ns_) (.slice y9.a y9.n y9.c)
                            go_simp
                            exact ⟨⟨Nat.le_trans N9 (Nat.le_of_eq gx.2.1.symm), y9, gs, stt_xs HXS.out HXV.out gx k9, l9⟩, stpS_at rfl gx⟩
                          · go_simp
                            exact ⟨rfl, stpS_of rfl (Below.refl _ _)⟩
                          · have e19 : u 19 = .pointer (some ⟨xb, 0, none⟩) := hd 19 (by omega) (by kernel_rfl)
                            have e15 : u 15 = .bool true := hd 15 (by omega) (by kernel_rfl)
                            rw [e19, e15]
                            obtain ⟨⟨o0, g0⟩, gf, gz, gs⟩ := x_store hI (k := 0) (by decide)
                            go_simp
                            exact ⟨gs _, stpS_at rfl (xs_set xb 0 wz _)⟩
                          · have e0 : u 0 = .slice (some ⟨tb, 0, none⟩) n tc := hd 0 (by omega) (by kernel_rfl)
                            have e2 : u 2 = .int .i64 (i : Int) := hd 2 (by omega) (by kernel_rfl)
                            rw [e0, e2]
                            go_simp
                            exact ⟨rfl, stpS_of rfl (Below.refl _ _)⟩
                        case restS =>
                          intro u wz hI hf
                          have f0 : u 0 = .slice (some ⟨tb, 0, none⟩) n tc := hf 0 (by omega)
                          have f1 : u 1 = .pointer (some ⟨sbx, 1, none⟩) := hf 1 (by omega)
                          have f2 : u 2 = .int .i64 (i : Int) := hf 2 (by omega)
                          have f3 : u 3 = .int .i64 d := hf 3 (by omega)
                          have f4 : u 4 = .int .i64 (n : Int) := hf 4 (by omega)
                          have f5 : u 5 = .pointer (some ⟨sbx, 1, none⟩) := hf 5 (by omega)
                          have f6 : u 6 = .int .i64 (i : Int) := hf 6 (by omega)
                          have f7 : u 7 = .slice (some ⟨tb, 0, none⟩) n tc := hf 7 (by omega)
                          have f8 : u 8 = .pointer (some ⟨sbx, 1, none⟩) := hf 8 (by omega)
                          have f9 : u 9 = .int .i64 (i : Int) := hf 9 (by omega)
                          have f10 : u 10 = .pointer (some ⟨tb, i * 5, none⟩) := hf 10 (by omega)
                          have f11 : u 11 = .agg #[.slice oa on oc, .slice pa pn pc, .int .i64 (s.sent : Int), .int .i64 (s.taken : Int), .slice ea en ec] := hf 11 (by omega)
                          obtain ⟨_, y12, f12, _, _⟩ := hf 12 (by omega)
                          obtain ⟨_, y13, f13, _, _⟩ := hf 13 (by omega)
                          obtain ⟨_, y14, f14, _, _⟩ := hf 14 (by omega)
                          have f15 : u 15 = .bool true := hf 15 (by omega)
                          have f16 : u 16 = .agg #[.slice oa on oc, .slice pa pn pc, .int .i64 (sq.sent : Int), .int .i64 (sq.taken : Int), .slice ea en ec] := hf 16 (by omega)
                          have f17 : u 17 = .pointer (some ⟨xb, 1, none⟩) := hf 17 (by omega)
                          obtain ⟨hNN, y18, ⟨x1, x2, x3, x4⟩, kk, ll⟩ := hf 18 (by omega)
                          have f19 : u 19 = .pointer (some ⟨xb, 0, none⟩) := hf 19 (by omega)
                          have x0 : wz.cell? ⟨xb, 0, none⟩ = some (.bool true) := hf 20 (by omega)
                          have f21 : u 21 = .pointer (some ⟨tb, i * 5, none⟩) := hf 21 (by omega)
                          refine UptoW.rest 1 22 (by rfl) (by kernel_rfl) ?_
                          simp only [List.take, List.drop, putOps, Act.put, List.setIfInBounds_toArray, List.set_cons_zero, List.set_cons_succ, Nat.reduceAdd, f0, f1, f2, f3, f4, f5, f6, f7, f8, f9, f10, f11, f12, f13, f14, f15, f16, f17, f19, f21]
                          clear f0 f1 f2 f3 f4 f5 f6 f7 f8 f9 f10 f11 f12 f13 f14 f15 f16 f17 f19 f21 hf
                          obtain ⟨ya, yn, yc⟩ := y18
                          have hxz : wz.heap[xb]? = some (.cells #[.bool true, .int .i64 nf_, .int .i64 nt_, .int .i64 ns_, .slice ya yn yc, .int .i64 0, .slice none 0 0] 41 (0, 0)) := hI.x (fun cur h hc => ⟨cur_cell h x0, cur_cell h x1, cur_cell h x2, cur_cell h x3, cur_cell h x4, hc (5, _) (by simp), hc (6, _) (by simp)⟩)
                          have HXZ := hide hxz
                          try simp only at kk ll
                          have HKK := hide kk
                          have HLL := hide ll
                          clear kk ll hNN hxz x0 x1 x2 x3 x4
                          have HII := hide hI
                          obtain ⟨cur, htm, hcur⟩ := (hI.py HPY.out HXS.out htx HXW.out HXO.out).tm hi0
                          have hc5 := fun j hj => hcur i j hi hj
                          have n0 : ∃ u, wz.cell? ⟨tb, i * 5, none⟩ = some u := ⟨_, by simp only [World.cell?, htm]; exact hc5 0 (by omega)⟩
                          have n1 : ∃ u, wz.cell? ⟨tb, i * 5 + 1, none⟩ = some u := ⟨_, by simp only [World.cell?, htm]; exact hc5 1 (by omega)⟩
                          have n2 : ∃ u, wz.cell? ⟨tb, i * 5 + 2, none⟩ = some u := ⟨_, by simp only [World.cell?, htm]; exact hc5 2 (by omega)⟩
                          have n3 : ∃ u, wz.cell? ⟨tb, i * 5 + 3, none⟩ = some u := ⟨_, by simp only [World.cell?, htm]; exact hc5 3 (by omega)⟩
                          have n4 : ∃ u, wz.cell? ⟨tb, i * 5 + 4, none⟩ = some u := ⟨_, by simp only [World.cell?, htm]; exact hc5 4 (by omega)⟩
                          obtain ⟨n0v, n0⟩ := n0
                          obtain ⟨n1v, n1⟩ := n1
                          obtain ⟨n2v, n2⟩ := n2
                          obtain ⟨n3v, n3⟩ := n3
                          obtain ⟨n4v, n4⟩ := n4
                          have nf : ∀ k, wz.frozen? ⟨tb, k, none⟩ = false := fun k => by simp [World.frozen?, htm]
                          have nz := (Array.getElem?_eq_some_iff.1 htm).1
                          clear htm hcur hc5 hI
                          go_upto_region 20 with fail
                          obtain ⟨U, hU⟩ : ∃ U, U = sto5 wz tb (i * 5) (.slice oa on oc) (.slice pa pn pc) (.int .i64 (sq.sent : Int)) (.int .i64 (sq.taken : Int)) (.slice ea en ec) := ⟨_, rfl⟩
                          have hU' := hU
                          unfold sto5 at hU'
                          rw [← hU']
                          have htp : Tops (NwS S2 V.heap.size wz.heap.size) ⟨⟨oa, on, oc⟩, ⟨pa, pn, pc⟩, ⟨ea, en, ec⟩⟩ := HTOP.out.mono fun b h => .inl h
                          have HPYU : Hid (PyI W.heap.size dN n (NwS S2 V.heap.size wz.heap.size) tb (updN Q2 i ⟨⟨oa, on, oc⟩, ⟨pa, pn, pc⟩, ⟨ea, en, ec⟩⟩) (updN (playM dN n (begP dN n xss) (sc.take k)).1.ss i sq) u13 u14 ps qs U) := by
                            rw [hU]
                            exact (HII.out.py HPY.out HXS.out htx HXW.out HXO.out).member hi ⟨⟨oa, on, oc⟩, ⟨pa, pn, pc⟩, ⟨ea, en, ec⟩⟩ sq ((HST1.out.agr (HII.out.agr HLS.out HXS.out)).mono fun b h => .inl h) htp HOK1.out HER1.out
                          have HBU : Hid (Below W.heap.size W U) := by
                            rw [hU]
                            exact sto5_below (HII.out.below HBV.out HWX.out) HWT.out
                          have hxU : U.heap[xb]? = some (.cells #[.bool true, .int .i64 nf_, .int .i64 nt_, .int .i64 ns_, .slice ya yn yc, .int .i64 0, .slice none 0 0] 41 (0, 0)) := by
                            rw [hU, sto5_other (fun e => htx e.symm)]
                            exact HXZ.out
                          have HXU := hide hxU
                          have HSU : Hid (Stt (NwS S2 V.heap.size wz.heap.size) U fun V => Ints V ya yn nd_) := by
                            refine HKK.out.agr fun b hb => ?_
                            rw [hU, sto5_other]
                            intro e
                            rw [e] at hb
                            rcases hb with h1 | h1
                            · exact HPY.out.ntb hi0 h1
                            · omega
                          clear hU hU' hxU htp n0 n1 n2 n3 n4 nf nz hsx htx
                          have t0 : U.cell? ⟨xb, 0, none⟩ = some (.bool true) := by simp only [World.cell?, HXU.out]; rfl
                          have t1 : U.cell? ⟨xb, 1, none⟩ = some (.int .i64 nf_) := by simp only [World.cell?, HXU.out]; rfl
                          have t2 : U.cell? ⟨xb, 2, none⟩ = some (.int .i64 nt_) := by simp only [World.cell?, HXU.out]; rfl
                          have t3 : U.cell? ⟨xb, 3, none⟩ = some (.int .i64 ns_) := by simp only [World.cell?, HXU.out]; rfl
                          have t4 : U.cell? ⟨xb, 4, none⟩ = some (.slice ya yn yc) := by simp only [World.cell?, HXU.out]; rfl
                          have t5 : U.cell? ⟨xb, 5, none⟩ = some (.int .i64 0) := by simp only [World.cell?, HXU.out]; rfl
                          have t6 : U.cell? ⟨xb, 6, none⟩ = some (.slice none 0 0) := by simp only [World.cell?, HXU.out]; rfl
                          have tz' := (Array.getElem?_eq_some_iff.1 HXU.out).1
                          have hpy := HPYU.out
                          have hpl : ps.length + 1 ≤ 2000000000000 := by
                            have h1 := play_ws dN n (sc.take k) (begP dN n xss)
                            rw [← HPS.out, List.length_map, List.length_take] at h1
                            have h2 : (begP dN n xss).ws.length = 0 := rfl
                            have h3 := HSZ.out
                            have h4 := HM.out
                            omega
                          have HPL := hide hpl
                          clear hpl
                          go_upto_region 32 with (at_builtin; refine stp ?_)
                          unfold Stp1
                          refine append_c (by rfl) (.tmp 91) (.tmp 94) 51 (by rfl) W.heap.size 39 i4 _ 4 48 Try.underlying51 h4 h4z h4s h4b rfl (by decide) _ ps.length (wyC ps) (by rfl) (hpy.grow (bl_new _)).way ⟨U.heap.size, 0, none⟩ 1 1 [.int .i64 nf_, .int .i64 nt_, .int .i64 ns_, .slice ya yn yc] (by rfl) (by simp) (fun j u hj => by rw [add_pl, Nat.zero_add]; exact box_cell _ _ _ j u (by simpa using hj)) (by intro u hu; simp at hu; rcases hu with rfl | rfl | rfl | rfl <;> rfl) (by omega) (by have := HPL.out; unfold maxLen; omega) (by have := HPL.out; omega) (hpy.grow (bl_new _)).base ?_
                          intro v8 w8 hr8 hg8 ho8
                          have HPY8 : Hid (PyI W.heap.size dN n (NwS S2 V.heap.size wz.heap.size) tb (updN Q2 i ⟨⟨oa, on, oc⟩, ⟨pa, pn, pc⟩, ⟨ea, en, ec⟩⟩) (updN (playM dN n (begP dN n xss) (sc.take k)).1.ss i sq) u13 v8 (ps ++ [(⟨nf_, nt_, ns_, nd_⟩, ⟨ya, yn, yc⟩)]) qs w8) := by
                            refine (hpy.grow (bl_new _)).wayTo (ps' := ps ++ [(⟨nf_, nt_, ns_, nd_⟩, ⟨ya, yn, yc⟩)]) ?_ hg8 (fun b e => ?_) (fun p hp => ?_)
                            · rw [List.length_append, show wyC (ps ++ [(⟨nf_, nt_, ns_, nd_⟩, ⟨ya, yn, yc⟩)]) = wyC ps ++ [.int .i64 nf_, .int .i64 nt_, .int .i64 ns_, .slice ya yn yc] by simp [wyC, ntC]]
                              exact hr8
                            · rcases ho8 with e2 | ⟨g, e2, hl⟩
                              · exact .inl (by rw [← e2]; exact e)
                              · rw [e2] at e
                                cases e
                                exact .inr hl
                            · rcases List.mem_append.1 hp with h1 | h1
                              · exact (hpy.grow (bl_new _)).wys p h1
                              · have h2 : p = (⟨nf_, nt_, ns_, nd_⟩, ⟨ya, yn, yc⟩) := by simpa using h1
                                subst h2
                                exact ⟨HSU.out.agr (agr_below hpy.low (bl_new _)), HLL.out, HTO.out⟩
                          have hnx8 : some xb ≠ u14.ownBlock := fun e => HXW.out e.symm
                          have HX8 : Hid (w8.heap[xb]? = some (.cells #[.bool true, .int .i64 nf_, .int .i64 nt_, .int .i64 ns_, .slice ya yn yc, .int .i64 0, .slice none 0 0] 41 (0, 0))) := (hg8.block xb (Nat.lt_of_lt_of_le tz' (bl_new _).size) hnx8).trans (((bl_new _).block xb tz').trans HXU.out)
                          have HB8 : Hid (Below W.heap.size W w8) := (HBU.out.trans ((bl_new _).mono HBU.out.size)).grown hg8 (Nat.le_trans HBU.out.size (bl_new _).size) (fun j e => (hpy.way.lt j e).1)
                          have HS8 : Hid (Stt (NwS S2 V.heap.size wz.heap.size) w8 fun V => Ints V ya yn nd_) := HSU.out.agr (fun b hb => (hg8.block b (Nat.lt_of_lt_of_le (hpy.low b hb) (bl_new _).size) (fun e => hpy.nwy b e.symm hb)).trans ((bl_new _).block b (hpy.low b hb)))
                          have HPW8 : Hid ((ps ++ [((⟨nf_, nt_, ns_, nd_⟩ : Nt), (⟨ya, yn, yc⟩ : Sl))]).map (·.1) = (playM dN n (begP dN n xss) (sc.take k)).1.ws ++ [⟨nf_, nt_, ns_, nd_⟩]) := by
                            rw [List.map_append, HPS.out]
                            rfl
                          clear hr8 hg8 ho8 hpy hnx8 tz' t0 t1 t2 t3 t4 t5 t6
                          go_wp2_with fail
                          go_meet
                          case rel =>
                            exact ⟨rfl, rfl, rfl, SwP.mk _ _ _ (⟨true, ⟨nf_, nt_, ns_, nd_⟩, 0, []⟩, ⟨ya, yn, yc⟩, slZ) HE.out HPY8.out HPW8.out HX8.out ⟨HS8.out, HLL.out⟩ ⟨fun V _ => (Num.nil V).ints, Nat.le_refl _⟩ (fun b hb => .inl (HOLD.out b hb)) HB8.out⟩
                      | false =>
                        have hcan : canM dN n s = false := hcan_
                        obtain ⟨sq, hs1⟩ : ∃ r, r = nextM dN n s := ⟨_, rfl⟩
                        obtain ⟨⟨nf_, nt_, ns_, nd_⟩, hNT⟩ : ∃ r, r = nxN dN n i s := ⟨_, rfl⟩
                        have hnx := fun (wz : World) (hI : IxI V xb [(5, .int .i64 0), (6, .slice none 0 0)] wz) => rNext_at ⟨⟨oa, on, oc⟩, ⟨pa, pn, pc⟩, ⟨ea, en, ec⟩⟩ dN n i s wz S2 (fun b h => Nat.lt_of_lt_of_le (HLS.out b h) hI.2.1) (HST.out.agr (hI.agr HLS.out HXS.out)) HOK.out
                        rw [← hs1, ← hNT, ← HDZ.out, hcan] at hnx
                        unfold Rs.v at hnx
                        simp only at hnx
                        have HNX := hide hnx
                        have HOK1 : Hid (StOk dN n i sq) := by
                          show StOk dN n i sq
                          rw [hs1]
                          exact HOK.out.next
                        have HER1 : Hid (ErOk sq) := by
                          show ErOk sq
                          rw [hs1]
                          exact HER.out.next
                        have he : stepM dN n (playM dN n (begP dN n xss) (sc.take k)).1 ⟨1, (i : Int), pk_, ⟨pf_, pt_, ps_, pd_⟩⟩ = (⟨updN (playM dN n (begP dN n xss) (sc.take k)).1.ss i sq, (playM dN n (begP dN n xss) (sc.take k)).1.ws⟩, ⟨false, ⟨nf_, nt_, ns_, nd_⟩, 0, []⟩) := by
                          have hin : inN n (i : Int) = true := by unfold inN; simp; omega
                          have hsi : (playM dN n (begP dN n xss) (sc.take k)).1.ss (i : Int).toNat = s := HSS.out.symm
                          have hc0 : ¬ canM dN n s = true := by simp [hcan]
                          have hs2 : sq = s := by rw [hs1]; unfold nextM; rw [if_neg hc0]
                          have hupd : updN (playM dN n (begP dN n xss) (sc.take k)).1.ss i sq = (playM dN n (begP dN n xss) (sc.take k)).1.ss := by rw [hs2, HSS.out]; exact updN_id _ _
                          have hnt0 : (⟨nf_, nt_, ns_, nd_⟩ : Nt) = ntZ := by rw [hNT]; unfold nxN; rw [if_neg hc0]
                          unfold stepM
                          rw [if_pos ⟨rfl, hin⟩, hupd, hnt0]
                          simp only [hsi]
                          rw [if_neg hc0]
                        have HE := hide he
                        have HST1 : Hid (Stt S2 V fun V => RsA V ⟨⟨oa, on, oc⟩, ⟨pa, pn, pc⟩, ⟨ea, en, ec⟩⟩ n sq) := by
                          intro U hU
                          rw [hs1]
                          exact (HST.out U hU).next _ _
                        clear hs1 hNT hnx he hcan hcan_
                        go_upto_region 19 with fail
                        refine region_madeS 22 24 [fIs (.slice (some ⟨tb, 0, none⟩) n tc), fIs (.pointer (some ⟨sbx, 1, none⟩)), fIs (.int .i64 (i : Int)), fIs (.int .i64 d), fIs (.int .i64 (n : Int)), fIs (.pointer (some ⟨sbx, 1, none⟩)), fIs (.int .i64 (i : Int)), fIs (.slice (some ⟨tb, 0, none⟩) n tc), fIs (.pointer (some ⟨sbx, 1, none⟩)), fIs (.int .i64 (i : Int)), fIs (.pointer (some ⟨tb, i * 5, none⟩)), fIs (.agg #[.slice oa on oc, .slice pa pn pc, .int .i64 (s.sent : Int), .int .i64 (s.taken : Int), .slice ea en ec]), fLow V.heap.size (fNx V.heap.size S2 ⟨nf_, nt_, ns_, nd_⟩ false (.agg #[.slice oa on oc, .slice pa pn pc, .int .i64 (sq.sent : Int), .int .i64 (sq.taken : Int), .slice ea en ec])), fLow V.heap.size (fNx V.heap.size S2 ⟨nf_, nt_, ns_, nd_⟩ false (.agg #[.slice oa on oc, .slice pa pn pc, .int .i64 (sq.sent : Int), .int .i64 (sq.taken : Int), .slice ea en ec])), fLow V.heap.size (fNy V.heap.size S2 ⟨nf_, nt_, ns_, nd_⟩), fIs (.bool false), fIs (.agg #[.slice oa on oc, .slice pa pn pc, .int .i64 (sq.sent : Int), .int .i64 (sq.taken : Int), .slice ea en ec]), fIs (.pointer (some ⟨xb, 1, none⟩)), fXn V.heap.size S2 xb ⟨nf_, nt_, ns_, nd_⟩, fIs (.pointer (some ⟨xb, 0, none⟩)), fXc xb 0 (.bool false), fIs (.pointer (some ⟨tb, i * 5, none⟩))] (IxI V xb [(5, .int .i64 0), (6, .slice none 0 0)]) [(18, XsR xb [1, 2, 3, 4]), (20, XsR xb [0])] (by kernel_rfl) (by kernel_rfl) (by kernel_rfl) (fun ch p q w3 e h => by obtain ⟨t1, d1⟩ := p; obtain ⟨t2, d2⟩ := q; cases e; exact h) (fun w hb => IxI.of HXB.out rfl (by simp) hb) (fun w w' h hb => h.grow hb) ⟨fun _ _ _ h _ => h, fun _ _ _ h _ => h, fun _ _ _ h _ => h, fun _ _ _ h _ => h, fun _ _ _ h _ => h, fun _ _ _ h _ => h, fun _ _ _ h _ => h, fun _ _ _ h _ => h, fun _ _ _ h _ => h, fun _ _ _ h _ => h, fun _ _ _ h _ => h, fun _ _ _ h _ => h, (fNx_good HLS.out _ _ _).1, (fNx_good HLS.out _ _ _).1, (fNy_good HLS.out _).1, fun _ _ _ h _ => h, fun _ _ _ h _ => h, fun _ _ _ h _ => h, fXn_good HLS.out _ _, fun _ _ _ h _ => h, fXc_good _ _ _, fun _ _ _ h _ => h, trivial⟩ ⟨⟨fun w w' h hr => h.xs (by decide) hr, ⟨fun _ _ _ _ _ _ h => h, fun _ _ _ _ _ _ h => h, fun _ _ _ _ _ _ h => h, fun _ _ _ _ _ _ h => h, fun _ _ _ _ _ _ h => h, fun _ _ _ _ _ _ h => h, fun _ _ _ _ _ _ h => h, fun _ _ _ _ _ _ h => h, fun _ _ _ _ _ _ h => h, fun _ _ _ _ _ _ h => h, fun _ _ _ _ _ _ h => h, fun _ _ _ _ _ _ h => h, fun _ _ _ _ hI hr h => fNx_xs HXS.out HXV.out hr h, fun _ _ _ _ hI hr h => fNx_xs HXS.out HXV.out hr h, fun _ _ _ _ hI hr h => fNy_xs HXS.out HXV.out hr h, fun _ _ _ _ hI hr h => h, fun _ _ _ _ hI hr h => h, fun _ _ _ _ _ _ h => h, fun hne => (hne rfl).elim, fun _ _ _ _ _ _ h => h, fun _ _ _ _ hI hr h => fXc_xs (by decide) hI hr h, fun _ _ _ _ _ _ h => h, trivial⟩⟩, ⟨fun w w' h hr => h.xs (by decide) hr, ⟨fun _ _ _ _ _ _ h => h, fun _ _ _ _ _ _ h => h, fun _ _ _ _ _ _ h => h, fun _ _ _ _ _ _ h => h, fun _ _ _ _ _ _ h => h, fun _ _ _ _ _ _ h => h, fun _ _ _ _ _ _ h => h, fun _ _ _ _ _ _ h => h, fun _ _ _ _ _ _ h => h, fun _ _ _ _ _ _ h => h, fun _ _ _ _ _ _ h => h, fun _ _ _ _ _ _ h => h, fun _ _ _ _ hI hr h => fNx_xs HXS.out HXV.out hr h, fun _ _ _ _ hI hr h => fNx_xs HXS.out HXV.out hr h, fun _ _ _ _ hI hr h => fNy_xs HXS.out HXV.out hr h, fun _ _ _ _ hI hr h => h, fun _ _ _ _ hI hr h => h, fun _ _ _ _ _ _ h => h, fun _ _ _ _ hI hr h => fXn_xs HXS.out HXV.out (by decide) (by decide) (by decide) (by decide) hI hr h, fun _ _ _ _ _ _ h => h, fun hne => (hne rfl).elim, fun _ _ _ _ _ _ h => h, trivial⟩⟩, trivial⟩ ?mkS ?restS
                        case mkS =>
                          refine ⟨fun u wz hI hd => ?_, fun u wz hI hd => ?_, fun u wz hI hd => ?_, fun u wz hI hd => ?_, fun u wz hI hd => ?_, fun u wz hI hd => ?_, fun u wz hI hd => ?_, fun u wz hI hd => ?_, fun u wz hI hd => ?_, fun u wz hI hd => ?_, fun u wz hI hd => ?_, fun u wz hI hd => ?_, fun u wz hI hd => ?_, fun u wz hI hd => ?_, fun u wz hI hd => ?_, fun u wz hI hd => ?_, fun u wz hI hd => ?_, fun u wz hI hd => ?_, fun u wz hI hd => ?_, fun u wz hI hd => ?_, fun u wz hI hd => ?_, fun u wz hI hd => ?_, trivial⟩
                          all_goals simp only [Act.put, List.setIfInBounds_toArray, List.set_cons_zero, List.set_cons_succ]
                          · go_simp
                            exact ⟨rfl, stpS_of rfl (Below.refl _ _)⟩
                          · go_simp
                            exact ⟨rfl, stpS_of rfl (Below.refl _ _)⟩
                          · have e1 : u 1 = .pointer (some ⟨sbx, 1, none⟩) := hd 1 (by omega) (by kernel_rfl)
                            rw [e1]
                            have s1' := hI.cell hsx s1
                            have z_sbx : sbx < wz.heap.size := Nat.lt_of_lt_of_le sbz hI.2.1
                            go_simp
                            exact ⟨rfl, stpS_of rfl (Below.refl _ _)⟩
                          · go_simp
                            exact ⟨rfl, stpS_of rfl (Below.refl _ _)⟩
                          · go_simp
                            exact ⟨rfl, stpS_of rfl (Below.refl _ _)⟩
                          · go_simp
                            exact ⟨rfl, stpS_of rfl (Below.refl _ _)⟩
                          · have e5 : u 5 = .pointer (some ⟨sbx, 1, none⟩) := hd 5 (by omega) (by kernel_rfl)
                            rw [e5]
                            have s1' := hI.cell hsx s1
                            have z_sbx : sbx < wz.heap.size := Nat.lt_of_lt_of_le sbz hI.2.1
                            go_simp
                            exact ⟨rfl, stpS_of rfl (Below.refl _ _)⟩
                          · go_simp
                            exact ⟨rfl, stpS_of rfl (Below.refl _ _)⟩
                          · go_simp
                            exact ⟨rfl, stpS_of rfl (Below.refl _ _)⟩
                          · have e8 : u 8 = .pointer (some ⟨sbx, 1, none⟩) := hd 8 (by omega) (by kernel_rfl)
                            rw [e8]
                            have s1' := hI.cell hsx s1
                            have z_sbx : sbx < wz.heap.size := Nat.lt_of_lt_of_le sbz hI.2.1
                            go_simp
                            exact ⟨rfl, stpS_of rfl (Below.refl _ _)⟩
                          · have e7 : u 7 = .slice (some ⟨tb, 0, none⟩) n tc := hd 7 (by omega) (by kernel_rfl)
                            have e9 : u 9 = .int .i64 (i : Int) := hd 9 (by omega) (by kernel_rfl)
                            rw [e7, e9]
                            go_simp
                            exact ⟨rfl, stpS_of rfl (Below.refl _ _)⟩
                          · have e10 : u 10 = .pointer (some ⟨tb, i * 5, none⟩) := hd 10 (by omega) (by kernel_rfl)
                            rw [e10]
                            have m0' := hI.cell htx m0
                            have m1' := hI.cell htx m1
                            have m2' := hI.cell htx m2
                            have m3' := hI.cell htx m3
                            have m4' := hI.cell htx m4
                            have z_tb : tb < wz.heap.size := Nat.lt_of_lt_of_le tz hI.2.1
                            go_simp
                            exact ⟨rfl, stpS_of rfl (Below.refl _ _)⟩
                          · have e3 : u 3 = .int .i64 d := hd 3 (by omega) (by kernel_rfl)
                            have e4 : u 4 = .int .i64 (n : Int) := hd 4 (by omega) (by kernel_rfl)
                            have e6 : u 6 = .int .i64 (i : Int) := hd 6 (by omega) (by kernel_rfl)
                            have e11 : u 11 = .agg #[.slice oa on oc, .slice pa pn pc, .int .i64 (s.sent : Int), .int .i64 (s.taken : Int), .slice ea en ec] := hd 11 (by omega) (by kernel_rfl)
                            rw [e3, e4, e6, e11]
                            go_simp
                            refine (HNX.out wz hI).mono ?_
                            rintro e w2 ⟨⟨y, rfl, k1, k2⟩, hb2⟩
                            exact ⟨⟨Nat.le_trans hI.2.1 hb2.size, y, rfl, k1.mono (fun b h => h.imp id fun h => ⟨Nat.le_trans hI.2.1 h.1, h.2⟩), k2⟩, stpS_of rfl hb2⟩
                          · obtain ⟨N9, q9, e9, k9, l9⟩ := hd 12 (by omega) (by kernel_rfl)
                            rw [e9]
                            go_simp
                            exact ⟨⟨N9, q9, rfl, k9, l9⟩, stpS_of rfl (Below.refl _ _)⟩
                          · obtain ⟨N9, q9, e9, k9, l9⟩ := hd 13 (by omega) (by kernel_rfl)
                            rw [e9]
                            go_simp
                            exact ⟨⟨N9, q9, rfl, k9, l9⟩, stpS_of rfl (Below.refl _ _)⟩
                          · obtain ⟨N9, q9, e9, k9, l9⟩ := hd 13 (by omega) (by kernel_rfl)
                            rw [e9]
                            go_simp
                            exact ⟨rfl, stpS_of rfl (Below.refl _ _)⟩
                          · obtain ⟨N9, q9, e9, k9, l9⟩ := hd 13 (by omega) (by kernel_rfl)
                            rw [e9]
                            go_simp
                            exact ⟨rfl, stpS_of rfl (Below.refl _ _)⟩
                          · go_simp
                            exact ⟨rfl, stpS_of rfl (Below.refl _ _)⟩
                          · have e17 : u 17 = .pointer (some ⟨xb, 1, none⟩) := hd 17 (by omega) (by kernel_rfl)
                            obtain ⟨N9, y9, e9, k9, l9⟩ := hd 14 (by omega) (by kernel_rfl)
                            rw [e17, e9]
                            obtain ⟨⟨o1, g1⟩, gf, gz, _⟩ := x_store hI (k := 1) (by decide)
                            obtain ⟨⟨o2, g2⟩, _⟩ := x_store hI (k := 2) (by decide)
                            obtain ⟨⟨o3, g3⟩, _⟩ := x_store hI (k := 3) (by decide)
                            obtain ⟨⟨o4, g4⟩, _⟩ := x_store hI (k := 4) (by decide)
                            have gs := x_store4 hI (.int .i64 nf_) (.int .i64 nt_) (.int .i64 ns_) (.slice y9.a y9.n y9.c)
                            have gx := xs_set4 xb wz (.int .i64 nf_) (.int .i64 nt_) (.int .i64 ns_) (.slice y9.a y9.n y9.c)
                            go_simp
                            exact ⟨⟨Nat.le_trans N9 (Nat.le_of_eq gx.2.1.symm), y9, gs, stt_xs HXS.out HXV.out gx k9, l9⟩, stpS_at rfl gx⟩
                          · go_simp
                            exact ⟨rfl, stpS_of rfl (Below.refl _ _)⟩
                          · have e19 : u 19 = .pointer (some ⟨xb, 0, none⟩) := hd 19 (by omega) (by kernel_rfl)
                            have e15 : u 15 = .bool false := hd 15 (by omega) (by kernel_rfl)
                            rw [e19, e15]
                            obtain ⟨⟨o0, g0⟩, gf, gz, gs⟩ := x_store hI (k := 0) (by decide)
                            go_simp
                            exact ⟨gs _, stpS_at rfl (xs_set xb 0 wz _)⟩
                          · have e0 : u 0 = .slice (some ⟨tb, 0, none⟩) n tc := hd 0 (by omega) (by kernel_rfl)
                            have e2 : u 2 = .int .i64 (i : Int) := hd 2 (by omega) (by kernel_rfl)
                            rw [e0, e2]
                            go_simp
                            exact ⟨rfl, stpS_of rfl (Below.refl _ _)⟩
                        case restS =>
                          intro u wz hI hf
                          have f0 : u 0 = .slice (some ⟨tb, 0, none⟩) n tc := hf 0 (by omega)
                          have f1 : u 1 = .pointer (some ⟨sbx, 1, none⟩) := hf 1 (by omega)
                          have f2 : u 2 = .int .i64 (i : Int) := hf 2 (by omega)
                          have f3 : u 3 = .int .i64 d := hf 3 (by omega)
                          have f4 : u 4 = .int .i64 (n : Int) := hf 4 (by omega)
                          have f5 : u 5 = .pointer (some ⟨sbx, 1, none⟩) := hf 5 (by omega)
                          have f6 : u 6 = .int .i64 (i : Int) := hf 6 (by omega)
                          have f7 : u 7 = .slice (some ⟨tb, 0, none⟩) n tc := hf 7 (by omega)
                          have f8 : u 8 = .pointer (some ⟨sbx, 1, none⟩) := hf 8 (by omega)
                          have f9 : u 9 = .int .i64 (i : Int) := hf 9 (by omega)
                          have f10 : u 10 = .pointer (some ⟨tb, i * 5, none⟩) := hf 10 (by omega)
                          have f11 : u 11 = .agg #[.slice oa on oc, .slice pa pn pc, .int .i64 (s.sent : Int), .int .i64 (s.taken : Int), .slice ea en ec] := hf 11 (by omega)
                          obtain ⟨_, y12, f12, _, _⟩ := hf 12 (by omega)
                          obtain ⟨_, y13, f13, _, _⟩ := hf 13 (by omega)
                          obtain ⟨_, y14, f14, _, _⟩ := hf 14 (by omega)
                          have f15 : u 15 = .bool false := hf 15 (by omega)
                          have f16 : u 16 = .agg #[.slice oa on oc, .slice pa pn pc, .int .i64 (sq.sent : Int), .int .i64 (sq.taken : Int), .slice ea en ec] := hf 16 (by omega)
                          have f17 : u 17 = .pointer (some ⟨xb, 1, none⟩) := hf 17 (by omega)
                          obtain ⟨hNN, y18, ⟨x1, x2, x3, x4⟩, kk, ll⟩ := hf 18 (by omega)
                          have f19 : u 19 = .pointer (some ⟨xb, 0, none⟩) := hf 19 (by omega)
                          have x0 : wz.cell? ⟨xb, 0, none⟩ = some (.bool false) := hf 20 (by omega)
                          have f21 : u 21 = .pointer (some ⟨tb, i * 5, none⟩) := hf 21 (by omega)
                          refine UptoW.rest 1 22 (by rfl) (by kernel_rfl) ?_
                          simp only [List.take, List.drop, putOps, Act.put, List.setIfInBounds_toArray, List.set_cons_zero, List.set_cons_succ, Nat.reduceAdd, f0, f1, f2, f3, f4, f5, f6, f7, f8, f9, f10, f11, f12, f13, f14, f15, f16, f17, f19, f21]
                          clear f0 f1 f2 f3 f4 f5 f6 f7 f8 f9 f10 f11 f12 f13 f14 f15 f16 f17 f19 f21 hf
                          obtain ⟨ya, yn, yc⟩ := y18
                          have hxz : wz.heap[xb]? = some (.cells #[.bool false, .int .i64 nf_, .int .i64 nt_, .int .i64 ns_, .slice ya yn yc, .int .i64 0, .slice none 0 0] 41 (0, 0)) := hI.x (fun cur h hc => ⟨cur_cell h x0, cur_cell h x1, cur_cell h x2, cur_cell h x3, cur_cell h x4, hc (5, _) (by simp), hc (6, _) (by simp)⟩)
                          have HXZ := hide hxz
                          try simp only at kk ll
                          have HKK := hide kk
                          have HLL := hide ll
                          clear kk ll hNN hxz x0 x1 x2 x3 x4
                          have HII := hide hI
                          obtain ⟨cur, htm, hcur⟩ := (hI.py HPY.out HXS.out htx HXW.out HXO.out).tm hi0
                          have hc5 := fun j hj => hcur i j hi hj
                          have n0 : ∃ u, wz.cell? ⟨tb, i * 5, none⟩ = some u := ⟨_, by simp only [World.cell?, htm]; exact hc5 0 (by omega)⟩
                          have n1 : ∃ u, wz.cell? ⟨tb, i * 5 + 1, none⟩ = some u := ⟨_, by simp only [World.cell?, htm]; exact hc5 1 (by omega)⟩
                          have n2 : ∃ u, wz.cell? ⟨tb, i * 5 + 2, none⟩ = some u := ⟨_, by simp only [World.cell?, htm]; exact hc5 2 (by omega)⟩
                          have n3 : ∃ u, wz.cell? ⟨tb, i * 5 + 3, none⟩ = some u := ⟨_, by simp only [World.cell?, htm]; exact hc5 3 (by omega)⟩
                          have n4 : ∃ u, wz.cell? ⟨tb, i * 5 + 4, none⟩ = some u := ⟨_, by simp only [World.cell?, htm]; exact hc5 4 (by omega)⟩
                          obtain ⟨n0v, n0⟩ := n0
                          obtain ⟨n1v, n1⟩ := n1
                          obtain ⟨n2v, n2⟩ := n2
                          obtain ⟨n3v, n3⟩ := n3
                          obtain ⟨n4v, n4⟩ := n4
                          have nf : ∀ k, wz.frozen? ⟨tb, k, none⟩ = false := fun k => by simp [World.frozen?, htm]
                          have nz := (Array.getElem?_eq_some_iff.1 htm).1
                          clear htm hcur hc5 hI
                          go_upto_region 20 with fail
                          obtain ⟨U, hU⟩ : ∃ U, U = sto5 wz tb (i * 5) (.slice oa on oc) (.slice pa pn pc) (.int .i64 (sq.sent : Int)) (.int .i64 (sq.taken : Int)) (.slice ea en ec) := ⟨_, rfl⟩
                          have hU' := hU
                          unfold sto5 at hU'
                          rw [← hU']
                          have htp : Tops (NwS S2 V.heap.size wz.heap.size) ⟨⟨oa, on, oc⟩, ⟨pa, pn, pc⟩, ⟨ea, en, ec⟩⟩ := HTOP.out.mono fun b h => .inl h
                          have HPYU : Hid (PyI W.heap.size dN n (NwS S2 V.heap.size wz.heap.size) tb (updN Q2 i ⟨⟨oa, on, oc⟩, ⟨pa, pn, pc⟩, ⟨ea, en, ec⟩⟩) (updN (playM dN n (begP dN n xss) (sc.take k)).1.ss i sq) u13 u14 ps qs U) := by
                            rw [hU]
                            exact (HII.out.py HPY.out HXS.out htx HXW.out HXO.out).member hi ⟨⟨oa, on, oc⟩, ⟨pa, pn, pc⟩, ⟨ea, en, ec⟩⟩ sq ((HST1.out.agr (HII.out.agr HLS.out HXS.out)).mono fun b h => .inl h) htp HOK1.out HER1.out
                          have HBU : Hid (Below W.heap.size W U) := by
                            rw [hU]
                            exact sto5_below (HII.out.below HBV.out HWX.out) HWT.out
                          have hxU : U.heap[xb]? = some (.cells #[.bool false, .int .i64 nf_, .int .i64 nt_, .int .i64 ns_, .slice ya yn yc, .int .i64 0, .slice none 0 0] 41 (0, 0)) := by
                            rw [hU, sto5_other (fun e => htx e.symm)]
                            exact HXZ.out
                          have HXU := hide hxU
                          have HSU : Hid (Stt (NwS S2 V.heap.size wz.heap.size) U fun V => Ints V ya yn nd_) := by
                            refine HKK.out.agr fun b hb => ?_
                            rw [hU, sto5_other]
                            intro e
                            rw [e] at hb
                            rcases hb with h1 | h1
                            · exact HPY.out.ntb hi0 h1
                            · omega
                          clear hU hU' hxU htp n0 n1 n2 n3 n4 nf nz hsx htx
                          have t0 : U.cell? ⟨xb, 0, none⟩ = some (.bool false) := by simp only [World.cell?, HXU.out]; rfl
                          have t1 : U.cell? ⟨xb, 1, none⟩ = some (.int .i64 nf_) := by simp only [World.cell?, HXU.out]; rfl
                          have t2 : U.cell? ⟨xb, 2, none⟩ = some (.int .i64 nt_) := by simp only [World.cell?, HXU.out]; rfl
                          have t3 : U.cell? ⟨xb, 3, none⟩ = some (.int .i64 ns_) := by simp only [World.cell?, HXU.out]; rfl
                          have t4 : U.cell? ⟨xb, 4, none⟩ = some (.slice ya yn yc) := by simp only [World.cell?, HXU.out]; rfl
                          have t5 : U.cell? ⟨xb, 5, none⟩ = some (.int .i64 0) := by simp only [World.cell?, HXU.out]; rfl
                          have t6 : U.cell? ⟨xb, 6, none⟩ = some (.slice none 0 0) := by simp only [World.cell?, HXU.out]; rfl
                          have tz' := (Array.getElem?_eq_some_iff.1 HXU.out).1
                          go_wp2_with fail
                          go_meet
                          case rel =>
                            exact ⟨rfl, rfl, rfl, SwP.mk _ _ _ (⟨false, ⟨nf_, nt_, ns_, nd_⟩, 0, []⟩, ⟨ya, yn, yc⟩, slZ) HE.out HPYU.out HPS.out HXU.out ⟨HSU.out, HLL.out⟩ ⟨fun V _ => (Num.nil V).ints, Nat.le_refl _⟩ (fun b hb => .inl (HOLD.out b hb)) HBU.out⟩

                  | false =>
                    have HNE : Hid (inN n pm_ = false) := HIB.out.symm
                    as_aux_lemma =>
                      obtain rfl : false = b1_ := by rw [HB1_.out]; simp
                      have he : stepM dN n (playM dN n (begP dN n xss) (sc.take k)).1 ⟨1, pm_, pk_, ⟨pf_, pt_, ps_, pd_⟩⟩ = ((playM dN n (begP dN n xss) (sc.take k)).1, ⟨false, ntZ, 0, []⟩) := by
                        unfold stepM
                        simp [HNE.out]
                      have HE := hide he
                      clear he
                      go_wp2_with fail
                      go_meet
                      case rel =>
                        exact ⟨rfl, rfl, rfl, SwP.mk _ _ _ (⟨false, ntZ, 0, []⟩, slZ, slZ) HE.out HPY.out HPS.out HXB.out ⟨fun V _ => (Num.nil V).ints, Nat.le_refl _⟩ ⟨fun V _ => (Num.nil V).ints, Nat.le_refl _⟩ HOLD.out HBV.out⟩

                by_cases e2 : pa_ = 2
                · subst e2
                  by_cases e0 : ps = []
                  · have HPS0 := hide e0
                    have HNE : Hid ((playM dN n (begP dN n xss) (sc.take k)).1.ws = []) := by
                      show _ = _
                      rw [← HPS.out, e0]
                      rfl
                    clear e0
                    as_aux_lemma =>
                      obtain rfl : false = b1_ := by rw [HB1_.out]; simp
                      have he : stepM dN n (playM dN n (begP dN n xss) (sc.take k)).1 ⟨2, pm_, pk_, ⟨pf_, pt_, ps_, pd_⟩⟩ = ((playM dN n (begP dN n xss) (sc.take k)).1, ⟨false, ntZ, 0, []⟩) := by
                        unfold stepM
                        simp [HNE.out]
                      have HE := hide he
                      clear he
                      obtain ⟨X14, c14, rfl⟩ : ∃ X c, u14 = .slice X 0 c := by
                        have h0 : ps.length = 0 := by rw [HPS0.out]; rfl
                        rcases HPY.out.way.parts with ⟨e, _⟩ | ⟨g', cap, cur, e, _⟩
                        · exact ⟨none, 0, e⟩
                        · exact ⟨_, _, by rw [e, h0]⟩
                      go_wp2_with fail
                      go_meet
                      case rel =>
                        exact ⟨rfl, rfl, rfl, SwP.mk _ _ _ (⟨false, ntZ, 0, []⟩, slZ, slZ) HE.out HPY.out HPS.out HXB.out ⟨fun V _ => (Num.nil V).ints, Nat.le_refl _⟩ ⟨fun V _ => (Num.nil V).ints, Nat.le_refl _⟩ HOLD.out HBV.out⟩

                  · skip
                    as_aux_lemma =>
                      obtain rfl : false = b1_ := by rw [HB1_.out]; simp
                      have hL0 : 0 < ps.length := List.length_pos_iff.2 e0
                      obtain ⟨g14, c14, rfl, hc14⟩ : ∃ g c, u14 = .slice (some ⟨g, 0, none⟩) ps.length c ∧ ps.length ≤ c := by
                        rcases HPY.out.way.parts with ⟨_, e⟩ | ⟨g', cap, cur, e, _, _, h4, _⟩
                        · omega
                        · exact ⟨_, _, e, h4⟩
                      have hLb : ps.length ≤ 2000000000000 := by
                        have h1 := play_ws dN n (sc.take k) (begP dN n xss)
                        rw [← HPS.out, List.length_map, List.length_take] at h1
                        have h2 : (begP dN n xss).ws.length = 0 := rfl
                        have h3 := HSZ.out
                        have h4 := HM.out
                        omega
                      have hLz : (0 : Int) < (ps.length : Int) := by omega
                      obtain ⟨k1, hk1⟩ : ∃ r, r = modI pk_ ps.length := ⟨_, rfl⟩
                      have hk1l : k1 < ps.length := by rw [hk1]; exact modI_lt hL0 _
                      have hmod := fun w => rMod_all pk_ ps.length w hL0 (by omega)
                      rw [← hk1] at hmod
                      have HMOD := hide hmod
                      obtain ⟨⟨⟨qf_, qt_, qs_, qd_⟩, ⟨yX, ym, ycp⟩⟩, hp⟩ : ∃ p, ps[k1]? = some p := ⟨ps[k1], by simp [hk1l]⟩
                      obtain ⟨c0, c1, c2, c3⟩ := wyC_at HPY.out.way hp
                      obtain ⟨hsy, hyc, i, hi, hpt⟩ := HPY.out.wys _ (List.mem_of_getElem? hp)
                      simp only at hpt hsy hyc c0 c1 c2 c3
                      subst hpt
                      have HWS : Hid ((playM dN n (begP dN n xss) (sc.take k)).1.ws ≠ [] ∧ modI pk_ (playM dN n (begP dN n xss) (sc.take k)).1.ws.length = k1 ∧ nthW (playM dN n (begP dN n xss) (sc.take k)).1.ws k1 = ⟨qf_, (i : Int), qs_, qd_⟩) := by
                        show _ ∧ _ ∧ _
                        rw [← HPS.out]
                        refine ⟨fun e => e0 (List.map_eq_nil_iff.1 e), by rw [List.length_map, hk1], ?_⟩
                        unfold nthW
                        rw [List.getElem?_map, hp]
                        rfl
                      have hk1z : (k1 : Int) < (ps.length : Int) := by omega
                      have hk1y : (0 : Int) ≤ (k1 : Int) := by omega
                      have g14z := lt_of_cell c0
                      have HSY0 := hide hsy
                      have HYC := hide hyc
                      clear hk1 hmod hp hsy hyc e0
                      go_upto_region 26 with (go_at_call 23; refine (HMOD.out _).mono ?_; rintro e w9 ⟨rfl, h9⟩; obtain rfl := h9.symm)
                      obtain ⟨V1, hV1⟩ : ∃ V1, V1 = V.alloc (.cells #[.int .i64 qf_, .int .i64 (i : Int), .int .i64 qs_, .slice yX ym ycp] 39) := ⟨_, rfl⟩
                      rw [← hV1]
                      obtain ⟨nb, hnb⟩ : ∃ b, b = V.heap.size := ⟨_, rfl⟩
                      rw [← hnb]
                      have hb01 : Below V.heap.size V V1 := by rw [hV1]; exact bl_new _
                      have hNB : V1.heap[nb]? = some (.cells #[.int .i64 qf_, .int .i64 (i : Int), .int .i64 qs_, .slice yX ym ycp] 39 (0, 0)) := by rw [hV1, hnb]; exact World.alloc_heap_new _ _
                      have HPYA := hide (HPY.out.grow hb01)
                      have HB01 := hide hb01
                      have HNB := hide hNB
                      clear hV1 hnb hb01 hNB c0 c1 c2 c3 s0 s1 s2 s3 s4 s5 s6 sbz g14z
                      obtain ⟨AF, hAF⟩ : ∃ AF, AF = (if c14 = k1 + 1 then some ⟨g14, 0, none⟩ else some ⟨g14, (k1 + 1) * 4, none⟩ : Option Addr) := ⟨_, rfl⟩
                      have HAF := hide hAF
                      have hAF1 : k1 + 1 < ps.length → AF = some ⟨g14, (k1 + 1) * 4, none⟩ := fun h => by rw [hAF]; exact if_neg (by omega)
                      have hAF0 : ∃ ad, AF = some ad := by rw [hAF]; split <;> exact ⟨_, rfl⟩
                      have HAF1 := hide hAF1
                      have HAF0 := hide hAF0
                      have hk2 : (0 : Int) ≤ (k1 : Int) + 1 := by omega
                      have hk1c : k1 ≤ c14 := by omega
                      have hkq : k1 + 1 ≤ ps.length := by omega
                      have hwk : IntKind.i64.wrap ((k1 : Int) + 1) = (k1 : Int) + 1 := wrapk_small (by omega) (by omega)
                      have hk3 : (k1 : Int) + 1 ≤ (ps.length : Int) := by omega
                      clear hAF hAF1 hAF0
                      refine region_made 9 12 [fEmN V1.heap.size, fIs (.slice (some ⟨g14, 0, none⟩) ps.length c14), fIs (.int .i64 (k1 : Int)), fIs (.slice (some ⟨g14, 0, none⟩) k1 c14), fNtA V1.heap.size k1 (wyC (ps.take k1)), fIs (.slice (some ⟨g14, 0, none⟩) ps.length c14), fIs (.int .i64 (k1 : Int)), fIs (.int .i64 ((k1 : Int) + 1)), fIs (.slice AF (ps.length - (k1 + 1)) (c14 - (k1 + 1)))] (by kernel_rfl) (by kernel_rfl) (by kernel_rfl) (fun _ ⟨_, _⟩ ⟨_, _⟩ _ e h => by cases e; exact h) ⟨fEmN_good _, fIs_good _, fIs_good _, fIs_good _, fNtA_good _ _ _, fIs_good _, fIs_good _, fIs_good _, fIs_good _, trivial⟩ ?mk26 ?rest26
                      case mk26 =>
                        refine ⟨fun u wz hb hd => ?_, fun u wz hb hd => ?_, fun u wz hb hd => ?_, fun u wz hb hd => ?_, fun u wz hb hd => ?_, fun u wz hb hd => ?_, fun u wz hb hd => ?_, fun u wz hb hd => ?_, fun u wz hb hd => ?_, trivial⟩
                        all_goals simp only [Act.put, List.setIfInBounds_toArray, List.set_cons_zero, List.set_cons_succ]
                        · go_simp
                          exact ⟨⟨_, rfl, hb.size, World.alloc_heap_new _ _⟩, bl_new _, fun h => by cases h⟩
                        · go_simp
                          exact ⟨rfl, Below.refl _ _, fun h => by cases h⟩
                        · go_simp
                          exact ⟨rfl, Below.refl _ _, fun h => by cases h⟩
                        · have e1 : u 1 = .slice (some ⟨g14, 0, none⟩) ps.length c14 := hd 1 (by omega) (by kernel_rfl)
                          have e2 : u 2 = .int .i64 (k1 : Int) := hd 2 (by omega) (by kernel_rfl)
                          rw [e1, e2]
                          go_simp
                          exact ⟨rfl, Below.refl _ _, fun h => by cases h⟩
                        · obtain ⟨B9, e9, j9, l9⟩ := hd 0 (by omega) (by kernel_rfl)
                          have e3 : u 3 = .slice (some ⟨g14, 0, none⟩) k1 c14 := hd 3 (by omega) (by kernel_rfl)
                          rw [e9, e3]
                          exact wp_notes_k (.tmp 121) (.tmp 124) rfl V1.heap.size B9 k1 c14 (some ⟨g14, 0, none⟩) (wyC (ps.take k1)) rfl ⟨j9, l9⟩ rfl (by rw [wyC_len, List.length_take, Nat.min_eq_left (by omega)]) (fun _ => ⟨g14, 0, rfl, wyC_take (HPYA.out.grow hb).way k1⟩) (by omega) hb.size (fun g cap w2 k2 k3 => ⟨_, rfl, ⟨g, cap, rfl, k2⟩, k3, fun h => by cases h⟩)
                        · go_simp
                          exact ⟨rfl, Below.refl _ _, fun h => by cases h⟩
                        · go_simp
                          exact ⟨rfl, Below.refl _ _, fun h => by cases h⟩
                        · have e6 : u 6 = .int .i64 (k1 : Int) := hd 6 (by omega) (by kernel_rfl)
                          rw [e6]
                          go_simp
                          exact ⟨rfl, Below.refl _ _, fun h => by cases h⟩
                        · have e5 : u 5 = .slice (some ⟨g14, 0, none⟩) ps.length c14 := hd 5 (by omega) (by kernel_rfl)
                          have e7 : u 7 = .int .i64 ((k1 : Int) + 1) := hd 7 (by omega) (by kernel_rfl)
                          rw [e5, e7]
                          go_simp
                          rw [HAF.out]
                          exact ⟨rfl, Below.refl _ _, fun h => by cases h⟩
                      case rest26 =>
                        intro u wz hb hf hp
                        obtain ⟨B0, f0, _, _⟩ := hf 0 (by omega)
                        have f1 : u 1 = .slice (some ⟨g14, 0, none⟩) ps.length c14 := hf 1 (by omega)
                        have f2 : u 2 = .int .i64 (k1 : Int) := hf 2 (by omega)
                        have f3 : u 3 = .slice (some ⟨g14, 0, none⟩) k1 c14 := hf 3 (by omega)
                        obtain ⟨gA, cA, f4, hNA⟩ := hf 4 (by omega)
                        have f5 : u 5 = .slice (some ⟨g14, 0, none⟩) ps.length c14 := hf 5 (by omega)
                        have f6 : u 6 = .int .i64 (k1 : Int) := hf 6 (by omega)
                        have f7 : u 7 = .int .i64 ((k1 : Int) + 1) := hf 7 (by omega)
                        have f8 : u 8 = .slice AF (ps.length - (k1 + 1)) (c14 - (k1 + 1)) := hf 8 (by omega)
                        refine UptoW.rest 2 9 (by rfl) (by kernel_rfl) ?_
                        simp only [List.take, List.drop, putOps, Act.put, List.setIfInBounds_toArray, List.set_cons_zero, List.set_cons_succ, Nat.reduceAdd, f0, f1, f2, f3, f4, f5, f6, f7, f8]
                        clear f0 f1 f2 f3 f4 f5 f6 f7 f8 hf hp
                        refine append_nts (by rfl) (.tmp 125) (.tmp 129) (by rfl) V1.heap.size gA cA k1 (ps.length - (k1 + 1)) (c14 - (k1 + 1)) AF _ (wyC (ps.drop (k1 + 1))) (by rfl) hNA (by rfl) (by rw [wyC_len, List.length_drop]) HAF0.out (fun h9 => ⟨g14, (k1 + 1) * 4, HAF1.out (by omega), wyC_drop (HPYA.out.grow hb).way (by omega)⟩) (wyC_one _) (by omega) hb.size ?_
                        intro v3 w3 hr3 hl3
                        have hen : k1 + (ps.length - (k1 + 1)) = (ps.eraseIdx k1).length := by rw [List.length_eraseIdx_of_lt hk1l]; omega
                        rw [hen, ← wyC_erase] at hr3
                        have hb3 : Below V1.heap.size V1 w3 := ⟨hl3.1.trans hb.os, hl3.2.1.trans hb.tape, hl3.2.2.1.trans hb.output, Nat.le_trans hb.size hl3.2.2.2.1, fun b h => (hl3.2.2.2.2 b h (Nat.lt_of_lt_of_le h hb.size)).trans (hb.block b h)⟩
                        have hpy3 := HPYA.out.wayTo (ps' := ps.eraseIdx k1) (V := w3) (u := v3) (rowC_low hr3 HPYA.out.base) ⟨hb3.os, hb3.tape, hb3.output, hb3.size, fun b h _ => hb3.block b h⟩ (fun b e => .inr (hr3.lt b e).1) (fun p hp => HPYA.out.wys p (List.mem_of_mem_eraseIdx hp))
                        have HXW9 : Hid (xb < V1.heap.size) := Nat.lt_of_lt_of_le (Array.getElem?_eq_some_iff.1 HXB.out).1 HB01.out.size
                        have HNV3 : Hid (∀ b, v3.ownBlock = some b → V1.heap.size ≤ b) := fun b e => (hr3.lt b e).1
                        obtain ⟨A3, c3v, rfl⟩ : ∃ A c, v3 = .slice A (ps.eraseIdx k1).length c := by
                          rcases hr3.parts with ⟨e, e0⟩ | ⟨g', cap, cur, e, _⟩
                          · exact ⟨none, 0, by rw [e, e0]⟩
                          · exact ⟨_, _, e⟩
                        have HPY3 := hide hpy3
                        have HB3 := hide hb3
                        obtain ⟨ps3, hps3⟩ : ∃ l, l = ps.eraseIdx k1 := ⟨_, rfl⟩
                        have HPS3 : Hid (ps3.map (·.1) = (playM dN n (begP dN n xss) (sc.take k)).1.ws.eraseIdx k1) := by
                          show _ = _
                          rw [hps3, ← HPS.out, map_erase']
                        rw [← hps3] at HPY3 HNV3 ⊢
                        clear hr3 hl3 hen hb3 hpy3 hb hNA hps3
                        go_upto_region 27 with fail
                        obtain ⟨V2, hV2⟩ : ∃ V2, V2 = w3 := ⟨_, rfl⟩
                        rw [← hV2] at HPY3 HB3 ⊢
                        have hb02 : Below V.heap.size V V2 := HB01.out.trans (HB3.out.mono HB01.out.size)
                        have hXB2 := (hb02.block xb (Array.getElem?_eq_some_iff.1 HXB.out).1).trans HXB.out
                        have hSY2 := HSY0.out.agr (agr_below HPY.out.low hb02)
                        have hB2 := HBV.out.trans (hb02.mono HBV.out.size)
                        have hNB2 := (HB3.out.block nb (Array.getElem?_eq_some_iff.1 HNB.out).1).trans HNB.out
                        have hsx : nb ≠ xb := fun e => by
                          have h1 := hXB2
                          rw [← e, hNB2] at h1
                          simp at h1
                        have b0 : V2.cell? ⟨nb, 0, none⟩ = some (.int .i64 qf_) := by simp only [World.cell?, hNB2]; rfl
                        have b1 : V2.cell? ⟨nb, 1, none⟩ = some (.int .i64 (i : Int)) := by simp only [World.cell?, hNB2]; rfl
                        have b2 : V2.cell? ⟨nb, 2, none⟩ = some (.int .i64 qs_) := by simp only [World.cell?, hNB2]; rfl
                        have b3 : V2.cell? ⟨nb, 3, none⟩ = some (.slice yX ym ycp) := by simp only [World.cell?, hNB2]; rfl
                        have nbz := (Array.getElem?_eq_some_iff.1 hNB2).1
                        have HX2 := hide hXB2
                        have HSY := hide hSY2
                        have HB2 := hide hB2
                        have HVV : Hid (V.heap.size ≤ V2.heap.size) := hb02.size
                        clear hb02 hXB2 hSY2 hB2 hNB2 hV2 HNB HPYA HSY0 HPY HXB HBV HB0V HB01 HB3
                        obtain ⟨V, hVV2⟩ : ∃ V, V = V2 := ⟨_, rfl⟩
                        subst hVV2
                        have HPY := HPY3
                        have HXB := HX2
                        have HBV := HB2
                        clear HPY3 HX2 HB2
                        have hi0 : 0 < n := by omega
                        obtain rfl : A9 = some ⟨tb, 0, none⟩ := HA9.out hi0
                        have hdz := HND.out hi0
                        have HDZ := hide hdz
                        obtain ⟨cur, htm, hcur⟩ := HPY.out.tm hi0
                        obtain ⟨q, hq⟩ : ∃ q, q = Q2 i := ⟨_, rfl⟩
                        obtain ⟨s, hs⟩ : ∃ s, s = (playM dN n (begP dN n xss) (sc.take k)).1.ss i := ⟨_, rfl⟩
                        have hst := HPY.out.st i hi
                        have htop := HPY.out.top i hi
                        have hok := HPY.out.ok i hi
                        have her := HPY.out.er i hi
                        have hc5 := fun j hj => hcur i j hi hj
                        rw [← hs] at hst hok her hc5
                        rw [← hq] at hst htop hc5
                        obtain ⟨⟨oa, on, oc⟩, ⟨pa, pn, pc⟩, ⟨ea, en, ec⟩⟩ := q
                        have HQ := hide hq
                        have HSS := hide hs
                        have HST := hide hst
                        have HTOP := hide htop
                        have HOK := hide hok
                        have HER := hide her
                        have m0 : V.cell? ⟨tb, i * 5, none⟩ = some (.slice oa on oc) := by simp only [World.cell?, htm]; exact hc5 0 (by omega)
                        have m1 : V.cell? ⟨tb, i * 5 + 1, none⟩ = some (.slice pa pn pc) := by simp only [World.cell?, htm]; exact hc5 1 (by omega)
                        have m2 : V.cell? ⟨tb, i * 5 + 2, none⟩ = some (.int .i64 (s.sent : Int)) := by simp only [World.cell?, htm]; exact hc5 2 (by omega)
                        have m3 : V.cell? ⟨tb, i * 5 + 3, none⟩ = some (.int .i64 (s.taken : Int)) := by simp only [World.cell?, htm]; exact hc5 3 (by omega)
                        have m4 : V.cell? ⟨tb, i * 5 + 4, none⟩ = some (.slice ea en ec) := by simp only [World.cell?, htm]; exact hc5 4 (by omega)
                        have tz := (Array.getElem?_eq_some_iff.1 htm).1
                        have hiz : (i : Int) < (n : Int) := by omega
                        have hii : (0 : Int) ≤ (i : Int) := by omega
                        have HTZ : Hid (tb < w0.heap.size) := by
                          obtain ⟨cur0, k1, _⟩ := HPY1.out.tm hi0
                          exact (Array.getElem?_eq_some_iff.1 k1).1
                        have HLS := hide HPY.out.low
                        clear hdz hcur htm hst htop hok her hc5 hq hs
                        have hbe := HBE.out
                        have htz := HTZ.out
                        have htx : tb ≠ xb := by omega
                        have HXS : Hid (¬ S2 xb) := fun h => by
                          have := HPY1.out.low xb h
                          omega
                        have HXV : Hid (xb < V.heap.size) := (Array.getElem?_eq_some_iff.1 HXB.out).1
                        have HXO : Hid (u13.ownBlock ≠ some xb) := fun e => by
                          have := (HPY1.out.out.lt xb e).2.1
                          omega
                        have HXW : Hid ((Value.slice A3 ps3.length c3v).ownBlock ≠ some xb) := fun e => by
                          have h8 := HNV3.out xb e
                          have h9 := HXW9.out
                          omega
                        have HWX : Hid (W.heap.size ≤ xb) := by
                          show W.heap.size ≤ xb
                          have := HBW.out.size
                          omega
                        have HWT : Hid (W.heap.size ≤ tb) := by
                          show W.heap.size ≤ tb
                          by_cases h : tb < W.heap.size
                          · exact (HPY1.out.ntb hi0 (HOLD.out tb h)).elim
                          · omega
                        clear hbe htz
                        obtain ⟨sq, hs1⟩ : ∃ r, r = takeM dN n i s ⟨qf_, (i : Int), qs_, qd_⟩ := ⟨_, rfl⟩
                        obtain ⟨TE, hTE⟩ : ∃ r, r = takeE dN n i s ⟨qf_, (i : Int), qs_, qd_⟩ := ⟨_, rfl⟩
                        have htk := fun (wz : World) (hI : IxI V xb [(0, .bool false), (1, .int .i64 0), (2, .int .i64 0), (3, .int .i64 0), (4, .slice none 0 0), (6, .slice none 0 0)] wz) => rTake_any ⟨⟨oa, on, oc⟩, ⟨pa, pn, pc⟩, ⟨ea, en, ec⟩⟩ dN n i s ⟨qf_, (i : Int), qs_, qd_⟩ ⟨yX, ym, ycp⟩ wz S2 (fun b h => Nat.lt_of_lt_of_le (HLS.out b h) hI.2.1) (HST.out.agr (hI.agr HLS.out HXS.out)) HTOP.out (Stt.agr HSY.out (hI.agr HLS.out HXS.out)) HYC.out HOK.out (Nat.le_trans HER.out.len (by decide))
                        unfold RTkAns at htk
                        rw [← hs1, ← hTE, ← HDZ.out] at htk
                        unfold Rs.v ntV at htk
                        simp only at htk
                        have HTK := hide htk
                        have HOK1 : Hid (StOk dN n i sq) := by
                          show StOk dN n i sq
                          rw [hs1]
                          exact HOK.out.take _
                        have HER1 : Hid (ErOk sq) := by
                          show ErOk sq
                          rw [hs1]
                          exact HER.out.take hn16 _
                        have HS1 := hide hs1
                        have HTE1 := hide hTE
                        have he : stepM dN n (playM dN n (begP dN n xss) (sc.take k)).1 ⟨2, pm_, pk_, ⟨pf_, pt_, ps_, pd_⟩⟩ = (⟨updN (playM dN n (begP dN n xss) (sc.take k)).1.ss i sq, (playM dN n (begP dN n xss) (sc.take k)).1.ws.eraseIdx k1⟩, ⟨false, ntZ, TE, []⟩) := by
                          obtain ⟨hw1, hw2, hw3⟩ := HWS.out
                          unfold stepM
                          rw [if_neg (by simp), if_pos ⟨by simp, hw1⟩]
                          simp only [hw2, hw3]
                          unfold giveM
                          rw [hs1, hTE, HSS.out]
                          rfl
                        have HE := hide he
                        clear hs1 hTE htk he
                        refine region_madeS 20 22 [fIs (.slice (some ⟨tb, 0, none⟩) n tc), fIs (.pointer (some ⟨nb, 1, none⟩)), fIs (.int .i64 (i : Int)), fIs (.int .i64 d), fIs (.int .i64 (n : Int)), fIs (.pointer (some ⟨nb, 1, none⟩)), fIs (.int .i64 (i : Int)), fIs (.slice (some ⟨tb, 0, none⟩) n tc), fIs (.pointer (some ⟨nb, 1, none⟩)), fIs (.int .i64 (i : Int)), fIs (.pointer (some ⟨tb, i * 5, none⟩)), fIs (.agg #[.slice oa on oc, .slice pa pn pc, .int .i64 (s.sent : Int), .int .i64 (s.taken : Int), .slice ea en ec]), fIs (.agg #[.int .i64 qf_, .int .i64 (i : Int), .int .i64 qs_, .slice yX ym ycp]), fLow V.heap.size (fTkR V.heap.size S2 n sq TE), fLow V.heap.size (fTkR V.heap.size S2 n sq TE), fIs (.int .i64 TE), fLow V.heap.size (fTs V.heap.size S2 n sq), fIs (.pointer (some ⟨xb, 5, none⟩)), fXc xb 5 (.int .i64 TE), fIs (.pointer (some ⟨tb, i * 5, none⟩))] (IxI V xb [(0, .bool false), (1, .int .i64 0), (2, .int .i64 0), (3, .int .i64 0), (4, .slice none 0 0), (6, .slice none 0 0)]) [(18, XsR xb [5])] (by kernel_rfl) (by kernel_rfl) (by kernel_rfl) (fun ch p q w3 e h => by obtain ⟨t1, d1⟩ := p; obtain ⟨t2, d2⟩ := q; cases e; exact h) (fun w hb => IxI.of HXB.out rfl (by simp) hb) (fun w w' h hb => h.grow hb) ⟨fun _ _ _ h _ => h, fun _ _ _ h _ => h, fun _ _ _ h _ => h, fun _ _ _ h _ => h, fun _ _ _ h _ => h, fun _ _ _ h _ => h, fun _ _ _ h _ => h, fun _ _ _ h _ => h, fun _ _ _ h _ => h, fun _ _ _ h _ => h, fun _ _ _ h _ => h, fun _ _ _ h _ => h, fun _ _ _ h _ => h, (fTkR_good HLS.out _ _ _).1, (fTkR_good HLS.out _ _ _).1, fun _ _ _ h _ => h, (fTs_good HLS.out _ _).1, fun _ _ _ h _ => h, fXc_good _ _ _, fun _ _ _ h _ => h, trivial⟩ ⟨⟨fun w w' h hr => h.xs (by decide) hr, ⟨fun _ _ _ _ _ _ h => h, fun _ _ _ _ _ _ h => h, fun _ _ _ _ _ _ h => h, fun _ _ _ _ _ _ h => h, fun _ _ _ _ _ _ h => h, fun _ _ _ _ _ _ h => h, fun _ _ _ _ _ _ h => h, fun _ _ _ _ _ _ h => h, fun _ _ _ _ _ _ h => h, fun _ _ _ _ _ _ h => h, fun _ _ _ _ _ _ h => h, fun _ _ _ _ _ _ h => h, fun _ _ _ _ _ _ h => h, fun _ _ _ _ hI hr h => fTkR_xs HXS.out HXV.out hr h, fun _ _ _ _ hI hr h => fTkR_xs HXS.out HXV.out hr h, fun _ _ _ _ hI hr h => h, fun _ _ _ _ hI hr h => fTs_xs HXS.out HXV.out hr h, fun _ _ _ _ _ _ h => h, fun hne => (hne rfl).elim, fun _ _ _ _ _ _ h => h, trivial⟩⟩, trivial⟩ ?mkS ?restS
                        case mkS =>
                          refine ⟨fun u wz hI hd => ?_, fun u wz hI hd => ?_, fun u wz hI hd => ?_, fun u wz hI hd => ?_, fun u wz hI hd => ?_, fun u wz hI hd => ?_, fun u wz hI hd => ?_, fun u wz hI hd => ?_, fun u wz hI hd => ?_, fun u wz hI hd => ?_, fun u wz hI hd => ?_, fun u wz hI hd => ?_, fun u wz hI hd => ?_, fun u wz hI hd => ?_, fun u wz hI hd => ?_, fun u wz hI hd => ?_, fun u wz hI hd => ?_, fun u wz hI hd => ?_, fun u wz hI hd => ?_, fun u wz hI hd => ?_, trivial⟩
                          all_goals simp only [Act.put, List.setIfInBounds_toArray, List.set_cons_zero, List.set_cons_succ]
                          · go_simp
                            exact ⟨rfl, stpS_of rfl (Below.refl _ _)⟩
                          · go_simp
                            exact ⟨rfl, stpS_of rfl (Below.refl _ _)⟩
                          · have e1 : u 1 = .pointer (some ⟨nb, 1, none⟩) := hd 1 (by omega) (by kernel_rfl)
                            rw [e1]
                            have b1' := hI.cell hsx b1
                            have z_nb : nb < wz.heap.size := Nat.lt_of_lt_of_le nbz hI.2.1
                            go_simp
                            exact ⟨rfl, stpS_of rfl (Below.refl _ _)⟩
                          · go_simp
                            exact ⟨rfl, stpS_of rfl (Below.refl _ _)⟩
                          · go_simp
                            exact ⟨rfl, stpS_of rfl (Below.refl _ _)⟩
                          · go_simp
                            exact ⟨rfl, stpS_of rfl (Below.refl _ _)⟩
                          · have e5 : u 5 = .pointer (some ⟨nb, 1, none⟩) := hd 5 (by omega) (by kernel_rfl)
                            rw [e5]
                            have b1' := hI.cell hsx b1
                            have z_nb : nb < wz.heap.size := Nat.lt_of_lt_of_le nbz hI.2.1
                            go_simp
                            exact ⟨rfl, stpS_of rfl (Below.refl _ _)⟩
                          · go_simp
                            exact ⟨rfl, stpS_of rfl (Below.refl _ _)⟩
                          · go_simp
                            exact ⟨rfl, stpS_of rfl (Below.refl _ _)⟩
                          · have e8 : u 8 = .pointer (some ⟨nb, 1, none⟩) := hd 8 (by omega) (by kernel_rfl)
                            rw [e8]
                            have b1' := hI.cell hsx b1
                            have z_nb : nb < wz.heap.size := Nat.lt_of_lt_of_le nbz hI.2.1
                            go_simp
                            exact ⟨rfl, stpS_of rfl (Below.refl _ _)⟩
                          · have e7 : u 7 = .slice (some ⟨tb, 0, none⟩) n tc := hd 7 (by omega) (by kernel_rfl)
                            have e9 : u 9 = .int .i64 (i : Int) := hd 9 (by omega) (by kernel_rfl)
                            rw [e7, e9]
                            go_simp
                            exact ⟨rfl, stpS_of rfl (Below.refl _ _)⟩
                          · have e10 : u 10 = .pointer (some ⟨tb, i * 5, none⟩) := hd 10 (by omega) (by kernel_rfl)
                            rw [e10]
                            have m0' := hI.cell htx m0
                            have m1' := hI.cell htx m1
                            have m2' := hI.cell htx m2
                            have m3' := hI.cell htx m3
                            have m4' := hI.cell htx m4
                            have z_tb : tb < wz.heap.size := Nat.lt_of_lt_of_le tz hI.2.1
                            go_simp
                            exact ⟨rfl, stpS_of rfl (Below.refl _ _)⟩
                          · have b0' := hI.cell hsx b0
                            have b1' := hI.cell hsx b1
                            have b2' := hI.cell hsx b2
                            have b3' := hI.cell hsx b3
                            have z_nb : nb < wz.heap.size := Nat.lt_of_lt_of_le nbz hI.2.1
                            go_simp
                            exact ⟨rfl, stpS_of rfl (Below.refl _ _)⟩
                          · have e3 : u 3 = .int .i64 d := hd 3 (by omega) (by kernel_rfl)
                            have e4 : u 4 = .int .i64 (n : Int) := hd 4 (by omega) (by kernel_rfl)
                            have e6 : u 6 = .int .i64 (i : Int) := hd 6 (by omega) (by kernel_rfl)
                            have e11 : u 11 = .agg #[.slice oa on oc, .slice pa pn pc, .int .i64 (s.sent : Int), .int .i64 (s.taken : Int), .slice ea en ec] := hd 11 (by omega) (by kernel_rfl)
                            have e12 : u 12 = .agg #[.int .i64 qf_, .int .i64 (i : Int), .int .i64 qs_, .slice yX ym ycp] := hd 12 (by omega) (by kernel_rfl)
                            rw [e3, e4, e6, e11, e12]
                            go_simp
                            refine (HTK.out wz hI).mono ?_
                            rintro e w2 ⟨q, rfl, hb2, k1, k2⟩
                            exact ⟨⟨Nat.le_trans hI.2.1 hb2.size, q, rfl, k1.mono (fun b h => h.imp id fun h => ⟨Nat.le_trans hI.2.1 h.1, h.2⟩), k2.mono (fun b h => h.imp id fun h => ⟨Nat.le_trans hI.2.1 h.1, h.2⟩)⟩, stpS_of rfl hb2⟩
                          · obtain ⟨N9, q9, e9, k9, l9⟩ := hd 13 (by omega) (by kernel_rfl)
                            rw [e9]
                            go_simp
                            exact ⟨⟨N9, q9, rfl, k9, l9⟩, stpS_of rfl (Below.refl _ _)⟩
                          · obtain ⟨N9, q9, e9, k9, l9⟩ := hd 14 (by omega) (by kernel_rfl)
                            rw [e9]
                            go_simp
                            exact ⟨rfl, stpS_of rfl (Below.refl _ _)⟩
                          · obtain ⟨N9, q9, e9, k9, l9⟩ := hd 14 (by omega) (by kernel_rfl)
                            rw [e9]
                            go_simp
                            exact ⟨⟨N9, q9, rfl, k9, l9⟩, stpS_of rfl (Below.refl _ _)⟩
                          · go_simp
                            exact ⟨rfl, stpS_of rfl (Below.refl _ _)⟩
                          · have e17 : u 17 = .pointer (some ⟨xb, 5, none⟩) := hd 17 (by omega) (by kernel_rfl)
                            have e15 : u 15 = .int .i64 TE := hd 15 (by omega) (by kernel_rfl)
                            rw [e17, e15]
                            obtain ⟨⟨o5, g5⟩, gf, gz, gs⟩ := x_store hI (k := 5) (by decide)
                            go_simp
                            exact ⟨gs _, stpS_at rfl (xs_set xb 5 wz _)⟩
                          · have e0 : u 0 = .slice (some ⟨tb, 0, none⟩) n tc := hd 0 (by omega) (by kernel_rfl)
                            have e2 : u 2 = .int .i64 (i : Int) := hd 2 (by omega) (by kernel_rfl)
                            rw [e0, e2]
                            go_simp
                            exact ⟨rfl, stpS_of rfl (Below.refl _ _)⟩
                        case restS =>
                          intro u wz hI hf
                          have f0 : u 0 = .slice (some ⟨tb, 0, none⟩) n tc := hf 0 (by omega)
                          have f1 : u 1 = .pointer (some ⟨nb, 1, none⟩) := hf 1 (by omega)
                          have f2 : u 2 = .int .i64 (i : Int) := hf 2 (by omega)
                          have f3 : u 3 = .int .i64 d := hf 3 (by omega)
                          have f4 : u 4 = .int .i64 (n : Int) := hf 4 (by omega)
                          have f5 : u 5 = .pointer (some ⟨nb, 1, none⟩) := hf 5 (by omega)
                          have f6 : u 6 = .int .i64 (i : Int) := hf 6 (by omega)
                          have f7 : u 7 = .slice (some ⟨tb, 0, none⟩) n tc := hf 7 (by omega)
                          have f8 : u 8 = .pointer (some ⟨nb, 1, none⟩) := hf 8 (by omega)
                          have f9 : u 9 = .int .i64 (i : Int) := hf 9 (by omega)
                          have f10 : u 10 = .pointer (some ⟨tb, i * 5, none⟩) := hf 10 (by omega)
                          have f11 : u 11 = .agg #[.slice oa on oc, .slice pa pn pc, .int .i64 (s.sent : Int), .int .i64 (s.taken : Int), .slice ea en ec] := hf 11 (by omega)
                          have f12 : u 12 = .agg #[.int .i64 qf_, .int .i64 (i : Int), .int .i64 qs_, .slice yX ym ycp] := hf 12 (by omega)
                          obtain ⟨_, q13, f13, _, _⟩ := hf 13 (by omega)
                          obtain ⟨_, q14, f14, _, _⟩ := hf 14 (by omega)
                          have f15 : u 15 = .int .i64 TE := hf 15 (by omega)
                          obtain ⟨hNN, q16, f16, kk, ll⟩ := hf 16 (by omega)
                          have f17 : u 17 = .pointer (some ⟨xb, 5, none⟩) := hf 17 (by omega)
                          have x5 : wz.cell? ⟨xb, 5, none⟩ = some (.int .i64 TE) := hf 18 (by omega)
                          have f19 : u 19 = .pointer (some ⟨tb, i * 5, none⟩) := hf 19 (by omega)
                          refine UptoW.rest 1 20 (by rfl) (by kernel_rfl) ?_
                          simp only [List.take, List.drop, putOps, Act.put, List.setIfInBounds_toArray, List.set_cons_zero, List.set_cons_succ, Nat.reduceAdd, f0, f1, f2, f3, f4, f5, f6, f7, f8, f9, f10, f11, f12, f13, f14, f15, f16, f17, f19]
                          clear f0 f1 f2 f3 f4 f5 f6 f7 f8 f9 f10 f11 f12 f13 f14 f15 f16 f17 f19 hf
                          have hxz : wz.heap[xb]? = some (.cells #[.bool false, .int .i64 0, .int .i64 0, .int .i64 0, .slice none 0 0, .int .i64 TE, .slice none 0 0] 41 (0, 0)) := hI.x (fun cur h hc => ⟨hc (0, _) (by simp), hc (1, _) (by simp), hc (2, _) (by simp), hc (3, _) (by simp), hc (4, _) (by simp), cur_cell h x5, hc (6, _) (by simp)⟩)
                          have HXZ := hide hxz
                          obtain ⟨⟨oa1, on1, oc1⟩, ⟨pa1, pn1, pc1⟩, ⟨ea1, en1, ec1⟩⟩ := q16
                          try simp only at kk ll
                          have HKK := hide kk
                          have HLL := hide ll
                          clear kk ll hNN hxz x5
                          have HII := hide hI
                          obtain ⟨cur, htm, hcur⟩ := (hI.py HPY.out HXS.out htx HXW.out HXO.out).tm hi0
                          have hc5 := fun j hj => hcur i j hi hj
                          have n0 : ∃ u, wz.cell? ⟨tb, i * 5, none⟩ = some u := ⟨_, by simp only [World.cell?, htm]; exact hc5 0 (by omega)⟩
                          have n1 : ∃ u, wz.cell? ⟨tb, i * 5 + 1, none⟩ = some u := ⟨_, by simp only [World.cell?, htm]; exact hc5 1 (by omega)⟩
                          have n2 : ∃ u, wz.cell? ⟨tb, i * 5 + 2, none⟩ = some u := ⟨_, by simp only [World.cell?, htm]; exact hc5 2 (by omega)⟩
                          have n3 : ∃ u, wz.cell? ⟨tb, i * 5 + 3, none⟩ = some u := ⟨_, by simp only [World.cell?, htm]; exact hc5 3 (by omega)⟩
                          have n4 : ∃ u, wz.cell? ⟨tb, i * 5 + 4, none⟩ = some u := ⟨_, by simp only [World.cell?, htm]; exact hc5 4 (by omega)⟩
                          obtain ⟨n0v, n0⟩ := n0
                          obtain ⟨n1v, n1⟩ := n1
                          obtain ⟨n2v, n2⟩ := n2
                          obtain ⟨n3v, n3⟩ := n3
                          obtain ⟨n4v, n4⟩ := n4
                          have nf : ∀ k, wz.frozen? ⟨tb, k, none⟩ = false := fun k => by simp [World.frozen?, htm]
                          have nz := (Array.getElem?_eq_some_iff.1 htm).1
                          clear htm hcur hc5 hI
                          go_wp2_with fail
                          go_meet
                          case rel =>
                            obtain ⟨U, hU⟩ : ∃ U, U = sto5 wz tb (i * 5) (.slice oa1 on1 oc1) (.slice pa1 pn1 pc1) (.int .i64 (sq.sent : Int)) (.int .i64 (sq.taken : Int)) (.slice ea1 en1 ec1) := ⟨_, rfl⟩
                            have hU' := hU
                            unfold sto5 at hU'
                            rw [← hU']
                            have HPYU : Hid (PyI W.heap.size dN n (NwS S2 V.heap.size wz.heap.size) tb (updN Q2 i ⟨⟨oa1, on1, oc1⟩, ⟨pa1, pn1, pc1⟩, ⟨ea1, en1, ec1⟩⟩) (updN (playM dN n (begP dN n xss) (sc.take k)).1.ss i sq) u13 (Value.slice A3 ps3.length c3v) ps3 qs U) := by
                              rw [hU]
                              exact (HII.out.py HPY.out HXS.out htx HXW.out HXO.out).member hi ⟨⟨oa1, on1, oc1⟩, ⟨pa1, pn1, pc1⟩, ⟨ea1, en1, ec1⟩⟩ sq HKK.out HLL.out HOK1.out HER1.out
                            have HBU : Hid (Below W.heap.size W U) := by
                              rw [hU]
                              exact sto5_below (HII.out.below HBV.out HWX.out) HWT.out
                            have hxU : U.heap[xb]? = some (.cells #[.bool false, .int .i64 0, .int .i64 0, .int .i64 0, .slice none 0 0, .int .i64 TE, .slice none 0 0] 41 (0, 0)) := by
                              rw [hU, sto5_other (fun e => htx e.symm)]
                              exact HXZ.out
                            have HXU := hide hxU
                            clear hU hU' hxU n0 n1 n2 n3 n4 nf nz hsx htx
                            exact ⟨rfl, rfl, rfl, SwP.mk _ _ _ (⟨false, ntZ, TE, []⟩, slZ, slZ) HE.out HPYU.out HPS3.out HXU.out ⟨fun V _ => (Num.nil V).ints, Nat.le_refl _⟩ ⟨fun V _ => (Num.nil V).ints, Nat.le_refl _⟩ (fun b hb => .inl (HOLD.out b hb)) HBU.out⟩

                by_cases e3 : pa_ = 3
                · subst e3
                  by_cases e0 : ps = []
                  · have HPS0 := hide e0
                    have HNE : Hid ((playM dN n (begP dN n xss) (sc.take k)).1.ws = []) := by
                      show _ = _
                      rw [← HPS.out, e0]
                      rfl
                    clear e0
                    as_aux_lemma =>
                      obtain rfl : false = b1_ := by rw [HB1_.out]; simp
                      have he : stepM dN n (playM dN n (begP dN n xss) (sc.take k)).1 ⟨3, pm_, pk_, ⟨pf_, pt_, ps_, pd_⟩⟩ = ((playM dN n (begP dN n xss) (sc.take k)).1, ⟨false, ntZ, 0, []⟩) := by
                        unfold stepM
                        simp [HNE.out]
                      have HE := hide he
                      clear he
                      obtain ⟨X14, c14, rfl⟩ : ∃ X c, u14 = .slice X 0 c := by
                        have h0 : ps.length = 0 := by rw [HPS0.out]; rfl
                        rcases HPY.out.way.parts with ⟨e, _⟩ | ⟨g', cap, cur, e, _⟩
                        · exact ⟨none, 0, e⟩
                        · exact ⟨_, _, by rw [e, h0]⟩
                      go_wp2_with fail
                      go_meet
                      case rel =>
                        exact ⟨rfl, rfl, rfl, SwP.mk _ _ _ (⟨false, ntZ, 0, []⟩, slZ, slZ) HE.out HPY.out HPS.out HXB.out ⟨fun V _ => (Num.nil V).ints, Nat.le_refl _⟩ ⟨fun V _ => (Num.nil V).ints, Nat.le_refl _⟩ HOLD.out HBV.out⟩

                  · skip
                    as_aux_lemma =>
                      obtain rfl : false = b1_ := by rw [HB1_.out]; simp
                      have hL0 : 0 < ps.length := List.length_pos_iff.2 e0
                      obtain ⟨g14, c14, rfl, hc14⟩ : ∃ g c, u14 = .slice (some ⟨g, 0, none⟩) ps.length c ∧ ps.length ≤ c := by
                        rcases HPY.out.way.parts with ⟨_, e⟩ | ⟨g', cap, cur, e, _, _, h4, _⟩
                        · omega
                        · exact ⟨_, _, e, h4⟩
                      have hLb : ps.length ≤ 2000000000000 := by
                        have h1 := play_ws dN n (sc.take k) (begP dN n xss)
                        rw [← HPS.out, List.length_map, List.length_take] at h1
                        have h2 : (begP dN n xss).ws.length = 0 := rfl
                        have h3 := HSZ.out
                        have h4 := HM.out
                        omega
                      have hLz : (0 : Int) < (ps.length : Int) := by omega
                      obtain ⟨k1, hk1⟩ : ∃ r, r = modI pk_ ps.length := ⟨_, rfl⟩
                      have hk1l : k1 < ps.length := by rw [hk1]; exact modI_lt hL0 _
                      have hmod := fun w => rMod_all pk_ ps.length w hL0 (by omega)
                      rw [← hk1] at hmod
                      have HMOD := hide hmod
                      obtain ⟨⟨⟨qf_, qt_, qs_, qd_⟩, ⟨yX, ym, ycp⟩⟩, hp⟩ : ∃ p, ps[k1]? = some p := ⟨ps[k1], by simp [hk1l]⟩
                      obtain ⟨c0, c1, c2, c3⟩ := wyC_at HPY.out.way hp
                      obtain ⟨hsy, hyc, i, hi, hpt⟩ := HPY.out.wys _ (List.mem_of_getElem? hp)
                      simp only at hpt hsy hyc c0 c1 c2 c3
                      subst hpt
                      have HWS : Hid ((playM dN n (begP dN n xss) (sc.take k)).1.ws ≠ [] ∧ modI pk_ (playM dN n (begP dN n xss) (sc.take k)).1.ws.length = k1 ∧ nthW (playM dN n (begP dN n xss) (sc.take k)).1.ws k1 = ⟨qf_, (i : Int), qs_, qd_⟩) := by
                        show _ ∧ _ ∧ _
                        rw [← HPS.out]
                        refine ⟨fun e => e0 (List.map_eq_nil_iff.1 e), by rw [List.length_map, hk1], ?_⟩
                        unfold nthW
                        rw [List.getElem?_map, hp]
                        rfl
                      have hk1z : (k1 : Int) < (ps.length : Int) := by omega
                      have hk1y : (0 : Int) ≤ (k1 : Int) := by omega
                      have g14z := lt_of_cell c0
                      have HSY0 := hide hsy
                      have HYC := hide hyc
                      clear hk1 hmod hp hsy hyc e0
                      go_upto_region 27 with (go_at_call 23; refine (HMOD.out _).mono ?_; rintro e w9 ⟨rfl, h9⟩; obtain rfl := h9.symm)
                      obtain ⟨V1, hV1⟩ : ∃ V1, V1 = V.alloc (.cells #[.int .i64 qf_, .int .i64 (i : Int), .int .i64 qs_, .slice yX ym ycp] 39) := ⟨_, rfl⟩
                      rw [← hV1]
                      obtain ⟨nb, hnb⟩ : ∃ b, b = V.heap.size := ⟨_, rfl⟩
                      rw [← hnb]
                      have hb01 : Below V.heap.size V V1 := by rw [hV1]; exact bl_new _
                      have hNB : V1.heap[nb]? = some (.cells #[.int .i64 qf_, .int .i64 (i : Int), .int .i64 qs_, .slice yX ym ycp] 39 (0, 0)) := by rw [hV1, hnb]; exact World.alloc_heap_new _ _
                      have HPYA := hide (HPY.out.grow hb01)
                      have HB01 := hide hb01
                      have HNB := hide hNB
                      clear hV1 hnb hb01 hNB c0 c1 c2 c3 s0 s1 s2 s3 s4 s5 s6 sbz g14z
                      have HPY3 := HPYA
                      have HB3 := hide (Below.refl V1.heap.size V1)
                      obtain ⟨V2, hV2⟩ : ∃ V2, V2 = V1 := ⟨_, rfl⟩
                      rw [← hV2] at HPY3 ⊢
                      have HB3 : Hid (Below V1.heap.size V1 V2) := by rw [hV2]; exact Below.refl _ _
                      have hb02 : Below V.heap.size V V2 := HB01.out.trans (HB3.out.mono HB01.out.size)
                      have hXB2 := (hb02.block xb (Array.getElem?_eq_some_iff.1 HXB.out).1).trans HXB.out
                      have hSY2 := HSY0.out.agr (agr_below HPY.out.low hb02)
                      have hB2 := HBV.out.trans (hb02.mono HBV.out.size)
                      have hNB2 := (HB3.out.block nb (Array.getElem?_eq_some_iff.1 HNB.out).1).trans HNB.out
                      have hsx : nb ≠ xb := fun e => by
                        have h1 := hXB2
                        rw [← e, hNB2] at h1
                        simp at h1
                      have b0 : V2.cell? ⟨nb, 0, none⟩ = some (.int .i64 qf_) := by simp only [World.cell?, hNB2]; rfl
                      have b1 : V2.cell? ⟨nb, 1, none⟩ = some (.int .i64 (i : Int)) := by simp only [World.cell?, hNB2]; rfl
                      have b2 : V2.cell? ⟨nb, 2, none⟩ = some (.int .i64 qs_) := by simp only [World.cell?, hNB2]; rfl
                      have b3 : V2.cell? ⟨nb, 3, none⟩ = some (.slice yX ym ycp) := by simp only [World.cell?, hNB2]; rfl
                      have nbz := (Array.getElem?_eq_some_iff.1 hNB2).1
                      have HX2 := hide hXB2
                      have HSY := hide hSY2
                      have HB2 := hide hB2
                      have HVV : Hid (V.heap.size ≤ V2.heap.size) := hb02.size
                      clear hb02 hXB2 hSY2 hB2 hNB2 hV2 HNB HPYA HSY0 HPY HXB HBV HB0V HB01 HB3
                      obtain ⟨V, hVV2⟩ : ∃ V, V = V2 := ⟨_, rfl⟩
                      subst hVV2
                      have HPY := HPY3
                      have HXB := HX2
                      have HBV := HB2
                      clear HPY3 HX2 HB2
                      have hi0 : 0 < n := by omega
                      obtain rfl : A9 = some ⟨tb, 0, none⟩ := HA9.out hi0
                      have hdz := HND.out hi0
                      have HDZ := hide hdz
                      obtain ⟨cur, htm, hcur⟩ := HPY.out.tm hi0
                      obtain ⟨q, hq⟩ : ∃ q, q = Q2 i := ⟨_, rfl⟩
                      obtain ⟨s, hs⟩ : ∃ s, s = (playM dN n (begP dN n xss) (sc.take k)).1.ss i := ⟨_, rfl⟩
                      have hst := HPY.out.st i hi
                      have htop := HPY.out.top i hi
                      have hok := HPY.out.ok i hi
                      have her := HPY.out.er i hi
                      have hc5 := fun j hj => hcur i j hi hj
                      rw [← hs] at hst hok her hc5
                      rw [← hq] at hst htop hc5
                      obtain ⟨⟨oa, on, oc⟩, ⟨pa, pn, pc⟩, ⟨ea, en, ec⟩⟩ := q
                      have HQ := hide hq
                      have HSS := hide hs
                      have HST := hide hst
                      have HTOP := hide htop
                      have HOK := hide hok
                      have HER := hide her
                      have m0 : V.cell? ⟨tb, i * 5, none⟩ = some (.slice oa on oc) := by simp only [World.cell?, htm]; exact hc5 0 (by omega)
                      have m1 : V.cell? ⟨tb, i * 5 + 1, none⟩ = some (.slice pa pn pc) := by simp only [World.cell?, htm]; exact hc5 1 (by omega)
                      have m2 : V.cell? ⟨tb, i * 5 + 2, none⟩ = some (.int .i64 (s.sent : Int)) := by simp only [World.cell?, htm]; exact hc5 2 (by omega)
                      have m3 : V.cell? ⟨tb, i * 5 + 3, none⟩ = some (.int .i64 (s.taken : Int)) := by simp only [World.cell?, htm]; exact hc5 3 (by omega)
                      have m4 : V.cell? ⟨tb, i * 5 + 4, none⟩ = some (.slice ea en ec) := by simp only [World.cell?, htm]; exact hc5 4 (by omega)
                      have tz := (Array.getElem?_eq_some_iff.1 htm).1
                      have hiz : (i : Int) < (n : Int) := by omega
                      have hii : (0 : Int) ≤ (i : Int) := by omega
                      have HTZ : Hid (tb < w0.heap.size) := by
                        obtain ⟨cur0, k1, _⟩ := HPY1.out.tm hi0
                        exact (Array.getElem?_eq_some_iff.1 k1).1
                      have HLS := hide HPY.out.low
                      clear hdz hcur htm hst htop hok her hc5 hq hs
                      have hbe := HBE.out
                      have htz := HTZ.out
                      have htx : tb ≠ xb := by omega
                      have HXS : Hid (¬ S2 xb) := fun h => by
                        have := HPY1.out.low xb h
                        omega
                      have HXV : Hid (xb < V.heap.size) := (Array.getElem?_eq_some_iff.1 HXB.out).1
                      have HXO : Hid (u13.ownBlock ≠ some xb) := fun e => by
                        have := (HPY1.out.out.lt xb e).2.1
                        omega
                      have HXW : Hid ((Value.slice (some ⟨g14, 0, none⟩) ps.length c14).ownBlock ≠ some xb) := fun e => by
                        have := (HPY1.out.way.lt xb e).2.1
                        omega
                      have HWX : Hid (W.heap.size ≤ xb) := by
                        show W.heap.size ≤ xb
                        have := HBW.out.size
                        omega
                      have HWT : Hid (W.heap.size ≤ tb) := by
                        show W.heap.size ≤ tb
                        by_cases h : tb < W.heap.size
                        · exact (HPY1.out.ntb hi0 (HOLD.out tb h)).elim
                        · omega
                      clear hbe htz
                      obtain ⟨sq, hs1⟩ : ∃ r, r = takeM dN n i s ⟨qf_, (i : Int), qs_, qd_⟩ := ⟨_, rfl⟩
                      obtain ⟨TE, hTE⟩ : ∃ r, r = takeE dN n i s ⟨qf_, (i : Int), qs_, qd_⟩ := ⟨_, rfl⟩
                      have htk := fun (wz : World) (hI : IxI V xb [(0, .bool false), (1, .int .i64 0), (2, .int .i64 0), (3, .int .i64 0), (4, .slice none 0 0), (6, .slice none 0 0)] wz) => rTake_any ⟨⟨oa, on, oc⟩, ⟨pa, pn, pc⟩, ⟨ea, en, ec⟩⟩ dN n i s ⟨qf_, (i : Int), qs_, qd_⟩ ⟨yX, ym, ycp⟩ wz S2 (fun b h => Nat.lt_of_lt_of_le (HLS.out b h) hI.2.1) (HST.out.agr (hI.agr HLS.out HXS.out)) HTOP.out (Stt.agr HSY.out (hI.agr HLS.out HXS.out)) HYC.out HOK.out (Nat.le_trans HER.out.len (by decide))
                      unfold RTkAns at htk
                      rw [← hs1, ← hTE, ← HDZ.out] at htk
                      unfold Rs.v ntV at htk
                      simp only at htk
                      have HTK := hide htk
                      have HOK1 : Hid (StOk dN n i sq) := by
                        show StOk dN n i sq
                        rw [hs1]
                        exact HOK.out.take _
                      have HER1 : Hid (ErOk sq) := by
                        show ErOk sq
                        rw [hs1]
                        exact HER.out.take hn16 _
                      have HS1 := hide hs1
                      have HTE1 := hide hTE
                      have he : stepM dN n (playM dN n (begP dN n xss) (sc.take k)).1 ⟨3, pm_, pk_, ⟨pf_, pt_, ps_, pd_⟩⟩ = (⟨updN (playM dN n (begP dN n xss) (sc.take k)).1.ss i sq, (playM dN n (begP dN n xss) (sc.take k)).1.ws⟩, ⟨false, ntZ, TE, []⟩) := by
                        obtain ⟨hw1, hw2, hw3⟩ := HWS.out
                        unfold stepM
                        rw [if_neg (by simp), if_pos ⟨by simp, hw1⟩]
                        simp only [hw2, hw3]
                        unfold giveM
                        rw [hs1, hTE, HSS.out]
                        rfl
                      have HE := hide he
                      clear hs1 hTE htk he
                      refine region_madeS 20 22 [fIs (.slice (some ⟨tb, 0, none⟩) n tc), fIs (.pointer (some ⟨nb, 1, none⟩)), fIs (.int .i64 (i : Int)), fIs (.int .i64 d), fIs (.int .i64 (n : Int)), fIs (.pointer (some ⟨nb, 1, none⟩)), fIs (.int .i64 (i : Int)), fIs (.slice (some ⟨tb, 0, none⟩) n tc), fIs (.pointer (some ⟨nb, 1, none⟩)), fIs (.int .i64 (i : Int)), fIs (.pointer (some ⟨tb, i * 5, none⟩)), fIs (.agg #[.slice oa on oc, .slice pa pn pc, .int .i64 (s.sent : Int), .int .i64 (s.taken : Int), .slice ea en ec]), fIs (.agg #[.int .i64 qf_, .int .i64 (i : Int), .int .i64 qs_, .slice yX ym ycp]), fLow V.heap.size (fTkR V.heap.size S2 n sq TE), fLow V.heap.size (fTkR V.heap.size S2 n sq TE), fIs (.int .i64 TE), fLow V.heap.size (fTs V.heap.size S2 n sq), fIs (.pointer (some ⟨xb, 5, none⟩)), fXc xb 5 (.int .i64 TE), fIs (.pointer (some ⟨tb, i * 5, none⟩))] (IxI V xb [(0, .bool false), (1, .int .i64 0), (2, .int .i64 0), (3, .int .i64 0), (4, .slice none 0 0), (6, .slice none 0 0)]) [(18, XsR xb [5])] (by kernel_rfl) (by kernel_rfl) (by kernel_rfl) (fun ch p q w3 e h => by obtain ⟨t1, d1⟩ := p; obtain ⟨t2, d2⟩ := q; cases e; exact h) (fun w hb => IxI.of HXB.out rfl (by simp) hb) (fun w w' h hb => h.grow hb) ⟨fun _ _ _ h _ => h, fun _ _ _ h _ => h, fun _ _ _ h _ => h, fun _ _ _ h _ => h, fun _ _ _ h _ => h, fun _ _ _ h _ => h, fun _ _ _ h _ => h, fun _ _ _ h _ => h, fun _ _ _ h _ => h, fun _ _ _ h _ => h, fun _ _ _ h _ => h, fun _ _ _ h _ => h, fun _ _ _ h _ => h, (fTkR_good HLS.out _ _ _).1, (fTkR_good HLS.out _ _ _).1, fun _ _ _ h _ => h, (fTs_good HLS.out _ _).1, fun _ _ _ h _ => h, fXc_good _ _ _, fun _ _ _ h _ => h, trivial⟩ ⟨⟨fun w w' h hr => h.xs (by decide) hr, ⟨fun _ _ _ _ _ _ h => h, fun _ _ _ _ _ _ h => h, fun _ _ _ _ _ _ h => h, fun _ _ _ _ _ _ h => h, fun _ _ _ _ _ _ h => h, fun _ _ _ _ _ _ h => h, fun _ _ _ _ _ _ h => h, fun _ _ _ _ _ _ h => h, fun _ _ _ _ _ _ h => h, fun _ _ _ _ _ _ h => h, fun _ _ _ _ _ _ h => h, fun _ _ _ _ _ _ h => h, fun _ _ _ _ _ _ h => h, fun _ _ _ _ hI hr h => fTkR_xs HXS.out HXV.out hr h, fun _ _ _ _ hI hr h => fTkR_xs HXS.out HXV.out hr h, fun _ _ _ _ hI hr h => h, fun _ _ _ _ hI hr h => fTs_xs HXS.out HXV.out hr h, fun _ _ _ _ _ _ h => h, fun hne => (hne rfl).elim, fun _ _ _ _ _ _ h => h, trivial⟩⟩, trivial⟩ ?mkS ?restS
                      case mkS =>
                        refine ⟨fun u wz hI hd => ?_, fun u wz hI hd => ?_, fun u wz hI hd => ?_, fun u wz hI hd => ?_, fun u wz hI hd => ?_, fun u wz hI hd => ?_, fun u wz hI hd => ?_, fun u wz hI hd => ?_, fun u wz hI hd => ?_, fun u wz hI hd => ?_, fun u wz hI hd => ?_, fun u wz hI hd => ?_, fun u wz hI hd => ?_, fun u wz hI hd => ?_, fun u wz hI hd => ?_, fun u wz hI hd => ?_, fun u wz hI hd => ?_, fun u wz hI hd => ?_, fun u wz hI hd => ?_, fun u wz hI hd => ?_, trivial⟩
                        all_goals simp only [Act.put, List.setIfInBounds_toArray, List.set_cons_zero, List.set_cons_succ]
                        · go_simp
                          exact ⟨rfl, stpS_of rfl (Below.refl _ _)⟩
                        · go_simp
                          exact ⟨rfl, stpS_of rfl (Below.refl _ _)⟩
                        · have e1 : u 1 = .pointer (some ⟨nb, 1, none⟩) := hd 1 (by omega) (by kernel_rfl)
                          rw [e1]
                          have b1' := hI.cell hsx b1
                          have z_nb : nb < wz.heap.size := Nat.lt_of_lt_of_le nbz hI.2.1
                          go_simp
                          exact ⟨rfl, stpS_of rfl (Below.refl _ _)⟩
                        · go_simp
                          exact ⟨rfl, stpS_of rfl (Below.refl _ _)⟩
                        · go_simp
                          exact ⟨rfl, stpS_of rfl (Below.refl _ _)⟩
                        · go_simp
                          exact ⟨rfl, stpS_of rfl (Below.refl _ _)⟩
                        · have e5 : u 5 = .pointer (some ⟨nb, 1, none⟩) := hd 5 (by omega) (by kernel_rfl)
                          rw [e5]
                          have b1' := hI.cell hsx b1
                          have z_nb : nb < wz.heap.size := Nat.lt_of_lt_of_le nbz hI.2.1
                          go_simp
                          exact ⟨rfl, stpS_of rfl (Below.refl _ _)⟩
                        · go_simp
                          exact ⟨rfl, stpS_of rfl (Below.refl _ _)⟩
                        · go_simp
                          exact ⟨rfl, stpS_of rfl (Below.refl _ _)⟩
                        · have e8 : u 8 = .pointer (some ⟨nb, 1, none⟩) := hd 8 (by omega) (by kernel_rfl)
                          rw [e8]
                          have b1' := hI.cell hsx b1
                          have z_nb : nb < wz.heap.size := Nat.lt_of_lt_of_le nbz hI.2.1
                          go_simp
                          exact ⟨rfl, stpS_of rfl (Below.refl _ _)⟩
                        · have e7 : u 7 = .slice (some ⟨tb, 0, none⟩) n tc := hd 7 (by omega) (by kernel_rfl)
                          have e9 : u 9 = .int .i64 (i : Int) := hd 9 (by omega) (by kernel_rfl)
                          rw [e7, e9]
                          go_simp
                          exact ⟨rfl, stpS_of rfl (Below.refl _ _)⟩
                        · have e10 : u 10 = .pointer (some ⟨tb, i * 5, none⟩) := hd 10 (by omega) (by kernel_rfl)
                          rw [e10]
                          have m0' := hI.cell htx m0
                          have m1' := hI.cell htx m1
                          have m2' := hI.cell htx m2
                          have m3' := hI.cell htx m3
                          have m4' := hI.cell htx m4
                          have z_tb : tb < wz.heap.size := Nat.lt_of_lt_of_le tz hI.2.1
                          go_simp
                          exact ⟨rfl, stpS_of rfl (Below.refl _ _)⟩
                        · have b0' := hI.cell hsx b0
                          have b1' := hI.cell hsx b1
                          have b2' := hI.cell hsx b2
                          have b3' := hI.cell hsx b3
                          have z_nb : nb < wz.heap.size := Nat.lt_of_lt_of_le nbz hI.2.1
                          go_simp
                          exact ⟨rfl, stpS_of rfl (Below.refl _ _)⟩
                        · have e3 : u 3 = .int .i64 d := hd 3 (by omega) (by kernel_rfl)
                          have e4 : u 4 = .int .i64 (n : Int) := hd 4 (by omega) (by kernel_rfl)
                          have e6 : u 6 = .int .i64 (i : Int) := hd 6 (by omega) (by kernel_rfl)
                          have e11 : u 11 = .agg #[.slice oa on oc, .slice pa pn pc, .int .i64 (s.sent : Int), .int .i64 (s.taken : Int), .slice ea en ec] := hd 11 (by omega) (by kernel_rfl)
                          have e12 : u 12 = .agg #[.int .i64 qf_, .int .i64 (i : Int), .int .i64 qs_, .slice yX ym ycp] := hd 12 (by omega) (by kernel_rfl)
                          rw [e3, e4, e6, e11, e12]
                          go_simp
                          refine (HTK.out wz hI).mono ?_
                          rintro e w2 ⟨q, rfl, hb2, k1, k2⟩
                          exact ⟨⟨Nat.le_trans hI.2.1 hb2.size, q, rfl, k1.mono (fun b h => h.imp id fun h => ⟨Nat.le_trans hI.2.1 h.1, h.2⟩), k2.mono (fun b h => h.imp id fun h => ⟨Nat.le_trans hI.2.1 h.1, h.2⟩)⟩, stpS_of rfl hb2⟩
                        · obtain ⟨N9, q9, e9, k9, l9⟩ := hd 13 (by omega) (by kernel_rfl)
                          rw [e9]
                          go_simp
                          exact ⟨⟨N9, q9, rfl, k9, l9⟩, stpS_of rfl (Below.refl _ _)⟩
                        · obtain ⟨N9, q9, e9, k9, l9⟩ := hd 14 (by omega) (by kernel_rfl)
                          rw [e9]
                          go_simp
                          exact ⟨rfl, stpS_of rfl (Below.refl _ _)⟩
                        · obtain ⟨N9, q9, e9, k9, l9⟩ := hd 14 (by omega) (by kernel_rfl)
                          rw [e9]
                          go_simp
                          exact ⟨⟨N9, q9, rfl, k9, l9⟩, stpS_of rfl (Below.refl _ _)⟩
                        · go_simp
                          exact ⟨rfl, stpS_of rfl (Below.refl _ _)⟩
                        · have e17 : u 17 = .pointer (some ⟨xb, 5, none⟩) := hd 17 (by omega) (by kernel_rfl)
                          have e15 : u 15 = .int .i64 TE := hd 15 (by omega) (by kernel_rfl)
                          rw [e17, e15]
                          obtain ⟨⟨o5, g5⟩, gf, gz, gs⟩ := x_store hI (k := 5) (by decide)
                          go_simp
                          exact ⟨gs _, stpS_at rfl (xs_set xb 5 wz _)⟩
                        · have e0 : u 0 = .slice (some ⟨tb, 0, none⟩) n tc := hd 0 (by omega) (by kernel_rfl)
                          have e2 : u 2 = .int .i64 (i : Int) := hd 2 (by omega) (by kernel_rfl)
                          rw [e0, e2]
                          go_simp
                          exact ⟨rfl, stpS_of rfl (Below.refl _ _)⟩
                      case restS =>
                        intro u wz hI hf
                        have f0 : u 0 = .slice (some ⟨tb, 0, none⟩) n tc := hf 0 (by omega)
                        have f1 : u 1 = .pointer (some ⟨nb, 1, none⟩) := hf 1 (by omega)
                        have f2 : u 2 = .int .i64 (i : Int) := hf 2 (by omega)
                        have f3 : u 3 = .int .i64 d := hf 3 (by omega)
                        have f4 : u 4 = .int .i64 (n : Int) := hf 4 (by omega)
                        have f5 : u 5 = .pointer (some ⟨nb, 1, none⟩) := hf 5 (by omega)
                        have f6 : u 6 = .int .i64 (i : Int) := hf 6 (by omega)
                        have f7 : u 7 = .slice (some ⟨tb, 0, none⟩) n tc := hf 7 (by omega)
                        have f8 : u 8 = .pointer (some ⟨nb, 1, none⟩) := hf 8 (by omega)
                        have f9 : u 9 = .int .i64 (i : Int) := hf 9 (by omega)
                        have f10 : u 10 = .pointer (some ⟨tb, i * 5, none⟩) := hf 10 (by omega)
                        have f11 : u 11 = .agg #[.slice oa on oc, .slice pa pn pc, .int .i64 (s.sent : Int), .int .i64 (s.taken : Int), .slice ea en ec] := hf 11 (by omega)
                        have f12 : u 12 = .agg #[.int .i64 qf_, .int .i64 (i : Int), .int .i64 qs_, .slice yX ym ycp] := hf 12 (by omega)
                        obtain ⟨_, q13, f13, _, _⟩ := hf 13 (by omega)
                        obtain ⟨_, q14, f14, _, _⟩ := hf 14 (by omega)
                        have f15 : u 15 = .int .i64 TE := hf 15 (by omega)
                        obtain ⟨hNN, q16, f16, kk, ll⟩ := hf 16 (by omega)
                        have f17 : u 17 = .pointer (some ⟨xb, 5, none⟩) := hf 17 (by omega)
                        have x5 : wz.cell? ⟨xb, 5, none⟩ = some (.int .i64 TE) := hf 18 (by omega)
                        have f19 : u 19 = .pointer (some ⟨tb, i * 5, none⟩) := hf 19 (by omega)
                        refine UptoW.rest 1 20 (by rfl) (by kernel_rfl) ?_
                        simp only [List.take, List.drop, putOps, Act.put, List.setIfInBounds_toArray, List.set_cons_zero, List.set_cons_succ, Nat.reduceAdd, f0, f1, f2, f3, f4, f5, f6, f7, f8, f9, f10, f11, f12, f13, f14, f15, f16, f17, f19]
                        clear f0 f1 f2 f3 f4 f5 f6 f7 f8 f9 f10 f11 f12 f13 f14 f15 f16 f17 f19 hf
                        have hxz : wz.heap[xb]? = some (.cells #[.bool false, .int .i64 0, .int .i64 0, .int .i64 0, .slice none 0 0, .int .i64 TE, .slice none 0 0] 41 (0, 0)) := hI.x (fun cur h hc => ⟨hc (0, _) (by simp), hc (1, _) (by simp), hc (2, _) (by simp), hc (3, _) (by simp), hc (4, _) (by simp), cur_cell h x5, hc (6, _) (by simp)⟩)
                        have HXZ := hide hxz
                        obtain ⟨⟨oa1, on1, oc1⟩, ⟨pa1, pn1, pc1⟩, ⟨ea1, en1, ec1⟩⟩ := q16
                        try simp only at kk ll
                        have HKK := hide kk
                        have HLL := hide ll
                        clear kk ll hNN hxz x5
                        have HII := hide hI
                        obtain ⟨cur, htm, hcur⟩ := (hI.py HPY.out HXS.out htx HXW.out HXO.out).tm hi0
                        have hc5 := fun j hj => hcur i j hi hj
                        have n0 : ∃ u, wz.cell? ⟨tb, i * 5, none⟩ = some u := ⟨_, by simp only [World.cell?, htm]; exact hc5 0 (by omega)⟩
                        have n1 : ∃ u, wz.cell? ⟨tb, i * 5 + 1, none⟩ = some u := ⟨_, by simp only [World.cell?, htm]; exact hc5 1 (by omega)⟩
                        have n2 : ∃ u, wz.cell? ⟨tb, i * 5 + 2, none⟩ = some u := ⟨_, by simp only [World.cell?, htm]; exact hc5 2 (by omega)⟩
                        have n3 : ∃ u, wz.cell? ⟨tb, i * 5 + 3, none⟩ = some u := ⟨_, by simp only [World.cell?, htm]; exact hc5 3 (by omega)⟩
                        have n4 : ∃ u, wz.cell? ⟨tb, i * 5 + 4, none⟩ = some u := ⟨_, by simp only [World.cell?, htm]; exact hc5 4 (by omega)⟩
                        obtain ⟨n0v, n0⟩ := n0
                        obtain ⟨n1v, n1⟩ := n1
                        obtain ⟨n2v, n2⟩ := n2
                        obtain ⟨n3v, n3⟩ := n3
                        obtain ⟨n4v, n4⟩ := n4
                        have nf : ∀ k, wz.frozen? ⟨tb, k, none⟩ = false := fun k => by simp [World.frozen?, htm]
                        have nz := (Array.getElem?_eq_some_iff.1 htm).1
                        clear htm hcur hc5 hI
                        go_wp2_with fail
                        go_meet
                        case rel =>
                          obtain ⟨U, hU⟩ : ∃ U, U = sto5 wz tb (i * 5) (.slice oa1 on1 oc1) (.slice pa1 pn1 pc1) (.int .i64 (sq.sent : Int)) (.int .i64 (sq.taken : Int)) (.slice ea1 en1 ec1) := ⟨_, rfl⟩
                          have hU' := hU
                          unfold sto5 at hU'
                          rw [← hU']
                          have HPYU : Hid (PyI W.heap.size dN n (NwS S2 V.heap.size wz.heap.size) tb (updN Q2 i ⟨⟨oa1, on1, oc1⟩, ⟨pa1, pn1, pc1⟩, ⟨ea1, en1, ec1⟩⟩) (updN (playM dN n (begP dN n xss) (sc.take k)).1.ss i sq) u13 (Value.slice (some ⟨g14, 0, none⟩) ps.length c14) ps qs U) := by
                            rw [hU]
                            exact (HII.out.py HPY.out HXS.out htx HXW.out HXO.out).member hi ⟨⟨oa1, on1, oc1⟩, ⟨pa1, pn1, pc1⟩, ⟨ea1, en1, ec1⟩⟩ sq HKK.out HLL.out HOK1.out HER1.out
                          have HBU : Hid (Below W.heap.size W U) := by
                            rw [hU]
                            exact sto5_below (HII.out.below HBV.out HWX.out) HWT.out
                          have hxU : U.heap[xb]? = some (.cells #[.bool false, .int .i64 0, .int .i64 0, .int .i64 0, .slice none 0 0, .int .i64 TE, .slice none 0 0] 41 (0, 0)) := by
                            rw [hU, sto5_other (fun e => htx e.symm)]
                            exact HXZ.out
                          have HXU := hide hxU
                          clear hU hU' hxU n0 n1 n2 n3 n4 nf nz hsx htx
                          exact ⟨rfl, rfl, rfl, SwP.mk _ _ _ (⟨false, ntZ, TE, []⟩, slZ, slZ) HE.out HPYU.out HPS.out HXU.out ⟨fun V _ => (Num.nil V).ints, Nat.le_refl _⟩ ⟨fun V _ => (Num.nil V).ints, Nat.le_refl _⟩ (fun b hb => .inl (HOLD.out b hb)) HBU.out⟩

                by_cases e4 : pa_ = 4
                · subst e4
                  cases ib with
                  | true =>
                    obtain ⟨i, hi, rfl⟩ := HIN.out rfl
                    as_aux_lemma =>
                      obtain rfl : false = b1_ := by rw [HB1_.out]; simp
                      have hi0 : 0 < n := by omega
                      obtain rfl : A9 = some ⟨tb, 0, none⟩ := HA9.out hi0
                      have hdz := HND.out hi0
                      have HDZ := hide hdz
                      obtain ⟨cur, htm, hcur⟩ := HPY.out.tm hi0
                      obtain ⟨q, hq⟩ : ∃ q, q = Q2 i := ⟨_, rfl⟩
                      obtain ⟨s, hs⟩ : ∃ s, s = (playM dN n (begP dN n xss) (sc.take k)).1.ss i := ⟨_, rfl⟩
                      have hst := HPY.out.st i hi
                      have htop := HPY.out.top i hi
                      have hok := HPY.out.ok i hi
                      have her := HPY.out.er i hi
                      have hc5 := fun j hj => hcur i j hi hj
                      rw [← hs] at hst hok her hc5
                      rw [← hq] at hst htop hc5
                      obtain ⟨⟨oa, on, oc⟩, ⟨pa, pn, pc⟩, ⟨ea, en, ec⟩⟩ := q
                      have HQ := hide hq
                      have HSS := hide hs
                      have HST := hide hst
                      have HTOP := hide htop
                      have HOK := hide hok
                      have HER := hide her
                      have m0 : V.cell? ⟨tb, i * 5, none⟩ = some (.slice oa on oc) := by simp only [World.cell?, htm]; exact hc5 0 (by omega)
                      have m1 : V.cell? ⟨tb, i * 5 + 1, none⟩ = some (.slice pa pn pc) := by simp only [World.cell?, htm]; exact hc5 1 (by omega)
                      have m2 : V.cell? ⟨tb, i * 5 + 2, none⟩ = some (.int .i64 (s.sent : Int)) := by simp only [World.cell?, htm]; exact hc5 2 (by omega)
                      have m3 : V.cell? ⟨tb, i * 5 + 3, none⟩ = some (.int .i64 (s.taken : Int)) := by simp only [World.cell?, htm]; exact hc5 3 (by omega)
                      have m4 : V.cell? ⟨tb, i * 5 + 4, none⟩ = some (.slice ea en ec) := by simp only [World.cell?, htm]; exact hc5 4 (by omega)
                      have tz := (Array.getElem?_eq_some_iff.1 htm).1
                      have hiz : (i : Int) < (n : Int) := by omega
                      have hii : (0 : Int) ≤ (i : Int) := by omega
                      have HTZ : Hid (tb < w0.heap.size) := by
                        obtain ⟨cur0, k1, _⟩ := HPY1.out.tm hi0
                        exact (Array.getElem?_eq_some_iff.1 k1).1
                      have HLS := hide HPY.out.low
                      clear hdz hcur htm hst htop hok her hc5 hq hs
                      have hbe := HBE.out
                      have htz := HTZ.out
                      have hsx : sbx ≠ xb := by omega
                      have htx : tb ≠ xb := by omega
                      have HXS : Hid (¬ S2 xb) := fun h => by
                        have := HPY1.out.low xb h
                        omega
                      have HXV : Hid (xb < V.heap.size) := (Array.getElem?_eq_some_iff.1 HXB.out).1
                      have HXO : Hid (u13.ownBlock ≠ some xb) := fun e => by
                        have := (HPY1.out.out.lt xb e).2.1
                        omega
                      have HXW : Hid (u14.ownBlock ≠ some xb) := fun e => by
                        have := (HPY1.out.way.lt xb e).2.1
                        omega
                      have HWX : Hid (W.heap.size ≤ xb) := by
                        show W.heap.size ≤ xb
                        have := HBW.out.size
                        omega
                      have HWT : Hid (W.heap.size ≤ tb) := by
                        show W.heap.size ≤ tb
                        by_cases h : tb < W.heap.size
                        · exact (HPY1.out.ntb hi0 (HOLD.out tb h)).elim
                        · omega
                      clear hbe htz
                      obtain ⟨sq, hs1⟩ : ∃ r, r = takeM dN n i s ⟨pf_, pt_, ps_, pd_⟩ := ⟨_, rfl⟩
                      obtain ⟨TE, hTE⟩ : ∃ r, r = takeE dN n i s ⟨pf_, pt_, ps_, pd_⟩ := ⟨_, rfl⟩
                      have htk := fun (wz : World) (hI : IxI V xb [(0, .bool false), (1, .int .i64 0), (2, .int .i64 0), (3, .int .i64 0), (4, .slice none 0 0), (6, .slice none 0 0)] wz) => rTake_any ⟨⟨oa, on, oc⟩, ⟨pa, pn, pc⟩, ⟨ea, en, ec⟩⟩ dN n i s ⟨pf_, pt_, ps_, pd_⟩ ⟨sX, sm, scp⟩ wz S2 (fun b h => Nat.lt_of_lt_of_le (HLS.out b h) hI.2.1) (HST.out.agr (hI.agr HLS.out HXS.out)) HTOP.out (Stt.agr (HSD.out.agr (agr_below HPY1.out.low HB0V.out)) (hI.agr HLS.out HXS.out)) HSC.out HOK.out (Nat.le_trans HER.out.len (by decide))
                      unfold RTkAns at htk
                      rw [← hs1, ← hTE, ← HDZ.out] at htk
                      unfold Rs.v ntV at htk
                      simp only at htk
                      have HTK := hide htk
                      have HOK1 : Hid (StOk dN n i sq) := by
                        show StOk dN n i sq
                        rw [hs1]
                        exact HOK.out.take _
                      have HER1 : Hid (ErOk sq) := by
                        show ErOk sq
                        rw [hs1]
                        exact HER.out.take hn16 _
                      have HS1 := hide hs1
                      have HTE1 := hide hTE
                      have he : stepM dN n (playM dN n (begP dN n xss) (sc.take k)).1 ⟨4, (i : Int), pk_, ⟨pf_, pt_, ps_, pd_⟩⟩ = (⟨updN (playM dN n (begP dN n xss) (sc.take k)).1.ss i sq, (playM dN n (begP dN n xss) (sc.take k)).1.ws⟩, ⟨false, ntZ, TE, []⟩) := by
                        have hin : inN n (i : Int) = true := by unfold inN; simp; omega
                        unfold stepM
                        rw [if_neg (by simp), if_neg (by simp), if_pos ⟨rfl, hin⟩, hs1, hTE, HSS.out]
                        rfl
                      have HE := hide he
                      clear hs1 hTE htk he
                      go_upto_region 29 with fail
                      refine region_madeS 21 23 [fIs (.slice (some ⟨tb, 0, none⟩) n tc), fIs (.pointer (some ⟨sbx, 1, none⟩)), fIs (.int .i64 (i : Int)), fIs (.int .i64 d), fIs (.int .i64 (n : Int)), fIs (.pointer (some ⟨sbx, 1, none⟩)), fIs (.int .i64 (i : Int)), fIs (.slice (some ⟨tb, 0, none⟩) n tc), fIs (.pointer (some ⟨sbx, 1, none⟩)), fIs (.int .i64 (i : Int)), fIs (.pointer (some ⟨tb, i * 5, none⟩)), fIs (.agg #[.slice oa on oc, .slice pa pn pc, .int .i64 (s.sent : Int), .int .i64 (s.taken : Int), .slice ea en ec]), fIs (.pointer (some ⟨sbx, 3, none⟩)), fIs (.agg #[.int .i64 pf_, .int .i64 pt_, .int .i64 ps_, .slice sX sm scp]), fLow V.heap.size (fTkR V.heap.size S2 n sq TE), fLow V.heap.size (fTkR V.heap.size S2 n sq TE), fIs (.int .i64 TE), fLow V.heap.size (fTs V.heap.size S2 n sq), fIs (.pointer (some ⟨xb, 5, none⟩)), fXc xb 5 (.int .i64 TE), fIs (.pointer (some ⟨tb, i * 5, none⟩))] (IxI V xb [(0, .bool false), (1, .int .i64 0), (2, .int .i64 0), (3, .int .i64 0), (4, .slice none 0 0), (6, .slice none 0 0)]) [(19, XsR xb [5])] (by kernel_rfl) (by kernel_rfl) (by kernel_rfl) (fun ch p q w3 e h => by obtain ⟨t1, d1⟩ := p; obtain ⟨t2, d2⟩ := q; cases e; exact h) (fun w hb => IxI.of HXB.out rfl (by simp) hb) (fun w w' h hb => h.grow hb) ⟨fun _ _ _ h _ => h, fun _ _ _ h _ => h, fun _ _ _ h _ => h, fun _ _ _ h _ => h, fun _ _ _ h _ => h, fun _ _ _ h _ => h, fun _ _ _ h _ => h, fun _ _ _ h _ => h, fun _ _ _ h _ => h, fun _ _ _ h _ => h, fun _ _ _ h _ => h, fun _ _ _ h _ => h, fun _ _ _ h _ => h, fun _ _ _ h _ => h, (fTkR_good HLS.out _ _ _).1, (fTkR_good HLS.out _ _ _).1, fun _ _ _ h _ => h, (fTs_good HLS.out _ _).1, fun _ _ _ h _ => h, fXc_good _ _ _, fun _ _ _ h _ => h, trivial⟩ ⟨⟨fun w w' h hr => h.xs (by decide) hr, ⟨fun _ _ _ _ _ _ h => h, fun _ _ _ _ _ _ h => h, fun _ _ _ _ _ _ h => h, fun _ _ _ _ _ _ h => h, fun _ _ _ _ _ _ h => h, fun _ _ _ _ _ _ h => h, fun _ _ _ _ _ _ h => h, fun _ _ _ _ _ _ h => h, fun _ _ _ _ _ _ h => h, fun _ _ _ _ _ _ h => h, fun _ _ _ _ _ _ h => h, fun _ _ _ _ _ _ h => h, fun _ _ _ _ _ _ h => h, fun _ _ _ _ _ _ h => h, fun _ _ _ _ hI hr h => fTkR_xs HXS.out HXV.out hr h, fun _ _ _ _ hI hr h => fTkR_xs HXS.out HXV.out hr h, fun _ _ _ _ hI hr h => h, fun _ _ _ _ hI hr h => fTs_xs HXS.out HXV.out hr h, fun _ _ _ _ _ _ h => h, fun hne => (hne rfl).elim, fun _ _ _ _ _ _ h => h, trivial⟩⟩, trivial⟩ ?mkS ?restS
                      case mkS =>
                        refine ⟨fun u wz hI hd => ?_, fun u wz hI hd => ?_, fun u wz hI hd => ?_, fun u wz hI hd => ?_, fun u wz hI hd => ?_, fun u wz hI hd => ?_, fun u wz hI hd => ?_, fun u wz hI hd => ?_, fun u wz hI hd => ?_, fun u wz hI hd => ?_, fun u wz hI hd => ?_, fun u wz hI hd => ?_, fun u wz hI hd => ?_, fun u wz hI hd => ?_, fun u wz hI hd => ?_, fun u wz hI hd => ?_, fun u wz hI hd => ?_, fun u wz hI hd => ?_, fun u wz hI hd => ?_, fun u wz hI hd => ?_, fun u wz hI hd => ?_, trivial⟩
                        all_goals simp only [Act.put, List.setIfInBounds_toArray, List.set_cons_zero, List.set_cons_succ]
                        · go_simp
                          exact ⟨rfl, stpS_of rfl (Below.refl _ _)⟩
                        · go_simp
                          exact ⟨rfl, stpS_of rfl (Below.refl _ _)⟩
                        · have e1 : u 1 = .pointer (some ⟨sbx, 1, none⟩) := hd 1 (by omega) (by kernel_rfl)
                          rw [e1]
                          have s1' := hI.cell hsx s1
                          have z_sbx : sbx < wz.heap.size := Nat.lt_of_lt_of_le sbz hI.2.1
                          go_simp
                          exact ⟨rfl, stpS_of rfl (Below.refl _ _)⟩
                        · go_simp
                          exact ⟨rfl, stpS_of rfl (Below.refl _ _)⟩
                        · go_simp
                          exact ⟨rfl, stpS_of rfl (Below.refl _ _)⟩
                        · go_simp
                          exact ⟨rfl, stpS_of rfl (Below.refl _ _)⟩
                        · have e5 : u 5 = .pointer (some ⟨sbx, 1, none⟩) := hd 5 (by omega) (by kernel_rfl)
                          rw [e5]
                          have s1' := hI.cell hsx s1
                          have z_sbx : sbx < wz.heap.size := Nat.lt_of_lt_of_le sbz hI.2.1
                          go_simp
                          exact ⟨rfl, stpS_of rfl (Below.refl _ _)⟩
                        · go_simp
                          exact ⟨rfl, stpS_of rfl (Below.refl _ _)⟩
                        · go_simp
                          exact ⟨rfl, stpS_of rfl (Below.refl _ _)⟩
                        · have e8 : u 8 = .pointer (some ⟨sbx, 1, none⟩) := hd 8 (by omega) (by kernel_rfl)
                          rw [e8]
                          have s1' := hI.cell hsx s1
                          have z_sbx : sbx < wz.heap.size := Nat.lt_of_lt_of_le sbz hI.2.1
                          go_simp
                          exact ⟨rfl, stpS_of rfl (Below.refl _ _)⟩
                        · have e7 : u 7 = .slice (some ⟨tb, 0, none⟩) n tc := hd 7 (by omega) (by kernel_rfl)
                          have e9 : u 9 = .int .i64 (i : Int) := hd 9 (by omega) (by kernel_rfl)
                          rw [e7, e9]
                          go_simp
                          exact ⟨rfl, stpS_of rfl (Below.refl _ _)⟩
                        · have e10 : u 10 = .pointer (some ⟨tb, i * 5, none⟩) := hd 10 (by omega) (by kernel_rfl)
                          rw [e10]
                          have m0' := hI.cell htx m0
                          have m1' := hI.cell htx m1
                          have m2' := hI.cell htx m2
                          have m3' := hI.cell htx m3
                          have m4' := hI.cell htx m4
                          have z_tb : tb < wz.heap.size := Nat.lt_of_lt_of_le tz hI.2.1
                          go_simp
                          exact ⟨rfl, stpS_of rfl (Below.refl _ _)⟩
                        · go_simp
                          exact ⟨rfl, stpS_of rfl (Below.refl _ _)⟩
                        · have e12 : u 12 = .pointer (some ⟨sbx, 3, none⟩) := hd 12 (by omega) (by kernel_rfl)
                          rw [e12]
                          have s3' := hI.cell hsx s3
                          have s4' := hI.cell hsx s4
                          have s5' := hI.cell hsx s5
                          have s6' := hI.cell hsx s6
                          have z_sbx : sbx < wz.heap.size := Nat.lt_of_lt_of_le sbz hI.2.1
                          go_simp
                          exact ⟨rfl, stpS_of rfl (Below.refl _ _)⟩
                        · have e3 : u 3 = .int .i64 d := hd 3 (by omega) (by kernel_rfl)
                          have e4 : u 4 = .int .i64 (n : Int) := hd 4 (by omega) (by kernel_rfl)
                          have e6 : u 6 = .int .i64 (i : Int) := hd 6 (by omega) (by kernel_rfl)
                          have e11 : u 11 = .agg #[.slice oa on oc, .slice pa pn pc, .int .i64 (s.sent : Int), .int .i64 (s.taken : Int), .slice ea en ec] := hd 11 (by omega) (by kernel_rfl)
                          have e13 : u 13 = .agg #[.int .i64 pf_, .int .i64 pt_, .int .i64 ps_, .slice sX sm scp] := hd 13 (by omega) (by kernel_rfl)
                          rw [e3, e4, e6, e11, e13]
                          go_simp
                          refine (HTK.out wz hI).mono ?_
                          rintro e w2 ⟨q, rfl, hb2, k1, k2⟩
                          exact ⟨⟨Nat.le_trans hI.2.1 hb2.size, q, rfl, k1.mono (fun b h => h.imp id fun h => ⟨Nat.le_trans hI.2.1 h.1, h.2⟩), k2.mono (fun b h => h.imp id fun h => ⟨Nat.le_trans hI.2.1 h.1, h.2⟩)⟩, stpS_of rfl hb2⟩
                        · obtain ⟨N9, q9, e9, k9, l9⟩ := hd 14 (by omega) (by kernel_rfl)
                          rw [e9]
                          go_simp
                          exact ⟨⟨N9, q9, rfl, k9, l9⟩, stpS_of rfl (Below.refl _ _)⟩
                        · obtain ⟨N9, q9, e9, k9, l9⟩ := hd 15 (by omega) (by kernel_rfl)
                          rw [e9]
                          go_simp
                          exact ⟨rfl, stpS_of rfl (Below.refl _ _)⟩
                        · obtain ⟨N9, q9, e9, k9, l9⟩ := hd 15 (by omega) (by kernel_rfl)
                          rw [e9]
                          go_simp
                          exact ⟨⟨N9, q9, rfl, k9, l9⟩, stpS_of rfl (Below.refl _ _)⟩
                        · go_simp
                          exact ⟨rfl, stpS_of rfl (Below.refl _ _)⟩
                        · have e18 : u 18 = .pointer (some ⟨xb, 5, none⟩) := hd 18 (by omega) (by kernel_rfl)
                          have e16 : u 16 = .int .i64 TE := hd 16 (by omega) (by kernel_rfl)
                          rw [e18, e16]
                          obtain ⟨⟨o5, g5⟩, gf, gz, gs⟩ := x_store hI (k := 5) (by decide)
                          go_simp
                          exact ⟨gs _, stpS_at rfl (xs_set xb 5 wz _)⟩
                        · have e0 : u 0 = .slice (some ⟨tb, 0, none⟩) n tc := hd 0 (by omega) (by kernel_rfl)
                          have e2 : u 2 = .int .i64 (i : Int) := hd 2 (by omega) (by kernel_rfl)
                          rw [e0, e2]
                          go_simp
                          exact ⟨rfl, stpS_of rfl (Below.refl _ _)⟩
                      case restS =>
                        intro u wz hI hf
                        have f0 : u 0 = .slice (some ⟨tb, 0, none⟩) n tc := hf 0 (by omega)
                        have f1 : u 1 = .pointer (some ⟨sbx, 1, none⟩) := hf 1 (by omega)
                        have f2 : u 2 = .int .i64 (i : Int) := hf 2 (by omega)
                        have f3 : u 3 = .int .i64 d := hf 3 (by omega)
                        have f4 : u 4 = .int .i64 (n : Int) := hf 4 (by omega)
                        have f5 : u 5 = .pointer (some ⟨sbx, 1, none⟩) := hf 5 (by omega)
                        have f6 : u 6 = .int .i64 (i : Int) := hf 6 (by omega)
                        have f7 : u 7 = .slice (some ⟨tb, 0, none⟩) n tc := hf 7 (by omega)
                        have f8 : u 8 = .pointer (some ⟨sbx, 1, none⟩) := hf 8 (by omega)
                        have f9 : u 9 = .int .i64 (i : Int) := hf 9 (by omega)
                        have f10 : u 10 = .pointer (some ⟨tb, i * 5, none⟩) := hf 10 (by omega)
                        have f11 : u 11 = .agg #[.slice oa on oc, .slice pa pn pc, .int .i64 (s.sent : Int), .int .i64 (s.taken : Int), .slice ea en ec] := hf 11 (by omega)
                        have f12 : u 12 = .pointer (some ⟨sbx, 3, none⟩) := hf 12 (by omega)
                        have f13 : u 13 = .agg #[.int .i64 pf_, .int .i64 pt_, .int .i64 ps_, .slice sX sm scp] := hf 13 (by omega)
                        obtain ⟨_, q14, f14, _, _⟩ := hf 14 (by omega)
                        obtain ⟨_, q15, f15, _, _⟩ := hf 15 (by omega)
                        have f16 : u 16 = .int .i64 TE := hf 16 (by omega)
                        obtain ⟨hNN, q17, f17, kk, ll⟩ := hf 17 (by omega)
                        have f18 : u 18 = .pointer (some ⟨xb, 5, none⟩) := hf 18 (by omega)
                        have x5 : wz.cell? ⟨xb, 5, none⟩ = some (.int .i64 TE) := hf 19 (by omega)
                        have f20 : u 20 = .pointer (some ⟨tb, i * 5, none⟩) := hf 20 (by omega)
                        refine UptoW.rest 1 21 (by rfl) (by kernel_rfl) ?_
                        simp only [List.take, List.drop, putOps, Act.put, List.setIfInBounds_toArray, List.set_cons_zero, List.set_cons_succ, Nat.reduceAdd, f0, f1, f2, f3, f4, f5, f6, f7, f8, f9, f10, f11, f12, f13, f14, f15, f16, f17, f18, f20]
                        clear f0 f1 f2 f3 f4 f5 f6 f7 f8 f9 f10 f11 f12 f13 f14 f15 f16 f17 f18 f20 hf
                        have hxz : wz.heap[xb]? = some (.cells #[.bool false, .int .i64 0, .int .i64 0, .int .i64 0, .slice none 0 0, .int .i64 TE, .slice none 0 0] 41 (0, 0)) := hI.x (fun cur h hc => ⟨hc (0, _) (by simp), hc (1, _) (by simp), hc (2, _) (by simp), hc (3, _) (by simp), hc (4, _) (by simp), cur_cell h x5, hc (6, _) (by simp)⟩)
                        have HXZ := hide hxz
                        obtain ⟨⟨oa1, on1, oc1⟩, ⟨pa1, pn1, pc1⟩, ⟨ea1, en1, ec1⟩⟩ := q17
                        try simp only at kk ll
                        have HKK := hide kk
                        have HLL := hide ll
                        clear kk ll hNN hxz x5
                        have HII := hide hI
                        obtain ⟨cur, htm, hcur⟩ := (hI.py HPY.out HXS.out htx HXW.out HXO.out).tm hi0
                        have hc5 := fun j hj => hcur i j hi hj
                        have n0 : ∃ u, wz.cell? ⟨tb, i * 5, none⟩ = some u := ⟨_, by simp only [World.cell?, htm]; exact hc5 0 (by omega)⟩
                        have n1 : ∃ u, wz.cell? ⟨tb, i * 5 + 1, none⟩ = some u := ⟨_, by simp only [World.cell?, htm]; exact hc5 1 (by omega)⟩
                        have n2 : ∃ u, wz.cell? ⟨tb, i * 5 + 2, none⟩ = some u := ⟨_, by simp only [World.cell?, htm]; exact hc5 2 (by omega)⟩
                        have n3 : ∃ u, wz.cell? ⟨tb, i * 5 + 3, none⟩ = some u := ⟨_, by simp only [World.cell?, htm]; exact hc5 3 (by omega)⟩
                        have n4 : ∃ u, wz.cell? ⟨tb, i * 5 + 4, none⟩ = some u := ⟨_, by simp only [World.cell?, htm]; exact hc5 4 (by omega)⟩
                        obtain ⟨n0v, n0⟩ := n0
                        obtain ⟨n1v, n1⟩ := n1
                        obtain ⟨n2v, n2⟩ := n2
                        obtain ⟨n3v, n3⟩ := n3
                        obtain ⟨n4v, n4⟩ := n4
                        have nf : ∀ k, wz.frozen? ⟨tb, k, none⟩ = false := fun k => by simp [World.frozen?, htm]
                        have nz := (Array.getElem?_eq_some_iff.1 htm).1
                        clear htm hcur hc5 hI
                        go_wp2_with fail
                        go_meet
                        case rel =>
                          obtain ⟨U, hU⟩ : ∃ U, U = sto5 wz tb (i * 5) (.slice oa1 on1 oc1) (.slice pa1 pn1 pc1) (.int .i64 (sq.sent : Int)) (.int .i64 (sq.taken : Int)) (.slice ea1 en1 ec1) := ⟨_, rfl⟩
                          have hU' := hU
                          unfold sto5 at hU'
                          rw [← hU']
                          have HPYU : Hid (PyI W.heap.size dN n (NwS S2 V.heap.size wz.heap.size) tb (updN Q2 i ⟨⟨oa1, on1, oc1⟩, ⟨pa1, pn1, pc1⟩, ⟨ea1, en1, ec1⟩⟩) (updN (playM dN n (begP dN n xss) (sc.take k)).1.ss i sq) u13 u14 ps qs U) := by
                            rw [hU]
                            exact (HII.out.py HPY.out HXS.out htx HXW.out HXO.out).member hi ⟨⟨oa1, on1, oc1⟩, ⟨pa1, pn1, pc1⟩, ⟨ea1, en1, ec1⟩⟩ sq HKK.out HLL.out HOK1.out HER1.out
                          have HBU : Hid (Below W.heap.size W U) := by
                            rw [hU]
                            exact sto5_below (HII.out.below HBV.out HWX.out) HWT.out
                          have hxU : U.heap[xb]? = some (.cells #[.bool false, .int .i64 0, .int .i64 0, .int .i64 0, .slice none 0 0, .int .i64 TE, .slice none 0 0] 41 (0, 0)) := by
                            rw [hU, sto5_other (fun e => htx e.symm)]
                            exact HXZ.out
                          have HXU := hide hxU
                          clear hU hU' hxU n0 n1 n2 n3 n4 nf nz hsx htx
                          exact ⟨rfl, rfl, rfl, SwP.mk _ _ _ (⟨false, ntZ, TE, []⟩, slZ, slZ) HE.out HPYU.out HPS.out HXU.out ⟨fun V _ => (Num.nil V).ints, Nat.le_refl _⟩ ⟨fun V _ => (Num.nil V).ints, Nat.le_refl _⟩ (fun b hb => .inl (HOLD.out b hb)) HBU.out⟩

                  | false =>
                    have HNE : Hid (inN n pm_ = false) := HIB.out.symm
                    as_aux_lemma =>
                      obtain rfl : false = b1_ := by rw [HB1_.out]; simp
                      have he : stepM dN n (playM dN n (begP dN n xss) (sc.take k)).1 ⟨4, pm_, pk_, ⟨pf_, pt_, ps_, pd_⟩⟩ = ((playM dN n (begP dN n xss) (sc.take k)).1, ⟨false, ntZ, 0, []⟩) := by
                        unfold stepM
                        simp [HNE.out]
                      have HE := hide he
                      clear he
                      go_wp2_with fail
                      go_meet
                      case rel =>
                        exact ⟨rfl, rfl, rfl, SwP.mk _ _ _ (⟨false, ntZ, 0, []⟩, slZ, slZ) HE.out HPY.out HPS.out HXB.out ⟨fun V _ => (Num.nil V).ints, Nat.le_refl _⟩ ⟨fun V _ => (Num.nil V).ints, Nat.le_refl _⟩ HOLD.out HBV.out⟩

                by_cases h5_ : pa_ = 5
                · subst h5_
                  cases ib with
                  | true =>
                    obtain ⟨i, hi, rfl⟩ := HIN.out rfl
                    as_aux_lemma =>
                      obtain rfl : false = b1_ := by rw [HB1_.out]; simp
                      have hi0 : 0 < n := by omega
                      obtain rfl : A9 = some ⟨tb, 0, none⟩ := HA9.out hi0
                      have hdz := HND.out hi0
                      have HDZ := hide hdz
                      obtain ⟨cur, htm, hcur⟩ := HPY.out.tm hi0
                      obtain ⟨q, hq⟩ : ∃ q, q = Q2 i := ⟨_, rfl⟩
                      obtain ⟨s, hs⟩ : ∃ s, s = (playM dN n (begP dN n xss) (sc.take k)).1.ss i := ⟨_, rfl⟩
                      have hst := HPY.out.st i hi
                      have htop := HPY.out.top i hi
                      have hok := HPY.out.ok i hi
                      have her := HPY.out.er i hi
                      have hc5 := fun j hj => hcur i j hi hj
                      rw [← hs] at hst hok her hc5
                      rw [← hq] at hst htop hc5
                      obtain ⟨⟨oa, on, oc⟩, ⟨pa, pn, pc⟩, ⟨ea, en, ec⟩⟩ := q
                      have HQ := hide hq
                      have HSS := hide hs
                      have HST := hide hst
                      have HTOP := hide htop
                      have HOK := hide hok
                      have HER := hide her
                      have m0 : V.cell? ⟨tb, i * 5, none⟩ = some (.slice oa on oc) := by simp only [World.cell?, htm]; exact hc5 0 (by omega)
                      have m1 : V.cell? ⟨tb, i * 5 + 1, none⟩ = some (.slice pa pn pc) := by simp only [World.cell?, htm]; exact hc5 1 (by omega)
                      have m2 : V.cell? ⟨tb, i * 5 + 2, none⟩ = some (.int .i64 (s.sent : Int)) := by simp only [World.cell?, htm]; exact hc5 2 (by omega)
                      have m3 : V.cell? ⟨tb, i * 5 + 3, none⟩ = some (.int .i64 (s.taken : Int)) := by simp only [World.cell?, htm]; exact hc5 3 (by omega)
                      have m4 : V.cell? ⟨tb, i * 5 + 4, none⟩ = some (.slice ea en ec) := by simp only [World.cell?, htm]; exact hc5 4 (by omega)
                      have tz := (Array.getElem?_eq_some_iff.1 htm).1
                      have hiz : (i : Int) < (n : Int) := by omega
                      have hii : (0 : Int) ≤ (i : Int) := by omega
                      have HTZ : Hid (tb < w0.heap.size) := by
                        obtain ⟨cur0, k1, _⟩ := HPY1.out.tm hi0
                        exact (Array.getElem?_eq_some_iff.1 k1).1
                      have HLS := hide HPY.out.low
                      clear hdz hcur htm hst htop hok her hc5 hq hs
                      obtain ⟨RL, hRL⟩ : ∃ r, r = resL dN n i s := ⟨_, rfl⟩
                      obtain ⟨RE, hRE⟩ : ∃ r, r = resE dN n s := ⟨_, rfl⟩
                      have hres := fun (wz : World) (hb : Below V.heap.size V wz) => rResult_at ⟨⟨oa, on, oc⟩, ⟨pa, pn, pc⟩, ⟨ea, en, ec⟩⟩ dN n i s wz S2 (fun b h => Nat.lt_of_lt_of_le (HLS.out b h) hb.size) (HST.out.agr (agr_below HLS.out hb)) HTOP.out HOK.out
                      unfold RResA2 at hres
                      rw [← hRL, ← hRE, ← HDZ.out] at hres
                      unfold Rs.v at hres
                      simp only at hres
                      have HRES := hide hres
                      have HRL := hide hRL
                      have HRE := hide hRE
                      have he : stepM dN n (playM dN n (begP dN n xss) (sc.take k)).1 ⟨5, (i : Int), pk_, ⟨pf_, pt_, ps_, pd_⟩⟩ = ((playM dN n (begP dN n xss) (sc.take k)).1, ⟨false, ntZ, RE, RL⟩) := by
                        have hin : inN n (i : Int) = true := by unfold inN; simp; omega
                        unfold stepM
                        rw [if_neg (by simp), if_neg (by simp), if_neg (by simp), if_pos ⟨rfl, hin⟩, hRL, hRE, HSS.out]
                        rfl
                      have HE := hide he
                      clear hRL hRE hres he
                      go_upto_region 31 with fail
                      refine region_made1 13 15 12 [fIs (.int .i64 d), fIs (.int .i64 (n : Int)), fIs (.pointer (some ⟨sbx, 1, none⟩)), fIs (.int .i64 (i : Int)), fIs (.slice (some ⟨tb, 0, none⟩) n tc), fIs (.pointer (some ⟨sbx, 1, none⟩)), fIs (.int .i64 (i : Int)), fIs (.pointer (some ⟨tb, i * 5, none⟩)), fIs (.agg #[.slice oa on oc, .slice pa pn pc, .int .i64 (s.sent : Int), .int .i64 (s.taken : Int), .slice ea en ec]), fLow V.heap.size (fRs V.heap.size S2 RL RE), fLow V.heap.size (fRs V.heap.size S2 RL RE), fLow V.heap.size (fRy V.heap.size S2 RL), fIs (.int .i64 RE)] (by kernel_rfl) (by kernel_rfl) (by kernel_rfl) (fun ch p q w3 e h => by obtain ⟨t1, d1⟩ := p; obtain ⟨t2, d2⟩ := q; cases e; exact h) ⟨fIs_good _, fIs_good _, fIs_good _, fIs_good _, fIs_good _, fIs_good _, fIs_good _, fIs_good _, fIs_good _, fRs_good HLS.out _ _, fRs_good HLS.out _ _, fRy_good HLS.out _, fIs_good _, trivial⟩ ?pureR ?mkR ?restR
                      case pureR =>
                        intro o ho u wz hb hd
                        cases ho
                        obtain ⟨N9, y9, e9, k9, l9⟩ := hd 10 (by omega) (by kernel_rfl)
                        refine ⟨.int .i64 RE, fun w3 => ?_⟩
                        simp only [List.take, putOps, Act.put, List.setIfInBounds_toArray, List.set_cons_zero, List.set_cons_succ, Nat.reduceAdd, e9]
                        go_simp
                      case mkR =>
                        refine ⟨fun u wz hb hd => ?_, fun u wz hb hd => ?_, fun u wz hb hd => ?_, fun u wz hb hd => ?_, fun u wz hb hd => ?_, fun u wz hb hd => ?_, fun u wz hb hd => ?_, fun u wz hb hd => ?_, fun u wz hb hd => ?_, fun u wz hb hd => ?_, fun u wz hb hd => ?_, fun u wz hb hd => ?_, fun u wz hb hd => ?_, trivial⟩
                        all_goals simp only [Act.put, List.setIfInBounds_toArray, List.set_cons_zero, List.set_cons_succ]
                        · go_simp
                          exact ⟨rfl, Below.refl _ _, fun h => by cases h⟩
                        · go_simp
                          exact ⟨rfl, Below.refl _ _, fun h => by cases h⟩
                        · go_simp
                          exact ⟨rfl, Below.refl _ _, fun h => by cases h⟩
                        · have e2 : u 2 = .pointer (some ⟨sbx, 1, none⟩) := hd 2 (by omega) (by kernel_rfl)
                          rw [e2]
                          have s1' := (hb.cell (p := ⟨sbx, 1, none⟩) (lt_of_cell s1)).trans s1
                          go_simp
                          exact ⟨rfl, Below.refl _ _, fun h => by cases h⟩
                        · go_simp
                          exact ⟨rfl, Below.refl _ _, fun h => by cases h⟩
                        · go_simp
                          exact ⟨rfl, Below.refl _ _, fun h => by cases h⟩
                        · have e5 : u 5 = .pointer (some ⟨sbx, 1, none⟩) := hd 5 (by omega) (by kernel_rfl)
                          rw [e5]
                          have s1' := (hb.cell (p := ⟨sbx, 1, none⟩) (lt_of_cell s1)).trans s1
                          go_simp
                          exact ⟨rfl, Below.refl _ _, fun h => by cases h⟩
                        · have e4 : u 4 = .slice (some ⟨tb, 0, none⟩) n tc := hd 4 (by omega) (by kernel_rfl)
                          have e6 : u 6 = .int .i64 (i : Int) := hd 6 (by omega) (by kernel_rfl)
                          rw [e4, e6]
                          go_simp
                          exact ⟨rfl, Below.refl _ _, fun h => by cases h⟩
                        · have e7 : u 7 = .pointer (some ⟨tb, i * 5, none⟩) := hd 7 (by omega) (by kernel_rfl)
                          rw [e7]
                          have m0' := (hb.cell (p := ⟨tb, i * 5, none⟩) (lt_of_cell m0)).trans m0
                          have m1' := (hb.cell (p := ⟨tb, i * 5 + 1, none⟩) (lt_of_cell m1)).trans m1
                          have m2' := (hb.cell (p := ⟨tb, i * 5 + 2, none⟩) (lt_of_cell m2)).trans m2
                          have m3' := (hb.cell (p := ⟨tb, i * 5 + 3, none⟩) (lt_of_cell m3)).trans m3
                          have m4' := (hb.cell (p := ⟨tb, i * 5 + 4, none⟩) (lt_of_cell m4)).trans m4
                          have tz' : tb < wz.heap.size := Nat.lt_of_lt_of_le tz hb.size
                          go_simp
                          exact ⟨rfl, Below.refl _ _, fun h => by cases h⟩
                        · have e0 : u 0 = .int .i64 d := hd 0 (by omega) (by kernel_rfl)
                          have e1 : u 1 = .int .i64 (n : Int) := hd 1 (by omega) (by kernel_rfl)
                          have e3 : u 3 = .int .i64 (i : Int) := hd 3 (by omega) (by kernel_rfl)
                          have e8 : u 8 = .agg #[.slice oa on oc, .slice pa pn pc, .int .i64 (s.sent : Int), .int .i64 (s.taken : Int), .slice ea en ec] := hd 8 (by omega) (by kernel_rfl)
                          rw [e0, e1, e3, e8]
                          go_simp
                          refine (HRES.out wz hb).mono ?_
                          rintro e w2 ⟨⟨y, rfl, k1, k2⟩, hb2⟩
                          exact ⟨⟨Nat.le_trans hb.size hb2.size, y, rfl, k1.mono (fun b h => h.imp id fun h => ⟨Nat.le_trans hb.size h.1, h.2⟩), k2⟩, hb2, fun h => by cases h⟩
                        · obtain ⟨N9, y9, e9, k9, l9⟩ := hd 9 (by omega) (by kernel_rfl)
                          rw [e9]
                          go_simp
                          exact ⟨⟨N9, y9, rfl, k9, l9⟩, Below.refl _ _, fun h => by cases h⟩
                        · obtain ⟨N9, y9, e9, k9, l9⟩ := hd 10 (by omega) (by kernel_rfl)
                          rw [e9]
                          go_simp
                          exact ⟨⟨N9, y9, rfl, k9, l9⟩, Below.refl _ _, fun h => by cases h⟩
                        · obtain ⟨N9, y9, e9, k9, l9⟩ := hd 10 (by omega) (by kernel_rfl)
                          rw [e9]
                          go_simp
                          exact ⟨rfl, Below.refl _ _, fun h => by cases h⟩
                      case restR =>
                        intro u wz hb hf hp
                        have f0 : u 0 = .int .i64 d := hf 0 (by omega)
                        have f1 : u 1 = .int .i64 (n : Int) := hf 1 (by omega)
                        have f2 : u 2 = .pointer (some ⟨sbx, 1, none⟩) := hf 2 (by omega)
                        have f3 : u 3 = .int .i64 (i : Int) := hf 3 (by omega)
                        have f4 : u 4 = .slice (some ⟨tb, 0, none⟩) n tc := hf 4 (by omega)
                        have f5 : u 5 = .pointer (some ⟨sbx, 1, none⟩) := hf 5 (by omega)
                        have f6 : u 6 = .int .i64 (i : Int) := hf 6 (by omega)
                        have f7 : u 7 = .pointer (some ⟨tb, i * 5, none⟩) := hf 7 (by omega)
                        have f8 : u 8 = .agg #[.slice oa on oc, .slice pa pn pc, .int .i64 (s.sent : Int), .int .i64 (s.taken : Int), .slice ea en ec] := hf 8 (by omega)
                        obtain ⟨_, y9, f9, _, _⟩ := hf 9 (by omega)
                        obtain ⟨_, y10, f10, _, _⟩ := hf 10 (by omega)
                        obtain ⟨hNN, y11, f11, kk, ll⟩ := hf 11 (by omega)
                        have f12 : u 12 = .int .i64 RE := hf 12 (by omega)
                        refine UptoW.rest 4 13 (by rfl) (by kernel_rfl) ?_
                        simp only [List.take, List.drop, putOps, Act.put, List.setIfInBounds_toArray, List.set_cons_zero, List.set_cons_succ, Nat.reduceAdd, f0, f1, f2, f3, f4, f5, f6, f7, f8, f9, f10, f11, f12]
                        clear f0 f1 f2 f3 f4 f5 f6 f7 f8 f9 f10 f11 f12 hf hp
                        obtain ⟨ya, yn, yc⟩ := y11
                        simp only at kk ll
                        have HKK := hide kk
                        have HLL := hide ll
                        have HBZ := hide hb
                        have hxz := (hb.block xb (Array.getElem?_eq_some_iff.1 HXB.out).1).trans HXB.out
                        have g5 : wz.cell? ⟨xb, 5, none⟩ = some (.int .i64 0) := by simp only [World.cell?, hxz]; rfl
                        have g6 : wz.cell? ⟨xb, 6, none⟩ = some (.slice none 0 0) := by simp only [World.cell?, hxz]; rfl
                        have gf : ∀ k, wz.frozen? ⟨xb, k, none⟩ = false := fun k => by simp [World.frozen?, hxz]
                        have gz := (Array.getElem?_eq_some_iff.1 hxz).1
                        have HXZ := hide hxz
                        clear hb kk ll hxz hNN
                        go_wp2_with fail
                        go_meet
                        case rel =>
                          obtain ⟨U, hU⟩ : ∃ U, U = (wz.setCell ⟨xb, 6, none⟩ (.slice ya yn yc)).setCell ⟨xb, 5, none⟩ (.int .i64 RE) := ⟨_, rfl⟩
                          rw [← hU]
                          have hxU : U.heap[xb]? = some (.cells #[.bool false, .int .i64 0, .int .i64 0, .int .i64 0, .slice none 0 0, .int .i64 RE, .slice ya yn yc] 41 (0, 0)) := by
                            rw [hU]
                            simp [World.setCell, Array.getElem?_modify, HXZ.out]
                          have hbe := HBE.out
                          have hnx : ¬ NwS S2 V.heap.size wz.heap.size xb := fun h => by
                            rcases h with h1 | h1
                            · have := HPY1.out.low xb h1
                              omega
                            · have := (Array.getElem?_eq_some_iff.1 HXB.out).1
                              omega
                          have hwx : u14.ownBlock ≠ some xb := fun e => by
                            have := (HPY1.out.way.lt xb e).2.1
                            omega
                          have HPYU : Hid (PyI W.heap.size dN n (NwS S2 V.heap.size wz.heap.size) tb Q2 (playM dN n (begP dN n xss) (sc.take k)).1.ss u13 u14 ps qs U) := by
                            show PyI W.heap.size dN n (NwS S2 V.heap.size wz.heap.size) tb Q2 (playM dN n (begP dN n xss) (sc.take k)).1.ss u13 u14 ps qs U
                            rw [hU]
                            exact ((HPY.out.call HBZ.out).setx HPY1.out (a := ⟨xb, 6, none⟩) (by simp only; omega) hwx hnx _).setx HPY1.out (a := ⟨xb, 5, none⟩) (by simp only; omega) hwx hnx _
                          have HBU : Hid (Below W.heap.size W U) := by
                            show Below W.heap.size W U
                            rw [hU]
                            exact ((HBV.out.trans (HBZ.out.mono HBV.out.size)).setCell (by have := HBW.out.size; simp only; omega) _).setCell (by have := HBW.out.size; simp only; omega) _
                          have HXU := hide hxU
                          have HSU : Hid (Stt (NwS S2 V.heap.size wz.heap.size) U fun V => Ints V ya yn RL) := by
                            show Stt (NwS S2 V.heap.size wz.heap.size) U fun V => Ints V ya yn RL
                            refine HKK.out.agr fun b hb => ?_
                            have hne : b ≠ xb := fun e => hnx (e ▸ hb)
                            rw [hU, Below.heap_setCell _ _ _ _ hne, Below.heap_setCell _ _ _ _ hne]
                          clear hU hxU hbe hnx hwx g5 g6 gf gz
                          exact ⟨rfl, rfl, rfl, SwP.mk _ _ _ (⟨false, ntZ, RE, RL⟩, slZ, ⟨ya, yn, yc⟩) HE.out HPYU.out HPS.out HXU.out ⟨fun V _ => (Num.nil V).ints, Nat.le_refl _⟩ ⟨HSU.out, HLL.out⟩ (fun b hb => .inl (HOLD.out b hb)) HBU.out⟩

                  | false =>
                    have HNE : Hid (inN n pm_ = false) := HIB.out.symm
                    as_aux_lemma =>
                      obtain rfl : false = b1_ := by rw [HB1_.out]; simp
                      have he : stepM dN n (playM dN n (begP dN n xss) (sc.take k)).1 ⟨5, pm_, pk_, ⟨pf_, pt_, ps_, pd_⟩⟩ = ((playM dN n (begP dN n xss) (sc.take k)).1, ⟨false, ntZ, 0, []⟩) := by
                        unfold stepM
                        simp [HNE.out]
                      have HE := hide he
                      clear he
                      go_wp2_with fail
                      go_meet
                      case rel =>
                        exact ⟨rfl, rfl, rfl, SwP.mk _ _ _ (⟨false, ntZ, 0, []⟩, slZ, slZ) HE.out HPY.out HPS.out HXB.out ⟨fun V _ => (Num.nil V).ints, Nat.le_refl _⟩ ⟨fun V _ => (Num.nil V).ints, Nat.le_refl _⟩ HOLD.out HBV.out⟩

                have HNE : Hid (¬ pa_ = 1 ∧ ¬ pa_ = 2 ∧ ¬ pa_ = 3 ∧ ¬ pa_ = 4 ∧ ¬ pa_ = 5) := ⟨e1, e2, e3, e4, h5_⟩
                as_aux_lemma =>
                  obtain rfl : false = b1_ := by rw [HB1_.out]; simp [HNE.out.1]
                  have he : stepM dN n (playM dN n (begP dN n xss) (sc.take k)).1 ⟨pa_, pm_, pk_, ⟨pf_, pt_, ps_, pd_⟩⟩ = ((playM dN n (begP dN n xss) (sc.take k)).1, ⟨false, ntZ, 0, []⟩) := by
                    unfold stepM
                    simp [HNE.out]
                  have HE := hide he
                  clear he
                  go_wp2_with fail
                  go_meet
                  case rel =>
                    exact ⟨rfl, rfl, rfl, SwP.mk _ _ _ (⟨false, ntZ, 0, []⟩, slZ, slZ) HE.out HPY.out HPS.out HXB.out ⟨fun V _ => (Num.nil V).ints, Nat.le_refl _⟩ ⟨fun V _ => (Num.nil V).ints, Nat.le_refl _⟩ HOLD.out HBV.out⟩

              case rest =>
                obtain ⟨h13, rfl, rfl, S9, Q9, ps9, ⟨⟨zb, ⟨zf, zt, zs, zd⟩, ze, zx⟩, ⟨ya, yn, yc⟩, ⟨za, zn, zc⟩⟩, hpy9, hps9, hq9, hx9, hst1, hst2, hold9, hbl9⟩ := hcut
                obtain rfl := h13.symm
                obtain ⟨V9, hV9⟩ : ∃ V9, V9 = wc := ⟨_, rfl⟩
                rw [← hV9] at hpy9 hx9 hst1 hst2 hbl9 ⊢
                simp only at hst1 hst2 hx9
                have HP9 := hide hpy9
                have HPS9 := hide hps9
                have HQ9 := hide hq9
                have HX9 := hide hx9
                have HS91 := hide hst1
                have HS92 := hide hst2
                have HO9 := hide hold9
                have HBL9 := hide hbl9
                clear hpy9 hps9 hq9 hx9 hst1 hst2 hold9 hbl9 hV9
                have t0 : V9.cell? ⟨xb, 0, none⟩ = some (.bool zb) := by simp only [World.cell?, HX9.out]; rfl
                have t1 : V9.cell? ⟨xb, 1, none⟩ = some (.int .i64 zf) := by simp only [World.cell?, HX9.out]; rfl
                have t2 : V9.cell? ⟨xb, 2, none⟩ = some (.int .i64 zt) := by simp only [World.cell?, HX9.out]; rfl
                have t3 : V9.cell? ⟨xb, 3, none⟩ = some (.int .i64 zs) := by simp only [World.cell?, HX9.out]; rfl
                have t4 : V9.cell? ⟨xb, 4, none⟩ = some (.slice ya yn yc) := by simp only [World.cell?, HX9.out]; rfl
                have t5 : V9.cell? ⟨xb, 5, none⟩ = some (.int .i64 ze) := by simp only [World.cell?, HX9.out]; rfl
                have t6 : V9.cell? ⟨xb, 6, none⟩ = some (.slice za zn zc) := by simp only [World.cell?, HX9.out]; rfl
                have tz := (Array.getElem?_eq_some_iff.1 HX9.out).1
                have hpy := HP9.out
                have hlq : qs.length = k := HLQ.out
                go_upto_region 33 with (at_builtin; refine stp ?_)
                unfold Stp1
                refine append_w (by rfl) (.tmp 197) (.tmp 199) 25 (by rfl) W.heap.size 41 i7 _ 7 88 Try.underlying25 h7 h7z h7s h7b rfl (by decide) _ qs.length (seC qs) (by rfl) (hpy.grow (bl_new _)).out ⟨V9.heap.size, 0, none⟩ 1 1 [.bool zb, .int .i64 zf, .int .i64 zt, .int .i64 zs, .slice ya yn yc, .int .i64 ze, .slice za zn zc] (by rfl) (by simp) (fun j u hj => by rw [add_pl, Nat.zero_add]; exact box_cell _ _ _ j u (by simpa using hj)) (by intro u hu; simp at hu; rcases hu with rfl | rfl | rfl | rfl | rfl | rfl | rfl <;> rfl) (by omega) (by have := HSZ.out; unfold maxLen; omega) (by have := HSZ.out; omega) (hpy.grow (bl_new _)).base ?_
                intro v9 w9 hr9 hg9 ho9
                have hfin := (hpy.grow (bl_new _)).seen (⟨zb, ⟨zf, zt, zs, zd⟩, ze, zx⟩, ⟨ya, yn, yc⟩, ⟨za, zn, zc⟩) hr9 hg9 ho9 ⟨HS91.out.1.agr (agr_below HP9.out.low (bl_new _)), HS91.out.2⟩ ⟨HS92.out.1.agr (agr_below HP9.out.low (bl_new _)), HS92.out.2⟩
                have HFIN := hide hfin
                have HB9 : Hid (Below W.heap.size W w9) := (HBL9.out.trans ((bl_new _).mono HBL9.out.size)).grown hg9 (Nat.le_trans HBL9.out.size (bl_new _).size) (fun j e => (hpy.out.lt j e).1)
                clear hr9 hg9 ho9 hfin hpy hlq
                go_wp2_with fail
                go_roundw
                case rel =>
                  refine ⟨k + 1, by omega, by first | rfl | go_num, ?_⟩
                  have hst : sc.take (k + 1) = sc.take k ++ [⟨pa_, pm_, pk_, ⟨pf_, pt_, ps_, pd_⟩⟩] := HTAKE.out
                  unfold PlO
                  rw [hst, play_snoc]
                  exact ⟨_, _, _, _, HFIN.out, HPS9.out, by rw [List.map_append, HQS.out, ← HQ9.out]; rfl, HO9.out, HB9.out⟩
                case measure => simp [intOf]; omega
        · obtain rfl : m = k := by omega
          have hfull : sc.take m = sc := by rw [HM.out, List.take_length]
          obtain ⟨a9, c9, rfl, hsee⟩ := HPY1.out.told (by have := HLQ.out; omega)
          rw [HQS.out, hfull] at hsee
          have HSEE := hide hsee
          clear hsee hfull
          go_wp2_with fail
          go_ret2
          refine ⟨fun h9 => (h9 HTE.out).elim, fun _ => ⟨a9, _, c9, rfl, ?_⟩, HBW.out⟩
          rw [← HN.out, ← HDN.out]
          exact HSEE.out
end Go.Proofs.Yticcoacoepajpaa.V
