/-
  Contract: plain.Team.
-/
import Derived.Test.YticcoacoepajpaaPK28
import Derived.Test.YticcoacoepajpaaPK29
import Derived.Deep.CutBlock
namespace Go.Proofs.Yticcoacoepajpaa.V
open Go Go.RowKit
set_option linter.unusedVariables false
set_option linter.unusedSimpArgs false

set_option maxRecDepth 20000 in
set_option maxHeartbeats 60000000 in
theorem team_gen (d : Int) (db doff dcap : Nat) (xss : List (List Int)) (sa : Option Addr) (scap : Nat) (ps : List Stp) (W : World) (hd : DtA W db doff xss) (hn : xss.length ≤ 140737488355328) (hs : ps = [] ∨ ∃ sb soff, sa = some ⟨sb, soff, none⟩ ∧ ScA W W.heap.size sb soff ps) (h0 : 1 ≤ xss.length) (hsz : ps.length * 72 ≤ 140737488355328) :
    Calls Try.prog 6 #[.int .i64 d, .slice (some ⟨db, doff, none⟩) xss.length dcap, .slice sa ps.length scap] W fun e w' => TeamAns W d xss ps e w' := by
  have HD := hide hd
  have HS := hide hs
  obtain ⟨n, hnn⟩ : ∃ n, n = xss.length := ⟨_, rfl⟩
  obtain ⟨m, hmm⟩ : ∃ m, m = ps.length := ⟨_, rfl⟩
  rw [← hnn] at hn h0 ⊢
  rw [← hmm] at hsz ⊢
  have HN := hide hnn
  have HM := hide hmm
  have hptr := info_ptr
  obtain ⟨i0, hi, hz0, hz1, hz2⟩ := info_parts info_ptr
  obtain ⟨i7, h7, h7z, h7s, h7b⟩ := info_parts info_seen
  obtain ⟨i4, h4, h4z, h4s, h4b⟩ := info_parts info_note
  clear hd hs hnn hmm hptr
  go_enter Try.func6, Try.ntmps6
  go_wp2_with fail
  go_loopw [8, 23] (fun v i wr => ∃ k : Nat, k ≤ n ∧ i = .int .i64 k ∧ (∀ j, j < k → wrongM d (n : Int) (j : Int) (xss[j]?.getD []).length = 0) ∧ (0 < k → d = (d.toNat : Int)) ∧ (∃ gs Fs Gs, T1 wr W.heap.size d.toNat n k xss v gs Fs Gs) ∧ Below W.heap.size W wr) (fun _ i _ => n - (intOf i).toNat)
  case atStart => exact ⟨0, Nat.zero_le _, rfl, fun j hj => by omega, fun h => by omega, ⟨_, _, _, T1.start W W.heap.size d.toNat n xss⟩, Below.refl _ _⟩
  case round =>
    obtain ⟨k, hk, rfl, hw0, hd0, ⟨gs, Fs, Gs, ht⟩, hb⟩ := hrel
    have HW0 := hide hw0
    have HD0 := hide hd0
    have HT := hide ht
    have HB := hide hb
    clear hw0 hd0 ht hb
    by_cases hlt : k < n
    · obtain ⟨X, xm, xc, c1, hx, hxc⟩ := (HD.out.below HB.out) k (by rw [← HN.out]; exact hlt)
      have z1 := lt_of_cell c1
      have hnew := new_any d (n : Int) (k : Int) ⟨X, xm, xc⟩ _ wr hx
      simp only at hnew
      have HNEW := hide hnew
      have hkz : (k : Int) < (n : Int) := by omega
      clear hx hxc hnew
      by_cases hw : wrongM d (n : Int) (k : Int) (xss[k]?.getD []).length = 0
      · as_aux_lemma =>
          have HWW := hide hw
          have hn16 : n ≤ 16 := wrong16 hw
          have HNK := hide (HNEW.out.mono fun e w' h => (⟨h.2.1 hw, h.2.2⟩ : (∃ (dN nN meN : Nat) (g : Nat) (G : Gh), d = (dN : Int) ∧ (n : Int) = (nN : Int) ∧ (k : Int) = (meN : Int) ∧ StOk dN nN meN (begM dN nN meN (xss[k]?.getD [])) ∧ e = .returned (.tuple #[pm g, .int .i64 0]) ∧ MbAt w' (fun b => wr.heap.size ≤ b ∧ b < w'.heap.size) g dN nN meN (begM dN nN meN (xss[k]?.getD [])) G) ∧ Below wr.heap.size wr w'))
          clear hw
          go_upto_region 9 with (first
            | (go_at_call 16; refine HNK.out.mono ?_; rintro e w1 ⟨⟨dN, nN, kN, g, G, e1, e2, e3, hok, rfl, hm⟩, hb1⟩; have HE1 := hide e1; have HE2 := hide e2; have HE3 := hide e3; have HOK := hide hok; have HMM := hide hm; have HB1 := hide hb1; clear e1 e2 e3 hok hm hb1; unfold pm)
            | (at_builtin; refine stp ?_))
          unfold Stp1
          have eD : dN = d.toNat := by have := HE1.out; omega
          have eN : nN = n := by have := HE2.out; omega
          have eK : kN = k := by have := HE3.out; omega
          have hok : StOk d.toNat n k (begM d.toNat n k (xss[k]?.getD [])) := by rw [← eD, ← eN, ← eK]; exact eK ▸ HOK.out
          have hm : MbAt w1 (fun b => wr.heap.size ≤ b ∧ b < w1.heap.size) g d.toNat n k (begM d.toNat n k (xss[k]?.getD [])) G := by
            have h5 := HMM.out
            rw [eD, eN, eK] at h5
            exact h5
          have HDD := hide (show d = (d.toNat : Int) by have := HE1.out; omega)
          have HOK2 := hide hok
          have HM2 := hide hm
          have hbs := HB.out.size
          have hbs1 := HB1.out.size
          clear eD eN eK hok hm HOK HMM HE1 HE2 HE3
          refine wpList_append_own_at _ (by rfl) (.tmp 40) (.tmp 42) 47 (by rfl) W.heap.size 48 i0 (.pointer none) 1 8 Try.underlying47 hi hz0 hz1 hz2 rfl (by decide) _ k _ (by rfl) (own_kp HT.out.row (fun g' e => ((bl_new _).block g' (Nat.lt_of_lt_of_le (HT.out.row.lt g' e).2 hbs1)).trans (HB1.out.block g' (HT.out.row.lt g' e).2))) ⟨w1.heap.size, 0, none⟩ 1 1 [pm g] (by rfl) rfl ?cells ?one (by unfold maxLen; omega) (by omega) (by simp; omega) ?_
          case cells =>
            intro j u hj
            have hj0 : j = 0 := by
              have := (List.getElem?_eq_some_iff.1 hj).1
              simpa using this
            subst hj0
            have hu : u = pm g := by simpa using hj.symm
            subst hu
            rw [add_pl]
            exact box_cell w1 _ _ 0 _ rfl
          case one =>
            intro u hu
            have : u = pm g := by simpa using hu
            subst this
            rfl
          intro v1 w2 hown hgr _ hat
          have HOWN := hide hown
          have hgr2 : w1.grownBy w2 _ := grown_after (bl_new _) hgr
          have HGR := hide hgr2
          have HAT := hide hat
          have HBW := hide ((bl_on HB.out HB1.out).grown hgr2 (by omega) (fun j e => (HT.out.row.lt j e).1))
          clear hown hgr hgr2 hat
          go_wp2_with fail
          go_roundw
          case rel =>
            refine ⟨k + 1, by omega, by go_num, fun j hj => ?_, fun _ => HDD.out, ?_, HBW.out⟩
            · by_cases e : j = k
              · subst e; exact HWW.out
              · exact HW0.out j (by omega)
            · refine ⟨_, _, _, HT.out.more hbs HB1.out HM2.out HOK2.out HOWN.out HGR.out ?_⟩
              rcases HAT.out with e | e
              · exact .inl e
              · exact .inr ⟨_, e, by simp⟩
          case measure => simp [intOf]; omega
      · have hte : teamE d xss = wrongM d (n : Int) (k : Int) (xss[k]?.getD []).length := by
          have h5 := team_bad (d := d) (xss := xss) (k := k) (by rw [← HN.out]; exact hlt) (by rw [← HN.out]; exact HW0.out) (by rw [← HN.out]; exact hw)
          rw [← HN.out] at h5
          exact h5
        have HTE := hide hte
        have HNK := hide (HNEW.out.mono fun e w' h => (⟨h.1 hw, h.2.2⟩ : e = .returned (.tuple #[.pointer none, .int .i64 (wrongM d (n : Int) (k : Int) (xss[k]?.getD []).length)]) ∧ Below wr.heap.size wr w'))
        obtain ⟨E, hE⟩ : ∃ E, E = wrongM d (n : Int) (k : Int) (xss[k]?.getD []).length := ⟨_, rfl⟩
        rw [← hE] at HTE HNK hw
        have e0 : (E == 0) = false := by simpa using hw
        have e1 : (E != 0) = true := by simpa using hw
        have HWE := hide hw
        clear hE hte hw
        go_wp2_with (go_at_call 16; refine HNK.out.mono ?_; rintro e w1 ⟨rfl, hb1⟩; have HB1 := hide hb1; clear hb1)
        go_ret2
        exact ⟨fun _ => by rw [HTE.out]; rfl, fun h => absurd (HTE.out.symm.trans h) HWE.out, bl_on HB.out HB1.out⟩
    · obtain rfl : k = n := by omega
      obtain ⟨tb, tc, rfl, hrow, htl, htk⟩ := team_row HT.out (by omega)
      have htv := tv_start HT.out hrow htl htk
      have HTV := hide htv
      have hd0 := HD0.out (by omega)
      have hte : teamE d xss = 0 := team_good (by rw [← HN.out]; exact HW0.out)
      have HTE := hide hte
      have hn16 : k ≤ 16 := wrong16 (HW0.out 0 (by omega))
      have HB0 := hide HB.out
      clear htv hrow htl htk HT HB hd0 hte
      obtain ⟨dN, hdN⟩ : ∃ dN, dN = d.toNat := ⟨_, rfl⟩
      rw [← hdN] at HTV
      have HDN := hide hdN
      obtain ⟨P0, hP0⟩ : ∃ P0, P0 = begP dN k xss := ⟨_, rfl⟩
      have HP0 := hide hP0
      rw [show (fun i => begM dN k i (xss[i]?.getD [])) = P0.ss by rw [hP0]; rfl] at HTV
      have hpw : P0.ws = [] := by rw [hP0]; rfl
      have HPW := hide hpw
      clear hdN hP0 hpw
      go_wp2_with fail
      go_loopw [13, 14, 47] (fun v13 v14 i wr => ∃ j : Nat, j ≤ m ∧ i = .int .i64 j ∧ (∃ OA oc WA wc' pq qs gs Fs Gs, v13 = .slice OA qs.length oc ∧ v14 = .slice WA pq.length wc' ∧ Tv wr W.heap.size tb dN k (playM dN k P0 (ps.take j)).1.ss v13 v14 pq qs gs Fs Gs ∧ pq.map (·.1) = (playM dN k P0 (ps.take j)).1.ws ∧ qs.map (·.1) = (playM dN k P0 (ps.take j)).2 ∧ pq.length ≤ j ∧ qs.length = j) ∧ Below W.heap.size W wr) (fun _ _ i _ => m - (intOf i).toNat)
      case atStart => exact ⟨0, Nat.zero_le _, rfl, ⟨none, 0, none, 0, [], [], _, _, _, rfl, rfl, HTV.out, by rw [List.take_zero]; exact HPW.out.symm, by rw [List.take_zero]; rfl, Nat.le_refl _, rfl⟩, HB0.out⟩
      case round =>
        obtain ⟨j, hj, rfl, ⟨OA, oc, WA, wc', pq, qs, gs, Fs, Gs, rfl, rfl, htv, hpq, hqs, hpl, hql⟩, hb⟩ := hrel
        have HTV2 := hide htv
        have HPQ := hide hpq
        have HQS := hide hqs
        have HQL := hide hql
        have HB := hide hb
        clear htv hpq hqs hql hb HTV HB0
        by_cases hlt : j < m
        · obtain ⟨p, hp⟩ : ∃ p, ps[j]? = some p := by
            have : j < ps.length := by rw [← HM.out]; exact hlt
            exact ⟨ps[j], by simp [this]⟩
          have HP := hide hp
          have htk : ps.take (j + 1) = ps.take j ++ [p] := by rw [List.take_add_one, hp]; rfl
          have HTK := hide htk
          obtain ⟨P, hPP⟩ : ∃ P, P = (playM dN k P0 (ps.take j)).1 := ⟨_, rfl⟩
          have hnx1 : (playM dN k P0 (ps.take (j + 1))).1 = (stepM dN k P p).1 := by rw [htk, play_snoc, hPP]
          have hnx2 : (playM dN k P0 (ps.take (j + 1))).2 = (playM dN k P0 (ps.take j)).2 ++ [(stepM dN k P p).2] := by rw [htk, play_snoc, hPP]
          have HX1 := hide hnx1
          have HX2 := hide hnx2
          rw [← hPP] at HTV2 HPQ
          rcases HS.out with e0 | ⟨sb, soff, rfl, hsc⟩
          · rw [e0] at hp; simp at hp
          obtain ⟨X, xm, xc, s0, s1, s2, s3, s4, s5, s6, sI, sC, sB, sN⟩ := (hsc.below HB.out) j p hp
          clear hsc
          have HSNN := hide sN
          have HSI := hide sI
          have sz := lt_of_cell s0
          have hjz : (j : Int) < (m : Int) := by omega
          obtain ⟨act, mem, num, fr, tt, st, data⟩ := p
          simp only at s0 s1 s2 s3 s4 s5 s6 HSI
          clear hp htk hPP hnx1 hnx2 sI sN
          go_upto_region 16 with fail
          obtain ⟨V, hV⟩ : ∃ V, V = (wr.alloc (.cells #[.int .i64 act, .int .i64 mem, .int .i64 num, .int .i64 fr, .int .i64 tt, .int .i64 st, .slice X xm xc] 45)).alloc (.cells #[.bool false, .int .i64 0, .int .i64 0, .int .i64 0, .slice none 0 0, .int .i64 0, .slice none 0 0] 41) := ⟨_, rfl⟩
          rw [← hV]
          have hbV : Below wr.heap.size wr V := by rw [hV]; exact (bl_new _).alloc (by simp) _
          have hst : V.heap[wr.heap.size]? = some (.cells #[.int .i64 act, .int .i64 mem, .int .i64 num, .int .i64 fr, .int .i64 tt, .int .i64 st, .slice X xm xc] 45 (0, 0)) := by
            rw [hV]
            exact ((bl_new (w := wr.alloc _) _).block _ (by simp)).trans (World.alloc_heap_new _ _)
          have hsn : V.heap[wr.heap.size + 1]? = some (.cells #[.bool false, .int .i64 0, .int .i64 0, .int .i64 0, .slice none 0 0, .int .i64 0, .slice none 0 0] 41 (0, 0)) := by
            rw [hV]
            exact World.alloc_heap_new' _ _ (by simp)
          have hsz : V.heap.size = wr.heap.size + 2 := by rw [hV]; simp
          have HBV := hide hbV
          have HST := hide hst
          have HSN := hide hsn
          have HSZ := hide hsz
          have b0 : V.cell? ⟨wr.heap.size, 0, none⟩ = some (.int .i64 act) := by simp only [World.cell?, hst]; rfl
          have b1 : V.cell? ⟨wr.heap.size, 1, none⟩ = some (.int .i64 mem) := by simp only [World.cell?, hst]; rfl
          have b2 : V.cell? ⟨wr.heap.size, 2, none⟩ = some (.int .i64 num) := by simp only [World.cell?, hst]; rfl
          have bz := (Array.getElem?_eq_some_iff.1 hst).1
          clear hV hbV hst hsn hsz s0 s1 s2 s3 s4 s5 s6 sz
          go_cut [13, 14, 16, 17, 18, 47] (fun v13 v14 v16 v17 v18 v47 wc => v13 = .slice OA qs.length oc ∧ v14 = .slice WA pq.length wc' ∧ v16 = .pointer (some ⟨wr.heap.size, 0, none⟩) ∧ v17 = .pointer (some ⟨wr.heap.size + 1, 0, none⟩) ∧ v18 = .bool (inN k mem) ∧ v47 = .int .i64 (j : Int) ∧ wc = V)
          case first =>
            by_cases hm1 : mem < 0
            · have e : inN k mem = false := by unfold inN; rw [show decide (0 ≤ mem) = false by simp; omega]; rfl
              have hm1' : ¬ 0 ≤ mem := by omega
              have E := hide e
              clear e
              go_wp2_with fail
              go_meet
              case rel => exact ⟨rfl, rfl, rfl, rfl, by rw [E.out], rfl, rfl⟩
            · by_cases hm2 : mem < (k : Int)
              · have e : inN k mem = true := by unfold inN; rw [show decide (0 ≤ mem) = true by simp; omega, show decide (mem < (k : Int)) = true by simp; omega]; rfl
                have hm1' : 0 ≤ mem := by omega
                have E := hide e
                clear e
                go_wp2_with fail
                go_meet
                case rel => exact ⟨rfl, rfl, rfl, rfl, by rw [E.out], rfl, rfl⟩
              · have e : inN k mem = false := by unfold inN; rw [show decide (mem < (k : Int)) = false by simp; omega]; simp
                have hm1' : 0 ≤ mem := by omega
                have E := hide e
                clear e
                go_wp2_with fail
                go_meet
                case rel => exact ⟨rfl, rfl, rfl, rfl, by rw [E.out], rfl, rfl⟩
          case rest =>
            obtain ⟨rfl, rfl, rfl, rfl, rfl, rfl, hwc⟩ := hcut
            obtain rfl := hwc.symm
            have hIn : ∃ I, I = inN k mem := ⟨_, rfl⟩
            obtain ⟨I, hI⟩ := hIn
            rw [← hI]
            have HI := hide hI
            clear hI
            have hpb : pq.length ≤ 2000000000000 := by omega
            go_upto_if 63 with fail
            go_cut [13, 14, 16, 17, 18, 19, 47] (fun v13 v14 v16 v17 v18 v19 v47 wc => v13 = .slice OA qs.length oc ∧ v14 = .slice WA pq.length wc' ∧ v16 = .pointer (some ⟨wr.heap.size, 0, none⟩) ∧ v17 = .pointer (some ⟨wr.heap.size + 1, 0, none⟩) ∧ v18 = .bool I ∧ (∃ kk : Nat, v19 = .int .i64 (kk : Int) ∧ (0 < pq.length → kk = modI num pq.length)) ∧ v47 = .int .i64 (j : Int) ∧ wc = V)
            case first =>
              by_cases hway : pq.length = 0
              · have hw1 : ¬ 0 < (pq.length : Int) := by omega
                have hw2 : ¬ 0 < pq.length := by omega
                have HWAY := hide hway
                clear hway
                go_wp2_with fail
                go_meet
                case rel => exact ⟨rfl, rfl, rfl, rfl, rfl, ⟨0, rfl, fun h => by omega⟩, rfl, rfl⟩
              · have hw1 : 0 < (pq.length : Int) := by omega
                have hw2 : 0 < pq.length := by omega
                obtain ⟨l, hl⟩ : ∃ l, l = pq.length := ⟨_, rfl⟩
                rw [← hl] at hw1 hw2 hpb ⊢
                have HN9 := hide (tmod_mod (n := l) hw2 num)
                have hb9 := tmod_bd (n := l) hw2 num
                have q0 : ¬ ((l : Int) = 0) := by omega
                have q1 : ((l : Int) == 0) = false := by simp; omega
                have q2 : ¬ (l = 0) := by omega
                have q3 : wrap64 (num.tmod (l : Int)) = num.tmod (l : Int) := by unfold wrap64; omega
                have q4 : wrap64 (num.tmod (l : Int) + (l : Int)) = num.tmod (l : Int) + (l : Int) := by unfold wrap64; omega
                have hb8 := tmod_bd (n := l) hw2 (num.tmod (l : Int) + (l : Int))
                have q5 : wrap64 ((num.tmod (l : Int) + (l : Int)).tmod (l : Int)) = (num.tmod (l : Int) + (l : Int)).tmod (l : Int) := by unfold wrap64; omega
                have HLL := hide hl
                clear hb9 hb8 hway hl
                go_wp2_with fail
                go_meet
                case rel => exact ⟨rfl, by rw [HLL.out], rfl, rfl, rfl, ⟨modI num l, by rw [HN9.out], fun _ => by rw [HLL.out]⟩, rfl, rfl⟩
            case rest =>
              obtain ⟨rfl, rfl, rfl, rfl, rfl, ⟨kk, rfl, hkk⟩, rfl, hwc⟩ := hcut
              obtain rfl := hwc.symm
              have HKK := hide hkk
              clear hkk
              go_upto_block 4 with fail
              go_cut [13, 14, 17, 47] (fun v13 v14 v17 v47 wc => v13 = .slice OA qs.length oc ∧ v17 = .pointer (some ⟨wr.heap.size + 1, 0, none⟩) ∧ v47 = .int .i64 (j : Int) ∧ SwAns W wr tb dN k P ⟨act, mem, num, ⟨fr, tt, st, data⟩⟩ (.slice OA qs.length oc) pq.length qs v14 wc)
              case first =>
                by_cases hcm : (act = 2 ∨ act = 3) ∧ 0 < pq.length
                · obtain ⟨a23, hz⟩ := hcm
                  have hzz : (0 : Int) < (pq.length : Int) := by omega
                  have hkl : kk < pq.length := by rw [HKK.out hz]; exact modI_lt hz num
                  obtain ⟨g, rfl⟩ : ∃ g, WA = some ⟨g, 0, none⟩ := by
                    rcases HTV2.out.wy.row.parts with ⟨e, e0⟩ | ⟨g, cap, cur, e, _⟩
                    · omega
                    · cases e; exact ⟨g, rfl⟩
                  obtain ⟨⟨⟨fn, tn, sn, dn⟩, ⟨ya, yn, yc⟩⟩, hp⟩ : ∃ p, pq[kk]? = some p := ⟨pq[kk], by simp [hkl]⟩
                  have hpm := List.mem_of_getElem? hp
                  have htv := HTV2.out.below HBV.out
                  obtain ⟨c0, c1, c2, c3⟩ := htv.wy.cells hp
                  obtain ⟨⟨i, hik, hti⟩, hdl⟩ := HTV2.out.tos _ hpm
                  simp only at c0 c1 c2 c3 hti hdl
                  subst hti
                  have cz := lt_of_cell c0
                  have HYN := hide (htv.wy.num _ hpm)
                  have hkz : (kk : Int) < (pq.length : Int) := by omega
                  have hikz : (i : Int) < (k : Int) := by omega
                  have hi0 : (0 : Int) ≤ (i : Int) := by omega
                  have hnth : nthW P.ws kk = ⟨fn, (i : Int), sn, dn⟩ := by
                    unfold nthW
                    rw [← HPQ.out, List.getElem?_map, hp]
                    rfl
                  have est : stepM dN k P ⟨act, mem, num, ⟨fr, tt, st, data⟩⟩ = (⟨updN P.ss i (takeM dN k i (P.ss i) ⟨fn, (i : Int), sn, dn⟩), if act = 2 then P.ws.eraseIdx kk else P.ws⟩, ⟨false, ntZ, takeE dN k i (P.ss i) ⟨fn, (i : Int), sn, dn⟩, []⟩) := by
                    have hlw : P.ws.length = pq.length := by rw [← HPQ.out]; simp
                    have hws : P.ws ≠ [] := fun e => by rw [e] at hlw; simp at hlw; omega
                    have h9 : modI num P.ws.length = kk := by rw [hlw, HKK.out hz]
                    unfold stepM
                    simp only
                    rw [if_neg (fun h => by omega), if_pos ⟨a23, hws⟩, h9, hnth]
                    unfold giveM
                    simp only [Int.toNat_natCast]
                  have EST := hide est
                  have HP9 := hide hp
                  clear hp hpm htv hnth est
                  rcases a23 with rfl | rfl
                  · as_aux_lemma =>
                      go_upto_region 28 with fail
                      obtain ⟨Vn, hVn⟩ : ∃ Vn, Vn = V.alloc (.cells #[.int .i64 fn, .int .i64 (i : Int), .int .i64 sn, .slice ya yn yc] 39) := ⟨_, rfl⟩
                      rw [← hVn]
                      have hbn : Below V.heap.size V Vn := by rw [hVn]; exact bl_new _
                      have hnb : Vn.heap[V.heap.size]? = some (.cells #[.int .i64 fn, .int .i64 (i : Int), .int .i64 sn, .slice ya yn yc] 39 (0, 0)) := by rw [hVn]; exact World.alloc_heap_new _ _
                      have HBN := hide hbn
                      have HNB := hide hnb
                      have hsq := (hbn.block _ (Array.getElem?_eq_some_iff.1 HSN.out).1).trans HSN.out
                      have HSQ := hide hsq
                      have HYQ := hide (⟨HYN.out.1.below hbn, fun b hO => (HYN.out.2 b hO).below hbn⟩ : Num Vn ⟨ya, yn, yc⟩ dn ∧ ∀ b, (⟨ya, yn, yc⟩ : Sl).On b → Fre Vn k Fs b)
                      have HTN := hide ((HTV2.out.below HBV.out).below hbn)
                      have HBW := hide (bl_on (bl_on HB.out HBV.out) hbn)
                      clear hVn hbn hnb hsq
                      have hkc : pq.length ≤ wc' := by
                        rcases HTV2.out.wy.row.parts with ⟨e, e0⟩ | ⟨g', cap, cur, e, _, _, h9, _⟩
                        · cases e
                        · cases e; exact h9
                      have hkq : kk + 1 ≤ pq.length := by omega
                      have hkb : kk ≤ 2000000000000 := by omega
                      have hwk : IntKind.i64.wrap ((kk : Int) + 1) = (kk : Int) + 1 := wrapk_small (by omega) (by omega)
                      have hk1 : kk ≤ wc' := by omega
                      obtain ⟨AF, hAF⟩ : ∃ AF : Option Addr, AF = (if wc' = kk + 1 then some ⟨g, 0, none⟩ else some ⟨g, (kk + 1) * 4, none⟩) := ⟨_, rfl⟩
                      have HAF := hide hAF
                      clear hAF
                      have hk2 : (0 : Int) ≤ (kk : Int) + 1 := by omega
                      have hk3 : (kk : Int) + 1 ≤ (pq.length : Int) := by omega
                      refine region_made 8 12 [fIs (.slice (some ⟨g, 0, none⟩) pq.length wc'), fIs (.int .i64 (kk : Int)), fIs (.int .i64 (kk : Int)), fIs (.slice (some ⟨g, 0, none⟩) kk kk), fIs (.slice (some ⟨g, 0, none⟩) pq.length wc'), fIs (.int .i64 (kk : Int)), fIs (.int .i64 ((kk : Int) + 1)), fIs (.slice AF (pq.length - (kk + 1)) (wc' - (kk + 1)))] (by kernel_rfl) (by kernel_rfl) (by kernel_rfl) (fun _ ⟨_, _⟩ ⟨_, _⟩ _ e h => by cases e; exact h) ⟨fIs_good _, fIs_good _, fIs_good _, fIs_good _, fIs_good _, fIs_good _, fIs_good _, fIs_good _, trivial⟩ ?mk8 ?rest8
                      case mk8 =>
                        refine ⟨fun u wz hb hd => ?_, fun u wz hb hd => ?_, fun u wz hb hd => ?_, fun u wz hb hd => ?_, fun u wz hb hd => ?_, fun u wz hb hd => ?_, fun u wz hb hd => ?_, fun u wz hb hd => ?_, trivial⟩
                        all_goals simp only [Act.put, List.setIfInBounds_toArray, List.set_cons_zero, List.set_cons_succ]
                        · go_simp
                          exact ⟨rfl, Below.refl _ _, fun h => by cases h⟩
                        · go_simp
                          exact ⟨rfl, Below.refl _ _, fun h => by cases h⟩
                        · go_simp
                          exact ⟨rfl, Below.refl _ _, fun h => by cases h⟩
                        · have e0 : u 0 = .slice (some ⟨g, 0, none⟩) pq.length wc' := hd 0 (by omega) (by kernel_rfl)
                          have e1 : u 1 = .int .i64 (kk : Int) := hd 1 (by omega) (by kernel_rfl)
                          have e2 : u 2 = .int .i64 (kk : Int) := hd 2 (by omega) (by kernel_rfl)
                          rw [e0, e1, e2]
                          go_simp
                          exact ⟨rfl, Below.refl _ _, fun h => by cases h⟩
                        · go_simp
                          exact ⟨rfl, Below.refl _ _, fun h => by cases h⟩
                        · go_simp
                          exact ⟨rfl, Below.refl _ _, fun h => by cases h⟩
                        · have e5 : u 5 = .int .i64 (kk : Int) := hd 5 (by omega) (by kernel_rfl)
                          rw [e5]
                          go_simp
                          try rw [hwk]
                          exact ⟨rfl, Below.refl _ _, fun h => by cases h⟩
                        · have e4 : u 4 = .slice (some ⟨g, 0, none⟩) pq.length wc' := hd 4 (by omega) (by kernel_rfl)
                          have e6 : u 6 = .int .i64 ((kk : Int) + 1) := hd 6 (by omega) (by kernel_rfl)
                          rw [e4, e6]
                          go_simp
                          rw [HAF.out]
                          exact ⟨rfl, Below.refl _ _, fun h => by cases h⟩
                      case rest8 =>
                        intro u wz hb hf hp
                        have f0 : u 0 = .slice (some ⟨g, 0, none⟩) pq.length wc' := hf 0 (by omega)
                        have f1 : u 1 = .int .i64 (kk : Int) := hf 1 (by omega)
                        have f2 : u 2 = .int .i64 (kk : Int) := hf 2 (by omega)
                        have f3 : u 3 = .slice (some ⟨g, 0, none⟩) kk kk := hf 3 (by omega)
                        have f4 : u 4 = .slice (some ⟨g, 0, none⟩) pq.length wc' := hf 4 (by omega)
                        have f5 : u 5 = .int .i64 (kk : Int) := hf 5 (by omega)
                        have f6 : u 6 = .int .i64 ((kk : Int) + 1) := hf 6 (by omega)
                        have f7 : u 7 = .slice AF (pq.length - (kk + 1)) (wc' - (kk + 1)) := hf 7 (by omega)
                        refine UptoW.rest 2 8 (by rfl) (by kernel_rfl) ?_
                        simp only [List.take, List.drop, putOps, Act.put, List.setIfInBounds_toArray, List.set_cons_zero, List.set_cons_succ, Nat.reduceAdd, f0, f1, f2, f3, f4, f5, f6, f7]
                        clear f0 f1 f2 f3 f4 f5 f6 f7 hf hp
                        have hbz := hb
                        have hwy := (HTN.out.below hb).wy
                        refine append_gone (by rfl) (.tmp 128) (.tmp 132) 51 (by rfl) W.heap.size 39 i4 _ 4 48 Try.underlying51 h4 h4z h4s h4b rfl (by decide) (by rfl) hwy.row hkl (by omega) (HTN.out.below hb).low _ _ (by rfl) (fun h9 => by rw [HAF.out]; exact if_neg (by omega)) (by rw [HAF.out]; split <;> exact ⟨_, rfl⟩) ?_
                        intro v3 w3 hr3 hg3 ho3
                        have htv3 := (HTN.out.below hb).gone hkl hr3 hg3 ho3
                        obtain ⟨WA3, wc3, rfl⟩ : ∃ WA3 wc3, v3 = .slice WA3 (pq.eraseIdx kk).length wc3 := by
                          have hle : (pq.eraseIdx kk).length = pq.length - 1 := List.length_eraseIdx_of_lt hkl
                          rw [hle]
                          rcases hr3.parts with ⟨e, e0⟩ | ⟨g', cap, cur, e, _⟩
                          · exact ⟨none, 0, by rw [e, e0]⟩
                          · exact ⟨_, _, e⟩
                        have hbg : Below wz.heap.size wz w3 := ⟨hg3.os, hg3.tape, hg3.output, hg3.size, fun b hb' => hg3.block b hb' (by simp)⟩
                        have hb3 : Below Vn.heap.size Vn w3 := hbz.trans (hbg.mono hbz.size)
                        have hws3 : (pq.eraseIdx kk).map (·.1) = P.ws.eraseIdx kk := by rw [← HPQ.out, map_erase']
                        have hln3 : (pq.eraseIdx kk).length ≤ pq.length + 1 := by rw [List.length_eraseIdx_of_lt hkl]; omega
                        obtain ⟨pq3, hpq3⟩ : ∃ pq3, pq3 = pq.eraseIdx kk := ⟨_, rfl⟩
                        rw [← hpq3] at htv3 hws3 hln3 ⊢
                        have HT3 := hide htv3
                        have HWS3 := hide hws3
                        have HLN3 := hide hln3
                        have HSQ3 := hide ((hb3.block _ (Array.getElem?_eq_some_iff.1 HSQ.out).1).trans HSQ.out)
                        have HNB3 := hide ((hb3.block _ (Array.getElem?_eq_some_iff.1 HNB.out).1).trans HNB.out)
                        have HYQ3 := hide (⟨HYQ.out.1.below hb3, fun b hO => (HYQ.out.2 b hO).below hb3⟩ : Num w3 ⟨ya, yn, yc⟩ dn ∧ ∀ b, (⟨ya, yn, yc⟩ : Sl).On b → Fre w3 k Fs b)
                        have HBW3 := hide (bl_on HBW.out hb3)
                        clear hpq3 hws3 hln3 hr3 hg3 ho3 htv3 hbg hb3 hwy hbz hb hkc hkq hkb hwk hk1 hk2 hk3
                        have s5 : w3.cell? ⟨wr.heap.size + 1, 5, none⟩ = some (.int .i64 0) := by simp only [World.cell?, HSQ3.out]; rfl
                        have sf : w3.frozen? ⟨wr.heap.size + 1, 5, none⟩ = false := by simp [World.frozen?, HSQ3.out]
                        have sz9 := (Array.getElem?_eq_some_iff.1 HSQ3.out).1
                        go_upto_region 30 with fail
                        obtain ⟨V4, hV4⟩ : ∃ V4, V4 = w3.setCell ⟨wr.heap.size + 1, 5, none⟩ (.int .i64 4) := ⟨_, rfl⟩
                        rw [← hV4]
                        have hne4 : ∀ b, b ≠ wr.heap.size + 1 → V4.heap[b]? = w3.heap[b]? := fun b hb => by rw [hV4]; exact Below.heap_setCell _ _ _ _ hb
                        have hs4 : V4.heap.size = w3.heap.size := by rw [hV4]; simp [World.setCell]
                        have hsn4 : V4.heap[wr.heap.size + 1]? = some (.cells #[.bool false, .int .i64 0, .int .i64 0, .int .i64 0, .slice none 0 0, .int .i64 4, .slice none 0 0] 41 (0, 0)) := by rw [hV4]; exact set5_heap HSQ3.out
                        have hfC : ∀ i', i' < k → ¬ Fs i' (wr.heap.size + 1) := fun i' hi' hf => by have h9 := (HTV2.out.tm.lo i' _ hi' hf).2; omega
                        have hoC : (Value.slice OA qs.length oc).ownBlock ≠ some (wr.heap.size + 1) := fun e => by have h9 := (HTV2.out.ou.row.lt _ e).2.1; omega
                        have htv4 := HT3.out.setC HSQ3.out hfC hoC hs4 hne4
                        have hvz : V.heap.size = wr.heap.size + 2 := HSZ.out
                        have hnb4 : V4.heap[V.heap.size]? = some (.cells #[.int .i64 fn, .int .i64 (i : Int), .int .i64 sn, .slice ya yn yc] 39 (0, 0)) := (hne4 _ (by omega)).trans HNB3.out
                        have HBW4 := hide ((show Below W.heap.size W V4 from by rw [hV4]; exact HBW3.out.setCell (by have h9 := HB.out.size; simp only; omega) _))
                        have HYQ4 := hide ((⟨HYQ3.out.1.keep fun b hO => hne4 b (fun e => by
                          obtain ⟨cur9, hc9⟩ := HYQ3.out.1.blk b hO
                          rw [e, HSQ3.out] at hc9
                          simp at hc9), fun b hO => ⟨by rw [hs4]; exact (HYQ3.out.2 b hO).1, (HYQ3.out.2 b hO).2⟩⟩ : Num V4 ⟨ya, yn, yc⟩ dn ∧ ∀ b, (⟨ya, yn, yc⟩ : Sl).On b → Fre V4 k Fs b))
                        have HFC := hide ((⟨(Array.getElem?_eq_some_iff.1 hsn4).1, hfC⟩ : Fre V4 k Fs (wr.heap.size + 1)))
                        have HOC := hide hoC
                        have HTV4 := hide htv4
                        have t0 := htv4.tm.row i hik
                        unfold pm at t0
                        have tz := lt_of_cell t0
                        have HMB := hide (htv4.tm.mb i hik)
                        have HOKI := hide (htv4.tm.ok i hik)
                        have n0 : V4.cell? ⟨V.heap.size, 0, none⟩ = some (.int .i64 fn) := by simp only [World.cell?, hnb4]; rfl
                        have n1 : V4.cell? ⟨V.heap.size, 1, none⟩ = some (.int .i64 (i : Int)) := by simp only [World.cell?, hnb4]; rfl
                        have n2 : V4.cell? ⟨V.heap.size, 2, none⟩ = some (.int .i64 sn) := by simp only [World.cell?, hnb4]; rfl
                        have n3 : V4.cell? ⟨V.heap.size, 3, none⟩ = some (.slice ya yn yc) := by simp only [World.cell?, hnb4]; rfl
                        have nz := (Array.getElem?_eq_some_iff.1 hnb4).1
                        have qz := (Array.getElem?_eq_some_iff.1 hsn4).1
                        have HSN4 := hide hsn4
                        have hlo : ∀ b, Fs i b → b < wr.heap.size := fun b hf => (HTV2.out.tm.lo i b hik hf).2
                        have hbig : wr.heap.size ≤ V4.heap.size := by omega
                        have HFL : Hid (∀ b, V4.heap.size ≤ b → ¬ Fs i b) := fun b h8 hf => by have h9 := hlo b hf; omega
                        have HNS : Hid (¬ Fs i V.heap.size) := fun hf => by have h9 := hlo _ hf; omega
                        have HNQ : Hid (¬ Fs i (wr.heap.size + 1)) := fun hf => by have h9 := hlo _ hf; omega
                        have HNT : Hid (¬ Fs i tb) := HTV2.out.tm.tbf i hik
                        have HSIW : Hid (∀ U, Wr (Fs i) V4 U → Ints U ya yn dn) := fun U hU => (HYQ4.out.1.keep fun b hO => hU.block b (HYQ4.out.2 b hO).1 ((HYQ4.out.2 b hO).2 i hik)).ints
                        have hyn : yn * 8 ≤ 140737488355328 := by have h9 := HYQ4.out.1.len; simp only at h9; omega
                        clear hV4 hne4 hs4 hsn4 hfC hoC htv4 hvz hnb4 hlo hbig s5 sf sz9
                        go_upto_region 31 with fail
                        refine region_madeR (fun a b => Wr (Fs i) a b) (fun _ _ _ h k => h.trans k) (fun _ _ h => Wr.of_below h) 7 9 10 [fIs (.slice (some ⟨tb, 0, none⟩) k tc), fIs (.pointer (some ⟨V.heap.size, 1, none⟩)), fIs (.int .i64 (i : Int)), fIs (.pointer (some ⟨tb, i, none⟩)), fIs (.pointer (some ⟨gs i, 0, none⟩)), fIs (.agg #[.int .i64 fn, .int .i64 (i : Int), .int .i64 sn, .slice ya yn yc]), fOwnR V4.heap.size ⟨fn, (i : Int), sn, dn⟩, fTk V4.heap.size (Fs i) (gs i) dN k i (P.ss i) ⟨fn, (i : Int), sn, dn⟩, fIs (.pointer (some ⟨wr.heap.size + 1, 5, none⟩))] (by kernel_rfl) (by kernel_rfl) (by kernel_rfl) (fun ch p q w3 e h => by obtain ⟨t1, d1⟩ := p; obtain ⟨t2, d2⟩ := q; cases e; exact h) ⟨rg_is_good _ _ _, rg_is_good _ _ _, rg_is_good _ _ _, rg_is_good _ _ _, rg_is_good _ _ _, rg_is_good _ _ _, fOwnR_good _ _ _ HFL.out, fTk_good _ _ _ _ _ _ _ _ _, rg_is_good _ _ _, trivial⟩ ?mkR ?restR
                        case mkR =>
                          refine ⟨fun u wz hb hs hd => ?_, fun u wz hb hs hd => ?_, fun u wz hb hs hd => ?_, fun u wz hb hs hd => ?_, fun u wz hb hs hd => ?_, fun u wz hb hs hd => ?_, fun u wz hb hs hd => ?_, fun u wz hb hs hd => ?_, fun u wz hb hs hd => ?_, trivial⟩
                          all_goals simp only [Act.put, List.setIfInBounds_toArray, List.set_cons_zero, List.set_cons_succ]
                          · go_simp
                            exact ⟨rfl, StR.of (Below.refl _ _) (by decide), fun h => by cases h⟩
                          · go_simp
                            exact ⟨rfl, StR.of (Below.refl _ _) (by decide), fun h => by cases h⟩
                          · have e1 : u 1 = (.pointer (some ⟨V.heap.size, 1, none⟩)) := hd 1 (by omega) (by kernel_rfl)
                            rw [e1]
                            have c1 := (World.cell?_of_block (hb.block V.heap.size nz HNS.out)).trans n1
                            have z1 := Nat.lt_of_lt_of_le nz hb.size
                            go_simp
                            exact ⟨rfl, StR.of (Below.refl _ _) (by decide), fun h => by cases h⟩
                          · have e0 : u 0 = (.slice (some ⟨tb, 0, none⟩) k tc) := hd 0 (by omega) (by kernel_rfl)
                            have e2 : u 2 = (.int .i64 (i : Int)) := hd 2 (by omega) (by kernel_rfl)
                            rw [e0, e2]
                            go_simp
                            exact ⟨rfl, StR.of (Below.refl _ _) (by decide), fun h => by cases h⟩
                          · have e3 : u 3 = (.pointer (some ⟨tb, i, none⟩)) := hd 3 (by omega) (by kernel_rfl)
                            rw [e3]
                            have c1 := (World.cell?_of_block (hb.block tb tz HNT.out)).trans t0
                            have z1 := Nat.lt_of_lt_of_le tz hb.size
                            go_simp
                            exact ⟨rfl, StR.of (Below.refl _ _) (by decide), fun h => by cases h⟩
                          · have d3 := (World.cell?_of_block (hb.block V.heap.size nz HNS.out)).trans n0
                            have d4 := (World.cell?_of_block (hb.block V.heap.size nz HNS.out)).trans n1
                            have d5 := (World.cell?_of_block (hb.block V.heap.size nz HNS.out)).trans n2
                            have d6 := (World.cell?_of_block (hb.block V.heap.size nz HNS.out)).trans n3
                            have z1 := Nat.lt_of_lt_of_le nz hb.size
                            go_simp
                            exact ⟨rfl, StR.of (Below.refl _ _) (by decide), fun h => by cases h⟩
                          · have e5 : u 5 = (.agg #[.int .i64 fn, .int .i64 (i : Int), .int .i64 sn, .slice ya yn yc]) := hd 5 (by omega) (by kernel_rfl)
                            rw [e5]
                            go_simp
                            have ho := own_any ⟨fn, (i : Int), sn, dn⟩ ⟨ya, yn, yc⟩ wz (HSIW.out wz hb) hyn
                            unfold ntV at ho
                            refine ho.mono ?_
                            rintro e w4 ⟨⟨y', rfl, hn4, hl4⟩, hb4⟩
                            have hsz9 := hb.size
                            exact ⟨⟨y', rfl, hn4, fun b hO => ⟨Nat.le_trans hsz9 (hl4 b hO).1, (hl4 b hO).2⟩⟩, StR.of hb4 (by decide), fun h => by cases h⟩
                          · have e4 : u 4 = (.pointer (some ⟨gs i, 0, none⟩)) := hd 4 (by omega) (by kernel_rfl)
                            obtain ⟨y', e7, n7, l7⟩ := hd 6 (by omega) (by kernel_rfl)
                            rw [e4, e7]
                            go_simp
                            have hbb := hs rfl
                            have htk := take_any (gs i) (Fs i) dN k i (P.ss i) (Gs i) wz (HMB.out.below hbb) HOKI.out ⟨fn, (i : Int), sn, dn⟩ y' n7
                            unfold pm ntV at htk
                            refine htk.mono ?_
                            rintro e w4 ⟨rfl, ⟨G4, hm4⟩, hw4⟩
                            have hsz9 := hbb.size
                            exact ⟨⟨rfl, _, G4, hm4, fun b hb' => hb'.imp id fun h9 => ⟨Nat.le_trans hsz9 h9.1, h9.2⟩⟩, StR.at hw4, fun h => by cases h⟩
                          · go_simp
                            exact ⟨rfl, StR.of (Below.refl _ _) (by decide), fun h => by cases h⟩
                        case restR =>
                          intro u wz hb hf hp
                          have f0 : u 0 = (.slice (some ⟨tb, 0, none⟩) k tc) := hf 0 (by omega)
                          have f1 : u 1 = (.pointer (some ⟨V.heap.size, 1, none⟩)) := hf 1 (by omega)
                          have f2 : u 2 = (.int .i64 (i : Int)) := hf 2 (by omega)
                          have f3 : u 3 = (.pointer (some ⟨tb, i, none⟩)) := hf 3 (by omega)
                          have f4 : u 4 = (.pointer (some ⟨gs i, 0, none⟩)) := hf 4 (by omega)
                          have f5 : u 5 = (.agg #[.int .i64 fn, .int .i64 (i : Int), .int .i64 sn, .slice ya yn yc]) := hf 5 (by omega)
                          obtain ⟨y7, f6, n7, l7⟩ := hf 6 (by omega)
                          obtain ⟨f7, F8, G8, m8, k8⟩ := hf 7 (by omega)
                          have f8 : u 8 = (.pointer (some ⟨wr.heap.size + 1, 5, none⟩)) := hf 8 (by omega)
                          refine UptoW.rest 1 9 (by rfl) (by kernel_rfl) ?_
                          simp only [List.take, List.drop, putOps, Act.put, List.setIfInBounds_toArray, List.set_cons_zero, List.set_cons_succ, Nat.reduceAdd, f0, f1, f2, f3, f4, f5, f6, f7, f8]
                          have M8 := hide m8
                          have K8 := hide k8
                          have HBZ := hide hb
                          have hzs := (hb.block _ qz HNQ.out).trans HSN4.out
                          have r5 : wz.cell? ⟨wr.heap.size + 1, 5, none⟩ = some (.int .i64 4) := by simp only [World.cell?, hzs]; rfl
                          have rf : wz.frozen? ⟨wr.heap.size + 1, 5, none⟩ = false := by simp [World.frozen?, hzs]
                          have rz := (Array.getElem?_eq_some_iff.1 hzs).1
                          have HZS := hide hzs
                          clear f0 f1 f2 f3 f4 f5 f6 f7 f8 hf hp n7 l7 m8 k8 hb hzs
                          go_wp2_with fail
                          go_meet
                          case rel => exact ⟨rfl, rfl, rfl, sw_come HTV4.out (HWS3.out) hik HBW4.out HBZ.out M8.out (HOKI.out.take _) K8.out HZS.out HFC.out HOC.out (by have h9 := HB.out.size; omega) (HLN3.out) (by rw [EST.out]; try rfl)⟩
                  · as_aux_lemma =>
                      go_upto_region 29 with fail
                      obtain ⟨Vn, hVn⟩ : ∃ Vn, Vn = V.alloc (.cells #[.int .i64 fn, .int .i64 (i : Int), .int .i64 sn, .slice ya yn yc] 39) := ⟨_, rfl⟩
                      rw [← hVn]
                      have hbn : Below V.heap.size V Vn := by rw [hVn]; exact bl_new _
                      have hnb : Vn.heap[V.heap.size]? = some (.cells #[.int .i64 fn, .int .i64 (i : Int), .int .i64 sn, .slice ya yn yc] 39 (0, 0)) := by rw [hVn]; exact World.alloc_heap_new _ _
                      have HBN := hide hbn
                      have HNB := hide hnb
                      have hsq := (hbn.block _ (Array.getElem?_eq_some_iff.1 HSN.out).1).trans HSN.out
                      have HSQ := hide hsq
                      have HYQ := hide (⟨HYN.out.1.below hbn, fun b hO => (HYN.out.2 b hO).below hbn⟩ : Num Vn ⟨ya, yn, yc⟩ dn ∧ ∀ b, (⟨ya, yn, yc⟩ : Sl).On b → Fre Vn k Fs b)
                      have HTN := hide ((HTV2.out.below HBV.out).below hbn)
                      have HBW := hide (bl_on (bl_on HB.out HBV.out) hbn)
                      clear hVn hbn hnb hsq
                      have s5 : Vn.cell? ⟨wr.heap.size + 1, 5, none⟩ = some (.int .i64 0) := by simp only [World.cell?, HSQ.out]; rfl
                      have sf : Vn.frozen? ⟨wr.heap.size + 1, 5, none⟩ = false := by simp [World.frozen?, HSQ.out]
                      have sz9 := (Array.getElem?_eq_some_iff.1 HSQ.out).1
                      go_upto_region 30 with fail
                      obtain ⟨V4, hV4⟩ : ∃ V4, V4 = Vn.setCell ⟨wr.heap.size + 1, 5, none⟩ (.int .i64 4) := ⟨_, rfl⟩
                      rw [← hV4]
                      have hne4 : ∀ b, b ≠ wr.heap.size + 1 → V4.heap[b]? = Vn.heap[b]? := fun b hb => by rw [hV4]; exact Below.heap_setCell _ _ _ _ hb
                      have hs4 : V4.heap.size = Vn.heap.size := by rw [hV4]; simp [World.setCell]
                      have hsn4 : V4.heap[wr.heap.size + 1]? = some (.cells #[.bool false, .int .i64 0, .int .i64 0, .int .i64 0, .slice none 0 0, .int .i64 4, .slice none 0 0] 41 (0, 0)) := by rw [hV4]; exact set5_heap HSQ.out
                      have hfC : ∀ i', i' < k → ¬ Fs i' (wr.heap.size + 1) := fun i' hi' hf => by have h9 := (HTV2.out.tm.lo i' _ hi' hf).2; omega
                      have hoC : (Value.slice OA qs.length oc).ownBlock ≠ some (wr.heap.size + 1) := fun e => by have h9 := (HTV2.out.ou.row.lt _ e).2.1; omega
                      have htv4 := HTN.out.setC HSQ.out hfC hoC hs4 hne4
                      have hvz : V.heap.size = wr.heap.size + 2 := HSZ.out
                      have hnb4 : V4.heap[V.heap.size]? = some (.cells #[.int .i64 fn, .int .i64 (i : Int), .int .i64 sn, .slice ya yn yc] 39 (0, 0)) := (hne4 _ (by omega)).trans HNB.out
                      have HBW4 := hide ((show Below W.heap.size W V4 from by rw [hV4]; exact HBW.out.setCell (by have h9 := HB.out.size; simp only; omega) _))
                      have HYQ4 := hide ((⟨HYQ.out.1.keep fun b hO => hne4 b (fun e => by
                        obtain ⟨cur9, hc9⟩ := HYQ.out.1.blk b hO
                        rw [e, HSQ.out] at hc9
                        simp at hc9), fun b hO => ⟨by rw [hs4]; exact (HYQ.out.2 b hO).1, (HYQ.out.2 b hO).2⟩⟩ : Num V4 ⟨ya, yn, yc⟩ dn ∧ ∀ b, (⟨ya, yn, yc⟩ : Sl).On b → Fre V4 k Fs b))
                      have HFC := hide ((⟨(Array.getElem?_eq_some_iff.1 hsn4).1, hfC⟩ : Fre V4 k Fs (wr.heap.size + 1)))
                      have HOC := hide hoC
                      have HTV4 := hide htv4
                      have t0 := htv4.tm.row i hik
                      unfold pm at t0
                      have tz := lt_of_cell t0
                      have HMB := hide (htv4.tm.mb i hik)
                      have HOKI := hide (htv4.tm.ok i hik)
                      have n0 : V4.cell? ⟨V.heap.size, 0, none⟩ = some (.int .i64 fn) := by simp only [World.cell?, hnb4]; rfl
                      have n1 : V4.cell? ⟨V.heap.size, 1, none⟩ = some (.int .i64 (i : Int)) := by simp only [World.cell?, hnb4]; rfl
                      have n2 : V4.cell? ⟨V.heap.size, 2, none⟩ = some (.int .i64 sn) := by simp only [World.cell?, hnb4]; rfl
                      have n3 : V4.cell? ⟨V.heap.size, 3, none⟩ = some (.slice ya yn yc) := by simp only [World.cell?, hnb4]; rfl
                      have nz := (Array.getElem?_eq_some_iff.1 hnb4).1
                      have qz := (Array.getElem?_eq_some_iff.1 hsn4).1
                      have HSN4 := hide hsn4
                      have hlo : ∀ b, Fs i b → b < wr.heap.size := fun b hf => (HTV2.out.tm.lo i b hik hf).2
                      have hbig : wr.heap.size ≤ V4.heap.size := by omega
                      have HFL : Hid (∀ b, V4.heap.size ≤ b → ¬ Fs i b) := fun b h8 hf => by have h9 := hlo b hf; omega
                      have HNS : Hid (¬ Fs i V.heap.size) := fun hf => by have h9 := hlo _ hf; omega
                      have HNQ : Hid (¬ Fs i (wr.heap.size + 1)) := fun hf => by have h9 := hlo _ hf; omega
                      have HNT : Hid (¬ Fs i tb) := HTV2.out.tm.tbf i hik
                      have HSIW : Hid (∀ U, Wr (Fs i) V4 U → Ints U ya yn dn) := fun U hU => (HYQ4.out.1.keep fun b hO => hU.block b (HYQ4.out.2 b hO).1 ((HYQ4.out.2 b hO).2 i hik)).ints
                      have hyn : yn * 8 ≤ 140737488355328 := by have h9 := HYQ4.out.1.len; simp only at h9; omega
                      clear hV4 hne4 hs4 hsn4 hfC hoC htv4 hvz hnb4 hlo hbig s5 sf sz9
                      go_upto_region 31 with fail
                      refine region_madeR (fun a b => Wr (Fs i) a b) (fun _ _ _ h k => h.trans k) (fun _ _ h => Wr.of_below h) 7 9 10 [fIs (.slice (some ⟨tb, 0, none⟩) k tc), fIs (.pointer (some ⟨V.heap.size, 1, none⟩)), fIs (.int .i64 (i : Int)), fIs (.pointer (some ⟨tb, i, none⟩)), fIs (.pointer (some ⟨gs i, 0, none⟩)), fIs (.agg #[.int .i64 fn, .int .i64 (i : Int), .int .i64 sn, .slice ya yn yc]), fOwnR V4.heap.size ⟨fn, (i : Int), sn, dn⟩, fTk V4.heap.size (Fs i) (gs i) dN k i (P.ss i) ⟨fn, (i : Int), sn, dn⟩, fIs (.pointer (some ⟨wr.heap.size + 1, 5, none⟩))] (by kernel_rfl) (by kernel_rfl) (by kernel_rfl) (fun ch p q w3 e h => by obtain ⟨t1, d1⟩ := p; obtain ⟨t2, d2⟩ := q; cases e; exact h) ⟨rg_is_good _ _ _, rg_is_good _ _ _, rg_is_good _ _ _, rg_is_good _ _ _, rg_is_good _ _ _, rg_is_good _ _ _, fOwnR_good _ _ _ HFL.out, fTk_good _ _ _ _ _ _ _ _ _, rg_is_good _ _ _, trivial⟩ ?mkR ?restR
                      case mkR =>
                        refine ⟨fun u wz hb hs hd => ?_, fun u wz hb hs hd => ?_, fun u wz hb hs hd => ?_, fun u wz hb hs hd => ?_, fun u wz hb hs hd => ?_, fun u wz hb hs hd => ?_, fun u wz hb hs hd => ?_, fun u wz hb hs hd => ?_, fun u wz hb hs hd => ?_, trivial⟩
                        all_goals simp only [Act.put, List.setIfInBounds_toArray, List.set_cons_zero, List.set_cons_succ]
                        · go_simp
                          exact ⟨rfl, StR.of (Below.refl _ _) (by decide), fun h => by cases h⟩
                        · go_simp
                          exact ⟨rfl, StR.of (Below.refl _ _) (by decide), fun h => by cases h⟩
                        · have e1 : u 1 = (.pointer (some ⟨V.heap.size, 1, none⟩)) := hd 1 (by omega) (by kernel_rfl)
                          rw [e1]
                          have c1 := (World.cell?_of_block (hb.block V.heap.size nz HNS.out)).trans n1
                          have z1 := Nat.lt_of_lt_of_le nz hb.size
                          go_simp
                          exact ⟨rfl, StR.of (Below.refl _ _) (by decide), fun h => by cases h⟩
                        · have e0 : u 0 = (.slice (some ⟨tb, 0, none⟩) k tc) := hd 0 (by omega) (by kernel_rfl)
                          have e2 : u 2 = (.int .i64 (i : Int)) := hd 2 (by omega) (by kernel_rfl)
                          rw [e0, e2]
                          go_simp
                          exact ⟨rfl, StR.of (Below.refl _ _) (by decide), fun h => by cases h⟩
                        · have e3 : u 3 = (.pointer (some ⟨tb, i, none⟩)) := hd 3 (by omega) (by kernel_rfl)
                          rw [e3]
                          have c1 := (World.cell?_of_block (hb.block tb tz HNT.out)).trans t0
                          have z1 := Nat.lt_of_lt_of_le tz hb.size
                          go_simp
                          exact ⟨rfl, StR.of (Below.refl _ _) (by decide), fun h => by cases h⟩
                        · have d3 := (World.cell?_of_block (hb.block V.heap.size nz HNS.out)).trans n0
                          have d4 := (World.cell?_of_block (hb.block V.heap.size nz HNS.out)).trans n1
                          have d5 := (World.cell?_of_block (hb.block V.heap.size nz HNS.out)).trans n2
                          have d6 := (World.cell?_of_block (hb.block V.heap.size nz HNS.out)).trans n3
                          have z1 := Nat.lt_of_lt_of_le nz hb.size
                          go_simp
                          exact ⟨rfl, StR.of (Below.refl _ _) (by decide), fun h => by cases h⟩
                        · have e5 : u 5 = (.agg #[.int .i64 fn, .int .i64 (i : Int), .int .i64 sn, .slice ya yn yc]) := hd 5 (by omega) (by kernel_rfl)
                          rw [e5]
                          go_simp
                          have ho := own_any ⟨fn, (i : Int), sn, dn⟩ ⟨ya, yn, yc⟩ wz (HSIW.out wz hb) hyn
                          unfold ntV at ho
                          refine ho.mono ?_
                          rintro e w4 ⟨⟨y', rfl, hn4, hl4⟩, hb4⟩
                          have hsz9 := hb.size
                          exact ⟨⟨y', rfl, hn4, fun b hO => ⟨Nat.le_trans hsz9 (hl4 b hO).1, (hl4 b hO).2⟩⟩, StR.of hb4 (by decide), fun h => by cases h⟩
                        · have e4 : u 4 = (.pointer (some ⟨gs i, 0, none⟩)) := hd 4 (by omega) (by kernel_rfl)
                          obtain ⟨y', e7, n7, l7⟩ := hd 6 (by omega) (by kernel_rfl)
                          rw [e4, e7]
                          go_simp
                          have hbb := hs rfl
                          have htk := take_any (gs i) (Fs i) dN k i (P.ss i) (Gs i) wz (HMB.out.below hbb) HOKI.out ⟨fn, (i : Int), sn, dn⟩ y' n7
                          unfold pm ntV at htk
                          refine htk.mono ?_
                          rintro e w4 ⟨rfl, ⟨G4, hm4⟩, hw4⟩
                          have hsz9 := hbb.size
                          exact ⟨⟨rfl, _, G4, hm4, fun b hb' => hb'.imp id fun h9 => ⟨Nat.le_trans hsz9 h9.1, h9.2⟩⟩, StR.at hw4, fun h => by cases h⟩
                        · go_simp
                          exact ⟨rfl, StR.of (Below.refl _ _) (by decide), fun h => by cases h⟩
                      case restR =>
                        intro u wz hb hf hp
                        have f0 : u 0 = (.slice (some ⟨tb, 0, none⟩) k tc) := hf 0 (by omega)
                        have f1 : u 1 = (.pointer (some ⟨V.heap.size, 1, none⟩)) := hf 1 (by omega)
                        have f2 : u 2 = (.int .i64 (i : Int)) := hf 2 (by omega)
                        have f3 : u 3 = (.pointer (some ⟨tb, i, none⟩)) := hf 3 (by omega)
                        have f4 : u 4 = (.pointer (some ⟨gs i, 0, none⟩)) := hf 4 (by omega)
                        have f5 : u 5 = (.agg #[.int .i64 fn, .int .i64 (i : Int), .int .i64 sn, .slice ya yn yc]) := hf 5 (by omega)
                        obtain ⟨y7, f6, n7, l7⟩ := hf 6 (by omega)
                        obtain ⟨f7, F8, G8, m8, k8⟩ := hf 7 (by omega)
                        have f8 : u 8 = (.pointer (some ⟨wr.heap.size + 1, 5, none⟩)) := hf 8 (by omega)
                        refine UptoW.rest 1 9 (by rfl) (by kernel_rfl) ?_
                        simp only [List.take, List.drop, putOps, Act.put, List.setIfInBounds_toArray, List.set_cons_zero, List.set_cons_succ, Nat.reduceAdd, f0, f1, f2, f3, f4, f5, f6, f7, f8]
                        have M8 := hide m8
                        have K8 := hide k8
                        have HBZ := hide hb
                        have hzs := (hb.block _ qz HNQ.out).trans HSN4.out
                        have r5 : wz.cell? ⟨wr.heap.size + 1, 5, none⟩ = some (.int .i64 4) := by simp only [World.cell?, hzs]; rfl
                        have rf : wz.frozen? ⟨wr.heap.size + 1, 5, none⟩ = false := by simp [World.frozen?, hzs]
                        have rz := (Array.getElem?_eq_some_iff.1 hzs).1
                        have HZS := hide hzs
                        clear f0 f1 f2 f3 f4 f5 f6 f7 f8 hf hp n7 l7 m8 k8 hb hzs
                        go_wp2_with fail
                        go_meet
                        case rel => exact ⟨rfl, rfl, rfl, sw_come HTV4.out (HPQ.out) hik HBW4.out HBZ.out M8.out (HOKI.out.take _) K8.out HZS.out HFC.out HOC.out (by have h9 := HB.out.size; omega) (Nat.le_succ _) (by rw [EST.out]; try rfl)⟩
                · have HNC := hide hcm
                  have hnw : ¬ ((act = 2 ∨ act = 3) ∧ P.ws ≠ []) := fun h9 => hcm ⟨h9.1, by
                    have h8 := h9.2
                    rw [← HPQ.out] at h8
                    cases pq with
                    | nil => exact absurd rfl h8
                    | cons a l => simp⟩
                  have HNW := hide hnw
                  clear hcm hnw
                  cases I with
                  | false =>
                    as_aux_lemma =>
                      have est : stepM dN k P ⟨act, mem, num, ⟨fr, tt, st, data⟩⟩ = (P, ⟨false, ntZ, 0, []⟩) := by
                        unfold stepM
                        simp only
                        rw [← HI.out, if_neg (by simp), if_neg HNW.out, if_neg (by simp), if_neg (by simp)]
                      have EST := hide est
                      clear est
                      by_cases hz : 0 < pq.length
                      · have hz1 : (0 : Int) < (pq.length : Int) := by omega
                        have a2 : ¬ act = 2 := fun e => HNC.out ⟨.inl e, hz⟩
                        have a3 : ¬ act = 3 := fun e => HNC.out ⟨.inr e, hz⟩
                        go_wp2_with fail
                        all_goals go_meet
                        all_goals exact ⟨rfl, rfl, rfl, ⟨WA, wc', pq, gs, Fs, Gs, (⟨false, ntZ, 0, []⟩, slZ, slZ), rfl, by rw [EST.out]; exact HTV2.out.below HBV.out, by rw [EST.out]; exact HPQ.out, by rw [EST.out], HSN.out, ⟨Num.nil _, fun b hO => by obtain ⟨h9, _⟩ := hO; simp [slZ] at h9⟩, ⟨Num.nil _, fun b hO => by obtain ⟨h9, _⟩ := hO; simp [slZ] at h9⟩, by omega, HB.out.trans (HBV.out.mono HB.out.size)⟩⟩
                      · have hz1 : ¬ (0 : Int) < (pq.length : Int) := by omega
                        go_wp2_with fail
                        all_goals go_meet
                        all_goals exact ⟨rfl, rfl, rfl, ⟨WA, wc', pq, gs, Fs, Gs, (⟨false, ntZ, 0, []⟩, slZ, slZ), rfl, by rw [EST.out]; exact HTV2.out.below HBV.out, by rw [EST.out]; exact HPQ.out, by rw [EST.out], HSN.out, ⟨Num.nil _, fun b hO => by obtain ⟨h9, _⟩ := hO; simp [slZ] at h9⟩, ⟨Num.nil _, fun b hO => by obtain ⟨h9, _⟩ := hO; simp [slZ] at h9⟩, by omega, HB.out.trans (HBV.out.mono HB.out.size)⟩⟩
                  | true =>
                    obtain ⟨i, hik, rfl⟩ : ∃ i : Nat, i < k ∧ mem = (i : Int) := by
                      have hi : inN k mem = true := HI.out.symm
                      unfold inN at hi
                      simp only [Bool.and_eq_true, decide_eq_true_eq] at hi
                      exact ⟨mem.toNat, by omega, by omega⟩
                    have htv := HTV2.out.below HBV.out
                    have t0 := htv.tm.row i hik
                    unfold pm at t0
                    have tz := lt_of_cell t0
                    have hikz : (i : Int) < (k : Int) := by omega
                    have HMB := hide (htv.tm.mb i hik)
                    have HOKI := hide (htv.tm.ok i hik)
                    have hseen := HSN.out
                    have q0 : V.cell? ⟨wr.heap.size + 1, 0, none⟩ = some (.bool false) := by simp only [World.cell?, hseen]; rfl
                    have q5 : V.cell? ⟨wr.heap.size + 1, 5, none⟩ = some (.int .i64 0) := by simp only [World.cell?, hseen]; rfl
                    have q6 : V.cell? ⟨wr.heap.size + 1, 6, none⟩ = some (.slice none 0 0) := by simp only [World.cell?, hseen]; rfl
                    have qz := (Array.getElem?_eq_some_iff.1 hseen).1
                    clear htv hseen
                    by_cases a5 : act = 5
                    · as_aux_lemma =>
                        subst a5
                        have est : stepM dN k P ⟨5, (i : Int), num, ⟨fr, tt, st, data⟩⟩ = (P, ⟨false, ntZ, resE dN k (P.ss i), resL dN k i (P.ss i)⟩) := by
                          unfold stepM
                          simp only
                          rw [← HI.out]
                          simp
                        have EST := hide est
                        have hrs := result_any (gs i) (Fs i) dN k i (P.ss i) (Gs i) V HMB.out HOKI.out
                        unfold pm ResAns at hrs
                        have HRS := hide hrs
                        clear est hrs
                        go_wp2_with (go_at_call 20; refine stp ?_)
                        unfold Stp1
                        refine HRS.out.mono ?_
                        rintro e w1 ⟨⟨y, rfl, hy, hyl⟩, hb1⟩
                        have HY := hide hy
                        have HYL := hide hyl
                        have HB1 := hide hb1
                        have r5 := (hb1.cell (p := ⟨wr.heap.size + 1, 5, none⟩) qz).trans q5
                        have r6 := (hb1.cell (p := ⟨wr.heap.size + 1, 6, none⟩) qz).trans q6
                        have rz := Nat.lt_of_lt_of_le qz hb1.size
                        have rf : ∀ k', w1.frozen? ⟨wr.heap.size + 1, k', none⟩ = false := fun k' => by
                          have h8 := (hb1.block _ qz).trans HSN.out
                          simp [World.frozen?, h8]
                        clear hy hyl hb1
                        go_wp2_with fail
                        go_meet
                        case rel =>
                          have hbu : Below wr.heap.size wr ((w1.setCell ⟨wr.heap.size + 1, 6, none⟩ (.slice y.a y.n y.c)).setCell ⟨wr.heap.size + 1, 5, none⟩ (.int .i64 (resE dN k (P.ss i)))) := ((HBV.out.trans (HB1.out.mono HBV.out.size)).setCell (by simp) _).setCell (by simp) _
                          have hyu : Num ((w1.setCell ⟨wr.heap.size + 1, 6, none⟩ (.slice y.a y.n y.c)).setCell ⟨wr.heap.size + 1, 5, none⟩ (.int .i64 (resE dN k (P.ss i)))) y (resL dN k i (P.ss i)) := HY.out.keep fun b hO => by
                            have h8 := HYL.out b hO
                            have h9 := HSZ.out
                            rw [Below.heap_setCell _ _ _ _ (by simp only; omega), Below.heap_setCell _ _ _ _ (by simp only; omega)]
                          exact ⟨rfl, rfl, rfl, sw_quiet HTV2.out HPQ.out hbu HB.out ((⟨false, ntZ, resE dN k (P.ss i), resL dN k i (P.ss i)⟩, slZ, y) : Sn × Sl × Sl) EST.out (set56_heap ((HB1.out.block _ qz).trans HSN.out)) (Num.nil _) (fun b hO => (slZ_on hO).elim) hyu (fun b hO => Nat.le_trans HBV.out.size (HYL.out b hO))⟩
                    · by_cases a1 : act = 1
                      · subst a1
                        cases hc : canM dN k (P.ss i) with
                        | false =>
                          as_aux_lemma =>
                            have hnx := next_any (gs i) (Fs i) dN k i (P.ss i) (Gs i) V HMB.out HOKI.out
                            unfold pm NextAns at hnx
                            rw [if_neg (by rw [hc]; decide), hc] at hnx
                            obtain ⟨⟨nf, nt, ns, nd⟩, hnt⟩ : ∃ x, x = nt0 := ⟨_, rfl⟩
                            rw [← hnt] at hnx
                            unfold ntV at hnx
                            simp only at hnx
                            have HNX := hide hnx
                            have HNT9 := hide hnt
                            have HC := hide hc
                            have p1 : V.cell? ⟨wr.heap.size + 1, 1, none⟩ = some (.int .i64 0) := by simp only [World.cell?, HSN.out]; rfl
                            have HNQ : Hid (¬ Fs i (wr.heap.size + 1)) := fun hf => by have h9 := (HTV2.out.tm.lo i _ hik hf).2; omega
                            clear hnx hnt hc
                            go_upto_region 22 with (go_at_call 17; refine stp ?_)
                            unfold Stp1
                            refine HNX.out.mono ?_
                            rintro e w1 ⟨y, rfl, hy, hyl, hm, hw⟩
                            have hzs := (hw.block _ qz HNQ.out).trans HSN.out
                            have r0 : w1.cell? ⟨wr.heap.size + 1, 0, none⟩ = some (.bool false) := by simp only [World.cell?, hzs]; rfl
                            have r1 : w1.cell? ⟨wr.heap.size + 1, 1, none⟩ = some (.int .i64 0) := by simp only [World.cell?, hzs]; rfl
                            have r2 : w1.cell? ⟨wr.heap.size + 1, 2, none⟩ = some (.int .i64 0) := by simp only [World.cell?, hzs]; rfl
                            have r3 : w1.cell? ⟨wr.heap.size + 1, 3, none⟩ = some (.int .i64 0) := by simp only [World.cell?, hzs]; rfl
                            have r4 : w1.cell? ⟨wr.heap.size + 1, 4, none⟩ = some (.slice none 0 0) := by simp only [World.cell?, hzs]; rfl
                            have rf : ∀ k', w1.frozen? ⟨wr.heap.size + 1, k', none⟩ = false := fun k' => by simp [World.frozen?, hzs]
                            have rz := (Array.getElem?_eq_some_iff.1 hzs).1
                            have HZS := hide hzs
                            have HY := hide hy
                            have HYL := hide hyl
                            have HMM := hide hm
                            have HWW := hide hw
                            clear hzs hy hyl hm hw p1
                            go_upto_region 22 with fail
                            obtain ⟨U, hU⟩ : ∃ U, U = setN w1 (wr.heap.size + 1) (.int .i64 nf) (.int .i64 nt) (.int .i64 ns) (.slice y.a y.n y.c) (.bool false) := ⟨_, rfl⟩
                            have hU' : ((((w1.setCell ⟨wr.heap.size + 1, 1, none⟩ (.int .i64 nf)).setCell ⟨wr.heap.size + 1, 2, none⟩ (.int .i64 nt)).setCell ⟨wr.heap.size + 1, 3, none⟩ (.int .i64 ns)).setCell ⟨wr.heap.size + 1, 4, none⟩ (.slice y.a y.n y.c)).setCell ⟨wr.heap.size + 1, 0, none⟩ (.bool false) = U := hU.symm
                            rw [hU']
                            clear hU'
                            have htu := sw_next HTV2.out hik HB.out HBV.out HWW.out HMM.out (.int .i64 nf) (.int .i64 nt) (.int .i64 ns) (.slice y.a y.n y.c) (.bool false)
                            rw [← hU] at htu
                            have hus : U.heap[wr.heap.size + 1]? = some (.cells #[.bool false, .int .i64 nf, .int .i64 nt, .int .i64 ns, .slice y.a y.n y.c, .int .i64 0, .slice none 0 0] 41 (0, 0)) := by rw [hU]; exact setN_heap HZS.out
                            have huy : Num U y nd := by
                              rw [hU]
                              refine HY.out.keep fun b hO => setN_other ?_
                              have h8 := HYL.out b hO
                              have h9 := HSZ.out
                              omega
                            have u0 : U.cell? ⟨wr.heap.size + 1, 0, none⟩ = some (.bool false) := by simp only [World.cell?, hus]; rfl
                            have u1' : U.cell? ⟨wr.heap.size + 1, 1, none⟩ = some (.int .i64 nf) := by simp only [World.cell?, hus]; rfl
                            have u2' : U.cell? ⟨wr.heap.size + 1, 2, none⟩ = some (.int .i64 nt) := by simp only [World.cell?, hus]; rfl
                            have u3' : U.cell? ⟨wr.heap.size + 1, 3, none⟩ = some (.int .i64 ns) := by simp only [World.cell?, hus]; rfl
                            have u4' : U.cell? ⟨wr.heap.size + 1, 4, none⟩ = some (.slice y.a y.n y.c) := by simp only [World.cell?, hus]; rfl
                            have uz := (Array.getElem?_eq_some_iff.1 hus).1
                            have HTU := hide htu.1
                            have HBU := hide htu.2
                            have HUS := hide hus
                            have HUY := hide huy
                            have HFY : Hid (∀ b, y.On b → Fre U k (updN Fs i (Fs i)) b) := fun b hO => ⟨huy.lt hO, fun j' hj' hf => by
                              have h7 : Fs j' b := by
                                by_cases e : j' = i
                                · rw [e, updN_same] at hf; rw [e]; exact hf
                                · rw [updN_other _ _ e] at hf; exact hf
                              have h8 := (HTV2.out.tm.lo j' b hj' h7).2
                              have h9 := HYL.out b hO
                              have h10 := HSZ.out
                              omega⟩
                            clear hU htu hus huy r0 r1 r2 r3 r4 rf rz
                            have est : stepM dN k P ⟨1, (i : Int), num, ⟨fr, tt, st, data⟩⟩ = (P, ⟨false, ntZ, 0, []⟩) := by
                              unfold stepM
                              simp only
                              rw [← HI.out]
                              simp [HC.out]
                            have EST := hide est
                            clear est
                            go_wp2_with fail
                            go_meet
                            case rel =>
                              have hq := HNT9.out
                              unfold nt0 at hq
                              obtain ⟨rfl, rfl, rfl, rfl⟩ : nf = 0 ∧ nt = 0 ∧ ns = 0 ∧ nd = [] := by cases hq; exact ⟨rfl, rfl, rfl, rfl⟩
                              have hss : updN P.ss i (nextM dN k (P.ss i)) = P.ss := by
                                unfold nextM
                                rw [if_neg (by rw [HC.out]; decide), updN_self]
                              refine ⟨rfl, rfl, rfl, ⟨WA, wc', pq, gs, updN Fs i (Fs i), updN Gs i (Gs i), (⟨false, ntZ, 0, []⟩, y, slZ), rfl, ?_, by rw [EST.out]; exact HPQ.out, by rw [EST.out], HUS.out, ⟨HUY.out, HFY.out⟩, ⟨Num.nil _, fun b hO => (slZ_on hO).elim⟩, Nat.le_succ _, HBU.out⟩⟩
                              rw [EST.out]
                              have h5 := HTU.out
                              rw [hss] at h5
                              exact h5
                        | true =>
                          as_aux_lemma =>
                            have hnx := next_any (gs i) (Fs i) dN k i (P.ss i) (Gs i) V HMB.out HOKI.out
                            unfold pm NextAns at hnx
                            rw [if_pos hc, hc] at hnx
                            obtain ⟨⟨nf, nt, ns, nd⟩, hnt⟩ : ∃ x, x = noteM dN k i (P.ss i) := ⟨_, rfl⟩
                            rw [← hnt] at hnx
                            unfold ntV at hnx
                            simp only at hnx
                            have HNX := hide hnx
                            have HNT9 := hide hnt
                            have HC := hide hc
                            have p1 : V.cell? ⟨wr.heap.size + 1, 1, none⟩ = some (.int .i64 0) := by simp only [World.cell?, HSN.out]; rfl
                            have HNQ : Hid (¬ Fs i (wr.heap.size + 1)) := fun hf => by have h9 := (HTV2.out.tm.lo i _ hik hf).2; omega
                            clear hnx hnt hc
                            go_upto_region 22 with (go_at_call 17; refine stp ?_)
                            unfold Stp1
                            refine HNX.out.mono ?_
                            rintro e w1 ⟨y, rfl, hy, hyl, hm, hw⟩
                            have hzs := (hw.block _ qz HNQ.out).trans HSN.out
                            have r0 : w1.cell? ⟨wr.heap.size + 1, 0, none⟩ = some (.bool false) := by simp only [World.cell?, hzs]; rfl
                            have r1 : w1.cell? ⟨wr.heap.size + 1, 1, none⟩ = some (.int .i64 0) := by simp only [World.cell?, hzs]; rfl
                            have r2 : w1.cell? ⟨wr.heap.size + 1, 2, none⟩ = some (.int .i64 0) := by simp only [World.cell?, hzs]; rfl
                            have r3 : w1.cell? ⟨wr.heap.size + 1, 3, none⟩ = some (.int .i64 0) := by simp only [World.cell?, hzs]; rfl
                            have r4 : w1.cell? ⟨wr.heap.size + 1, 4, none⟩ = some (.slice none 0 0) := by simp only [World.cell?, hzs]; rfl
                            have rf : ∀ k', w1.frozen? ⟨wr.heap.size + 1, k', none⟩ = false := fun k' => by simp [World.frozen?, hzs]
                            have rz := (Array.getElem?_eq_some_iff.1 hzs).1
                            have HZS := hide hzs
                            have HY := hide hy
                            have HYL := hide hyl
                            have HMM := hide hm
                            have HWW := hide hw
                            clear hzs hy hyl hm hw p1
                            go_upto_region 22 with fail
                            obtain ⟨U, hU⟩ : ∃ U, U = setN w1 (wr.heap.size + 1) (.int .i64 nf) (.int .i64 nt) (.int .i64 ns) (.slice y.a y.n y.c) (.bool true) := ⟨_, rfl⟩
                            have hU' : ((((w1.setCell ⟨wr.heap.size + 1, 1, none⟩ (.int .i64 nf)).setCell ⟨wr.heap.size + 1, 2, none⟩ (.int .i64 nt)).setCell ⟨wr.heap.size + 1, 3, none⟩ (.int .i64 ns)).setCell ⟨wr.heap.size + 1, 4, none⟩ (.slice y.a y.n y.c)).setCell ⟨wr.heap.size + 1, 0, none⟩ (.bool true) = U := hU.symm
                            rw [hU']
                            clear hU'
                            have htu := sw_next HTV2.out hik HB.out HBV.out HWW.out HMM.out (.int .i64 nf) (.int .i64 nt) (.int .i64 ns) (.slice y.a y.n y.c) (.bool true)
                            rw [← hU] at htu
                            have hus : U.heap[wr.heap.size + 1]? = some (.cells #[.bool true, .int .i64 nf, .int .i64 nt, .int .i64 ns, .slice y.a y.n y.c, .int .i64 0, .slice none 0 0] 41 (0, 0)) := by rw [hU]; exact setN_heap HZS.out
                            have huy : Num U y nd := by
                              rw [hU]
                              refine HY.out.keep fun b hO => setN_other ?_
                              have h8 := HYL.out b hO
                              have h9 := HSZ.out
                              omega
                            have u0 : U.cell? ⟨wr.heap.size + 1, 0, none⟩ = some (.bool true) := by simp only [World.cell?, hus]; rfl
                            have u1' : U.cell? ⟨wr.heap.size + 1, 1, none⟩ = some (.int .i64 nf) := by simp only [World.cell?, hus]; rfl
                            have u2' : U.cell? ⟨wr.heap.size + 1, 2, none⟩ = some (.int .i64 nt) := by simp only [World.cell?, hus]; rfl
                            have u3' : U.cell? ⟨wr.heap.size + 1, 3, none⟩ = some (.int .i64 ns) := by simp only [World.cell?, hus]; rfl
                            have u4' : U.cell? ⟨wr.heap.size + 1, 4, none⟩ = some (.slice y.a y.n y.c) := by simp only [World.cell?, hus]; rfl
                            have uz := (Array.getElem?_eq_some_iff.1 hus).1
                            have HTU := hide htu.1
                            have HBU := hide htu.2
                            have HUS := hide hus
                            have HUY := hide huy
                            have HFY : Hid (∀ b, y.On b → Fre U k (updN Fs i (Fs i)) b) := fun b hO => ⟨huy.lt hO, fun j' hj' hf => by
                              have h7 : Fs j' b := by
                                by_cases e : j' = i
                                · rw [e, updN_same] at hf; rw [e]; exact hf
                                · rw [updN_other _ _ e] at hf; exact hf
                              have h8 := (HTV2.out.tm.lo j' b hj' h7).2
                              have h9 := HYL.out b hO
                              have h10 := HSZ.out
                              omega⟩
                            clear hU htu hus huy r0 r1 r2 r3 r4 rf rz
                            have est : stepM dN k P ⟨1, (i : Int), num, ⟨fr, tt, st, data⟩⟩ = (⟨updN P.ss i (nextM dN k (P.ss i)), P.ws ++ [⟨nf, nt, ns, nd⟩]⟩, ⟨true, ⟨nf, nt, ns, nd⟩, 0, []⟩) := by
                              unfold stepM
                              simp only
                              rw [← HI.out, HNT9.out]
                              simp [HC.out]
                            have EST := hide est
                            have hnd : nd.length ≤ 65536 := by
                              have h7 : nd = (noteM dN k i (P.ss i)).data := by rw [← HNT9.out]
                              rw [h7]
                              unfold noteM
                              simp only
                              split
                              · exact (HOKI.out.small _).2
                              · exact (HOKI.out.small _).1
                            have hto : (∃ i', i' < k ∧ nt = ((i' : Nat) : Int)) ∧ nd.length ≤ 65536 := by
                              have h7 : nt = (noteM dN k i (P.ss i)).to := by rw [← HNT9.out]
                              exact ⟨⟨toN dN k i (P.ss i).sent, toN_lt (by omega), by rw [h7]; rfl⟩, hnd⟩
                            have HTO := hide hto
                            have how := own_any ⟨nf, nt, ns, nd⟩ y U HUY.out.ints (by rw [← HUY.out.len]; omega)
                            unfold ntV at how
                            simp only at how
                            have HOW := hide how
                            have hpz : (pq.length + 1) * 48 ≤ 140737488355328 := by omega
                            clear est hto how
                            go_wp2_with (first
                              | (go_at_call 18; refine HOW.out.mono ?_; rintro e w3 ⟨⟨y2, rfl, hn3, hl3⟩, hb3⟩; have HN3 := hide hn3; have HL3 := hide hl3; have HB3 := hide hb3; clear hn3 hl3 hb3)
                              | (at_builtin; refine stp ?_))
                            unfold Stp1
                            refine append_c (by rfl) (.tmp 95) (.tmp 99) 51 (by rfl) W.heap.size 39 i4 _ 4 48 Try.underlying51 h4 h4z h4s h4b rfl (by decide) _ pq.length (wyC pq) (by rfl) ((HTU.out.below (HB3.out.alloc HB3.out.size _)).wy.row) ⟨w3.heap.size, 0, none⟩ 1 1 (ntC (⟨nf, nt, ns, nd⟩, y2)) (by rfl) rfl ?cells ?one (by omega) (by unfold maxLen; omega) hpz (by have := HTU.out.low; have := HB3.out.size; simp; omega) ?_
                            case cells =>
                              intro j' u hj'
                              rw [add_pl, Nat.zero_add]
                              exact box_cell w3 (ntC (⟨nf, nt, ns, nd⟩, y2)).toArray _ j' u (by rw [List.getElem?_toArray]; exact hj')
                            case one =>
                              intro u hu
                              simp only [ntC, List.mem_cons, List.not_mem_nil, or_false] at hu
                              rcases hu with h | h | h | h <;> (rw [h]; rfl)
                            intro v1 w4 hr hgr hat
                            have HR := hide hr
                            have HGR := hide hgr
                            have HAT := hide hat
                            rcases hr.parts with ⟨_, e⟩ | ⟨g8, cap8, cur8, e8, _⟩
                            · omega
                            subst e8
                            clear hr hgr hat
                            go_wp2_with fail
                            go_meet
                            case rel =>
                              have hb4 : Below U.heap.size U (w3.alloc (.cells #[.int .i64 nf, .int .i64 nt, .int .i64 ns, .slice y2.a y2.n y2.c] 39)) := HB3.out.alloc HB3.out.size _
                              exact ⟨rfl, rfl, rfl, sw_note HTU.out HPQ.out HBU.out hb4 ⟨nf, nt, ns, nd⟩ y2 y (HN3.out.below (bl_new _)) (fun b hO => (HL3.out b hO).1) HTO.out HR.out HGR.out HAT.out HUS.out HUY.out HFY.out EST.out⟩
                      · by_cases a4 : act = 4
                        · as_aux_lemma =>
                            subst a4
                            have est : stepM dN k P ⟨4, (i : Int), num, ⟨fr, tt, st, data⟩⟩ = (⟨updN P.ss i (takeM dN k i (P.ss i) ⟨fr, tt, st, data⟩), P.ws⟩, ⟨false, ntZ, takeE dN k i (P.ss i) ⟨fr, tt, st, data⟩, []⟩) := by
                              unfold stepM giveM
                              simp only
                              rw [← HI.out]
                              simp
                            have EST := hide est
                            have hst4 := HST.out
                            have b3 : V.cell? ⟨wr.heap.size, 3, none⟩ = some (.int .i64 fr) := by simp only [World.cell?, hst4]; rfl
                            have b4 : V.cell? ⟨wr.heap.size, 4, none⟩ = some (.int .i64 tt) := by simp only [World.cell?, hst4]; rfl
                            have b5 : V.cell? ⟨wr.heap.size, 5, none⟩ = some (.int .i64 st) := by simp only [World.cell?, hst4]; rfl
                            have b6 : V.cell? ⟨wr.heap.size, 6, none⟩ = some (.slice X xm xc) := by simp only [World.cell?, hst4]; rfl
                            have hlo := fun b hf => (HTV2.out.tm.lo i b hik hf).2
                            have HFL : Hid (∀ b, V.heap.size ≤ b → ¬ Fs i b) := fun b h8 hf => by
                              have h9 := hlo b hf
                              have h10 := HSZ.out
                              omega
                            have HNS : Hid (¬ Fs i wr.heap.size) := fun hf => by have h9 := hlo _ hf; omega
                            have HNQ : Hid (¬ Fs i (wr.heap.size + 1)) := fun hf => by have h9 := hlo _ hf; omega
                            have HNT : Hid (¬ Fs i tb) := HTV2.out.tm.tbf i hik
                            have HSIW : Hid (∀ U, Wr (Fs i) V U → Ints U X xm data) := fun U hU => ints_keep (HSI.out.below HBV.out) fun b' o e h8 => hU.block b' (Nat.lt_of_lt_of_le (HSNN.out b' o e h8) (Nat.le_trans HB.out.size HBV.out.size)) (fun hf => by have h9 := (HTV2.out.tm.lo i b' hik hf).1; have h10 := HSNN.out b' o e h8; omega)
                            clear est hst4 hlo
                            go_upto_region 33 with fail
                            refine region_madeR (fun a b => Wr (Fs i) a b) (fun _ _ _ h k => h.trans k) (fun _ _ h => Wr.of_below h) 8 10 11 [fIs (.slice (some ⟨tb, 0, none⟩) k tc), fIs (.pointer (some ⟨wr.heap.size, 1, none⟩)), fIs (.int .i64 (i : Int)), fIs (.pointer (some ⟨tb, i, none⟩)), fIs (.pointer (some ⟨gs i, 0, none⟩)), fIs (.pointer (some ⟨wr.heap.size, 3, none⟩)), fIs (.agg #[.int .i64 fr, .int .i64 tt, .int .i64 st, .slice X xm xc]), fOwnR V.heap.size ⟨fr, tt, st, data⟩, fTk V.heap.size (Fs i) (gs i) dN k i (P.ss i) ⟨fr, tt, st, data⟩, fIs (.pointer (some ⟨wr.heap.size + 1, 5, none⟩))] (by kernel_rfl) (by kernel_rfl) (by kernel_rfl) (fun ch p q w3 e h => by obtain ⟨t1, d1⟩ := p; obtain ⟨t2, d2⟩ := q; cases e; exact h) ⟨rg_is_good _ _ _, rg_is_good _ _ _, rg_is_good _ _ _, rg_is_good _ _ _, rg_is_good _ _ _, rg_is_good _ _ _, rg_is_good _ _ _, fOwnR_good _ _ _ HFL.out, fTk_good _ _ _ _ _ _ _ _ _, rg_is_good _ _ _, trivial⟩ ?mkR ?restR
                            case mkR =>
                              refine ⟨fun u wz hb hs hd => ?_, fun u wz hb hs hd => ?_, fun u wz hb hs hd => ?_, fun u wz hb hs hd => ?_, fun u wz hb hs hd => ?_, fun u wz hb hs hd => ?_, fun u wz hb hs hd => ?_, fun u wz hb hs hd => ?_, fun u wz hb hs hd => ?_, fun u wz hb hs hd => ?_, trivial⟩
                              all_goals simp only [Act.put, List.setIfInBounds_toArray, List.set_cons_zero, List.set_cons_succ]
                              · go_simp
                                exact ⟨rfl, StR.of (Below.refl _ _) (by decide), fun h => by cases h⟩
                              · go_simp
                                exact ⟨rfl, StR.of (Below.refl _ _) (by decide), fun h => by cases h⟩
                              · have e1 : u 1 = (.pointer (some ⟨wr.heap.size, 1, none⟩)) := hd 1 (by omega) (by kernel_rfl)
                                rw [e1]
                                have c1 := (World.cell?_of_block (hb.block wr.heap.size bz HNS.out)).trans b1
                                have z1 := Nat.lt_of_lt_of_le bz hb.size
                                go_simp
                                exact ⟨rfl, StR.of (Below.refl _ _) (by decide), fun h => by cases h⟩
                              · have e0 : u 0 = (.slice (some ⟨tb, 0, none⟩) k tc) := hd 0 (by omega) (by kernel_rfl)
                                have e2 : u 2 = (.int .i64 (i : Int)) := hd 2 (by omega) (by kernel_rfl)
                                rw [e0, e2]
                                go_simp
                                exact ⟨rfl, StR.of (Below.refl _ _) (by decide), fun h => by cases h⟩
                              · have e3 : u 3 = (.pointer (some ⟨tb, i, none⟩)) := hd 3 (by omega) (by kernel_rfl)
                                rw [e3]
                                have c1 := (World.cell?_of_block (hb.block tb tz HNT.out)).trans t0
                                have z1 := Nat.lt_of_lt_of_le tz hb.size
                                go_simp
                                exact ⟨rfl, StR.of (Below.refl _ _) (by decide), fun h => by cases h⟩
                              · go_simp
                                exact ⟨rfl, StR.of (Below.refl _ _) (by decide), fun h => by cases h⟩
                              · have e5 : u 5 = (.pointer (some ⟨wr.heap.size, 3, none⟩)) := hd 5 (by omega) (by kernel_rfl)
                                rw [e5]
                                have d3 := (World.cell?_of_block (hb.block wr.heap.size bz HNS.out)).trans b3
                                have d4 := (World.cell?_of_block (hb.block wr.heap.size bz HNS.out)).trans b4
                                have d5 := (World.cell?_of_block (hb.block wr.heap.size bz HNS.out)).trans b5
                                have d6 := (World.cell?_of_block (hb.block wr.heap.size bz HNS.out)).trans b6
                                have z1 := Nat.lt_of_lt_of_le bz hb.size
                                go_simp
                                exact ⟨rfl, StR.of (Below.refl _ _) (by decide), fun h => by cases h⟩
                              · have e6 : u 6 = (.agg #[.int .i64 fr, .int .i64 tt, .int .i64 st, .slice X xm xc]) := hd 6 (by omega) (by kernel_rfl)
                                rw [e6]
                                go_simp
                                have ho := own_any ⟨fr, tt, st, data⟩ ⟨X, xm, xc⟩ wz (HSIW.out wz hb) sB
                                unfold ntV at ho
                                refine ho.mono ?_
                                rintro e w4 ⟨⟨y', rfl, hn4, hl4⟩, hb4⟩
                                have hsz9 := hb.size
                                exact ⟨⟨y', rfl, hn4, fun b hO => ⟨Nat.le_trans hsz9 (hl4 b hO).1, (hl4 b hO).2⟩⟩, StR.of hb4 (by decide), fun h => by cases h⟩
                              · have e4 : u 4 = (.pointer (some ⟨gs i, 0, none⟩)) := hd 4 (by omega) (by kernel_rfl)
                                obtain ⟨y', e7, n7, l7⟩ := hd 7 (by omega) (by kernel_rfl)
                                rw [e4, e7]
                                go_simp
                                have hbb := hs rfl
                                have htk := take_any (gs i) (Fs i) dN k i (P.ss i) (Gs i) wz (HMB.out.below hbb) HOKI.out ⟨fr, tt, st, data⟩ y' n7
                                unfold pm ntV at htk
                                refine htk.mono ?_
                                rintro e w4 ⟨rfl, ⟨G4, hm4⟩, hw4⟩
                                have hsz9 := hbb.size
                                exact ⟨⟨rfl, _, G4, hm4, fun b hb' => hb'.imp id fun h9 => ⟨Nat.le_trans hsz9 h9.1, h9.2⟩⟩, StR.at hw4, fun h => by cases h⟩
                              · go_simp
                                exact ⟨rfl, StR.of (Below.refl _ _) (by decide), fun h => by cases h⟩
                            case restR =>
                              intro u wz hb hf hp
                              have f0 : u 0 = (.slice (some ⟨tb, 0, none⟩) k tc) := hf 0 (by omega)
                              have f1 : u 1 = (.pointer (some ⟨wr.heap.size, 1, none⟩)) := hf 1 (by omega)
                              have f2 : u 2 = (.int .i64 (i : Int)) := hf 2 (by omega)
                              have f3 : u 3 = (.pointer (some ⟨tb, i, none⟩)) := hf 3 (by omega)
                              have f4 : u 4 = (.pointer (some ⟨gs i, 0, none⟩)) := hf 4 (by omega)
                              have f5 : u 5 = (.pointer (some ⟨wr.heap.size, 3, none⟩)) := hf 5 (by omega)
                              have f6 : u 6 = (.agg #[.int .i64 fr, .int .i64 tt, .int .i64 st, .slice X xm xc]) := hf 6 (by omega)
                              obtain ⟨y7, f7, n7, l7⟩ := hf 7 (by omega)
                              obtain ⟨f8, F8, G8, m8, k8⟩ := hf 8 (by omega)
                              have f9 : u 9 = (.pointer (some ⟨wr.heap.size + 1, 5, none⟩)) := hf 9 (by omega)
                              refine UptoW.rest 1 10 (by rfl) (by kernel_rfl) ?_
                              simp only [List.take, List.drop, putOps, Act.put, List.setIfInBounds_toArray, List.set_cons_zero, List.set_cons_succ, Nat.reduceAdd, f0, f1, f2, f3, f4, f5, f6, f7, f8, f9]
                              have M8 := hide m8
                              have K8 := hide k8
                              have HBZ := hide hb
                              have hzs := (hb.block _ qz HNQ.out).trans HSN.out
                              have r5 : wz.cell? ⟨wr.heap.size + 1, 5, none⟩ = some (.int .i64 0) := by simp only [World.cell?, hzs]; rfl
                              have rf : wz.frozen? ⟨wr.heap.size + 1, 5, none⟩ = false := by simp [World.frozen?, hzs]
                              have rz := (Array.getElem?_eq_some_iff.1 hzs).1
                              have HZS := hide hzs
                              clear f0 f1 f2 f3 f4 f5 f6 f7 f8 f9 hf hp n7 l7 m8 k8 hb hzs
                              go_wp2_with fail
                              go_meet
                              case rel => exact ⟨rfl, rfl, rfl, sw_take HTV2.out HPQ.out hik HB.out HBV.out HSZ.out HBZ.out M8.out (HOKI.out.take _) K8.out HZS.out EST.out⟩
                        · as_aux_lemma =>
                            have est : stepM dN k P ⟨act, (i : Int), num, ⟨fr, tt, st, data⟩⟩ = (P, ⟨false, ntZ, 0, []⟩) := by
                              unfold stepM
                              simp only
                              rw [if_neg (fun h => a1 h.1), if_neg HNW.out, if_neg (fun h => a4 h.1), if_neg (fun h => a5 h.1)]
                            have EST := hide est
                            clear est
                            by_cases hz : 0 < pq.length
                            · have hz1 : (0 : Int) < (pq.length : Int) := by omega
                              have a2 : ¬ act = 2 := fun e => HNC.out ⟨.inl e, hz⟩
                              have a3 : ¬ act = 3 := fun e => HNC.out ⟨.inr e, hz⟩
                              go_wp2_with fail
                              all_goals go_meet
                              all_goals exact ⟨rfl, rfl, rfl, ⟨WA, wc', pq, gs, Fs, Gs, (⟨false, ntZ, 0, []⟩, slZ, slZ), rfl, by rw [EST.out]; exact HTV2.out.below HBV.out, by rw [EST.out]; exact HPQ.out, by rw [EST.out], HSN.out, ⟨Num.nil _, fun b hO => by obtain ⟨h9, _⟩ := hO; simp [slZ] at h9⟩, ⟨Num.nil _, fun b hO => by obtain ⟨h9, _⟩ := hO; simp [slZ] at h9⟩, by omega, HB.out.trans (HBV.out.mono HB.out.size)⟩⟩
                            · have hz1 : ¬ (0 : Int) < (pq.length : Int) := by omega
                              go_wp2_with fail
                              all_goals go_meet
                              all_goals exact ⟨rfl, rfl, rfl, ⟨WA, wc', pq, gs, Fs, Gs, (⟨false, ntZ, 0, []⟩, slZ, slZ), rfl, by rw [EST.out]; exact HTV2.out.below HBV.out, by rw [EST.out]; exact HPQ.out, by rw [EST.out], HSN.out, ⟨Num.nil _, fun b hO => by obtain ⟨h9, _⟩ := hO; simp [slZ] at h9⟩, ⟨Num.nil _, fun b hO => by obtain ⟨h9, _⟩ := hO; simp [slZ] at h9⟩, by omega, HB.out.trans (HBV.out.mono HB.out.size)⟩⟩
              case rest =>
                obtain ⟨rfl, rfl, rfl, ⟨WA2, wc2, pq2, gs2, Fs2, Gs2, q, rfl, htu, hws, hsq, hsn, hna, hnb, hpl2, hbu⟩⟩ := hcut
                obtain ⟨⟨qb, ⟨qf, qt, qs', qd⟩, qe, qx⟩, ⟨ya, yn, yc⟩, ⟨za, zn, zc⟩⟩ := q
                simp only at hsq hna hnb
                unfold snC at hsn
                simp only at hsn
                have x0 : wc.cell? ⟨wr.heap.size + 1, 0, none⟩ = some (.bool qb) := by simp only [World.cell?, hsn]; rfl
                have x1 : wc.cell? ⟨wr.heap.size + 1, 1, none⟩ = some (.int .i64 qf) := by simp only [World.cell?, hsn]; rfl
                have x2 : wc.cell? ⟨wr.heap.size + 1, 2, none⟩ = some (.int .i64 qt) := by simp only [World.cell?, hsn]; rfl
                have x3 : wc.cell? ⟨wr.heap.size + 1, 3, none⟩ = some (.int .i64 qs') := by simp only [World.cell?, hsn]; rfl
                have x4 : wc.cell? ⟨wr.heap.size + 1, 4, none⟩ = some (.slice ya yn yc) := by simp only [World.cell?, hsn]; rfl
                have x5 : wc.cell? ⟨wr.heap.size + 1, 5, none⟩ = some (.int .i64 qe) := by simp only [World.cell?, hsn]; rfl
                have x6 : wc.cell? ⟨wr.heap.size + 1, 6, none⟩ = some (.slice za zn zc) := by simp only [World.cell?, hsn]; rfl
                have xz := (Array.getElem?_eq_some_iff.1 hsn).1
                have HTU := hide htu
                have HNA := hide hna
                have HNB := hide hnb
                have HBU := hide hbu
                have HWS := hide hws
                have HSQ := hide hsq
                clear hsn htu hna hnb hbu hws hsq
                go_upto_region 37 with (at_builtin; refine stp ?_)
                unfold Stp1
                refine append_w (by rfl) (.tmp 189) (.tmp 191) 25 (by rfl) W.heap.size 41 i7 _ 7 88 Try.underlying25 h7 h7z h7s h7b rfl (by decide) _ qs.length (seC qs) (by rfl) (HTU.out.ou.row.keep fun g' e => (bl_new _).block g' (HTU.out.ou.row.lt g' e).2.1) ⟨wc.heap.size, 0, none⟩ 1 1 (snC ((⟨qb, ⟨qf, qt, qs', qd⟩, qe, qx⟩, ⟨ya, yn, yc⟩, ⟨za, zn, zc⟩) : Sn × Sl × Sl)) (by rfl) rfl ?cells ?one (by omega) (by have := HQL.out; unfold maxLen; omega) (by have := HQL.out; omega) (by have := HTU.out.low; simp; omega) ?_
                case cells =>
                  intro j' u hj'
                  rw [add_pl, Nat.zero_add]
                  exact box_cell wc (snC ((⟨qb, ⟨qf, qt, qs', qd⟩, qe, qx⟩, ⟨ya, yn, yc⟩, ⟨za, zn, zc⟩) : Sn × Sl × Sl)).toArray _ j' u (by rw [List.getElem?_toArray]; exact hj')
                case one =>
                  intro u hu
                  simp only [snC, List.mem_cons, List.not_mem_nil, or_false] at hu
                  rcases hu with h | h | h | h | h | h | h <;> (rw [h]; rfl)
                intro v1 w2 hr hgr hat
                have htn := (HTU.out.below (bl_new _)).seen ((⟨qb, ⟨qf, qt, qs', qd⟩, qe, qx⟩, ⟨ya, yn, yc⟩, ⟨za, zn, zc⟩) : Sn × Sl × Sl) hr hgr hat ⟨HNA.out.1.below (bl_new _), fun b hO => (HNA.out.2 b hO).below (bl_new _)⟩ ⟨HNB.out.1.below (bl_new _), fun b hO => (HNB.out.2 b hO).below (bl_new _)⟩
                have hbn : Below W.heap.size W w2 := (HBU.out.alloc HBU.out.size _).grown hgr (by have := HBU.out.size; simp; omega) (fun j' e => (HTU.out.ou.row.lt j' e).1)
                rcases hr.parts with ⟨_, e⟩ | ⟨g7, cap7, cur7, e7, _⟩
                · omega
                subst e7
                have HTN := hide htn
                have HBN := hide hbn
                clear htn hbn hr hgr hat
                go_wp2_with fail
                go_roundw
                case rel =>
                  refine ⟨j + 1, by omega, by go_num, ⟨some ⟨g7, 0, none⟩, cap7, WA2, wc2, pq2, qs ++ [((⟨qb, ⟨qf, qt, qs', qd⟩, qe, qx⟩, ⟨ya, yn, yc⟩, ⟨za, zn, zc⟩) : Sn × Sl × Sl)], gs2, Fs2, Gs2, ?_, rfl, ?_, ?_, ?_, ?_, ?_⟩, HBN.out⟩
                  · simp
                  · rw [HX1.out]
                    exact HTN.out
                  · rw [HX1.out]
                    exact HWS.out
                  · rw [HX2.out, List.map_append, HQS.out, ← HSQ.out]
                    rfl
                  · omega
                  · rw [List.length_append, HQL.out]; rfl
                case measure => simp [intOf]; omega
        · obtain rfl : j = m := by omega
          go_wp2_with fail
          go_ret2
          refine ⟨fun h => absurd HTE.out h, fun _ => ⟨_, qs, Fs, rfl, ?_, ?_⟩, HB.out⟩
          · rw [← HN.out]; exact HTV2.out.ou
          · rw [← HN.out, ← HDN.out, ← HP0.out, HQS.out, List.take_of_length_le (by rw [HM.out]; exact Nat.le_refl _)]
end Go.Proofs.Yticcoacoepajpaa.V
