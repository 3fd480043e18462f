/-
  RingEnds: the law's walk.
-/
import Derived.Test.YticcoacoepajpaaK33
import Derived.Test.YticcoacoepajpaaK34
import Derived.Deep.CutBlock
namespace Go.Proofs.Yticcoacoepajpaa.V
open Go Go.RowKit
set_option linter.unusedVariables false
set_option linter.unusedSimpArgs false

set_option maxRecDepth 100000 in
set_option maxHeartbeats 16000000 in
theorem ringEnds_walk (d : Int) (a : Option Addr) (cap : Nat) (xss : List (List Int)) (X : Option Addr) (xm xc : Nat) (ps : List Int) (W : World) (h : LsA W a xss.length xss) (hp : Ints W X xm ps) :
    Calls Try.prog 4 #[.int .i64 d, .slice a xss.length cap, .slice X xm xc] W fun e w' => e = .returned (.bool true) ∧ Below W.heap.size W w' := by
  have HH := hide h
  have HPP := hide hp
  have hal := alike_any d a cap xss W h
  have HAL := hide hal
  obtain ⟨n, hnn⟩ : ∃ n, n = xss.length := ⟨_, rfl⟩
  rw [← hnn] at HAL ⊢
  have HN := hide hnn
  clear h hp hal hnn
  go_enter Try.func4, Try.ntmps4
  go_upto_region 2 with (go_at_call 11; refine stp ?_)
  unfold Stp1
  refine HAL.out.mono ?_
  rintro e w1 ⟨⟨b, rfl, hAP⟩, rfl⟩
  cases b with
  | false =>
    clear hAP
    go_wp2_with fail
    go_ret
    exact ⟨rfl, Below.refl _ _⟩
  | true =>
    have hA := hAP rfl
    have HA := hide hA
    have hn1 : 1 ≤ n := by rw [HN.out]; exact hA.n1
    have hn6 : n ≤ 6 := by rw [HN.out]; exact hA.n6
    have hd1 := hA.d1
    have hd4 := hA.d4
    obtain ⟨db, doff, rfl, hat⟩ := HH.out.at (by rw [← HN.out]; omega)
    have HAT := hide hat
    have hda : DtA w1 db doff xss := fun i hi => hat i hi
    have hen := ends_any d db doff cap xss X xm xc ps w1 hda hA HPP.out
    rw [← HN.out] at hen
    have HEN := hide hen
    have htm : TmOk d.toNat n (fun i => xss[i]?.getD []) := by
      have h9 := alk_ok hA (fun i hi => by
        obtain ⟨X9, m9, c9, _, hI, _⟩ := hat i hi
        exact hI.2.2.1)
      rw [← HN.out] at h9
      exact h9
    have HTM := hide htm
    have HDA := hide hda
    clear hAP hA hat hda hen htm
    go_upto_region 6 with (go_at_call 12; refine stp ?_)
    unfold Stp1
    refine HEN.out.mono ?_
    rintro e w4 hea
    unfold EndAns at hea
    rw [← HN.out] at hea
    obtain ⟨sb, sc, v, qs, Fs, rfl, ⟨NN, hsa⟩, ⟨BB, hou⟩, hqm, hb4⟩ := hea
    obtain ⟨L, hL⟩ : ∃ L, L = endL n (twV ps) (pickV ps) (2 * (n * notN d.toNat n) + n) := ⟨_, rfl⟩
    rw [← hL] at hsa hqm ⊢
    have hbeg : begP d.toNat n xss = begS d.toNat n (fun i => xss[i]?.getD []) := rfl
    rw [hbeg] at hqm
    obtain ⟨sn, hsn⟩ : ∃ sn, sn = (playM d.toNat n (begS d.toNat n (fun i => xss[i]?.getD [])) L).2 := ⟨_, rfl⟩
    have hlr : L.length = sn.length := by rw [hsn, play_len]
    rw [← hsn] at hqm
    have hse : sn = (playM d.toNat n (begS d.toNat n (fun i => xss[i]?.getD [])) (rdsL n (twV ps) (pickV ps) (2 * (n * notN d.toNat n) + n))).2 ++ (List.range n).map fun m => ⟨false, ntZ, 0, resW d.toNat n (fun i => xss[i]?.getD []) m⟩ := by
      rw [hsn, hL]
      exact play_end HTM.out (twV ps) (pickV ps) (by omega)
    have hln : L.length = (rdsL n (twV ps) (pickV ps) (2 * (n * notN d.toNat n) + n)).length + n := by rw [hL]; unfold endL; rw [List.length_append]; simp
    have hlast : ∀ k, k < n → sn[L.length - n + k]? = some ⟨false, ntZ, 0, wantL d.toNat n (fun i => xss[i]?.getD []) k⟩ := fun k hk => by
      rw [hse, List.getElem?_append_right (by rw [play_len]; omega), play_len, show L.length - n + k - (rdsL n (twV ps) (pickV ps) (2 * (n * notN d.toNat n) + n)).length = k by omega, List.getElem?_map, List.getElem?_range hk]
      simp only [Option.map_some]
      rw [res_want HTM.out hk]
    have hlp : 0 < L.length := by rw [hL]; unfold endL; rw [List.length_append]; simp; omega
    obtain ⟨l, hl⟩ : ∃ l, l = L.length := ⟨_, rfl⟩
    have hql : qs.length = l := by rw [hl, hlr, ← hqm, List.length_map]
    obtain ⟨vg, vc, rfl⟩ : ∃ vg vc, v = .slice (some ⟨vg, 0, none⟩) l vc := by
      rcases hou.row.parts with ⟨_, e0⟩ | ⟨g', cap', cur, e1, _⟩
      · omega
      · exact ⟨g', cap', by rw [e1, hql]⟩
    have hvl : vg < w4.heap.size := (hou.row.lt vg rfl).2.1
    rw [← hl]
    have hlb : l ≤ 9223372036854775807 := by
      have h9 := hou.row.parts
      rcases h9 with ⟨e0, _⟩ | ⟨g', cap', cur, e1, _, _, h5, h6, _⟩
      · cases e0
      · rw [hql] at h5; unfold maxLen at h6; omega
    have HSA := hide hsa
    have HOU := hide hou
    have HQM := hide hqm
    have HB4 := hide hb4
    have HLR := hide hlr
    rw [← hl] at hlast hln
    have HLAST := hide hlast
    have hnl : n ≤ l := by omega
    have HLL := hide hl
    have HQL := hide hql
    have HVL := hide hvl
    clear hsa hou hqm hb4 hlr hse hln hlast hl hql hvl hL hsn hbeg hlp
    have hwt := fun (V : World) (hbV : Below w1.heap.size w1 V) => rWanted_any d db doff cap xss V (HDA.out.below hbV) HA.out (by have h9 := HTM.out; rw [HN.out] at h9; exact h9)
    have HWT := hide (hwt w4 HB4.out)
    clear hwt
    go_upto_region 7 with (go_at_call 13; refine stp ?_)
    unfold Stp1
    have hwt := HWT.out
    rw [← HN.out] at hwt
    refine hwt.mono ?_
    rintro e w6 hwa
    unfold WtAns at hwa
    obtain ⟨v, BW, ys, rfl, hol, hys, hb6⟩ := hwa
    have hyl : ys.length = n := by have := congrArg List.length hys; simpa using this
    obtain ⟨wg, wcp, rfl⟩ : ∃ wg wcp, v = .slice (some ⟨wg, 0, none⟩) n wcp := by
      rcases RowC.parts (.inl hol.1) with ⟨_, e0⟩ | ⟨g', cap', cur, e1, _⟩
      · omega
      · exact ⟨g', cap', by rw [e1, hyl]⟩
    have hcell : ∀ k p, ys[k]? = some p → w6.cell? ⟨wg, k, none⟩ = some (.slice p.1.a p.1.n p.1.c) ∧ Num w6 p.1 p.2 := fun k p hp => by
      refine ⟨RowC.cell (.inl hol.1) (by rw [hyl]) (j := k) ?_, hol.2 p (List.mem_of_getElem? hp)⟩
      rw [List.getElem?_map, hp]
      rfl
    have HCE := hide hcell
    have HYS := hide hys
    have HYL := hide hyl
    have HB6 := hide hb6
    have hlz : (n : Int) ≤ (l : Int) := by omega
    obtain ⟨o, ho⟩ : ∃ o, o = l - n := ⟨_, rfl⟩
    have hoi : (l : Int) - (n : Int) = (o : Int) := by omega
    have hlc : l ≤ vc := by
      rcases HOU.out.row.parts with ⟨e0, _⟩ | ⟨g', cap', cur, e1, _, _, h5, _, _⟩
      · cases e0
      · cases e1; rw [HQL.out] at h5; exact h5
    have hoc : ¬ (vc = o) := by omega
    have hol9 : o ≤ l := by omega
    have hlo : l - o = n := by omega
    have HO := hide ho
    clear hol hys hyl hcell hb6 hwt ho
    go_upto_region 8 with fail
    go_wp2_with fail
    go_loopw [40] (fun i wr => ∃ k : Nat, k ≤ n ∧ i = .int .i64 k ∧ Below w6.heap.size w6 wr) (fun i _ => n - (intOf i).toNat)
    case atStart => exact ⟨0, Nat.zero_le _, by first | rfl | trivial, Below.refl _ _⟩
    case round =>
      obtain ⟨k, hk, rfl, hb⟩ := hrel
      have HB := hide hb
      clear hb
      by_cases hlt : k < n
      · have hkz : (k : Int) < (n : Int) := by omega
        have hb46 : Below w4.heap.size w4 wr := HB6.out.trans (HB.out.mono HB6.out.size)
        obtain ⟨⟨q1, ⟨y1, y2, y3⟩, ⟨za, zn, zc⟩⟩, hqk⟩ : ∃ q, qs[o + k]? = some q := by
          have h9 : o + k < qs.length := by rw [HQL.out]; omega
          exact ⟨qs[o + k], by simp [h9]⟩
        have hq1 : q1 = ⟨false, ntZ, 0, wantL d.toNat n (fun i => xss[i]?.getD []) k⟩ := by
          have h9 := HLAST.out k hlt
          rw [← HO.out, ← HQM.out, List.getElem?_map, hqk] at h9
          simpa using h9
        subst hq1
        have hqc := HOU.out.cells HQL.out hqk
        have kc : ∀ i u, i < 7 → (snC ((⟨false, ntZ, 0, wantL d.toNat n (fun i => xss[i]?.getD []) k⟩, ⟨y1, y2, y3⟩, ⟨za, zn, zc⟩) : Sn × Sl × Sl))[i]? = some u → wr.cell? ⟨vg, o * 7 + k * 7 + i, none⟩ = some u := fun i u hi hu => by
          rw [show o * 7 + k * 7 + i = (o + k) * 7 + i by omega]
          exact (hb46.cell (p := ⟨vg, (o + k) * 7 + i, none⟩) HVL.out).trans (hqc i u hi hu)
        have v0 := kc 0 _ (by decide) rfl
        have v1 := kc 1 _ (by decide) rfl
        have v2 := kc 2 _ (by decide) rfl
        have v3 := kc 3 _ (by decide) rfl
        have v4 := kc 4 _ (by decide) rfl
        have v5 := kc 5 _ (by decide) rfl
        have v6 := kc 6 _ (by decide) rfl
        rw [Nat.add_zero] at v0
        have vz := lt_of_cell v0
        have hnz := (HOU.out.num _ (List.mem_of_getElem? hqk)).2.1
        obtain ⟨⟨⟨ya, yn, yc⟩, yw⟩, hyk⟩ : ∃ p, ys[k]? = some p := by
          have h9 : k < ys.length := by rw [HYL.out]; exact hlt
          exact ⟨ys[k], by simp [h9]⟩
        have hyw : yw = wantL d.toNat n (fun i => xss[i]?.getD []) k := by
          have h9 := congrArg (fun l => l[k]?) HYS.out
          simp only [List.getElem?_map, hyk, List.getElem?_range hlt, Option.map_some] at h9
          simpa using h9
        subst hyw
        obtain ⟨wk0, hyn⟩ := HCE.out k _ hyk
        simp only at v0 v1 v2 v3 v4 v5 v6 vz wk0 hyn hnz
        have wk1 := (HB.out.cell (p := ⟨wg, k, none⟩) (lt_of_cell wk0)).trans wk0
        have HNZ := hide (hnz.below hb46)
        have HNY := hide (hyn.below HB.out)
        clear hb46 hqk hqc kc hnz hyk wk0 hyn
        unfold ntZ at v1 v2 v3
        simp only at v1 v2 v3
        go_upto_region 11 with fail
        obtain ⟨V, hV⟩ : ∃ V, V = wr.alloc (.cells #[.bool false, .int .i64 0, .int .i64 0, .int .i64 0, .slice y1 y2 y3, .int .i64 0, .slice za zn zc] 41) := ⟨_, rfl⟩
        rw [← hV]
        have hbV : Below wr.heap.size wr V := by rw [hV]; exact bl_new _
        have hxb : V.heap[wr.heap.size]? = some (.cells #[.bool false, .int .i64 0, .int .i64 0, .int .i64 0, .slice y1 y2 y3, .int .i64 0, .slice za zn zc] 41 (0, 0)) := by rw [hV]; exact World.alloc_heap_new _ _
        obtain ⟨bx, hbx⟩ : ∃ bx, bx = wr.heap.size := ⟨_, rfl⟩
        rw [← hbx] at hxb ⊢
        have b5 : V.cell? ⟨bx, 5, none⟩ = some (.int .i64 0) := by simp only [World.cell?, hxb]; rfl
        have b6 : V.cell? ⟨bx, 6, none⟩ = some (.slice za zn zc) := by simp only [World.cell?, hxb]; rfl
        have bz := (Array.getElem?_eq_some_iff.1 hxb).1
        have wk := (hbV.cell (p := ⟨wg, k, none⟩) (lt_of_cell wk1)).trans wk1
        have wz9 := lt_of_cell wk
        have HBV := hide (HB.out.trans (hbV.mono HB.out.size))
        have HSW : Hid (∀ U, Below V.heap.size V U → Calls Try.prog 14 #[.slice za zn zc, .slice ya yn yc] U fun e w' => e = .returned (.bool true) ∧ Below U.heap.size U w') := fun U hU => sameW_eq ⟨za, zn, zc⟩ ⟨ya, yn, yc⟩ _ U ((HNZ.out.below hbV).below hU).ints HNZ.out.cap ((HNY.out.below hbV).below hU).ints HNY.out.cap
        clear hV hbV hxb hbx v0 v1 v2 v3 v4 v5 v6 vz wk1 HB
        refine region_madeG 13 15 [fIs (.pointer (some ⟨bx, 5, none⟩)), fIs (.int .i64 0), fIs (.bool false), fIs (.bool false), fIs (.pointer (some ⟨bx, 6, none⟩)), fIs (.slice za zn zc), fIs (.slice (some ⟨wg, 0, none⟩) n wcp), fIs (.int .i64 (k : Int)), fIs (.pointer (some ⟨wg, k, none⟩)), fIs (.slice ya yn yc), fIs (.bool true), fIs (.bool false), fIs (.bool false)] [none, none, none, some false, none, none, none, none, none, none, none, none, none] [true, true, true, true, true, true, true, true, true, true, true, true, true] (by kernel_rfl) (by kernel_rfl) (by kernel_rfl) (fun ch p q w3 e h => by obtain ⟨t1, d1⟩ := p; obtain ⟨t2, d2⟩ := q; cases e; exact h) ⟨fIs_good _, fIs_good _, fIs_good _, fIs_good _, fIs_good _, fIs_good _, fIs_good _, fIs_good _, fIs_good _, fIs_good _, fIs_good _, fIs_good _, fIs_good _, trivial⟩ ⟨fun _ _ h => h, rfl⟩ ?mkQ ?restQ
        case mkQ =>
          refine ⟨fun u wz hb hd => ?_, fun u wz hb hd => ?_, fun u wz hb hd => ?_, fun u wz hb hd => ?_, fun u wz hb hd => ?_, fun u wz hb hd => ?_, fun u wz hb hd => ?_, fun u wz hb hd => ?_, fun u wz hb hd => ?_, fun u wz hb hd => ?_, fun u wz hb hd => ?_, fun u wz hb hd => ?_, fun u wz hb hd => ?_, trivial⟩
          all_goals simp only [Act.put, List.setIfInBounds_toArray, List.set_cons_zero, List.set_cons_succ]
          · go_simp
            exact ⟨rfl, Below.refl _ _, fun h => by cases h⟩
          · have e0 : u 0 = .pointer (some ⟨bx, 5, none⟩) := hd 0 (by omega) (by kernel_rfl)
            rw [e0]
            have b5' := (hb.cell (p := ⟨bx, 5, none⟩) (lt_of_cell b5)).trans b5
            go_simp
            exact ⟨rfl, Below.refl _ _, fun h => by cases h⟩
          · have e1 : u 1 = .int .i64 0 := hd 1 (by omega) (by kernel_rfl)
            rw [e1]
            go_simp
            exact ⟨rfl, Below.refl _ _, fun h => by cases h⟩
          · have e2 : u 2 = .bool false := hd 2 (by omega) (by kernel_rfl)
            rw [e2]
            go_simp
            exact ⟨rfl, Below.refl _ _, fun h => by cases h⟩
          · go_simp
            exact ⟨rfl, Below.refl _ _, fun h => by cases h⟩
          · have e4 : u 4 = .pointer (some ⟨bx, 6, none⟩) := hd 4 (by omega) (by kernel_rfl)
            rw [e4]
            have b6' := (hb.cell (p := ⟨bx, 6, none⟩) (lt_of_cell b6)).trans b6
            go_simp
            exact ⟨rfl, Below.refl _ _, fun h => by cases h⟩
          · go_simp
            exact ⟨rfl, Below.refl _ _, fun h => by cases h⟩
          · go_simp
            exact ⟨rfl, Below.refl _ _, fun h => by cases h⟩
          · have e6 : u 6 = .slice (some ⟨wg, 0, none⟩) n wcp := hd 6 (by omega) (by kernel_rfl)
            have e7 : u 7 = .int .i64 (k : Int) := hd 7 (by omega) (by kernel_rfl)
            rw [e6, e7]
            go_simp
            exact ⟨rfl, Below.refl _ _, fun h => by cases h⟩
          · have e8 : u 8 = .pointer (some ⟨wg, k, none⟩) := hd 8 (by omega) (by kernel_rfl)
            rw [e8]
            have wk' := (hb.cell (p := ⟨wg, k, none⟩) (lt_of_cell wk)).trans wk
            go_simp
            exact ⟨rfl, Below.refl _ _, fun h => by cases h⟩
          · have e5 : u 5 = .slice za zn zc := hd 5 (by omega) (by kernel_rfl)
            have e9 : u 9 = .slice ya yn yc := hd 9 (by omega) (by kernel_rfl)
            rw [e5, e9]
            go_simp
            refine (HSW.out wz hb).mono ?_
            rintro e w2 ⟨rfl, hb2⟩
            exact ⟨rfl, hb2, fun h => by cases h⟩
          · have e10 : u 10 = .bool true := hd 10 (by omega) (by kernel_rfl)
            rw [e10]
            go_simp
            exact ⟨rfl, Below.refl _ _, fun h => by cases h⟩
          · have e3 : u 3 = .bool false := hd 3 (by omega) (by kernel_rfl)
            have e11 : u 11 = .bool false := hd 11 (by omega) (by kernel_rfl)
            rw [e3, e11]
            go_simp
            exact ⟨rfl, Below.refl _ _, fun h => by cases h⟩
        case restQ =>
          intro u wz hb hf hp
          have f0 : u 0 = .pointer (some ⟨bx, 5, none⟩) := hf 0 (by omega)
          have f1 : u 1 = .int .i64 0 := hf 1 (by omega)
          have f2 : u 2 = .bool false := hf 2 (by omega)
          have f3 : u 3 = .bool false := hf 3 (by omega)
          have f4 : u 4 = .pointer (some ⟨bx, 6, none⟩) := hf 4 (by omega)
          have f5 : u 5 = .slice za zn zc := hf 5 (by omega)
          have f6 : u 6 = .slice (some ⟨wg, 0, none⟩) n wcp := hf 6 (by omega)
          have f7 : u 7 = .int .i64 (k : Int) := hf 7 (by omega)
          have f8 : u 8 = .pointer (some ⟨wg, k, none⟩) := hf 8 (by omega)
          have f9 : u 9 = .slice ya yn yc := hf 9 (by omega)
          have f10 : u 10 = .bool true := hf 10 (by omega)
          have f11 : u 11 = .bool false := hf 11 (by omega)
          have f12 : u 12 = .bool false := hf 12 (by omega)
          refine UptoW.rest 0 13 (by rfl) (by kernel_rfl) ?_
          simp only [List.take, List.drop, putOps, Act.put, List.setIfInBounds_toArray, List.set_cons_zero, List.set_cons_succ, Nat.reduceAdd, f0, f1, f2, f3, f4, f5, f6, f7, f8, f9, f10, f11, f12]
          clear f0 f1 f2 f3 f4 f5 f6 f7 f8 f9 f10 f11 f12 hf hp
          have HBZ := hide (HBV.out.trans (hb.mono HBV.out.size))
          clear hb
          go_wp2_with fail
          go_roundw
          case rel => exact ⟨k + 1, by omega, by first | rfl | go_num, HBZ.out⟩
          case measure => simp [intOf]; omega
      · obtain rfl : n = k := by omega
        go_wp2_with fail
        go_ret
        exact ⟨rfl, bl_on (bl_on HB4.out HB6.out) HB.out⟩
end Go.Proofs.Yticcoacoepajpaa.V
