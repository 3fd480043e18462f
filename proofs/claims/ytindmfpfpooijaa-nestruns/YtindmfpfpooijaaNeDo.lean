/-
  Contract: memory.do.
-/
import Derived.Test.YtindmfpfpooijaaNeAtP
namespace Go.Proofs.Ytindmfpfpooijaa.V
open Go.RowKit
set_option linter.unusedVariables false

theorem gotK_ge (M : Mem) (s : Stm) (x : List Int) (k : Nat) (h : s.gets.length ≤ k) : gotK M s x k = 0 := by unfold gotK; rw [if_neg (by omega)]
theorem gotK_lt (M : Mem) (s : Stm) (x : List Int) (k : Nat) (h : k < s.gets.length) : gotK M s x k = gotM M (s.gets[k]?.getD accD) x := by unfold gotK; rw [if_pos h]

theorem got_cell {w w' : World} {N : Nat} {a : Option Addr} {G C : Nat → Nat} {M : Mem} {ac : Acc} {x : List Int} {e : Ending} (hM : Mems w' N a G C M) (hk : ac.1.toNat < M.length)
    (hr : (inM M ac x ∧ e = .returned (.pointer (some ⟨G ac.1.toNat, (worthV ac.2 x).toNat, none⟩))) ∨ (¬ inM M ac x ∧ ∃ g, w.heap.size ≤ g ∧ e = .returned (.pointer (some ⟨g, 0, none⟩)) ∧ Boxed w' g 2 (.int .i64 0))) :
    ∃ g j, w'.cell? ⟨g, j, none⟩ = some (.int .i64 (gotM M ac x)) ∧ e = .returned (.pointer (some ⟨g, j, none⟩)) := by
  rcases hr with ⟨hin, rfl⟩ | ⟨hout, g, hg, rfl, hbx⟩
  · refine ⟨_, _, ?_, rfl⟩
    have := (hM.rows _ hk).cell (j := (worthV ac.2 x).toNat) (by have := hin.1; have := hin.2; omega)
    unfold gotM
    rw [if_pos hin]
    exact this
  · refine ⟨g, 0, ?_, rfl⟩
    unfold gotM
    rw [if_neg hout]
    exact hbx.cell

set_option maxRecDepth 100000 in
set_option maxHeartbeats 8000000 in
theorem mdo_any (N : Nat) (a : Option Addr) (len cap : Nat) (G C : Nat → Nat) (M : Mem) (q : SW) (s : Stm) (xa : Option Addr) (xl xc : Nat) (x : List Int) (w : World) (hM : Mems w N a G C M) (hl : M.length = len) (hm : len ≤ 9223372036854775807) (hs : SG w q s) (ho : StmOk len s) (hx : Ints w xa xl x) (hxl : xl = q.bl) (hxb : ∀ y ∈ x, 0 ≤ y ∧ y ≤ 4096) :
    Calls Try.prog 12 #[.slice a len cap, q.v, .slice xa xl xc] w fun e w' => (∃ v, e = .returned v) ∧ Mems w' N a G C (doM s M x) ∧ Chg G M.length w w' := by
  have hbl := hs.box.1.1
  have hgl := hs.gets.1
  have hkd := hs.kd
  have hva := hs.va
  have hx4 : xl ≤ 4 := by have := (ptE_ok ho.pt).rank; omega
  have hb1 : xl = s.box.length := by omega
  have htk := ho.takes
  have htb := takes_bd s.kind
  have hg3 : q.gl ≤ 3 := by omega
  have HAT := hide (fun (W : World) (hb : Below w.heap.size w W) (q' : AW) (ac : Acc) (hq : AG W q' ac) (hac : AccOk len ac xl) => mat_any N a len cap G C M q' ac xa xl xc x W (hM.below hb) hl hm hq hac (hx.below hb) hx4 hxb)
  have HOG := hide (fun ac h => (hb1 ▸ ho.gets ac h : AccOk len ac xl))
  have HOP := hide (hb1 ▸ ho.put : AccOk len s.put xl)
  have HPU := hide (fun W => puts_any q (gotK M s x 0) (gotK M s x 1) (gotK M s x 2) (gotM M s.put x) W (gotK_bd hM.bd _ _ _) (gotK_bd hM.bd _ _ _) (gotK_bd hM.bd _ _ _))
  have HM := hide hM
  have HGE := hide hs.gets
  have HPT := hide hs.put
  have HGL := hide hgl
  have HBV : Hid (B64 (newM M s x)) := numV_bd hs.bd.2 (gotK_bd hM.bd _ _ _) (gotK_bd hM.bd _ _ _) (gotK_bd hM.bd _ _ _)
  have HNW : Hid (newM M s x = numV q.kd q.va (gotK M s x 0) (gotK M s x 1) (gotK M s x 2) (gotM M s.put x)) := by rw [Hid, hkd, hva]; rfl
  obtain ⟨W0, hW0⟩ : ∃ W0, W0 = (w.alloc (.cells q.cs 46)).alloc (.cells #[.int .i64 0, .int .i64 0, .int .i64 0] 66) := ⟨_, rfl⟩
  have B0 : Below w.heap.size w W0 := by rw [hW0]; exact bl_on (bl_new _) (bl_new _)
  have Q0 : q.blk W0 w.heap.size := by rw [hW0]; exact (SW.new q w).below (bl_new _)
  have R0 : W0.rowIs (w.heap.size + 1) 66 3 (fun j => .int .i64 (if j < 0 then gotK M s x j else 0)) := by
    rw [hW0]
    refine ⟨#[.int .i64 0, .int .i64 0, .int .i64 0], ?_, rfl, fun i hi => ?_⟩
    · have := World.alloc_heap_new (w.alloc (.cells q.cs 46)) (.cells #[.int .i64 0, .int .i64 0, .int .i64 0] 66)
      rw [World.size_alloc] at this
      exact this
    · have : i = 0 ∨ i = 1 ∨ i = 2 := by omega
      rcases this with rfl | rfl | rfl <;> rfl
  obtain ⟨p0, p1, p2, p3, p4, p5, p6, p7⟩ := Q0.cells
  have HW0 := hide hW0
  have HB0 := hide B0
  have HQ0 := hide Q0
  have HR0 := hide R0
  have hz0 := Q0.lt
  obtain ⟨qs, hqs⟩ : ∃ qs, qs = q := ⟨_, rfl⟩
  have HQS := hide hqs
  have hgE : ∀ k, k < q.gl → gotK M s x k = gotM M (s.gets[k]?.getD accD) x := fun k hk => gotK_lt M s x k (by omega)
  have HGK := hide hgE
  obtain ⟨ba, bl, bc, ra, rl, rc, kd, va, ⟨parr, pca, pcl, pcc, pcon⟩, ga, gl, gc⟩ := q
  simp only [SW.v, SW.cs, AW.v] at *
  clear hM hs ho hx hxb B0 Q0 R0 hW0 htk htb hkd hva hgE hqs hxl hb1 hbl hgl
  go_enter Try.func12, Try.ntmps12
  go_wp2_with fail
  rw [← HW0.out]
  go_wp2_with fail
  clear p0 p1 p2 p3 p4 p5 p6 p7
  go_loopw [13] (fun i wr => ∃ k : Nat, k ≤ gl ∧ i = .int .i64 k ∧ Below w.heap.size w wr ∧ qs.blk wr w.heap.size ∧ wr.rowIs (w.heap.size + 1) 66 3 (fun j => .int .i64 (if j < k then gotK M s x j else 0))) (fun i _ => gl - (intOf i).toNat)
  case atStart => exact ⟨0, Nat.zero_le _, rfl, HB0.out, by rw [HQS.out]; exact HQ0.out, HR0.out⟩
  case round =>
    clear HQ0 HR0
    obtain ⟨k, hk, rfl, hB, hQ, hR⟩ := hrel
    have HBr := hide hB
    have HQ := hide hQ
    have HR := hide hR
    have hzr := hQ.lt
    obtain ⟨p0, p1, p2, p3, p4, p5, p6, p7⟩ := hQ.cells
    rw [HQS.out] at p0 p1 p2 p3 p4 p5 p6 p7
    simp only at p0 p1 p2 p3 p4 p5 p6 p7
    clear hB hQ hR
    by_cases hlt : k < gl
    · have hkl : k < s.gets.length := by rw [HGL.out]; exact hlt
      obtain ⟨b, off, rfl, hat⟩ := (HGE.out.below HBr.out).at (by omega)
      obtain ⟨q, hq, k1, k2, k3⟩ := (hat k hlt).words
      have z1 := lt_of_cell k1
      simp only at z1
      have B3 : Below wr.heap.size wr (wr.alloc (.cells #[.int .i64 q.arr, .slice q.ca q.cl q.cc, .int .i64 q.con] 43)) := bl_new _
      have HC := hide (HAT.out _ (bl_on HBr.out B3) q _ (hq.below B3) (HOG.out _ (mem_getA _ k hkl)))
      obtain ⟨y0, y1, y2⟩ := (AW.new q wr).cells
      have HB3 := hide B3
      have HGKk := hide (HGK.out k hlt)
      obtain ⟨aq, haq⟩ : ∃ aq, aq = s.gets[k]?.getD accD := ⟨_, rfl⟩
      rw [← haq] at HC HGKk
      have HAL : Hid (aq.1.toNat < M.length) := by have := (HOG.out _ (mem_getA _ k hkl)).arr; rw [← haq] at this; unfold Hid; omega
      obtain ⟨arr, ca, cl, cc, con⟩ := q
      simp only at *
      clear hat hq B3 hkl haq
      go_wp2_with fail
      refine HC.out.mono ?_
      rintro e w3 ⟨hr, hb⟩
      have HB4 := hide (bl_on HB3.out hb)
      have HB5 := hide (bl_on HBr.out HB4.out)
      have R4 : w3.rowIs (w.heap.size + 1) 66 3 (fun j => .int .i64 (if j < k then gotK M s x j else 0)) := HR.out.of_block (HB4.out.block _ HR.out.lt)
      have Q4 := HQ.out.below HB4.out
      have z4 := R4.lt
      have f4 := R4.frozen k
      have HR4 := hide R4
      have HQ4 := hide Q4
      have hsz := hb.size
      rw [World.size_alloc] at hsz
      have hgc := got_cell (HM.out.below HB5.out) HAL.out hr
      rw [← HGKk.out] at hgc
      obtain ⟨g, j, hcg, rfl⟩ := hgc
      clear hb hr
      have zg := lt_of_cell hcg
      simp only at zg
      have hk3 : k < 3 := by omega
      have c4 := R4.cell hk3
      clear R4 Q4 y0 y1 y2 k1 k2 k3
      go_wp2_with fail
      go_roundw
      case rel =>
        refine ⟨k + 1, by omega, by go_num, HB5.out.setCell (p := ⟨w.heap.size + 1, k, none⟩) (by simp) _, ?_, ?_⟩
        · exact (Below.heap_setCell _ ⟨w.heap.size + 1, k, none⟩ _ w.heap.size (by simp)).trans HQ4.out
        · refine (HR4.out.set k _).congr (fun j hj => ?_)
          by_cases e : j = k
          · subst e; simp
          · rw [if_neg e]
            congr 1
            by_cases e2 : j < k
            · rw [if_pos e2, if_pos (by omega)]
            · rw [if_neg e2, if_neg (by omega)]
      case measure => simp [intOf]; omega
    · obtain rfl : gl = k := by omega
      have HC := hide (HAT.out wr HBr.out ⟨parr, pca, pcl, pcc, pcon⟩ s.put (HPT.out.below HBr.out) HOP.out)
      simp only at HC
      go_wp2_with fail
      refine HC.out.mono ?_
      rintro e w3 ⟨hr, hb⟩
      have HB5 := hide (bl_on HBr.out hb)
      have R4 : w3.rowIs (w.heap.size + 1) 66 3 (fun j => .int .i64 (gotK M s x j)) := (HR.out.of_block (hb.block _ HR.out.lt)).congr (fun j hj => by
        by_cases e : j < gl
        · rw [if_pos e]
        · rw [if_neg e, gotK_ge M s x j (by rw [HGL.out]; omega)])
      have g0 := R4.cell (i := 0) (by omega)
      have g1 := R4.cell (i := 1) (by omega)
      have g2 := R4.cell (i := 2) (by omega)
      obtain ⟨p0, p1, p2, p3, p4, p5, p6, p7⟩ := (HQ.out.below hb).cells
      rw [HQS.out] at p0 p1 p2 p3 p4 p5 p6 p7
      simp only at p0 p1 p2 p3 p4 p5 p6 p7
      have z4 := R4.lt
      obtain ⟨V, hV⟩ : ∃ V, V = newM M s x := ⟨_, rfl⟩
      rw [HNW.out] at hV
      have HV := hide hV
      obtain ⟨x0, hx0⟩ : ∃ x0, x0 = gotK M s x 0 := ⟨_, rfl⟩
      obtain ⟨x1, hx1⟩ : ∃ x1, x1 = gotK M s x 1 := ⟨_, rfl⟩
      obtain ⟨x2, hx2⟩ : ∃ x2, x2 = gotK M s x 2 := ⟨_, rfl⟩
      obtain ⟨was, hwas⟩ : ∃ was, was = gotM M s.put x := ⟨_, rfl⟩
      rw [← hx0] at g0 HPU HV
      rw [← hx1] at g1 HPU HV
      rw [← hx2] at g2 HPU HV
      rw [← hwas] at HPU HV
      have HVN : Hid (V = newM M s x) := by rw [Hid, HNW.out]; exact hV
      have HMW := hide (HM.out.below HB5.out)
      rcases hr with ⟨hin, rfl⟩ | ⟨hout, g, hg, rfl, hbx⟩
      · have hkk : s.put.1.toNat < M.length := by have := HOP.out.arr; omega
        have hjj : (worthV s.put.2 x).toNat < (arrM M s.put.1.toNat).length := by have := hin.1; have := hin.2; omega
        have HKK := hide hkk
        have HJJ := hide hjj
        have hrow := HMW.out.rows _ hkk
        have hc := hrow.cell hjj
        have hg : gotM M s.put x = (arrM M s.put.1.toNat)[(worthV s.put.2 x).toNat]?.getD 0 := by unfold gotM; rw [if_pos hin]
        rw [← hg, ← hwas] at hc
        have zg := hrow.lt
        obtain ⟨gk, hgk⟩ : ∃ gk, gk = G s.put.1.toNat := ⟨_, rfl⟩
        obtain ⟨jj, hjq⟩ : ∃ jj, jj = (worthV s.put.2 x).toNat := ⟨_, rfl⟩
        rw [← hgk, ← hjq] at hc ⊢
        rw [← hgk] at zg
        have HGK2 := hide hgk
        have HJQ := hide hjq
        have HIN := hide hin
        have HFR := hide (fun (wz : World) (hb : Below w3.heap.size w3 wz) => (hrow.below hb).frozen jj)
        rw [← hgk] at HFR
        clear hb R4 hV hx0 hx1 hx2 hwas hin hkk hjj hrow hg hgk hjq
        go_wp2_with fail
        refine region_made 8 10 [fIs (.pointer (some ⟨gk, jj, none⟩)), fIs (.agg #[.slice ba bl bc, .slice ra rl rc, .int .i64 kd, .int .i64 va, .int .i64 parr, .slice pca pcl pcc, .int .i64 pcon, .slice ga gl gc]), fIs (.agg #[.int .i64 x0, .int .i64 x1, .int .i64 x2]), fIs (.pointer (some ⟨gk, jj, none⟩)), fIs (.pointer (some ⟨gk, jj, none⟩)), fIs (.int .i64 was), fIs (.int .i64 V), fIs (.pointer (some ⟨gk, jj, none⟩))] (by kernel_rfl) (by kernel_rfl) (by kernel_rfl) (fun _ ⟨_, _⟩ ⟨_, _⟩ _ e h => by cases e; exact h) ⟨fIs_good _, fIs_good _, fIs_good _, fIs_good _, fIs_good _, fIs_good _, fIs_good _, fIs_good _, trivial⟩ ?mk ?rest
        case mk =>
          refine ⟨fun u wz hb hd => ?_, fun u wz hb hd => ?_, fun u wz hb hd => ?_, fun u wz hb hd => ?_, fun u wz hb hd => ?_, fun u wz hb hd => ?_, fun u wz hb hd => ?_, fun u wz hb hd => ?_, trivial⟩
          all_goals simp only [Act.put, List.setIfInBounds_toArray, List.set_cons_zero, List.set_cons_succ]
          · go_simp
            exact ⟨rfl, Below.refl _ _, fun h => by cases h⟩
          · have p0' := (hb.cell (p := ⟨w.heap.size, 0, none⟩) (lt_of_cell p0)).trans p0
            have p1' := (hb.cell (p := ⟨w.heap.size, 1, none⟩) (lt_of_cell p1)).trans p1
            have p2' := (hb.cell (p := ⟨w.heap.size, 2, none⟩) (lt_of_cell p2)).trans p2
            have p3' := (hb.cell (p := ⟨w.heap.size, 3, none⟩) (lt_of_cell p3)).trans p3
            have p4' := (hb.cell (p := ⟨w.heap.size, 4, none⟩) (lt_of_cell p4)).trans p4
            have p5' := (hb.cell (p := ⟨w.heap.size, 5, none⟩) (lt_of_cell p5)).trans p5
            have p6' := (hb.cell (p := ⟨w.heap.size, 6, none⟩) (lt_of_cell p6)).trans p6
            have p7' := (hb.cell (p := ⟨w.heap.size, 7, none⟩) (lt_of_cell p7)).trans p7
            go_simp
            exact ⟨rfl, Below.refl _ _, fun h => by cases h⟩
          · have g0' := (hb.cell (p := ⟨w.heap.size + 1, 0, none⟩) (lt_of_cell g0)).trans g0
            have g1' := (hb.cell (p := ⟨w.heap.size + 1, 1, none⟩) (lt_of_cell g1)).trans g1
            have g2' := (hb.cell (p := ⟨w.heap.size + 1, 2, none⟩) (lt_of_cell g2)).trans g2
            go_simp
            exact ⟨rfl, Below.refl _ _, fun h => by cases h⟩
          · go_simp
            exact ⟨rfl, Below.refl _ _, fun h => by cases h⟩
          · have e3 : u 3 = .pointer (some ⟨gk, jj, none⟩) := hd 3 (by omega) (by kernel_rfl)
            rw [e3]
            go_simp
            exact ⟨rfl, Below.refl _ _, fun h => by cases h⟩
          · have e4 : u 4 = .pointer (some ⟨gk, jj, none⟩) := hd 4 (by omega) (by kernel_rfl)
            rw [e4]
            have hc' := (hb.cell (p := ⟨gk, jj, none⟩) (lt_of_cell hc)).trans hc
            go_simp
            exact ⟨rfl, Below.refl _ _, fun h => by cases h⟩
          · have e1 : u 1 = .agg #[.slice ba bl bc, .slice ra rl rc, .int .i64 kd, .int .i64 va, .int .i64 parr, .slice pca pcl pcc, .int .i64 pcon, .slice ga gl gc] := hd 1 (by omega) (by kernel_rfl)
            have e2 : u 2 = .agg #[.int .i64 x0, .int .i64 x1, .int .i64 x2] := hd 2 (by omega) (by kernel_rfl)
            have e5 : u 5 = .int .i64 was := hd 5 (by omega) (by kernel_rfl)
            rw [e1, e2, e5]
            go_simp
            refine (HPU.out wz).mono ?_
            rintro e w2 ⟨rfl, hb2⟩
            exact ⟨by rw [HV.out]; rfl, hb2, fun h => by cases h⟩
          · have e0 : u 0 = .pointer (some ⟨gk, jj, none⟩) := hd 0 (by omega) (by kernel_rfl)
            rw [e0]
            go_simp
            exact ⟨rfl, Below.refl _ _, fun h => by cases h⟩
        case rest =>
          intro u wz hb hf hp
          have f0 : u 0 = .pointer (some ⟨gk, jj, none⟩) := hf 0 (by omega)
          have f1 : u 1 = .agg #[.slice ba bl bc, .slice ra rl rc, .int .i64 kd, .int .i64 va, .int .i64 parr, .slice pca pcl pcc, .int .i64 pcon, .slice ga gl gc] := hf 1 (by omega)
          have f2 : u 2 = .agg #[.int .i64 x0, .int .i64 x1, .int .i64 x2] := hf 2 (by omega)
          have f3 : u 3 = .pointer (some ⟨gk, jj, none⟩) := hf 3 (by omega)
          have f4 : u 4 = .pointer (some ⟨gk, jj, none⟩) := hf 4 (by omega)
          have f5 : u 5 = .int .i64 was := hf 5 (by omega)
          have f6 : u 6 = .int .i64 V := hf 6 (by omega)
          have f7 : u 7 = .pointer (some ⟨gk, jj, none⟩) := hf 7 (by omega)
          refine UptoW.rest 1 8 (by rfl) (by kernel_rfl) ?_
          simp only [List.take, List.drop, putOps, Act.put, List.setIfInBounds_toArray, List.set_cons_zero, List.set_cons_succ, Nat.reduceAdd, f0, f1, f2, f3, f4, f5, f6, f7]
          clear f0 f1 f2 f3 f4 f5 f6 f7 hf hp
          have HB6 := hide (bl_on HB5.out hb)
          have fr := HFR.out wz hb
          have c' := (hb.cell (p := ⟨gk, jj, none⟩) (lt_of_cell hc)).trans hc
          have HM6 := hide (HMW.out.below hb)
          have zz := hb.size
          clear hb
          go_wp2_with fail
          refine bodyPost_end (results_none rfl _ _ _) rfl ⟨⟨_, rfl⟩, ?_, ?_⟩
          · unfold doM
            rw [if_pos HIN.out, ← HVN.out, HJQ.out, HGK2.out]
            exact HM6.out.put HKK.out HJJ.out (by rw [HVN.out]; exact HBV.out)
          · rw [HGK2.out]
            exact Chg.set HB6.out HKK.out _ _
      · have hc := hbx.cell
        have hw0 : was = 0 := by rw [hwas]; unfold gotM; rw [if_neg hout]
        rw [← hw0] at hc
        have HOUT := hide hout
        have HB3' := hide hb
        have HFR := hide (fun (wz : World) (hb : Below w3.heap.size w3 wz) => Boxed.frozen ((hb.block _ hbx.lt).trans hbx))
        have zg := hbx.lt
        have hsg : w.heap.size ≤ g := Nat.le_trans HBr.out.size hg
        have HSG : Hid (wr.heap.size ≤ g) := hg
        clear hb R4 hV hx0 hx1 hx2 hwas hout hbx hw0
        go_wp2_with fail
        refine region_made 8 10 [fIs (.pointer (some ⟨g, 0, none⟩)), fIs (.agg #[.slice ba bl bc, .slice ra rl rc, .int .i64 kd, .int .i64 va, .int .i64 parr, .slice pca pcl pcc, .int .i64 pcon, .slice ga gl gc]), fIs (.agg #[.int .i64 x0, .int .i64 x1, .int .i64 x2]), fIs (.pointer (some ⟨g, 0, none⟩)), fIs (.pointer (some ⟨g, 0, none⟩)), fIs (.int .i64 was), fIs (.int .i64 V), fIs (.pointer (some ⟨g, 0, none⟩))] (by kernel_rfl) (by kernel_rfl) (by kernel_rfl) (fun _ ⟨_, _⟩ ⟨_, _⟩ _ e h => by cases e; exact h) ⟨fIs_good _, fIs_good _, fIs_good _, fIs_good _, fIs_good _, fIs_good _, fIs_good _, fIs_good _, trivial⟩ ?mk ?rest
        case mk =>
          refine ⟨fun u wz hb hd => ?_, fun u wz hb hd => ?_, fun u wz hb hd => ?_, fun u wz hb hd => ?_, fun u wz hb hd => ?_, fun u wz hb hd => ?_, fun u wz hb hd => ?_, fun u wz hb hd => ?_, trivial⟩
          all_goals simp only [Act.put, List.setIfInBounds_toArray, List.set_cons_zero, List.set_cons_succ]
          · go_simp
            exact ⟨rfl, Below.refl _ _, fun h => by cases h⟩
          · have p0' := (hb.cell (p := ⟨w.heap.size, 0, none⟩) (lt_of_cell p0)).trans p0
            have p1' := (hb.cell (p := ⟨w.heap.size, 1, none⟩) (lt_of_cell p1)).trans p1
            have p2' := (hb.cell (p := ⟨w.heap.size, 2, none⟩) (lt_of_cell p2)).trans p2
            have p3' := (hb.cell (p := ⟨w.heap.size, 3, none⟩) (lt_of_cell p3)).trans p3
            have p4' := (hb.cell (p := ⟨w.heap.size, 4, none⟩) (lt_of_cell p4)).trans p4
            have p5' := (hb.cell (p := ⟨w.heap.size, 5, none⟩) (lt_of_cell p5)).trans p5
            have p6' := (hb.cell (p := ⟨w.heap.size, 6, none⟩) (lt_of_cell p6)).trans p6
            have p7' := (hb.cell (p := ⟨w.heap.size, 7, none⟩) (lt_of_cell p7)).trans p7
            go_simp
            exact ⟨rfl, Below.refl _ _, fun h => by cases h⟩
          · have g0' := (hb.cell (p := ⟨w.heap.size + 1, 0, none⟩) (lt_of_cell g0)).trans g0
            have g1' := (hb.cell (p := ⟨w.heap.size + 1, 1, none⟩) (lt_of_cell g1)).trans g1
            have g2' := (hb.cell (p := ⟨w.heap.size + 1, 2, none⟩) (lt_of_cell g2)).trans g2
            go_simp
            exact ⟨rfl, Below.refl _ _, fun h => by cases h⟩
          · go_simp
            exact ⟨rfl, Below.refl _ _, fun h => by cases h⟩
          · have e3 : u 3 = .pointer (some ⟨g, 0, none⟩) := hd 3 (by omega) (by kernel_rfl)
            rw [e3]
            go_simp
            exact ⟨rfl, Below.refl _ _, fun h => by cases h⟩
          · have e4 : u 4 = .pointer (some ⟨g, 0, none⟩) := hd 4 (by omega) (by kernel_rfl)
            rw [e4]
            have hc' := (hb.cell (p := ⟨g, 0, none⟩) (lt_of_cell hc)).trans hc
            go_simp
            exact ⟨rfl, Below.refl _ _, fun h => by cases h⟩
          · have e1 : u 1 = .agg #[.slice ba bl bc, .slice ra rl rc, .int .i64 kd, .int .i64 va, .int .i64 parr, .slice pca pcl pcc, .int .i64 pcon, .slice ga gl gc] := hd 1 (by omega) (by kernel_rfl)
            have e2 : u 2 = .agg #[.int .i64 x0, .int .i64 x1, .int .i64 x2] := hd 2 (by omega) (by kernel_rfl)
            have e5 : u 5 = .int .i64 was := hd 5 (by omega) (by kernel_rfl)
            rw [e1, e2, e5]
            go_simp
            refine (HPU.out wz).mono ?_
            rintro e w2 ⟨rfl, hb2⟩
            exact ⟨by rw [HV.out]; rfl, hb2, fun h => by cases h⟩
          · have e0 : u 0 = .pointer (some ⟨g, 0, none⟩) := hd 0 (by omega) (by kernel_rfl)
            rw [e0]
            go_simp
            exact ⟨rfl, Below.refl _ _, fun h => by cases h⟩
        case rest =>
          intro u wz hb hf hp
          have f0 : u 0 = .pointer (some ⟨g, 0, none⟩) := hf 0 (by omega)
          have f1 : u 1 = .agg #[.slice ba bl bc, .slice ra rl rc, .int .i64 kd, .int .i64 va, .int .i64 parr, .slice pca pcl pcc, .int .i64 pcon, .slice ga gl gc] := hf 1 (by omega)
          have f2 : u 2 = .agg #[.int .i64 x0, .int .i64 x1, .int .i64 x2] := hf 2 (by omega)
          have f3 : u 3 = .pointer (some ⟨g, 0, none⟩) := hf 3 (by omega)
          have f4 : u 4 = .pointer (some ⟨g, 0, none⟩) := hf 4 (by omega)
          have f5 : u 5 = .int .i64 was := hf 5 (by omega)
          have f6 : u 6 = .int .i64 V := hf 6 (by omega)
          have f7 : u 7 = .pointer (some ⟨g, 0, none⟩) := hf 7 (by omega)
          refine UptoW.rest 1 8 (by rfl) (by kernel_rfl) ?_
          simp only [List.take, List.drop, putOps, Act.put, List.setIfInBounds_toArray, List.set_cons_zero, List.set_cons_succ, Nat.reduceAdd, f0, f1, f2, f3, f4, f5, f6, f7]
          clear f0 f1 f2 f3 f4 f5 f6 f7 hf hp
          have HB6 := hide (bl_on HB5.out hb)
          have fr := HFR.out wz hb
          have c' := (hb.cell (p := ⟨g, 0, none⟩) (lt_of_cell hc)).trans hc
          have HM6 := hide (HMW.out.below hb)
          have zz := hb.size
          have HB7 := hide (bl_on HB3'.out hb)
          clear hb
          go_wp2_with fail
          refine bodyPost_end (results_none rfl _ _ _) rfl ⟨⟨_, rfl⟩, ?_, ?_⟩
          · unfold doM
            rw [if_neg HOUT.out]
            exact (HM.out.below HBr.out).below ((HB7.out).setCell (p := ⟨g, 0, none⟩) HSG.out _)
          · exact Chg.of_below (HB6.out.setCell (p := ⟨g, 0, none⟩) hsg _)
end Go.Proofs.Ytindmfpfpooijaa.V
