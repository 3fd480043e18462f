/-
  Contract: the document's Run.
-/
import Derived.Test.YtindmfpfpooijaaNeRRun1
import Derived.Test.YtindmfpfpooijaaNeSpots
import Derived.Test.YtindmfpfpooijaaNeRWrong
namespace Go.Proofs.Ytindmfpfpooijaa.V
open Go.RowKit
set_option linter.unusedVariables false

set_option maxRecDepth 100000 in
set_option maxHeartbeats 4000000 in
theorem rRun_no (za : Option Addr) (zl zc : Nat) (zs : List Int) (ta : Option Addr) (tl tc : Nat) (ss : List Stm) (a : Option Addr) (len cap : Nat) (L : Mem) (w : World) (hz : Ints w za zl zs) (hs : Stms w ta tl ss) (hA : MemA w a len L) (hE : runE zs ss L ≠ 0) :
    Calls Try.prog 5 #[.agg #[.slice za zl zc, .slice ta tl tc], .slice a len cap] w fun e w' => e = .returned (.tuple #[.slice none 0 0, .int .i64 (runE zs ss L)]) ∧ Below w.heap.size w w' := by
  have B1 : Below w.heap.size w (w.alloc (.cells #[.slice za zl zc, .slice ta tl tc] 25)) := bl_new _
  have P0 := NsBlk.new w za zl zc ta tl tc
  obtain ⟨p0, p1⟩ := P0.cells
  have HW := hide (rNestWrong_any za zl zc zs ta tl tc ss _ (hz.below B1) (hs.below B1))
  have HF := hide (fun W (hb : Below w.heap.size w W) => rFits_any za zl zc zs (.slice ta tl tc) a len cap L W (hz.below hb) (hA.below hb))
  have HB := hide B1
  have HP := hide P0
  by_cases c1 : nestE zs ss ≠ 0
  · have e1 : runE zs ss L = nestE zs ss := by unfold runE; rw [if_pos c1]
    have c2 : (nestE zs ss != 0) = true := by simpa using c1
    rw [e1]
    clear hz hs hA e1 c1 B1 P0 hE
    go_enter Try.func5, Try.ntmps5
    go_wp2_with (go_at_call 8; refine HW.out.mono ?_; rintro e w1 ⟨rfl, hb⟩; have HB1 := hide (bl_on HB.out hb); have P1 := HP.out.below hb; obtain ⟨p0, p1⟩ := P1.cells; have zP := P1.lt; have HP1 := hide P1; clear hb P1)
    go_ret2
    exact ⟨rfl, HB1.out⟩
  have c1' : nestE zs ss = 0 := by simpa using c1
  have e1 : runE zs ss L = fitsE zs L := by unfold runE; rw [if_neg c1]
  have C1 := hide c1'
  rw [e1] at hE ⊢
  have c2 : (fitsE zs L != 0) = true := by simpa using hE
  clear hz hs hA e1 c1 c1' B1 P0 hE
  go_enter Try.func5, Try.ntmps5
  go_wp2_with (first | (go_at_call 8; refine HW.out.mono ?_; rintro e w1 ⟨rfl, hb⟩; rw [C1.out]; have HB1 := hide (bl_on HB.out hb); have P1 := HP.out.below hb; obtain ⟨p0, p1⟩ := P1.cells; have zP := P1.lt; have HP1 := hide P1; clear hb P1) | (go_at_call 13; refine (HF.out w1 HB1.out).mono ?_; rintro e w2 ⟨rfl, hb⟩; have HB2 := hide (bl_on HB1.out hb); have P2 := HP1.out.below hb; obtain ⟨p0, p1⟩ := P2.cells; have zP := P2.lt; have HP2 := hide P2; clear hb P2))
  go_ret2
  exact ⟨rfl, HB2.out⟩

/-- Blocks of other things than numbers of 64 bits are left. -/
theorem Chg.typed {N : Nat} {a : Option Addr} {G C : Nat → Nat} {M : Mem} {W W' : World} (hc : Chg G M.length W W') (hM : Mems W N a G C M) {t : TypeId} (ht : t ≠ 2) (b : Nat) (cur : Array Value) (h : W.heap[b]? = some (Obj.cells cur t (0, 0))) : W'.heap[b]? = W.heap[b]? := by
  refine hc.block (Array.getElem?_eq_some_iff.1 h).1 (fun k hk e => ?_)
  obtain ⟨cur', h1, _⟩ := hM.rows k hk
  rw [← e, h] at h1
  cases h1
  exact ht rfl

set_option maxRecDepth 100000 in
set_option maxHeartbeats 8000000 in
theorem rRun_ok (za : Option Addr) (zl zc : Nat) (zs : List Int) (ta : Option Addr) (tl tc : Nat) (ss : List Stm) (a : Option Addr) (len cap : Nat) (L : Mem) (w : World) (hz : Ints w za zl zs) (hs : Stms w ta tl ss) (hA : MemA w a len L) (hb24 : len * 24 ≤ 140737488355328) (hE : runE zs ss L = 0) :
    Calls Try.prog 5 #[.agg #[.slice za zl zc, .slice ta tl tc], .slice a len cap] w fun e w' => (∃ A c, e = .returned (.tuple #[.slice A len c, .int .i64 0]) ∧ len ≤ c ∧ ∃ G C, Mems w' w.heap.size A G C (runM ss L)) ∧ Below w.heap.size w w' := by
  have c1 : nestE zs ss = 0 := by
    unfold runE at hE
    by_cases h : nestE zs ss ≠ 0
    · rw [if_pos h] at hE; exact absurd hE h
    · simpa using h
  have c2 : fitsE zs L = 0 := by unfold runE at hE; rw [if_neg (by simpa using c1)] at hE; exact hE
  have hok := nestE_ok c1
  obtain ⟨f1, f2⟩ := fits_ok c2
  have hsm := fits_small c2 hok.sizes
  have B1 : Below w.heap.size w (w.alloc (.cells #[.slice za zl zc, .slice ta tl tc] 25)) := bl_new _
  have P0 := NsBlk.new w za zl zc ta tl tc
  obtain ⟨p0, p1⟩ := P0.cells
  have HW := hide (rNestWrong_any za zl zc zs ta tl tc ss _ (hz.below B1) (hs.below B1))
  have HF := hide (fun W (hb : Below w.heap.size w W) => rFits_any za zl zc zs (.slice ta tl tc) a len cap L W (hz.below hb) (hA.below hb))
  have HB := hide B1
  have HP := hide P0
  have h256 : tl ≤ 256 := by have := hok.many; have := hs.1; omega
  have HCO := hide (fun W (hb : Below w.heap.size w W) => (rCopy_any a len cap L W (hA.below hb) hb24 hsm))
  have HSP := hide (fun W (hb : Below w.heap.size w W) => rSpots_any (.slice za zl zc) ta tl tc ss W (hs.below hb) h256 (fun s h => ptE_ok (hok.stms s h).pt))
  have HZ := hide hz
  have HS := hide hs
  have hm1 := hz.2.1
  have hm3 := hs.2.1
  have HL := hide hA.1
  have HSL := hide hs.1
  have HZL := hide hz.1
  have C1 := hide c1
  have C2 := hide c2
  have HOK := hide hok
  have F2 := hide f2
  have HKL := hide (spK_len ss (fun s h => ne_pts_len (ptE_ok (hok.stms s h).pt)) tl (by rw [hs.1]; exact Nat.le_refl _))
  have hlz : len = zl := by have := hA.1; have := hz.1; omega
  obtain rfl := hlz
  have HRUN := hide (spM_run ss L tl (by rw [hs.1]; exact Nat.le_refl _))
  clear hz hs hA hE c1 c2 hok f1 f2 hsm B1 P0
  go_enter Try.func5, Try.ntmps5
  go_wp2_with (first | (go_at_call 8; refine HW.out.mono ?_; rintro e w1 ⟨rfl, hb⟩; rw [C1.out]; have HB1 := hide (bl_on HB.out hb); have P1 := HP.out.below hb; obtain ⟨p0, p1⟩ := P1.cells; have zP := P1.lt; have HP1 := hide P1; clear hb P1) | (go_at_call 13; refine (HF.out w1 HB1.out).mono ?_; rintro e w2 ⟨rfl, hb⟩; rw [C2.out]; have HB2 := hide (bl_on HB1.out hb); have P2 := HP1.out.below hb; obtain ⟨p0, p1⟩ := P2.cells; have zP := P2.lt; have HP2 := hide P2; clear hb P2) | (go_at_call 14; refine (HCO.out w2 HB2.out).mono ?_; rintro e w3 ⟨⟨A, c, rfl, hc, G, C, hM⟩, hb⟩; have HM3 := hide hM; have HB3 := hide (bl_on HB2.out hb); have P3 := HP2.out.below hb; obtain ⟨p0, p1⟩ := P3.cells; have zP := P3.lt; have HP3 := hide P3; clear hb P3 hM) | (go_at_call 15; refine (HSP.out w3 HB3.out).mono ?_; rintro e w4 ⟨⟨A2, c4, rfl, hS⟩, hb⟩; obtain ⟨N, hN⟩ : ∃ N, N = (spK ss tl).length := ⟨_, rfl⟩; rw [← hN] at hS; rw [← hN]; have HN := hide hN; have HS4 := hide hS; have HM4 := hide (HM3.out.below hb); have HB4 := hide (bl_on HB3.out hb); have P4 := HP3.out.below hb; obtain ⟨p0, p1⟩ := P4.cells; have zP := P4.lt; have HP4 := hide P4; clear hb P4 hS hN))
  have hsz3 := HB2.out.size
  have HMW : Hid (Mems w4 w.heap.size A G C L) := ⟨HM4.out.head, HM4.out.rows, HM4.out.apart, fun k hk => Nat.le_trans hsz3 (HM4.out.lo k hk), HM4.out.bd, HM4.out.small⟩
  have hNb : N ≤ 2097152 := by have := HKL.out; have := HN.out; omega
  clear p0 p1 HW HF HCO HSP HM3 HM4
  go_loopw [27] (fun i wr => ∃ k : Nat, k ≤ N ∧ i = .int .i64 k ∧ Mems wr w.heap.size A G C (((spK ss tl).take k).foldl (spM ss) L) ∧ Below w.heap.size w wr ∧ NsBlk wr w.heap.size za len zc ta tl tc ∧ SP wr A2 N (spK ss tl)) (fun i _ => N - (intOf i).toNat)
  case atStart => exact ⟨0, Nat.zero_le _, rfl, by simpa using HMW.out, HB4.out, HP4.out, HS4.out⟩
  case round =>
    obtain ⟨k, hk, rfl, hM, hB, hP, hS⟩ := hrel
    have HM := hide hM
    have HBr := hide hB
    have HPr := hide hP
    have HSr := hide hS
    clear hM hB hP hS HMW HS4 HP4 HB4
    by_cases hlt : k < N
    · have hkl : k < (spK ss tl).length := by rw [← HN.out]; exact hlt
      obtain ⟨sb, so, rfl, hat⟩ := HSr.out.at (by omega)
      obtain ⟨xa, xl, xc, s1, s2, s3⟩ := hat k hlt
      have hmem : (spK ss tl)[k]?.getD spD ∈ spK ss tl := by simp [hkl]
      obtain ⟨hi, hxp⟩ := sp_mem hmem
      have HFT := hide (foldl_take (spM ss) L (spK ss tl) k hkl spD)
      obtain ⟨sp, hsp⟩ : ∃ sp, sp = (spK ss tl)[k]?.getD spD := ⟨_, rfl⟩
      rw [← hsp] at s1 s3 hi hxp HFT
      obtain ⟨i, x⟩ := sp
      simp only at s1 s3 hi hxp
      have hil : i < ss.length := by rw [HSL.out]; exact hi
      have hso := HOK.out.stms _ (mem_getS ss i hil)
      rw [HZL.out] at hso
      obtain ⟨hx1, hx2⟩ := ne_pts_mem (ptE_ok hso.pt) hxp
      obtain ⟨tb, to, rfl, hat2⟩ := HS.out.at (by omega)
      obtain ⟨q, hq, k0', k1', k2', k3', k4', k5', k6', k7'⟩ := hat2 i hi
      obtain ⟨wn, hwn⟩ : ∃ wn, wn = wr.alloc (.cells #[.int .i64 (i : Int), .slice xa xl xc] 56) := ⟨_, rfl⟩
      have Bn : Below wr.heap.size wr wn := by rw [hwn]; exact bl_new _
      have Ball := bl_on HBr.out Bn
      have k0 := (Ball.cell (p := ⟨tb, to + i * 8, none⟩) (lt_of_cell k0')).trans k0'
      have k1 := (Ball.cell (p := ⟨tb, to + i * 8 + 1, none⟩) (lt_of_cell k1')).trans k1'
      have k2 := (Ball.cell (p := ⟨tb, to + i * 8 + 2, none⟩) (lt_of_cell k2')).trans k2'
      have k3 := (Ball.cell (p := ⟨tb, to + i * 8 + 3, none⟩) (lt_of_cell k3')).trans k3'
      have k4 := (Ball.cell (p := ⟨tb, to + i * 8 + 4, none⟩) (lt_of_cell k4')).trans k4'
      have k5 := (Ball.cell (p := ⟨tb, to + i * 8 + 5, none⟩) (lt_of_cell k5')).trans k5'
      have k6 := (Ball.cell (p := ⟨tb, to + i * 8 + 6, none⟩) (lt_of_cell k6')).trans k6'
      have k7 := (Ball.cell (p := ⟨tb, to + i * 8 + 7, none⟩) (lt_of_cell k7')).trans k7'
      have hnew : wn.heap[wr.heap.size]? = some (.cells #[.int .i64 (i : Int), .slice xa xl xc] 56 (0, 0)) := by rw [hwn]; exact World.alloc_heap_new _ _
      obtain ⟨y0, y1⟩ := cells_two hnew
      obtain ⟨n0, n1⟩ := (HPr.out.below Bn).cells
      obtain ⟨s, hs⟩ : ∃ s, s = ss[i]?.getD stmD := ⟨_, rfl⟩
      rw [← hs] at hq hso hxp hx2
      have hxl : xl = q.bl := by have := s3.1.1; have := hq.box.1.1; omega
      have hlens := spM_arr_len ss ((spK ss tl).take k) L
      have HDO := hide (fun (W : World) (hb : Below wn.heap.size wn W) => rdo_any w.heap.size A len c G C _ za zc zs (.slice (some ⟨tb, to, none⟩) tl tc) q s xa xl xc x W ((HM.out.below Bn).below hb) (by rw [hlens.2]; exact HL.out) ((HZ.out.below (bl_on Ball hb))) (fun j hj => by rw [hlens.1 j]; exact F2.out j (by rw [HL.out]; exact hj)) (hq.below (bl_on Ball hb)) hso ((s3.1.below Bn).below hb) hxl hx1)
      have HST := hide hs
      have HBn := hide Bn
      have HWN := hide hwn
      have HMn := hide (HM.out.below Bn)
      have HLEN := hide hlens
      have z1 := lt_of_cell s1
      have z0 := lt_of_cell k0
      simp only at z1 z0
      have zN := (HPr.out.below Bn).lt
      have zS := (Array.getElem?_eq_some_iff.1 hnew).1
      have hsm : wr.heap.size < wn.heap.size := zS
      obtain ⟨ba, bl, bc, ra, rl, rc, kd, va, ⟨parr, pca, pcl, pcc, pcon⟩, ga, gl, gc⟩ := q
      simp only [SW.v, SW.cs] at *
      clear hat hat2 s3 hmem hxp hsp hil hso hx1 hx2 hq hs hxl hlens Bn Ball hnew hwn hkl k0' k1' k2' k3' k4' k5' k6' k7'
      go_wp2_with fail
      rw [← HWN.out]
      refine region_made 10 11 [fIs (.agg #[.slice za len zc, .slice (some ⟨tb, to, none⟩) tl tc]), fIs (.pointer (some ⟨w.heap.size, 1, none⟩)), fIs (.slice (some ⟨tb, to, none⟩) tl tc), fIs (.pointer (some ⟨wr.heap.size, 0, none⟩)), fIs (.int .i64 (i : Int)), fIs (.pointer (some ⟨tb, to + i * 8, none⟩)), fIs (.agg #[.slice ba bl bc, .slice ra rl rc, .int .i64 kd, .int .i64 va, .int .i64 parr, .slice pca pcl pcc, .int .i64 pcon, .slice ga gl gc]), fIs (.pointer (some ⟨wr.heap.size, 1, none⟩)), fIs (.slice xa xl xc), fIs (.slice A len c)] (by kernel_rfl) (by kernel_rfl) (by kernel_rfl) (fun _ ⟨_, _⟩ ⟨_, _⟩ _ e h => by cases e; exact h) ⟨fIs_good _, fIs_good _, fIs_good _, fIs_good _, fIs_good _, fIs_good _, fIs_good _, fIs_good _, fIs_good _, fIs_good _, trivial⟩ ?mk ?rest
      case mk =>
        refine ⟨fun u wz hb hd => ?_, fun u wz hb hd => ?_, fun u wz hb hd => ?_, fun u wz hb hd => ?_, fun u wz hb hd => ?_, fun u wz hb hd => ?_, fun u wz hb hd => ?_, fun u wz hb hd => ?_, fun u wz hb hd => ?_, fun u wz hb hd => ?_, trivial⟩
        all_goals simp only [Act.put, List.setIfInBounds_toArray, List.set_cons_zero, List.set_cons_succ]
        · have n0' := (hb.cell (p := ⟨w.heap.size, 0, none⟩) (lt_of_cell n0)).trans n0
          have n1' := (hb.cell (p := ⟨w.heap.size, 1, none⟩) (lt_of_cell n1)).trans n1
          go_simp
          exact ⟨rfl, Below.refl _ _, fun h => by cases h⟩
        · go_simp
          exact ⟨rfl, Below.refl _ _, fun h => by cases h⟩
        · have e1 : u 1 = .pointer (some ⟨w.heap.size, 1, none⟩) := hd 1 (by omega) (by kernel_rfl)
          rw [e1]
          have n1' := (hb.cell (p := ⟨w.heap.size, 1, none⟩) (lt_of_cell n1)).trans n1
          go_simp
          exact ⟨rfl, Below.refl _ _, fun h => by cases h⟩
        · go_simp
          exact ⟨rfl, Below.refl _ _, fun h => by cases h⟩
        · have e3 : u 3 = .pointer (some ⟨wr.heap.size, 0, none⟩) := hd 3 (by omega) (by kernel_rfl)
          rw [e3]
          have y0' := (hb.cell (p := ⟨wr.heap.size, 0, none⟩) (lt_of_cell y0)).trans y0
          go_simp
          exact ⟨rfl, Below.refl _ _, fun h => by cases h⟩
        · have e2 : u 2 = .slice (some ⟨tb, to, none⟩) tl tc := hd 2 (by omega) (by kernel_rfl)
          have e4 : u 4 = .int .i64 (i : Int) := hd 4 (by omega) (by kernel_rfl)
          rw [e2, e4]
          go_simp
          exact ⟨rfl, Below.refl _ _, fun h => by cases h⟩
        · have e5 : u 5 = .pointer (some ⟨tb, to + i * 8, none⟩) := hd 5 (by omega) (by kernel_rfl)
          rw [e5]
          have k0' := (hb.cell (p := ⟨tb, to + i * 8, none⟩) (lt_of_cell k0)).trans k0
          have k1' := (hb.cell (p := ⟨tb, to + i * 8 + 1, none⟩) (lt_of_cell k1)).trans k1
          have k2' := (hb.cell (p := ⟨tb, to + i * 8 + 2, none⟩) (lt_of_cell k2)).trans k2
          have k3' := (hb.cell (p := ⟨tb, to + i * 8 + 3, none⟩) (lt_of_cell k3)).trans k3
          have k4' := (hb.cell (p := ⟨tb, to + i * 8 + 4, none⟩) (lt_of_cell k4)).trans k4
          have k5' := (hb.cell (p := ⟨tb, to + i * 8 + 5, none⟩) (lt_of_cell k5)).trans k5
          have k6' := (hb.cell (p := ⟨tb, to + i * 8 + 6, none⟩) (lt_of_cell k6)).trans k6
          have k7' := (hb.cell (p := ⟨tb, to + i * 8 + 7, none⟩) (lt_of_cell k7)).trans k7
          go_simp
          exact ⟨rfl, Below.refl _ _, fun h => by cases h⟩
        · go_simp
          exact ⟨rfl, Below.refl _ _, fun h => by cases h⟩
        · have e7 : u 7 = .pointer (some ⟨wr.heap.size, 1, none⟩) := hd 7 (by omega) (by kernel_rfl)
          rw [e7]
          have y1' := (hb.cell (p := ⟨wr.heap.size, 1, none⟩) (lt_of_cell y1)).trans y1
          go_simp
          exact ⟨rfl, Below.refl _ _, fun h => by cases h⟩
        · go_simp
          exact ⟨rfl, Below.refl _ _, fun h => by cases h⟩
      case rest =>
        intro u wz hb hf hp
        have f0 : u 0 = .agg #[.slice za len zc, .slice (some ⟨tb, to, none⟩) tl tc] := hf 0 (by omega)
        have f1 : u 1 = .pointer (some ⟨w.heap.size, 1, none⟩) := hf 1 (by omega)
        have f2 : u 2 = .slice (some ⟨tb, to, none⟩) tl tc := hf 2 (by omega)
        have f3 : u 3 = .pointer (some ⟨wr.heap.size, 0, none⟩) := hf 3 (by omega)
        have f4 : u 4 = .int .i64 (i : Int) := hf 4 (by omega)
        have f5 : u 5 = .pointer (some ⟨tb, to + i * 8, none⟩) := hf 5 (by omega)
        have f6 : u 6 = .agg #[.slice ba bl bc, .slice ra rl rc, .int .i64 kd, .int .i64 va, .int .i64 parr, .slice pca pcl pcc, .int .i64 pcon, .slice ga gl gc] := hf 6 (by omega)
        have f7 : u 7 = .pointer (some ⟨wr.heap.size, 1, none⟩) := hf 7 (by omega)
        have f8 : u 8 = .slice xa xl xc := hf 8 (by omega)
        have f9 : u 9 = .slice A len c := hf 9 (by omega)
        refine UptoW.rest 1 10 (by rfl) (by kernel_rfl) ?_
        simp only [List.take, List.drop, putOps, Act.put, List.setIfInBounds_toArray, List.set_cons_zero, List.set_cons_succ, Nat.reduceAdd, f0, f1, f2, f3, f4, f5, f6, f7, f8, f9]
        clear f0 f1 f2 f3 f4 f5 f6 f7 f8 f9 hf hp
        have HBz := hide hb
        have hbz := hb.size
        clear hb
        go_wp2_with (go_at_call 16; refine (HDO.out wz HBz.out).mono ?_; rintro e w6 ⟨⟨rv, rfl⟩, hm6, hc6⟩; have HM6 := hide hm6; have HC6 := hide hc6; clear hm6 hc6)
        have HMz := HMn.out.below HBz.out
        have hBw : Below w.heap.size w wz := bl_on HBr.out (bl_on HBn.out HBz.out)
        have hPz := (HPr.out.below (bl_on HBn.out HBz.out))
        have hSz := HSr.out.below (bl_on HBn.out HBz.out)
        have HRES : Hid (Mems w6 w.heap.size A G C (((spK ss tl).take (k + 1)).foldl (spM ss) L) ∧ Below w.heap.size w w6 ∧ NsBlk w6 w.heap.size za len zc (some ⟨tb, to, none⟩) tl tc ∧ SP w6 (some ⟨sb, so, none⟩) N (spK ss tl)) := by
          refine ⟨?_, HC6.out.below (fun j hj => HMz.lo j hj) hBw hBw.size, ?_, hSz.cells (fun b cur e => HC6.out.typed HMz (by decide) b cur e) (fun b cur e => HC6.out.typed HMz (by decide) b cur e)⟩
          · rw [HFT.out]
            unfold spM
            rw [← HST.out]
            exact HM6.out
          · exact (HC6.out.typed HMz (t := 25) (by decide) _ _ hPz).trans hPz
        clear HMz hBw hPz hSz
        go_roundw
        case rel => exact ⟨k + 1, by omega, by go_num, HRES.out⟩
        case measure => simp [intOf]; omega
    · obtain rfl : N = k := by omega
      have hm := HM.out
      rw [List.take_of_length_le (by rw [← HN.out]; exact Nat.le_refl _), HRUN.out, List.take_of_length_le (by rw [HSL.out]; exact Nat.le_refl _)] at hm
      have HMF := hide hm
      clear hm
      go_wp2_with fail
      go_ret2
      exact ⟨⟨A, c, rfl, hc, G, C, HMF.out⟩, HBr.out⟩
end Go.Proofs.Ytindmfpfpooijaa.V
