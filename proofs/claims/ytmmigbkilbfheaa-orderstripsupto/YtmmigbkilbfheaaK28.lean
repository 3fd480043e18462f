/-
  The document's Strip.
-/
import Derived.Test.YtmmigbkilbfheaaK27
import Derived.Test.YtmmigbkilbfheaaK11
import Derived.Test.YtmmigbkilbfheaaK26
import Derived.Test.YtmmigbkilbfheaaK16
import Derived.Deep.DeepCutAuto
import Derived.Deep.RegionHeld3
namespace Go.Proofs.Ytmmigbkilbfheaa.V
open Go Go.RowKit Go.Shelf
set_option linter.unusedVariables false

set_option maxRecDepth 100000 in
set_option maxHeartbeats 16000000 in
theorem rStrip_any (za : Option Addr) (zl zc : Nat) (zs : List Int) (ta : Option Addr) (tl tc : Nat) (ss : List Stm) (i k n : Int) (w : World) (hz : Ints w za zl zs) (hs : Stms w ta tl ss) (hi : B64 i) (hk : B64 k) (hn : B64 n) :
    Calls Try.prog 18 #[.agg #[.slice za zl zc, .slice ta tl tc], .int .i64 i, .int .i64 k, .int .i64 n] w fun e w' => (∃ za' zl' zc' ta' tl' tc' zs' ss', e = .returned (.tuple #[.agg #[.slice za' zl' zc', .slice ta' tl' tc'], .int .i64 (stripE zs ss i k n)]) ∧ Ints w' za' zl' zs' ∧ Stms w' ta' tl' ss' ∧ (stripE zs ss i k n = 0 → zs' = zs ∧ ss' = ss.set i.toNat (stripS (ss[i.toNat]?.getD stmD) k.toNat n.toNat)) ∧ (stripE zs ss i k n ≠ 0 → zs' = [] ∧ ss' = [])) ∧ Below w.heap.size w w' := by
  have B0 : Below w.heap.size w ((w.alloc (.cells #[.slice za zl zc, .slice ta tl tc] 25)).alloc (.cells #[.slice none 0 0, .slice none 0 0] 25)) := bl_on (bl_new _) (bl_new _)
  have P0 := (NsBlk.new w za zl zc ta tl tc).below (bl_new (.cells #[.slice none 0 0, .slice none 0 0] 25))
  have PZ := NsBlk.new (w.alloc (.cells #[.slice za zl zc, .slice ta tl tc] 25)) none 0 0 none 0 0
  rw [World.size_alloc] at PZ
  obtain ⟨W, hW⟩ : ∃ W, W = (w.alloc (.cells #[.slice za zl zc, .slice ta tl tc] 25)).alloc (.cells #[.slice none 0 0, .slice none 0 0] 25) := ⟨_, rfl⟩
  rw [← hW] at B0 P0 PZ
  have HSW : Hid (W.heap.size = w.heap.size + 2) := by rw [Hid, hW]; simp
  have HNW := hide (rNestWrong_any za zl zc zs ta tl tc ss W (hz.below B0) (hs.below B0))
  obtain ⟨n0, n1⟩ := P0.cells
  have zn := P0.lt
  have HB := hide B0
  have HN := hide P0
  have HPZ0 := hide PZ
  have HW := hide hW
  have HZ := hide hz
  have HS := hide hs
  have hsl := hs.1
  obtain ⟨e8, he8⟩ : ∃ e8, e8 = stripE zs ss i k n := ⟨_, rfl⟩
  rw [← he8]
  have HE8 := hide he8
  clear hz hs B0 P0 PZ hW he8
  go_enter Try.func18, Try.ntmps18
  go_wp2_with fail
  rw [← HW.out]
  refine HNW.out.mono ?_
  rintro e w1 ⟨rfl, hb⟩
  have HB1 := hide (bl_on HB.out hb)
  have HN1 := hide (HN.out.below hb)
  have HPZ := hide (HPZ0.out.below hb)
  have hw1 := hb.size
  clear hb n0 n1 zn HN HPZ0 HNW
  obtain ⟨n0, n1⟩ := HN1.out.cells
  have zn := HN1.out.lt
  obtain ⟨q0, q1⟩ := HPZ.out.cells
  have zq := HPZ.out.lt
  have g0 := HPZ.out.free 0
  have g1 := HPZ.out.free 1
  obtain ⟨E, hE⟩ : ∃ E, E = nestE zs ss := ⟨_, rfl⟩
  rw [← hE]
  by_cases hE0 : E = 0
  rotate_left
  · have e1 : stripE zs ss i k n = E := by unfold stripE; rw [if_pos (by rw [← hE]; exact hE0), hE]
    have E1 := hide e1
    have qE : (E != 0) = true := by simpa using hE0
    have HNE := hide hE0
    clear hE0 e1 hE
    go_wp2_with fail
    have PZ2 := HPZ.out.put none 0 0 none 0 0
    obtain ⟨x0, x1⟩ := PZ2.cells
    refine bodyPost_ret (v := .tuple #[.agg #[.slice none 0 0, .slice none 0 0], .int .i64 E]) (by simp [results, Try.results18, go_sem, x0, x1]) rfl ⟨⟨none, 0, 0, none, 0, 0, [], [], by rw [show e8 = E from HE8.out.trans E1.out], ints_no _, stms_nil _, fun h => absurd (show E = (0 : Int) from (HE8.out.trans E1.out).symm.trans h) HNE.out, fun _ => ⟨rfl, rfl⟩⟩, ?_⟩
    exact (HB1.out.setCell (p := ⟨w.heap.size + 1, 0, none⟩) (by simp only; omega) _).setCell (p := ⟨w.heap.size + 1, 1, none⟩) (by simp only; omega) _
  have hok : nestE zs ss = 0 := by rw [← hE]; exact hE0
  have HOK := hide (nestE_ok hok)
  subst hE0
  by_cases h1 : i < 0
  · have e1 : stripE zs ss i k n = 4 := by unfold stripE; rw [if_neg (by simpa using hok), if_pos (.inl h1)]
    have E1 := hide e1
    clear e1 hE hok
    go_wp2_with fail
    have PZ2 := HPZ.out.put none 0 0 none 0 0
    obtain ⟨x0, x1⟩ := PZ2.cells
    refine bodyPost_ret (v := .tuple #[.agg #[.slice none 0 0, .slice none 0 0], .int .i64 4]) (by simp [results, Try.results18, go_sem, x0, x1]) rfl ⟨⟨none, 0, 0, none, 0, 0, [], [], by rw [show e8 = 4 from HE8.out.trans E1.out], ints_no _, stms_nil _, fun h => absurd (show 4 = (0 : Int) from (HE8.out.trans E1.out).symm.trans h) (by decide), fun _ => ⟨rfl, rfl⟩⟩, ?_⟩
    exact (HB1.out.setCell (p := ⟨w.heap.size + 1, 0, none⟩) (by simp only; omega) _).setCell (p := ⟨w.heap.size + 1, 1, none⟩) (by simp only; omega) _
  by_cases h2 : (tl : Int) ≤ i
  · have e1 : stripE zs ss i k n = 4 := by unfold stripE; rw [if_neg (by simpa using hok), if_pos (.inr (by rw [hsl]; exact h2))]
    have E1 := hide e1
    clear e1 hE hok
    go_wp2_with fail
    have PZ2 := HPZ.out.put none 0 0 none 0 0
    obtain ⟨x0, x1⟩ := PZ2.cells
    refine bodyPost_ret (v := .tuple #[.agg #[.slice none 0 0, .slice none 0 0], .int .i64 4]) (by simp [results, Try.results18, go_sem, x0, x1]) rfl ⟨⟨none, 0, 0, none, 0, 0, [], [], by rw [show e8 = 4 from HE8.out.trans E1.out], ints_no _, stms_nil _, fun h => absurd (show 4 = (0 : Int) from (HE8.out.trans E1.out).symm.trans h) (by decide), fun _ => ⟨rfl, rfl⟩⟩, ?_⟩
    exact (HB1.out.setCell (p := ⟨w.heap.size + 1, 0, none⟩) (by simp only; omega) _).setCell (p := ⟨w.heap.size + 1, 1, none⟩) (by simp only; omega) _
  obtain ⟨I, rfl⟩ : ∃ I : Nat, i = (I : Int) := ⟨i.toNat, by omega⟩
  have hIl : I < tl := by omega
  obtain ⟨s, hs⟩ : ∃ s, s = ss[I]?.getD stmD := ⟨_, rfl⟩
  have hso := HOK.out.stms s (by rw [hs]; exact mem_getS ss I (by omega))
  obtain ⟨b, off, rfl, hat⟩ := (HS.out.below HB1.out).at (by omega)
  obtain ⟨q, hq, c0, c1, c2, c3, c4, c5, c6, c7⟩ := hat I hIl
  rw [← hs] at hq
  have hbl : s.box.length = q.bl := hq.box.1.1
  have zc0 := lt_of_cell c0
  have hIz : (I : Int) < (tl : Int) := by omega
  have HSO := hide hso
  have HSE := hide hs
  have e0 : stripE zs ss (I : Int) k n = if k < 0 ∨ ((s.box.length : Nat) : Int) ≤ k then 6 else if n < 1 ∨ 4096 < n then 4 else nestE zs (ss.set I (stripS s k.toNat n.toNat)) := by
    unfold stripE
    rw [if_neg (by simpa using hok), if_neg (by omega), Int.toNat_natCast, ← hs]
  have HE0 := hide e0
  obtain ⟨WS, hWS⟩ : ∃ WS, WS = w1.alloc (.cells #[.slice q.ba q.bl q.bc, .slice q.ra q.rl q.rc, .int .i64 q.kd, .int .i64 q.va, .int .i64 q.pu.arr, .slice q.pu.ca q.pu.cl q.pu.cc, .int .i64 q.pu.con, .slice q.ga q.gl q.gc] 74) := ⟨_, rfl⟩
  have hbws : Below w1.heap.size w1 WS := by rw [hWS]; exact bl_new _
  have HQB : Hid (q.blk WS w1.heap.size) := by rw [Hid, hWS]; exact SW.new q w1
  have HWS := hide hWS
  have HBS := hide (bl_on HB1.out hbws)
  have HPS := hide (HPZ.out.below hbws)
  have HNS := hide (HN1.out.below hbws)
  have HQ := hide (hq.below hbws)
  have hws : WS.heap.size = w1.heap.size + 1 := by rw [hWS]; simp
  have HWZ := hide hws
  clear hat hq hso hs e0 hok hE hWS hbws hws
  by_cases h3 : k < 0
  · have e1 : stripE zs ss (I : Int) k n = 6 := by rw [HE0.out, if_pos (.inl h3)]
    have E1 := hide e1
    clear e1
    go_wp2_with fail
    have PZ2 := (HPZ.out.put none 0 0 none 0 0).below (bl_new (.cells #[.slice q.ba q.bl q.bc, .slice q.ra q.rl q.rc, .int .i64 q.kd, .int .i64 q.va, .int .i64 q.pu.arr, .slice q.pu.ca q.pu.cl q.pu.cc, .int .i64 q.pu.con, .slice q.ga q.gl q.gc] 74))
    obtain ⟨x0, x1⟩ := PZ2.cells
    refine bodyPost_ret (v := .tuple #[.agg #[.slice none 0 0, .slice none 0 0], .int .i64 6]) (by simp [results, Try.results18, go_sem, x0, x1]) rfl ⟨⟨none, 0, 0, none, 0, 0, [], [], by rw [show e8 = 6 from HE8.out.trans E1.out], ints_no _, stms_nil _, fun h => absurd (show 6 = (0 : Int) from (HE8.out.trans E1.out).symm.trans h) (by decide), fun _ => ⟨rfl, rfl⟩⟩, ?_⟩
    exact ((HB1.out.setCell (p := ⟨w.heap.size + 1, 0, none⟩) (by simp only; omega) _).setCell (p := ⟨w.heap.size + 1, 1, none⟩) (by simp only; omega) _).alloc (by simpa using HB1.out.size) _
  by_cases h4 : (q.bl : Int) ≤ k
  · have e1 : stripE zs ss (I : Int) k n = 6 := by rw [HE0.out, if_pos (.inr (by rw [hbl]; exact h4))]
    have E1 := hide e1
    clear e1
    go_wp2_with fail
    have PZ2 := (HPZ.out.put none 0 0 none 0 0).below (bl_new (.cells #[.slice q.ba q.bl q.bc, .slice q.ra q.rl q.rc, .int .i64 q.kd, .int .i64 q.va, .int .i64 q.pu.arr, .slice q.pu.ca q.pu.cl q.pu.cc, .int .i64 q.pu.con, .slice q.ga q.gl q.gc] 74))
    obtain ⟨x0, x1⟩ := PZ2.cells
    refine bodyPost_ret (v := .tuple #[.agg #[.slice none 0 0, .slice none 0 0], .int .i64 6]) (by simp [results, Try.results18, go_sem, x0, x1]) rfl ⟨⟨none, 0, 0, none, 0, 0, [], [], by rw [show e8 = 6 from HE8.out.trans E1.out], ints_no _, stms_nil _, fun h => absurd (show 6 = (0 : Int) from (HE8.out.trans E1.out).symm.trans h) (by decide), fun _ => ⟨rfl, rfl⟩⟩, ?_⟩
    exact ((HB1.out.setCell (p := ⟨w.heap.size + 1, 0, none⟩) (by simp only; omega) _).setCell (p := ⟨w.heap.size + 1, 1, none⟩) (by simp only; omega) _).alloc (by simpa using HB1.out.size) _
  obtain ⟨K, rfl⟩ : ∃ K : Nat, k = (K : Int) := ⟨k.toNat, by omega⟩
  by_cases h5 : n < 1
  · have e1 : stripE zs ss (I : Int) (K : Int) n = 4 := by rw [HE0.out, if_neg (by omega), if_pos (.inl h5)]
    have E1 := hide e1
    clear e1
    go_wp2_with fail
    have PZ2 := (HPZ.out.put none 0 0 none 0 0).below (bl_new (.cells #[.slice q.ba q.bl q.bc, .slice q.ra q.rl q.rc, .int .i64 q.kd, .int .i64 q.va, .int .i64 q.pu.arr, .slice q.pu.ca q.pu.cl q.pu.cc, .int .i64 q.pu.con, .slice q.ga q.gl q.gc] 74))
    obtain ⟨x0, x1⟩ := PZ2.cells
    refine bodyPost_ret (v := .tuple #[.agg #[.slice none 0 0, .slice none 0 0], .int .i64 4]) (by simp [results, Try.results18, go_sem, x0, x1]) rfl ⟨⟨none, 0, 0, none, 0, 0, [], [], by rw [show e8 = 4 from HE8.out.trans E1.out], ints_no _, stms_nil _, fun h => absurd (show 4 = (0 : Int) from (HE8.out.trans E1.out).symm.trans h) (by decide), fun _ => ⟨rfl, rfl⟩⟩, ?_⟩
    exact ((HB1.out.setCell (p := ⟨w.heap.size + 1, 0, none⟩) (by simp only; omega) _).setCell (p := ⟨w.heap.size + 1, 1, none⟩) (by simp only; omega) _).alloc (by simpa using HB1.out.size) _
  by_cases h6 : 4096 < n
  · have e1 : stripE zs ss (I : Int) (K : Int) n = 4 := by rw [HE0.out, if_neg (by omega), if_pos (.inr h6)]
    have E1 := hide e1
    clear e1
    go_wp2_with fail
    have PZ2 := (HPZ.out.put none 0 0 none 0 0).below (bl_new (.cells #[.slice q.ba q.bl q.bc, .slice q.ra q.rl q.rc, .int .i64 q.kd, .int .i64 q.va, .int .i64 q.pu.arr, .slice q.pu.ca q.pu.cl q.pu.cc, .int .i64 q.pu.con, .slice q.ga q.gl q.gc] 74))
    obtain ⟨x0, x1⟩ := PZ2.cells
    refine bodyPost_ret (v := .tuple #[.agg #[.slice none 0 0, .slice none 0 0], .int .i64 4]) (by simp [results, Try.results18, go_sem, x0, x1]) rfl ⟨⟨none, 0, 0, none, 0, 0, [], [], by rw [show e8 = 4 from HE8.out.trans E1.out], ints_no _, stms_nil _, fun h => absurd (show 4 = (0 : Int) from (HE8.out.trans E1.out).symm.trans h) (by decide), fun _ => ⟨rfl, rfl⟩⟩, ?_⟩
    exact ((HB1.out.setCell (p := ⟨w.heap.size + 1, 0, none⟩) (by simp only; omega) _).setCell (p := ⟨w.heap.size + 1, 1, none⟩) (by simp only; omega) _).alloc (by simpa using HB1.out.size) _
  obtain ⟨M, rfl⟩ : ∃ M : Nat, n = (M : Int) := ⟨n.toNat, by omega⟩
  have e1 : stripE zs ss (I : Int) (K : Int) (M : Int) = nestE zs (ss.set I (stripS s K M)) := by rw [HE0.out, if_neg (by omega), if_neg (by omega), Int.toNat_natCast, Int.toNat_natCast]
  have HEQ := hide (HE8.out.trans e1)
  clear e1 HE0
  go_upto_region 11 with fail
  rw [← HWS.out]
  have HNZ := hide (And.intro q0 q1)
  obtain ⟨k0, k1, k2, k3, k4, k5, k6, k7⟩ := HQB.out.cells
  have zk := HQB.out.lt
  generalize decide ((I : Int) < 0) = d1
  generalize decide ((K : Int) < 0) = d2
  generalize decide ((M : Int) < 1) = d3
  have hsm : I < tl ∧ K < q.bl ∧ 1 ≤ M ∧ M ≤ 4096 := by omega
  have HSM := hide hsm
  have HLL := hide (And.intro hsl (And.intro hbl hw1))
  have HKL : Hid (K < s.put.2.1.length ∧ s.put.2.1.length ≤ 4) := by
    have h1 := HSO.out.put.len
    have h2 := (ptE_ok HSO.out.pt).rank
    rw [Hid]
    omega
  clear n0 n1 zn q0 q1 zq g0 g1 c0 c1 c2 c3 c4 c5 c6 c7 zc0 h1 h2 h3 h4 h5 h6 hIz hsm hIl hi hk hn hsl hbl hw1
  have HCP : Hid (∀ V, Below WS.heap.size WS V → Calls Try.prog 51 #[.agg #[.slice q.pu.ca q.pu.cl q.pu.cc, .int .i64 q.pu.con], .int .i64 (K : Int), .int .i64 (M : Int)] V fun e w' => (∃ u, e = .returned (.agg #[u, .int .i64 q.pu.con]) ∧ (⟨u, 3, 1, (stripR K M s.put.2).1.length, ivs (stripR K M s.put.2).1⟩ : Mb).own w' WS.heap.size) ∧ Below V.heap.size V w' ∧ Below WS.heap.size WS w') := fun V hV => by
    have hg := HQ.out.put.below hV
    have hcl : q.pu.cl = s.put.2.1.length := hg.coef.1.symm
    have h4 := HKL.out
    have := rStripped_any q.pu.ca q.pu.cl q.pu.cc q.pu.con s.put.2.1 K M V hg.coef (fun x hx => by have := HSO.out.put.coef x hx; omega) (by omega) (HSM.out.2.2.2) (by omega)
    refine this.mono ?_
    rintro e w' ⟨⟨u, rfl, hu⟩, hb⟩
    refine ⟨⟨u, rfl, hu.1, ?_⟩, hb, bl_on hV hb⟩
    rcases hu.2 with h5 | ⟨g, cap, cur, e1, e2, e3⟩
    · exact .inl h5
    · exact .inr ⟨g, cap, cur, e1, Nat.le_trans hV.size e2, e3⟩
  have HLP : Hid (0 < (stripR K M s.put.2).1.length) := by rw [Hid]; unfold stripR; simp; omega
  obtain ⟨LP, hLP⟩ : ∃ LP, LP = (stripR K M s.put.2).1 := ⟨_, rfl⟩
  rw [← hLP] at HCP HLP
  have HLPE := hide hLP
  clear hLP
  refine region_made 16 17 [fIs (.pointer (some ⟨w1.heap.size, 2, none⟩)), fIs (.int .i64 q.kd), fIs (.pointer (some ⟨w1.heap.size, 3, none⟩)), fIs (.int .i64 q.va), fIs (.pointer (some ⟨w1.heap.size, 4, none⟩)), fIs (.pointer (some ⟨w1.heap.size, 4, none⟩)), fIs (.int .i64 q.pu.arr), fIs (.pointer (some ⟨w1.heap.size, 4, none⟩)), fIs (.pointer (some ⟨w1.heap.size, 5, none⟩)), fIs (.agg #[.slice q.pu.ca q.pu.cl q.pu.cc, .int .i64 q.pu.con]), fIs (.int .i64 (K : Int)), fIs (.int .i64 (M : Int)), fPutR WS.heap.size q.pu.con LP, fAccR WS.heap.size q.pu.arr q.pu.con LP, fStmR WS.heap.size q.kd q.va q.pu.arr q.pu.con LP, fNewS WS.heap.size] (by kernel_rfl) (by kernel_rfl) (by kernel_rfl) (fun _ ⟨_, _⟩ ⟨_, _⟩ _ e h => by cases e; exact h) ⟨fIs_good _, fIs_good _, fIs_good _, fIs_good _, fIs_good _, fIs_good _, fIs_good _, fIs_good _, fIs_good _, fIs_good _, fIs_good _, fIs_good _, fPutR_good _ _ _, fAccR_good _ _ _ _, fStmR_good _ _ _ _ _ _, fNewS_good _, trivial⟩ ?mk ?rest
  case mk =>
    refine ⟨fun u wz hb hd => ?_, fun u wz hb hd => ?_, fun u wz hb hd => ?_, fun u wz hb hd => ?_, fun u wz hb hd => ?_, fun u wz hb hd => ?_, fun u wz hb hd => ?_, fun u wz hb hd => ?_, fun u wz hb hd => ?_, fun u wz hb hd => ?_, fun u wz hb hd => ?_, fun u wz hb hd => ?_, fun u wz hb hd => ?_, fun u wz hb hd => ?_, fun u wz hb hd => ?_, fun u wz hb hd => ?_, trivial⟩
    all_goals simp only [Act.put, List.setIfInBounds_toArray, List.set_cons_zero, List.set_cons_succ]
    · go_simp
      exact ⟨rfl, Below.refl _ _, fun h => by cases h⟩
    · have e0 : u 0 = .pointer (some ⟨w1.heap.size, 2, none⟩) := hd 0 (by omega) (by kernel_rfl)
      rw [e0]
      have k2' := (hb.cell (p := ⟨w1.heap.size, 2, none⟩) (lt_of_cell k2)).trans k2
      go_simp
      exact ⟨rfl, Below.refl _ _, fun h => by cases h⟩
    · go_simp
      exact ⟨rfl, Below.refl _ _, fun h => by cases h⟩
    · have e2 : u 2 = .pointer (some ⟨w1.heap.size, 3, none⟩) := hd 2 (by omega) (by kernel_rfl)
      rw [e2]
      have k3' := (hb.cell (p := ⟨w1.heap.size, 3, none⟩) (lt_of_cell k3)).trans k3
      go_simp
      exact ⟨rfl, Below.refl _ _, fun h => by cases h⟩
    · go_simp
      exact ⟨rfl, Below.refl _ _, fun h => by cases h⟩
    · have e4 : u 4 = .pointer (some ⟨w1.heap.size, 4, none⟩) := hd 4 (by omega) (by kernel_rfl)
      rw [e4]
      go_simp
      exact ⟨rfl, Below.refl _ _, fun h => by cases h⟩
    · have e5 : u 5 = .pointer (some ⟨w1.heap.size, 4, none⟩) := hd 5 (by omega) (by kernel_rfl)
      rw [e5]
      have k4' := (hb.cell (p := ⟨w1.heap.size, 4, none⟩) (lt_of_cell k4)).trans k4
      go_simp
      exact ⟨rfl, Below.refl _ _, fun h => by cases h⟩
    · go_simp
      exact ⟨rfl, Below.refl _ _, fun h => by cases h⟩
    · have e7 : u 7 = .pointer (some ⟨w1.heap.size, 4, none⟩) := hd 7 (by omega) (by kernel_rfl)
      rw [e7]
      go_simp
      exact ⟨rfl, Below.refl _ _, fun h => by cases h⟩
    · have e8 : u 8 = .pointer (some ⟨w1.heap.size, 5, none⟩) := hd 8 (by omega) (by kernel_rfl)
      rw [e8]
      have k5' := (hb.cell (p := ⟨w1.heap.size, 5, none⟩) (lt_of_cell k5)).trans k5
      have k6' := (hb.cell (p := ⟨w1.heap.size, 6, none⟩) (lt_of_cell k6)).trans k6
      go_simp
      exact ⟨rfl, Below.refl _ _, fun h => by cases h⟩
    · go_simp
      exact ⟨rfl, Below.refl _ _, fun h => by cases h⟩
    · go_simp
      exact ⟨rfl, Below.refl _ _, fun h => by cases h⟩
    · have e9 : u 9 = .agg #[.slice q.pu.ca q.pu.cl q.pu.cc, .int .i64 q.pu.con] := hd 9 (by omega) (by kernel_rfl)
      have e10 : u 10 = .int .i64 (K : Int) := hd 10 (by omega) (by kernel_rfl)
      have e11 : u 11 = .int .i64 (M : Int) := hd 11 (by omega) (by kernel_rfl)
      rw [e9, e10, e11]
      go_simp
      refine (HCP.out wz hb).mono ?_
      rintro e w2 ⟨⟨x, rfl, hx⟩, hb2, _⟩
      exact ⟨⟨x, rfl, hx⟩, hb2, fun h => by cases h⟩
    · have e6 : u 6 = .int .i64 q.pu.arr := hd 6 (by omega) (by kernel_rfl)
      obtain ⟨x2, e12, h12⟩ := hd 12 (by omega) (by kernel_rfl)
      rw [e6, e12]
      go_simp
      exact ⟨⟨x2, rfl, h12⟩, Below.refl _ _, fun h => by cases h⟩
    · have e1 : u 1 = .int .i64 q.kd := hd 1 (by omega) (by kernel_rfl)
      have e3 : u 3 = .int .i64 q.va := hd 3 (by omega) (by kernel_rfl)
      obtain ⟨x3, e13, h13⟩ := hd 13 (by omega) (by kernel_rfl)
      rw [e1, e3, e13]
      go_simp
      exact ⟨⟨x3, rfl, h13⟩, Below.refl _ _, fun h => by cases h⟩
    · go_simp
      exact ⟨⟨_, rfl, World.alloc_heap_new _ _, hb.size⟩, bl_new _, fun h => by cases h⟩
  case rest =>
    intro u wz hb hf hp
    have f0 : u 0 = .pointer (some ⟨w1.heap.size, 2, none⟩) := hf 0 (by omega)
    have f1 : u 1 = .int .i64 q.kd := hf 1 (by omega)
    have f2 : u 2 = .pointer (some ⟨w1.heap.size, 3, none⟩) := hf 2 (by omega)
    have f3 : u 3 = .int .i64 q.va := hf 3 (by omega)
    have f4 : u 4 = .pointer (some ⟨w1.heap.size, 4, none⟩) := hf 4 (by omega)
    have f5 : u 5 = .pointer (some ⟨w1.heap.size, 4, none⟩) := hf 5 (by omega)
    have f6 : u 6 = .int .i64 q.pu.arr := hf 6 (by omega)
    have f7 : u 7 = .pointer (some ⟨w1.heap.size, 4, none⟩) := hf 7 (by omega)
    have f8 : u 8 = .pointer (some ⟨w1.heap.size, 5, none⟩) := hf 8 (by omega)
    have f9 : u 9 = .agg #[.slice q.pu.ca q.pu.cl q.pu.cc, .int .i64 q.pu.con] := hf 9 (by omega)
    have f10 : u 10 = .int .i64 (K : Int) := hf 10 (by omega)
    have f11 : u 11 = .int .i64 (M : Int) := hf 11 (by omega)
    obtain ⟨_, f12, _⟩ := hf 12 (by omega)
    obtain ⟨_, f13, _⟩ := hf 13 (by omega)
    obtain ⟨up, f14, hup⟩ := hf 14 (by omega)
    obtain ⟨gt, f15, hgt, hgn⟩ := hf 15 (by omega)
    refine UptoW.rest 1 16 (by rfl) (by kernel_rfl) ?_
    simp only [List.take, List.drop, putOps, Act.put, List.setIfInBounds_toArray, List.set_cons_zero, List.set_cons_succ, Nat.reduceAdd, f0, f1, f2, f3, f4, f5, f6, f7, f8, f9, f10, f11, f12, f13, f14, f15]
    clear f0 f1 f2 f3 f4 f5 f6 f7 f8 f9 f10 f11 f12 f13 f14 f15 hf hp
    obtain ⟨ug, uc, hue⟩ := hup.slice HLP.out
    simp only at hue
    subst hue
    have HUP := hide hup
    have HGT := hide hgt
    have HBZ := hide hb
    have HGN := hide hgn
    obtain ⟨y0, yf, yz⟩ := zero8 hgt
    clear hup hgt hb hgn k0 k1 k2 k3 k4 k5 k6 k7 zk
    refine wpList_plain rfl (fun KK hKK => ?_)
    go_simp
    refine hKK _ _ (wpList_nil ?_)
    clear hKK KK
    obtain ⟨W3, hW3⟩ : ∃ W3, W3 = (((((((wz.setCell ⟨gt, 0, none⟩ (.slice none 0 0)).setCell ⟨gt, 1, none⟩ (.slice none 0 0)).setCell ⟨gt, 2, none⟩ (.int .i64 q.kd)).setCell ⟨gt, 3, none⟩ (.int .i64 q.va)).setCell ⟨gt, 4, none⟩ (.int .i64 q.pu.arr)).setCell ⟨gt, 5, none⟩ (.slice (some ⟨ug, 0, none⟩) LP.length uc)).setCell ⟨gt, 6, none⟩ (.int .i64 q.pu.con)).setCell ⟨gt, 7, none⟩ (.slice none 0 0) := ⟨_, rfl⟩
    rw [← hW3]
    have hoth : ∀ x, x ≠ gt → W3.heap[x]? = wz.heap[x]? := fun x hx => by rw [hW3]; exact stored8_oth _ _ _ _ _ _ _ _ x hx
    have HBX3 : Hid (W3.heap[gt]? = some (.cells #[.slice none 0 0, .slice none 0 0, .int .i64 q.kd, .int .i64 q.va, .int .i64 q.pu.arr, .slice (some ⟨ug, 0, none⟩) LP.length uc, .int .i64 q.pu.con, .slice none 0 0] 74 (0, 0))) := by rw [Hid, hW3]; exact stored8 HGT.out _ _ _ _ _ _ _ _
    have hsz3 : W3.heap.size = wz.heap.size := by rw [hW3]; simp
    have hugt : ug ≠ gt := fun e => by
      rcases HUP.out.2 with ⟨e1, _⟩ | ⟨g', cap, cur, e1, _, e3, _⟩
      · cases e1
      · simp only [Value.slice.injEq, Option.some.injEq, Addr.mk.injEq] at e1
        rw [← e1.1.1, e, HGT.out] at e3
        simp only [Option.some.injEq, Obj.cells.injEq] at e3
        exact absurd e3.2.1 (by decide)
    have HUP3 : Hid ((⟨.slice (some ⟨ug, 0, none⟩) LP.length uc, 3, 1, LP.length, ivs LP⟩ : Mb).own W3 WS.heap.size) := HUP.out.keep fun g e _ => by
      have e2 : ug = g := by simpa [Value.ownBlock] using e
      exact hoth g (by omega)
    have HB3 : Hid (Below WS.heap.size WS W3) := by
      have hg := HGN.out
      rw [Hid, hW3]
      exact (((((((HBZ.out.setCell (p := ⟨gt, 0, none⟩) hg _).setCell (p := ⟨gt, 1, none⟩) hg _).setCell (p := ⟨gt, 2, none⟩) hg _).setCell (p := ⟨gt, 3, none⟩) hg _).setCell (p := ⟨gt, 4, none⟩) hg _).setCell (p := ⟨gt, 5, none⟩) hg _).setCell (p := ⟨gt, 6, none⟩) hg _).setCell (p := ⟨gt, 7, none⟩) hg _
    clear hW3 hoth hsz3 hugt y0 yf yz HUP HGT HBZ
    have hq3 := HQB.out.below HB3.out
    have k0 := hq3.cells.1
    have zk := hq3.lt
    obtain ⟨bb, bo, hba, _, hbc⟩ := (HQ.out.below HB3.out).box.1.at (show 0 < q.bl by have := HSM.out.2.1; omega)
    have bK0 := hbc K HSM.out.2.1
    obtain ⟨bK, hbK⟩ : ∃ x, x = s.box[K]?.getD 0 := ⟨_, rfl⟩
    rw [← hbK] at bK0
    have HBK := hide hbK
    have hbKb : 0 ≤ bK ∧ bK ≤ 4096 := by
      rw [hbK]
      refine (ptE_ok HSO.out.pt).dims _ ?_
      have h1 := HLL.out.2.1
      have h2 := HSM.out.2.1
      simp [show K < s.box.length by omega]
    have zb := lt_of_cell bK0
    simp only at zb
    have hKz : (K : Int) < (q.bl : Int) := by have := HSM.out.2.1; omega
    have hw1 : IntKind.i64.wrap (bK - 1) = bK - 1 := by rw [IntKind.wrap_i64]; omega
    rw [hba] at k0
    have HBA := hide hba
    clear hq3 hbc hba hbK
    go_upto_region 13 with fail
    have HF4 := hide (tM_start (W3 := W3) (B := WS.heap.size) ⟨gt, W3.heap.size, q.kd, q.va, q.pu.arr, q.pu.con, bK - 1, .slice (some ⟨ug, 0, none⟩) LP.length uc, LP⟩ HBX3.out HUP3.out HGN.out rfl HB3.out.size)
    have HB4 := hide (bl_on HB3.out (bl_new (.cells #[.slice none 0 0, .int .i64 (bK - 1)] 51)))
    obtain ⟨gl, hgl⟩ : ∃ gl, gl = W3.heap.size := ⟨_, rfl⟩
    rw [← hgl] at HF4 ⊢
    obtain ⟨W4, hW4⟩ : ∃ W4, W4 = W3.alloc (.cells #[.slice none 0 0, .int .i64 (bK - 1)] 51) := ⟨_, rfl⟩
    rw [← hW4] at HF4 HB4 ⊢
    obtain ⟨u0, hu0⟩ : ∃ u0 : Value, u0 = .slice (some ⟨ug, 0, none⟩) LP.length uc := ⟨_, rfl⟩
    rw [← hu0] at HF4
    have hq4 := HQB.out.below HB4.out
    clear k0 zk
    have k0 := hq4.cells.1
    have zk := hq4.lt
    rw [HBA.out] at k0
    clear hq4 hW4 hgl bK0 zb hw1 HBX3
    obtain ⟨mid, hmid⟩ : ∃ mid : List Int, mid = [(ceilN bK.toNat M : Int), (M : Int)] := ⟨_, rfl⟩
    have HMID := hide hmid
    have HM2 : Hid (mid.length = 2) := by rw [hmid]; rfl
    clear hmid hu0
    go_wp2_with fail
    go_loopw [89] (fun vj wr => ∃ (j : Nat) (V : TV), j ≤ q.bl ∧ vj = .int .i64 j ∧ BLs WS ⟨gt, gl, q.kd, q.va, q.pu.arr, q.pu.con, bK - 1, u0, LP⟩ K mid M s.box j V wr) (fun vj _ => q.bl - (intOf vj).toNat)
    case atStart => exact ⟨0, tV0, Nat.zero_le _, rfl, ⟨rfl, rfl, ⟨rfl, rfl, rfl⟩, ⟨rfl, rfl, rfl⟩, HF4.out, HB4.out⟩⟩
    case round =>
      obtain ⟨j, V, hj, rfl, hbl2⟩ := hrel
      have HBL := hide hbl2
      have HF := hide hbl2.fam
      have HBR := hide hbl2.bel
      clear hbl2 k0 zk
      have hlb : V.lb.length ≤ 10000 := by rw [HBL.out.lb]; have h1 := gTo_len (k := K) (xs := s.box) HM2.out j; have h2 := (ptE_ok HSO.out.pt).rank; have h3 := HLL.out.2.1; omega
      have hlc : V.lc.length ≤ 10000 := by rw [HBL.out.lc]; have h1 := gTo_len (k := K) (mid := [-(M : Int), -1]) (xs := s.box.map fun _ => 0) rfl j; have h2 := (ptE_ok HSO.out.pt).rank; have h3 := HLL.out.2.1; omega
      have y0 : wr.cell? ⟨gt, 0, none⟩ = some V.ub := (tM_cells HF.out (by omega) 0).1
      have yz : gt < wr.heap.size := (tM_cells HF.out (by omega) 0).2.2
      have HSZ := hide HBR.out.size
      have hq4 : q.bl ≤ 4 := by have h2 := (ptE_ok HSO.out.pt).rank; have h3 := HLL.out.2.1; omega
      have HLB : Hid (V.lb.length + 1 ≤ 1000000000 ∧ V.lb.length + 2 ≤ 1000000000) := by rw [Hid]; omega
      have HLC : Hid (V.lc.length + 1 ≤ 1000000000 ∧ V.lc.length + 2 ≤ 1000000000) := by rw [Hid]; omega
      clear hlb hlc
      by_cases hjl : j < q.bl
      · obtain ⟨b5, o5, e5, _, hbc⟩ := (HQ.out.below HBR.out).box.1.at (show 0 < q.bl by omega)
        rw [HBA.out] at e5
        cases e5
        have bj := hbc j hjl
        obtain ⟨x, hx⟩ : ∃ x, x = s.box[j]?.getD 0 := ⟨_, rfl⟩
        rw [← hx] at bj
        have HXX := hide hx
        have zb := lt_of_cell bj
        simp only at zb
        have hjz : (j : Int) < (q.bl : Int) := by omega
        have HJL := hide hjl
        clear hbc hx
        by_cases hjK : j = K
        · have hE : ((j : Int) != (K : Int)) = false := by simp; omega
          have hxb : x = bK := by rw [HXX.out, HBK.out, hjK]
          have HJK := hide hjK
          clear hjK
          subst hxb
          have hM1 : 1 ≤ M ∧ M ≤ 4096 := HSM.out.2.2
          go_wp2_with fail
          go_loop [16] (fun v16 => ∃ t : Nat, v16 = .int .i64 t ∧ t ≤ 4096 ∧ (t = 0 ∨ (t - 1) * M < x.toNat)) (fun v16 => 4097 - (intOf v16).toNat)
          case atStart => exact ⟨0, rfl, by omega, .inl rfl⟩
          case round =>
            obtain ⟨t, rfl, ht, hpre⟩ := hrel
            have HPRE := hide hpre
            clear hpre
            have hmul : t * M ≤ 4096 * 4096 := Nat.mul_le_mul ht hM1.2
            obtain ⟨P, hP⟩ : ∃ P : Nat, P = t * M := ⟨_, rfl⟩
            have hw2 : IntKind.i64.wrap ((t : Int) * (M : Int)) = (P : Int) := by rw [IntKind.wrap_i64, hP]; have : ((t * M : Nat) : Int) = (t : Int) * (M : Int) := by simp
                                                                                  omega
            rw [← hP] at hmul
            have HP := hide hP
            clear hP
            by_cases hlt : (P : Int) < x
            · have ht2 : t < 4096 := by
                have h1 := HP.out
                have h2 : t ≤ t * M := Nat.le_mul_of_pos_right t (by omega)
                omega
              go_wp2_with fail
              go_round
              case rel => exact ⟨t + 1, by go_num, by omega, .inr (by have h1 := HP.out; rw [Nat.add_sub_cancel, ← h1]; omega)⟩
              case measure => simp [intOf]; omega
            · have HT : Hid ((t : Int) = (ceilN x.toNat M : Int)) := by
                have h1 := ceil_is (b := x.toNat) (M := M) (t := t) (by omega) (by rw [← HP.out]; omega) HPRE.out
                rw [Hid, ← h1]
              have HMD : Hid (mid = [(t : Int), (M : Int)]) := by rw [Hid, HMID.out, ← HT.out]
              go_wp2_with (first
                | (at_builtin; refine append_fmN rfl (.tmp 127) (.tmp 130) 22 3 _ 1 8 rfl Try.underlying22 info_int rfl (by decide) (by decide) WS.heap.size 7 _ HG1.out 4 (by omega) ⟨V.uc, 3, 1, V.lc.length, ivs V.lc⟩ rfl rfl rfl rfl #[.int .i64 (-(M : Int)), .int .i64 (-1)] 2 rfl (by simp [Value.oneCell']) w_.heap.size (by first | rfl | simp) rfl HLC.out.2 HSZ1.out ?_; intro v_ w_ hF2 hb2; obtain ⟨g2, c2, hgv⟩ := (hF2.row 4 (by omega)).slice (by simp [upF]); simp only [upF_eq] at hgv; subst hgv; have hbx := boxM.cells (hF2.row 2 (by omega) : (boxM gl 51 [V.uc, .int .i64 (x - 1)]).own w_ WS.heap.size) 0; have x0 : w_.cell? ⟨gl, 0, none⟩ = some V.uc := hbx.1; have xf := hbx.2.1; have xz := hbx.2.2; have HG2 := hide ((hF2.store (k := 2) (g := gl) (i := 0) (x := .slice (some ⟨g2, 0, none⟩) (V.lc.length + 2) c2) (by omega) rfl).congr fun i _ => tM_last ⟨gt, gl, q.kd, q.va, q.pu.arr, q.pu.con, x - 1, u0, LP⟩ { V with ub := .slice (some ⟨g1, 0, none⟩) (V.lb.length + 2) c1, lb := V.lb ++ [(t : Int), (M : Int)] } (.slice (some ⟨g2, 0, none⟩) (V.lc.length + 2) c2) [-(M : Int), -1] i); have HBG2 := hide ((HBG1.out.trans hb2).setCell (p := ⟨gl, 0, none⟩) (Nat.le_trans (hF2.row 2 (by omega) : (boxM gl 51 [V.uc, .int .i64 (x - 1)]).own w_ WS.heap.size).base0 (Nat.le_refl _)) (.slice (some ⟨g2, 0, none⟩) (V.lc.length + 2) c2)); clear hbx hF2 hb2)
                | (at_builtin; refine append_fmN rfl (.tmp 119) (.tmp 122) 22 3 _ 1 8 rfl Try.underlying22 info_int rfl (by decide) (by decide) WS.heap.size 7 _ HF.out 3 (by omega) ⟨V.ub, 3, 1, V.lb.length, ivs V.lb⟩ rfl rfl rfl rfl #[.int .i64 (t : Int), .int .i64 (M : Int)] 2 rfl (by simp [Value.oneCell']) wr.heap.size (by first | rfl | simp) rfl HLB.out.2 HSZ.out ?_; intro v_ w_ hF2 hb2; obtain ⟨g1, c1, hgv⟩ := (hF2.row 3 (by omega)).slice (by simp [upF]); simp only [upF_eq] at hgv; subst hgv; have hbx := boxM.cells (hF2.row 0 (by omega) : (boxM gt 74 (tCs ⟨gt, gl, q.kd, q.va, q.pu.arr, q.pu.con, x - 1, u0, LP⟩ V)).own w_ WS.heap.size) 0; have x0 : w_.cell? ⟨gt, 0, none⟩ = some V.ub := hbx.1; have xf := hbx.2.1; have xz := hbx.2.2; have HG1 := hide ((hF2.store (k := 0) (g := gt) (i := 0) (x := .slice (some ⟨g1, 0, none⟩) (V.lb.length + 2) c1) (by omega) rfl).congr fun i _ => tM_box ⟨gt, gl, q.kd, q.va, q.pu.arr, q.pu.con, x - 1, u0, LP⟩ V (.slice (some ⟨g1, 0, none⟩) (V.lb.length + 2) c1) [(t : Int), (M : Int)] i); have HBG1 := hide ((HBR.out.trans hb2).setCell (p := ⟨gt, 0, none⟩) (Nat.le_trans (hF2.row 0 (by omega) : (boxM gt 74 (tCs ⟨gt, gl, q.kd, q.va, q.pu.arr, q.pu.con, x - 1, u0, LP⟩ V)).own w_ WS.heap.size).base0 (Nat.le_refl _)) (.slice (some ⟨g1, 0, none⟩) (V.lb.length + 2) c1)); clear hbx hF2 hb2; have l0 : (w_.setCell ⟨gt, 0, none⟩ (.slice (some ⟨g1, 0, none⟩) (V.lb.length + 2) c1)).cell? ⟨gl, 0, none⟩ = some V.uc := (tM_lcells HG1.out (by omega) 0).1; have lz := (tM_lcells HG1.out (by omega) 0).2.2; have HSZ1 := hide HBG1.out.size))
              go_roundw
              case rel =>
                have h9 := HJL.out
                refine ⟨j + 1, { V with ub := .slice (some ⟨g1, 0, none⟩) (V.lb.length + 2) c1, lb := V.lb ++ [(t : Int), (M : Int)], uc := .slice (some ⟨g2, 0, none⟩) (V.lc.length + 2) c2, lc := V.lc ++ [-(M : Int), -1] }, ?_, by go_num, ?_, ?_, HBL.out.ur, HBL.out.ug, HG2.out, HBG2.out⟩
                · have h9 := HJL.out
                  omega
                · show V.lb ++ [(t : Int), (M : Int)] = _
                  rw [gTo, if_pos HJK.out, ← HMD.out, ← HBL.out.lb]
                · show V.lc ++ [-(M : Int), -1] = _
                  rw [gTo, if_pos HJK.out, ← HBL.out.lc]
              case measure => have h9 := HJL.out; simp [intOf]; omega
        · have hE : ((j : Int) != (K : Int)) = true := by simp; omega
          have HJK := hide hjK
          clear hjK
          go_wp2_with (first
            | (at_builtin; refine append_fmN rfl (.tmp 106) (.tmp 107) 22 3 _ 1 8 rfl Try.underlying22 info_int rfl (by decide) (by decide) WS.heap.size 7 _ HG1.out 4 (by omega) ⟨V.uc, 3, 1, V.lc.length, ivs V.lc⟩ rfl rfl rfl rfl #[.int .i64 0] 1 rfl (by simp [Value.oneCell']) w_.heap.size (by first | rfl | simp) rfl HLC.out.1 HSZ1.out ?_; intro v_ w_ hF2 hb2; obtain ⟨g2, c2, hgv⟩ := (hF2.row 4 (by omega)).slice (by simp [upF]); simp only [upF_eq] at hgv; subst hgv; have hbx := boxM.cells (hF2.row 2 (by omega) : (boxM gl 51 [V.uc, .int .i64 (bK - 1)]).own w_ WS.heap.size) 0; have x0 : w_.cell? ⟨gl, 0, none⟩ = some V.uc := hbx.1; have xf := hbx.2.1; have xz := hbx.2.2; have HG2 := hide ((hF2.store (k := 2) (g := gl) (i := 0) (x := .slice (some ⟨g2, 0, none⟩) (V.lc.length + 1) c2) (by omega) rfl).congr fun i _ => tM_last ⟨gt, gl, q.kd, q.va, q.pu.arr, q.pu.con, bK - 1, u0, LP⟩ { V with ub := .slice (some ⟨g1, 0, none⟩) (V.lb.length + 1) c1, lb := V.lb ++ [x] } (.slice (some ⟨g2, 0, none⟩) (V.lc.length + 1) c2) [0] i); have HBG2 := hide ((HBG1.out.trans hb2).setCell (p := ⟨gl, 0, none⟩) (Nat.le_trans (hF2.row 2 (by omega) : (boxM gl 51 [V.uc, .int .i64 (bK - 1)]).own w_ WS.heap.size).base0 (Nat.le_refl _)) (.slice (some ⟨g2, 0, none⟩) (V.lc.length + 1) c2)); clear hbx hF2 hb2)
            | (at_builtin; refine append_fmN rfl (.tmp 99) (.tmp 101) 22 3 _ 1 8 rfl Try.underlying22 info_int rfl (by decide) (by decide) WS.heap.size 7 _ HF.out 3 (by omega) ⟨V.ub, 3, 1, V.lb.length, ivs V.lb⟩ rfl rfl rfl rfl #[.int .i64 x] 1 rfl (by simp [Value.oneCell']) wr.heap.size (by first | rfl | simp) rfl HLB.out.1 HSZ.out ?_; intro v_ w_ hF2 hb2; obtain ⟨g1, c1, hgv⟩ := (hF2.row 3 (by omega)).slice (by simp [upF]); simp only [upF_eq] at hgv; subst hgv; have hbx := boxM.cells (hF2.row 0 (by omega) : (boxM gt 74 (tCs ⟨gt, gl, q.kd, q.va, q.pu.arr, q.pu.con, bK - 1, u0, LP⟩ V)).own w_ WS.heap.size) 0; have x0 : w_.cell? ⟨gt, 0, none⟩ = some V.ub := hbx.1; have xf := hbx.2.1; have xz := hbx.2.2; have HG1 := hide ((hF2.store (k := 0) (g := gt) (i := 0) (x := .slice (some ⟨g1, 0, none⟩) (V.lb.length + 1) c1) (by omega) rfl).congr fun i _ => tM_box ⟨gt, gl, q.kd, q.va, q.pu.arr, q.pu.con, bK - 1, u0, LP⟩ V (.slice (some ⟨g1, 0, none⟩) (V.lb.length + 1) c1) [x] i); have HBG1 := hide ((HBR.out.trans hb2).setCell (p := ⟨gt, 0, none⟩) (Nat.le_trans (hF2.row 0 (by omega) : (boxM gt 74 (tCs ⟨gt, gl, q.kd, q.va, q.pu.arr, q.pu.con, bK - 1, u0, LP⟩ V)).own w_ WS.heap.size).base0 (Nat.le_refl _)) (.slice (some ⟨g1, 0, none⟩) (V.lb.length + 1) c1)); clear hbx hF2 hb2; have l0 : (w_.setCell ⟨gt, 0, none⟩ (.slice (some ⟨g1, 0, none⟩) (V.lb.length + 1) c1)).cell? ⟨gl, 0, none⟩ = some V.uc := (tM_lcells HG1.out (by omega) 0).1; have lz := (tM_lcells HG1.out (by omega) 0).2.2; have HSZ1 := hide HBG1.out.size))
          go_roundw
          case rel =>
            have h9 := HJL.out
            refine ⟨j + 1, { V with ub := .slice (some ⟨g1, 0, none⟩) (V.lb.length + 1) c1, lb := V.lb ++ [x], uc := .slice (some ⟨g2, 0, none⟩) (V.lc.length + 1) c2, lc := V.lc ++ [0] }, (by have h9 := HJL.out; omega), by go_num, ?_, ?_, HBL.out.ur, HBL.out.ug, HG2.out, HBG2.out⟩
            · show V.lb ++ [x] = _
              rw [gTo, if_neg HJK.out, ← HXX.out, ← HBL.out.lb]
            · show V.lc ++ [0] = _
              rw [gTo, if_neg HJK.out, ← HBL.out.lc]
              congr 1
              have h1 : j < s.box.length := by have h3 := HLL.out.2.1; omega
              simp [h1]
          case measure => have h9 := HJL.out; simp [intOf]; omega
      · have hjq : j = q.bl := by omega
        subst hjq
        have hjz : ¬ (q.bl : Int) < (q.bl : Int) := by omega
        have k1 := (HQB.out.below HBR.out).cells.2.1
        have zk := (HQB.out.below HBR.out).lt
        obtain ⟨RA, hRA⟩ : ∃ RA, RA = q.ra := ⟨_, rfl⟩
        rw [← hRA] at k1
        have HRA := hide hRA
        clear hRA
        have hnn : V.nr = 0 ∧ V.cr = [] := HBL.out.ur.2
        have HRL0 : Hid (RLs WS ⟨gt, gl, q.kd, q.va, q.pu.arr, q.pu.con, bK - 1, u0, LP⟩ V.lb V.lc K M s.rows 0 V wr) := ⟨rfl, rfl, hnn.1, hnn.2, fun i hi => by omega, HBL.out.ug, HF.out, HBR.out⟩
        obtain ⟨LB, hLB⟩ : ∃ LB, LB = V.lb := ⟨_, rfl⟩
        obtain ⟨LC, hLC⟩ : ∃ LC, LC = V.lc := ⟨_, rfl⟩
        have HLBE : Hid (LB = gTo K mid s.box q.bl) := hLB.trans HBL.out.lb
        have HLCE : Hid (LC = gTo K [-(M : Int), -1] (s.box.map fun _ => 0) q.bl) := hLC.trans HBL.out.lc
        rw [← hLB, ← hLC] at HRL0
        have hr63 : q.rl ≤ 8 := by have h1 := (ptE_ok HSO.out.pt).many; have h2 := HQ.out.rows.1; omega
        clear hnn hLB hLC y0 yz HLB HLC HBL HF HSZ
        go_wp2_with fail
        go_loopw [138] (fun vj wr => ∃ (i : Nat) (V : TV), i ≤ q.rl ∧ vj = .int .i64 i ∧ RLs WS ⟨gt, gl, q.kd, q.va, q.pu.arr, q.pu.con, bK - 1, u0, LP⟩ LB LC K M s.rows i V wr) (fun vj _ => q.rl - (intOf vj).toNat)
        case atStart => exact ⟨0, V, Nat.zero_le _, rfl, HRL0.out⟩
        case round =>
          clear HRL0 HBR k1 zk V
          obtain ⟨i, V, hi, rfl, hrl⟩ := hrel
          have HRL := hide hrl
          clear hrl
          by_cases hil : i < q.rl
          · have hiz : (i : Int) < (q.rl : Int) := by omega
            obtain ⟨b6, o6, hra, hrc⟩ := HQ.out.rows.2.2.resolve_left (by omega)
            obtain ⟨xa, xl, xc, r0S, r1S, hxs, _, _⟩ := hrc i hil
            have r0 := (HRL.out.bel.cell (p := ⟨b6, o6 + i * 2, none⟩) (lt_of_cell r0S)).trans r0S
            have r1 := (HRL.out.bel.cell (p := ⟨b6, o6 + i * 2 + 1, none⟩) (lt_of_cell r1S)).trans r1S
            clear r0S r1S
            obtain ⟨rw_, hrw⟩ : ∃ r, r = s.rows[i]?.getD ([], 0) := ⟨_, rfl⟩
            rw [← hrw] at r1 hxs
            have HRW := hide hrw
            have zr := lt_of_cell r0
            simp only at zr
            have hrok := (ptE_ok HSO.out.pt).rows rw_ (by rw [hrw]; have h1 := HQ.out.rows.1; simp [show i < s.rows.length by omega])
            obtain ⟨W6, hW6⟩ : ∃ W6, W6 = wr.alloc (.cells #[.slice xa xl xc, .int .i64 rw_.2] 51) := ⟨_, rfl⟩
            have hb6 : Below wr.heap.size wr W6 := by rw [hW6]; exact bl_new _
            have HBX6 : Hid (W6.heap[wr.heap.size]? = some (.cells #[.slice xa xl xc, .int .i64 rw_.2] 51 (0, 0))) := by rw [Hid, hW6]; exact World.alloc_heap_new _ _
            have HR6 := hide (HRL.out.below hb6)
            have hw6 : W6.heap.size = wr.heap.size + 1 := by rw [hW6]; simp
            obtain ⟨L, hL⟩ : ∃ L, L = (stripR K M rw_).1 := ⟨_, rfl⟩
            have HL0 : Hid (0 < L.length) := by rw [Hid, hL]; unfold stripR; simp; omega
            have HCR : Hid (∀ V', Below WS.heap.size WS V' → Calls Try.prog 51 #[.agg #[.slice xa xl xc, .int .i64 rw_.2], .int .i64 (K : Int), .int .i64 (M : Int)] V' fun e w' => (∃ u, e = .returned (.agg #[u, .int .i64 rw_.2]) ∧ w'.ownsRow V'.heap.size 3 1 u L.length (ivs L)) ∧ Below V'.heap.size V' w') := fun V' hV => by
              have h4 := HSM.out
              have h5 : xl = q.bl := by have h6 := hxs.1; have h7 := hrok.1; have h8 := HLL.out.2.1; omega
              have := rStripped_any xa xl xc rw_.2 rw_.1 K M V' (hxs.below hV) (fun x hx => by have := hrok.2.2 x hx; omega) (by omega) h4.2.2.2 (by omega)
              rw [hL]
              exact this
            have hra2 : RA = some ⟨b6, o6, none⟩ := HRA.out.trans hra
            subst hra2
            have HW6 := hide hW6
            have HLQ := hide hL
            have HZ6 : Hid (wr.heap.size < W6.heap.size) := by rw [Hid]; omega
            have HN6 : Hid (some wr.heap.size ≠ V.ur.ownBlock) := fun e => by
              have h7 := ((HRL.out.fam.row 5 (by omega)).at e.symm).2
              omega
            have k1 := (HQB.out.below HRL.out.bel).cells.2.1
            have zk := (HQB.out.below HRL.out.bel).lt
            clear hra hrc hW6 hb6 hw6 hL hrw hxs hrok
            go_upto_region 28 with fail
            rw [← HW6.out]
            clear r0 r1 zr k1 zk
            refine region_madeR (fun a b => a.grownBy b V.ur.ownBlock) (fun _ _ _ h k => or_grown_trans _ _ _ h k) (fun _ _ h => or_grown_of _ _ h) 8 11 13 [fIs (.pointer (some ⟨gt, 0, none⟩)), fIs (.pointer (some ⟨gt, 1, none⟩)), fIs V.ur, fIs (.agg #[.slice xa xl xc, .int .i64 rw_.2]), fIs (.int .i64 (K : Int)), fIs (.int .i64 (M : Int)), fStr WS.heap.size W6.heap.size V.ur.ownBlock rw_.2 L, fBxR WS.heap.size W6.heap.size V.ur.ownBlock rw_.2 L, fApR WS.heap.size W6.heap.size V.ur.ownBlock rw_.2 L i V.cr, fIs (.pointer (some ⟨gt, 0, none⟩)), fIs (.pointer (some ⟨gt, 1, none⟩))] (by kernel_rfl) (by kernel_rfl) (by kernel_rfl) (fun _ ⟨_, _⟩ ⟨_, _⟩ _ e h => by cases e; exact h) ⟨or_is_good _ _ _, or_is_good _ _ _, or_is_good _ _ _, or_is_good _ _ _, or_is_good _ _ _, or_is_good _ _ _, fStr_good _ _ _ _ _, fBxR_good _ _ _ _ _, fApR_good _ _ _ _ _ _ _ _, or_is_good _ _ _, or_is_good _ _ _, trivial⟩ ?mk28 ?rest28
            case mk28 =>
              refine ⟨fun u wz hb hs hd => ?_, fun u wz hb hs hd => ?_, fun u wz hb hs hd => ?_, fun u wz hb hs hd => ?_, fun u wz hb hs hd => ?_, fun u wz hb hs hd => ?_, fun u wz hb hs hd => ?_, fun u wz hb hs hd => ?_, fun u wz hb hs hd => ?_, fun u wz hb hs hd => ?_, fun u wz hb hs hd => ?_, trivial⟩
              all_goals simp only [Act.put, List.setIfInBounds_toArray, List.set_cons_zero, List.set_cons_succ]
              · go_simp
                exact ⟨rfl, St.of (Below.refl _ _) (by decide), fun h => by cases h⟩
              · have e0 : u 0 = .pointer (some ⟨gt, 0, none⟩) := hd 0 (by omega) (by kernel_rfl)
                rw [e0]
                go_simp
                exact ⟨rfl, St.of (Below.refl _ _) (by decide), fun h => by cases h⟩
              · have e1 : u 1 = .pointer (some ⟨gt, 1, none⟩) := hd 1 (by omega) (by kernel_rfl)
                rw [e1]
                obtain ⟨p1, _, p3, _⟩ := HR6.out.keep hb
                simp only at p1 p3
                go_simp
                exact ⟨rfl, St.of (Below.refl _ _) (by decide), fun h => by cases h⟩
              · have q6 := (hb.block wr.heap.size HZ6.out HN6.out).trans HBX6.out
                have p0 := blk2_cell q6 0
                have p1 := blk2_cell q6 1
                have p3 := (Array.getElem?_eq_some_iff.1 q6).1
                simp at p0 p1
                go_simp
                exact ⟨rfl, St.of (Below.refl _ _) (by decide), fun h => by cases h⟩
              · go_simp
                exact ⟨rfl, St.of (Below.refl _ _) (by decide), fun h => by cases h⟩
              · go_simp
                exact ⟨rfl, St.of (Below.refl _ _) (by decide), fun h => by cases h⟩
              · have e3 : u 3 = .agg #[.slice xa xl xc, .int .i64 rw_.2] := hd 3 (by omega) (by kernel_rfl)
                have e4 : u 4 = .int .i64 (K : Int) := hd 4 (by omega) (by kernel_rfl)
                have e5 : u 5 = .int .i64 (M : Int) := hd 5 (by omega) (by kernel_rfl)
                rw [e3, e4, e5]
                go_simp
                refine (HCR.out wz (HR6.out.keep hb).2.2.2).mono ?_
                rintro e w2 ⟨⟨x, rfl, hx⟩, hb2⟩
                exact ⟨⟨x, rfl, own_base hx (Nat.le_trans (HR6.out.bel).size hb.size), fr_of hx hb.size HR6.out⟩, St.of hb2 (by decide), fun h => by cases h⟩
              · obtain ⟨x6, e6, h6, f6⟩ := hd 6 (by omega) (by kernel_rfl)
                obtain ⟨xg, xcap, hxe⟩ := h6.slice HL0.out
                simp only at hxe
                subst hxe
                rw [e6]
                go_simp
                refine ⟨⟨wz.heap.size, _, rfl, World.alloc_heap_new _ _, ?_, h6.below (bl_new _), f6⟩, St.of (bl_new _) (by decide), fun h => by cases h⟩
                intro e
                have h7 := ((HR6.out.fam.row 5 (by omega)).at e.symm).2
                have h8 := hb.size
                omega
              · have e2 : u 2 = V.ur := hd 2 (by omega) (by kernel_rfl)
                obtain ⟨B7, x7, e7, h7, n7, o7, f7⟩ := hd 7 (by omega) (by kernel_rfl)
                obtain ⟨xg, xcap, hxe⟩ := o7.slice HL0.out
                simp only at hxe
                subst hxe
                rw [e2, e7]
                have hbb := hs rfl
                have hown : (⟨V.ur, 51, 2, i, V.cr⟩ : Mb).own wz WS.heap.size := by have h9 := (HR6.out.fam.row 5 (by omega)).below hbb; have h10 := HR6.out.nr; rw [show tM _ V 5 = (⟨V.ur, 51, 2, V.nr, V.cr⟩ : Mb) from rfl, h10] at h9; exact h9
                refine wp_append_rw (.tmp 144) (.tmp 149) rfl WS.heap.size _ i V.cr rfl hown B7 _ rw_.2 rfl h7 rfl (by omega) (Nat.le_trans (HR6.out.bel).size hb.size) (fun v' w3 hS hg ho => ?_)
                refine ⟨v', rfl, ⟨_, hS, ?_, o7.keep (fun g e hlt => hg.block g hlt (f7 g e).2), f7⟩, St.at hg, fun h => by cases h⟩
                rcases ho with ho | ho
                · exact .inl ho
                · exact .inr (fun g hg2 => by rw [ho] at hg2; cases hg2; exact hb.size)
              · go_simp
                exact ⟨rfl, St.of (Below.refl _ _) (by decide), fun h => by cases h⟩
              · have e9 : u 9 = .pointer (some ⟨gt, 0, none⟩) := hd 9 (by omega) (by kernel_rfl)
                rw [e9]
                go_simp
                exact ⟨rfl, St.of (Below.refl _ _) (by decide), fun h => by cases h⟩
            case rest28 =>
              intro u wz hb hf hp
              have f10 : u 10 = .pointer (some ⟨gt, 1, none⟩) := hf 10 (by omega)
              obtain ⟨x8, h8, o8, u8, fr8⟩ := hf 8 (by omega)
              obtain ⟨v8, f8⟩ : ∃ v8, u 8 = v8 := ⟨_, rfl⟩
              rw [f8] at h8 o8
              refine UptoW.rest 1 11 (by rfl) (by kernel_rfl) ?_
              simp only [List.take, List.drop, putOps, Act.put, List.setIfInBounds_toArray, List.set_cons_zero, List.set_cons_succ, Nat.reduceAdd, f10, f8]
              clear f10 f8 hf hp
              obtain ⟨g8, c8, e8v⟩ := h8.slice (by simp)
              simp only at e8v
              subst e8v
              rw [HRW.out] at h8
              rw [HLQ.out, HRW.out] at u8
              have FIN := hide (HR6.out.next hb h8 (by
                rcases o8 with o8 | o8
                · exact .inl o8
                · exact .inr (o8 g8 rfl)) u8 fr8)
              obtain ⟨p1, p2, p3, _⟩ := HR6.out.keep hb
              simp only at p1 p2 p3 FIN
              clear h8 o8 u8 fr8
              refine wpList_plain rfl (fun KK hKK => ?_)
              go_simp
              refine hKK _ _ (wpList_nil ?_)
              clear hKK KK
              go_wp2_with fail
              go_roundw
              case rel =>
                obtain ⟨V', hV'⟩ := FIN.out
                exact ⟨i + 1, V', by omega, by go_num, hV'⟩
              case measure => simp [intOf]; omega
          · have hiq : i = q.rl := by omega
            subst hiq
            have hiz : ¬ (q.rl : Int) < (q.rl : Int) := by omega
            have hlc0 : 0 < V.lc.length := by
              rw [HRL.out.lc, HLCE.out, gTo_gt K _ _ q.bl HSM.out.2.1 (by have h3 := HLL.out.2.1; simp; omega)]
              simp
              omega
            obtain ⟨lg, lcap, hue⟩ := (HRL.out.fam.row 4 (by omega) : (⟨V.uc, 3, 1, V.lc.length, ivs V.lc⟩ : Mb).own wr WS.heap.size).slice hlc0
            have hue : V.uc = .slice (some ⟨lg, 0, none⟩) V.lc.length lcap := hue
            have y1 : wr.cell? ⟨gt, 1, none⟩ = some V.ur := (tM_cells HRL.out.fam (by omega) 1).1
            have yz : gt < wr.heap.size := (tM_cells HRL.out.fam (by omega) 1).2.2
            have l0 : wr.cell? ⟨gl, 0, none⟩ = some V.uc := (tM_lcells HRL.out.fam (by omega) 0).1
            have l1 : wr.cell? ⟨gl, 1, none⟩ = some (.int .i64 (bK - 1)) := (tM_lcells HRL.out.fam (by omega) 1).1
            have lz : gl < wr.heap.size := (tM_lcells HRL.out.fam (by omega) 0).2.2
            rw [hue] at l0
            have HUE := hide hue
            have HNR : Hid (V.nr + 1 ≤ 1000000000) := by rw [Hid, HRL.out.nr]; omega
            have HSZ := hide HRL.out.bel.size
            obtain ⟨GA, hGA⟩ : ∃ GA, GA = q.ga := ⟨_, rfl⟩
            have HK7 : Hid (∀ W', Below WS.heap.size WS W' → W'.cell? ⟨w1.heap.size, 7, none⟩ = some (.slice GA q.gl q.gc) ∧ w1.heap.size < W'.heap.size) := fun W' hb => by
              rw [hGA]
              exact And.intro (HQB.out.below hb).cells.2.2.2.2.2.2.2 (HQB.out.below hb).lt
            have HGA := hide hGA
            clear hGA
            have HFR := hide HRL.out.fam
            clear hue hlc0
            go_wp2_with (at_builtin; refine append_fmN rfl (.tmp 156) (.tmp 158) 48 51 _ 2 32 rfl Try.underlying48 info_R rfl (by decide) (by decide) WS.heap.size (7 + q.rl) _ HFR.out 5 (by omega) ⟨V.ur, 51, 2, V.nr, V.cr⟩ rfl rfl rfl rfl #[.slice (some ⟨lg, 0, none⟩) V.lc.length lcap, .int .i64 (bK - 1)] 1 rfl (by simp [Value.oneCell']) wr.heap.size rfl rfl HNR.out HSZ.out ?_; intro v_ w_ hF2 hb2; obtain ⟨g1, c1, hgv⟩ := (hF2.row 5 (by omega)).slice (by simp [upF]); simp only [upF_eq] at hgv; subst hgv; have hbx := boxM.cells (hF2.row 0 (by omega) : (boxM gt 74 (tCs ⟨gt, gl, q.kd, q.va, q.pu.arr, q.pu.con, bK - 1, u0, LP⟩ V)).own w_ WS.heap.size) 1; have x0 : w_.cell? ⟨gt, 1, none⟩ = some V.ur := hbx.1; have xf := hbx.2.1; have xz := hbx.2.2; have HG1 := hide ((hF2.store (k := 0) (g := gt) (i := 1) (x := .slice (some ⟨g1, 0, none⟩) (V.nr + 1) c1) (by omega) rfl).congr fun i _ => tM_row ⟨gt, gl, q.kd, q.va, q.pu.arr, q.pu.con, bK - 1, u0, LP⟩ V (.slice (some ⟨g1, 0, none⟩) (V.nr + 1) c1) [.slice (some ⟨lg, 0, none⟩) V.lc.length lcap, .int .i64 (bK - 1)] (V.nr + 1) i); have HBG1 := hide ((HRL.out.bel.trans hb2).setCell (p := ⟨gt, 1, none⟩) (hF2.row 0 (by omega) : (boxM gt 74 (tCs ⟨gt, gl, q.kd, q.va, q.pu.arr, q.pu.con, bK - 1, u0, LP⟩ V)).own w_ WS.heap.size).base0 (.slice (some ⟨g1, 0, none⟩) (V.nr + 1) c1)); have k7 := (HK7.out _ HBG1.out).1; have kz := (HK7.out _ HBG1.out).2; clear hbx hF2 hb2)
            obtain ⟨V1, hV1⟩ : ∃ V1 : TV, V1 = { V with ur := .slice (some ⟨g1, 0, none⟩) (V.nr + 1) c1, nr := V.nr + 1, cr := V.cr ++ [.slice (some ⟨lg, 0, none⟩) V.lc.length lcap, .int .i64 (bK - 1)] } := ⟨_, rfl⟩
            have HG0 : Hid (GLs WS ⟨gt, gl, q.kd, q.va, q.pu.arr, q.pu.con, bK - 1, u0, LP⟩ V1 q.rl K M s.gets 0 V1 (w_.setCell ⟨gt, 1, none⟩ (.slice (some ⟨g1, 0, none⟩) (V.nr + 1) c1))) := by
              rw [Hid, hV1]
              exact ⟨⟨rfl, rfl⟩, ⟨rfl, rfl⟩, ⟨rfl, rfl, rfl⟩, fun _ _ => rfl, HRL.out.ug.2.1, HRL.out.ug.2.2, fun i hi => by omega, HG1.out, HBG1.out⟩
            have HV1 := hide hV1
            clear hV1 x0 xf xz y1 yz l0 l1 lz HG1
            have hg3 : q.gl ≤ 16 := by have h1 := HSO.out.takes; have h2 := HQ.out.gets.1; have h3 := takes_few s.kind; omega
            go_loopw [165] (fun vj wr => ∃ (i : Nat) (V : TV), i ≤ q.gl ∧ vj = .int .i64 i ∧ GLs WS ⟨gt, gl, q.kd, q.va, q.pu.arr, q.pu.con, bK - 1, u0, LP⟩ V1 q.rl K M s.gets i V wr) (fun vj _ => q.gl - (intOf vj).toNat)
            case atStart => exact ⟨0, V1, Nat.zero_le _, rfl, HG0.out⟩
            case round =>
              clear HG0 HBG1 k7 kz
              obtain ⟨i, V2, hi, rfl, hgl⟩ := hrel
              obtain ⟨V, hVV⟩ : ∃ V, V = V2 := ⟨_, rfl⟩
              subst hVV
              have HGL := hide hgl
              clear hgl
              by_cases hil : i < q.gl
              · have hiz : (i : Int) < (q.gl : Int) := by omega
                obtain ⟨b6, o6, hra, hrc⟩ := HQ.out.gets.at (by omega)
                obtain ⟨ac, hac⟩ : ∃ a, a = s.gets[i]?.getD accD := ⟨_, rfl⟩
                have hcc := hrc i hil
                rw [← hac] at hcc
                obtain ⟨a0S, ⟨xa, xl, xc, r0S, r1S, hxs, _, _⟩, _⟩ := hcc
                have a0 := (HGL.out.bel.cell (p := ⟨b6, o6 + i * 3, none⟩) (lt_of_cell a0S)).trans a0S
                have r0 := (HGL.out.bel.cell (p := ⟨b6, o6 + i * 3 + 1, none⟩) (lt_of_cell r0S)).trans r0S
                have r1 := (HGL.out.bel.cell (p := ⟨b6, o6 + i * 3 + 1 + 1, none⟩) (lt_of_cell r1S)).trans r1S
                clear a0S r0S r1S
                have HAC := hide hac
                have zr := lt_of_cell a0
                simp only at zr
                have hrok := HSO.out.gets ac (by rw [hac]; exact mem_getA _ _ (by have h1 := HQ.out.gets.1; omega))
                obtain ⟨W6, hW6⟩ : ∃ W6, W6 = wr.alloc (.cells #[.int .i64 ac.1, .slice xa xl xc, .int .i64 ac.2.2] 71) := ⟨_, rfl⟩
                have hb6 : Below wr.heap.size wr W6 := by rw [hW6]; exact bl_new _
                have HBX6 : Hid (W6.heap[wr.heap.size]? = some (.cells #[.int .i64 ac.1, .slice xa xl xc, .int .i64 ac.2.2] 71 (0, 0))) := by rw [Hid, hW6]; exact World.alloc_heap_new _ _
                have HR6 := hide (HGL.out.below hb6)
                have hw6 : W6.heap.size = wr.heap.size + 1 := by rw [hW6]; simp
                obtain ⟨L, hL⟩ : ∃ L, L = (stripR K M ac.2).1 := ⟨_, rfl⟩
                have HL0 : Hid (0 < L.length) := by rw [Hid, hL]; unfold stripR; simp; omega
                have HCR : Hid (∀ V', Below WS.heap.size WS V' → Calls Try.prog 51 #[.agg #[.slice xa xl xc, .int .i64 ac.2.2], .int .i64 (K : Int), .int .i64 (M : Int)] V' fun e w' => (∃ u, e = .returned (.agg #[u, .int .i64 ac.2.2]) ∧ w'.ownsRow V'.heap.size 3 1 u L.length (ivs L)) ∧ Below V'.heap.size V' w') := fun V' hV => by
                  have h4 := HSM.out
                  have h5 : xl = q.bl := by have h6 := hxs.1; have h7 := hrok.len; have h8 := HLL.out.2.1; omega
                  have := rStripped_any xa xl xc ac.2.2 ac.2.1 K M V' (hxs.below hV) (fun x hx => by have := hrok.coef x hx; omega) (by omega) h4.2.2.2 (by omega)
                  rw [hL]
                  exact this
                have hra2 : GA = some ⟨b6, o6, none⟩ := HGA.out.trans hra
                subst hra2
                have HW6 := hide hW6
                have HLQ := hide hL
                have HZ6 : Hid (wr.heap.size < W6.heap.size) := by rw [Hid]; omega
                have HN6 : Hid (some wr.heap.size ≠ V.ug.ownBlock) := fun e => by
                  have h7 := ((HGL.out.fam.row 6 (by omega)).at e.symm).2
                  omega
                have k7 := (HK7.out _ HGL.out.bel).1
                have kz := (HK7.out _ HGL.out.bel).2
                clear hra hrc hW6 hb6 hw6 hL hac hxs hrok
                go_upto_region 34 with fail
                rw [← HW6.out]
                clear a0 r0 r1 zr k7 kz
                refine region_madeR (fun a b => a.grownBy b V.ug.ownBlock) (fun _ _ _ h k => or_grown_trans _ _ _ h k) (fun _ _ h => or_grown_of _ _ h) 11 13 15 [fIs (.pointer (some ⟨gt, 7, none⟩)), fIs V.ug, fIs (.pointer (some ⟨wr.heap.size, 0, none⟩)), fIs (.int .i64 ac.1), fIs (.pointer (some ⟨wr.heap.size, 1, none⟩)), fIs (.agg #[.slice xa xl xc, .int .i64 ac.2.2]), fIs (.int .i64 (K : Int)), fIs (.int .i64 (M : Int)), fStr WS.heap.size W6.heap.size V.ug.ownBlock ac.2.2 L, fAcG WS.heap.size W6.heap.size V.ug.ownBlock ac.1 ac.2.2 L, fBxA WS.heap.size W6.heap.size V.ug.ownBlock ac.1 ac.2.2 L, fApA WS.heap.size W6.heap.size V.ug.ownBlock ac.1 ac.2.2 L i V.cg, fIs (.pointer (some ⟨gt, 7, none⟩))] (by kernel_rfl) (by kernel_rfl) (by kernel_rfl) (fun _ ⟨_, _⟩ ⟨_, _⟩ _ e h => by cases e; exact h) ⟨or_is_good _ _ _, or_is_good _ _ _, or_is_good _ _ _, or_is_good _ _ _, or_is_good _ _ _, or_is_good _ _ _, or_is_good _ _ _, or_is_good _ _ _, fStr_good _ _ _ _ _, fAcG_good _ _ _ _ _ _, fBxA_good _ _ _ _ _ _, fApA_good _ _ _ _ _ _ _ _ _, or_is_good _ _ _, trivial⟩ ?mk34 ?rest34
                case mk34 =>
                  refine ⟨fun u wz hb hs hd => ?_, fun u wz hb hs hd => ?_, fun u wz hb hs hd => ?_, fun u wz hb hs hd => ?_, fun u wz hb hs hd => ?_, fun u wz hb hs hd => ?_, fun u wz hb hs hd => ?_, fun u wz hb hs hd => ?_, fun u wz hb hs hd => ?_, fun u wz hb hs hd => ?_, fun u wz hb hs hd => ?_, fun u wz hb hs hd => ?_, fun u wz hb hs hd => ?_, trivial⟩
                  all_goals simp only [Act.put, List.setIfInBounds_toArray, List.set_cons_zero, List.set_cons_succ]
                  · go_simp
                    exact ⟨rfl, St.of (Below.refl _ _) (by decide), fun h => by cases h⟩
                  · have e0 : u 0 = .pointer (some ⟨gt, 7, none⟩) := hd 0 (by omega) (by kernel_rfl)
                    rw [e0]
                    obtain ⟨p1, _, p3, _⟩ := HR6.out.keep hb
                    simp only at p1 p3
                    go_simp
                    exact ⟨rfl, St.of (Below.refl _ _) (by decide), fun h => by cases h⟩
                  · go_simp
                    exact ⟨rfl, St.of (Below.refl _ _) (by decide), fun h => by cases h⟩
                  · have e2 : u 2 = .pointer (some ⟨wr.heap.size, 0, none⟩) := hd 2 (by omega) (by kernel_rfl)
                    rw [e2]
                    have q6 := (hb.block wr.heap.size HZ6.out HN6.out).trans HBX6.out
                    have p3 := (Array.getElem?_eq_some_iff.1 q6).1
                    have p0 : wz.cell? ⟨wr.heap.size, 0, none⟩ = some (.int .i64 ac.1) := by simp [World.cell?, q6]
                    go_simp
                    exact ⟨rfl, St.of (Below.refl _ _) (by decide), fun h => by cases h⟩
                  · go_simp
                    exact ⟨rfl, St.of (Below.refl _ _) (by decide), fun h => by cases h⟩
                  · have e4 : u 4 = .pointer (some ⟨wr.heap.size, 1, none⟩) := hd 4 (by omega) (by kernel_rfl)
                    rw [e4]
                    have q6 := (hb.block wr.heap.size HZ6.out HN6.out).trans HBX6.out
                    have p3 := (Array.getElem?_eq_some_iff.1 q6).1
                    have p0 : wz.cell? ⟨wr.heap.size, 1, none⟩ = some (.slice xa xl xc) := by simp [World.cell?, q6]
                    have p1 : wz.cell? ⟨wr.heap.size, 1 + 1, none⟩ = some (.int .i64 ac.2.2) := by simp [World.cell?, q6]
                    go_simp
                    exact ⟨rfl, St.of (Below.refl _ _) (by decide), fun h => by cases h⟩
                  · go_simp
                    exact ⟨rfl, St.of (Below.refl _ _) (by decide), fun h => by cases h⟩
                  · go_simp
                    exact ⟨rfl, St.of (Below.refl _ _) (by decide), fun h => by cases h⟩
                  · have e5 : u 5 = .agg #[.slice xa xl xc, .int .i64 ac.2.2] := hd 5 (by omega) (by kernel_rfl)
                    have e6 : u 6 = .int .i64 (K : Int) := hd 6 (by omega) (by kernel_rfl)
                    have e7 : u 7 = .int .i64 (M : Int) := hd 7 (by omega) (by kernel_rfl)
                    rw [e5, e6, e7]
                    go_simp
                    refine (HCR.out wz (HR6.out.keep hb).2.2.2).mono ?_
                    rintro e w2 ⟨⟨x, rfl, hx⟩, hb2⟩
                    exact ⟨⟨x, rfl, own_base hx (Nat.le_trans (HR6.out.bel).size hb.size), fr_ofG hx hb.size HR6.out⟩, St.of hb2 (by decide), fun h => by cases h⟩
                  · have e3 : u 3 = .int .i64 ac.1 := hd 3 (by omega) (by kernel_rfl)
                    obtain ⟨x8, e8, h8, f8⟩ := hd 8 (by omega) (by kernel_rfl)
                    rw [e3, e8]
                    go_simp
                    exact ⟨⟨x8, rfl, h8, f8⟩, St.of (Below.refl _ _) (by decide), fun h => by cases h⟩
                  · obtain ⟨x9, e9, h9, f9⟩ := hd 9 (by omega) (by kernel_rfl)
                    obtain ⟨xg, xcap, hxe⟩ := h9.slice HL0.out
                    simp only at hxe
                    subst hxe
                    rw [e9]
                    go_simp
                    refine ⟨⟨wz.heap.size, _, rfl, World.alloc_heap_new _ _, ?_, h9.below (bl_new _), f9⟩, St.of (bl_new _) (by decide), fun h => by cases h⟩
                    intro e
                    have h7 := ((HR6.out.fam.row 6 (by omega)).at e.symm).2
                    have h8 := hb.size
                    omega
                  · have e1 : u 1 = V.ug := hd 1 (by omega) (by kernel_rfl)
                    obtain ⟨B7, x7, e7, h7, n7, o7, f7⟩ := hd 10 (by omega) (by kernel_rfl)
                    obtain ⟨xg, xcap, hxe⟩ := o7.slice HL0.out
                    simp only at hxe
                    subst hxe
                    rw [e1, e7]
                    have hbb := hs rfl
                    have hown : (⟨V.ug, 71, 3, i, V.cg⟩ : Mb).own wz WS.heap.size := by have h9 := (HR6.out.fam.row 6 (by omega)).below hbb; have h10 := HR6.out.ng; rw [show tM _ V 6 = (⟨V.ug, 71, 3, V.ng, V.cg⟩ : Mb) from rfl, h10] at h9; exact h9
                    refine wp_append_ac (.tmp 170) (.tmp 179) rfl WS.heap.size _ i V.cg rfl hown B7 _ ac.1 ac.2.2 rfl h7 rfl (by omega) (Nat.le_trans (HR6.out.bel).size hb.size) (fun v' w3 hS hg ho => ?_)
                    refine ⟨v', rfl, ⟨_, hS, ?_, o7.keep (fun g e hlt => hg.block g hlt (f7 g e).2), f7⟩, St.at hg, fun h => by cases h⟩
                    rcases ho with ho | ho
                    · exact .inl ho
                    · exact .inr (fun g hg2 => by rw [ho] at hg2; cases hg2; exact hb.size)
                  · go_simp
                    exact ⟨rfl, St.of (Below.refl _ _) (by decide), fun h => by cases h⟩
                case rest34 =>
                  intro u wz hb hf hp
                  have f12 : u 12 = .pointer (some ⟨gt, 7, none⟩) := hf 12 (by omega)
                  obtain ⟨x8, h8, o8, u8, fr8⟩ := hf 11 (by omega)
                  obtain ⟨v8, f8⟩ : ∃ v8, u 11 = v8 := ⟨_, rfl⟩
                  rw [f8] at h8 o8
                  refine UptoW.rest 1 13 (by rfl) (by kernel_rfl) ?_
                  simp only [List.take, List.drop, putOps, Act.put, List.setIfInBounds_toArray, List.set_cons_zero, List.set_cons_succ, Nat.reduceAdd, f12, f8]
                  clear f12 f8 hf hp
                  obtain ⟨g8, c8, e8v⟩ := h8.slice (by simp)
                  simp only at e8v
                  subst e8v
                  rw [HAC.out] at h8
                  rw [HLQ.out, HAC.out] at u8
                  have FIN := hide (HR6.out.next hb h8 (by
                    rcases o8 with o8 | o8
                    · exact .inl o8
                    · exact .inr (o8 g8 rfl)) u8 fr8)
                  obtain ⟨p1, p2, p3, _⟩ := HR6.out.keep hb
                  simp only at p1 p2 p3 FIN
                  clear h8 o8 u8 fr8
                  refine wpList_plain rfl (fun KK hKK => ?_)
                  go_simp
                  refine hKK _ _ (wpList_nil ?_)
                  clear hKK KK
                  go_wp2_with fail
                  go_roundw
                  case rel =>
                    obtain ⟨V', hV'⟩ := FIN.out
                    exact ⟨i + 1, V', by omega, by go_num, hV'⟩
                  case measure => simp [intOf]; omega
              · have hiq : i = q.gl := by omega
                subst hiq
                have hiz : ¬ (q.gl : Int) < (q.gl : Int) := by omega
                have HRL2 := HRL.out
                have hrl := HQ.out.rows.1
                have hgl2 := HQ.out.gets.1
                have hbl2 := HLL.out.2.1
                have HTE : Hid (TE ⟨gt, gl, q.kd, q.va, q.pu.arr, q.pu.con, bK - 1, u0, LP⟩ V (7 + (q.rl + q.gl)) (stripS s K M)) := by
                  have HGL2 := HGL.out
                  have h1 := HLBE.out
                  have h2 := HLCE.out
                  rw [← hbl2] at h1 h2
                  rw [← hrl] at HRL2
                  rw [← hrl, ← hgl2] at HGL2
                  have := te_of HRL2 HV1.out HUE.out HGL2 h1 h2 (by rw [HMID.out, HBK.out]) (by rw [HBK.out]) HLPE.out ⟨HQ.out.put.arr, HQ.out.put.con⟩ ⟨HQ.out.kd, HQ.out.va⟩ (by have := HSM.out.2.1; omega) ⟨HSM.out.2.2.1, HSM.out.2.2.2⟩ HSO.out (by have h5 := HZ.out.1; have h6 := HZ.out.2.1; omega) HQ.out.bd
                  rw [hrl, hgl2] at this
                  exact this
                have hbw := bl_on HBS.out HGL.out.bel
                obtain ⟨qs, hqs, hqa⟩ := stms_words HS.out
                obtain ⟨b2, o2, eb, hqa⟩ := hqa.resolve_left (by have := HSM.out.1; omega)
                simp only [Option.some.injEq, Addr.mk.injEq] at eb
                obtain ⟨eb1, eb2, _⟩ := eb
                rw [← eb1, ← eb2] at hqa
                have HQA := hide (fun j hj => (hqa j hj).below hbw)
                have HTL : Hid (0 < tl ∧ tl ≤ 1048576) := by have h1 := HOK.out.many; have h2 := HLL.out.1; have h3 := HSM.out.1; rw [Hid]; omega
                obtain ⟨sw, hsw⟩ := HTE.out.words HGL.out.fam
                have HTW := hide hsw
                have HBW := hide hbw
                have HGLB := hide HGL.out.bel
                have HQG : Hid (∀ W', Below w.heap.size w W' → ∀ j, j < tl → SG W' (qs j) (ss[j]?.getD stmD)) := fun W' hB j hj => (hqs j hj).below hB
                obtain ⟨n0, n1⟩ := (HNS.out.below HGL.out.bel).cells
                have zn := (HNS.out.below HGL.out.bel).lt
                clear hqs hqa eb1 eb2 hsw hbw HRL2 hrl hgl2 hbl2
                go_upto_region 36 with fail
                refine region_made 8 9 [fIs (.pointer (some ⟨w.heap.size, 0, none⟩)), fIs (.slice za zl zc), fEmp, fIs (.pointer (some ⟨w.heap.size, 1, none⟩)), fIs (.slice (some ⟨b, off, none⟩) tl tc), fStC wr.heap.size tl qs, fNsC wr.heap.size tl qs za zl zc, fNewNest wr.heap.size] (by kernel_rfl) (by kernel_rfl) (by kernel_rfl) (fun _ ⟨_, _⟩ ⟨_, _⟩ _ e h => by cases e; exact h) ⟨fIs_good _, fIs_good _, fEmp_good, fIs_good _, fIs_good _, fStC_good _ _ _, fNsC_good _ _ _ _ _ _, fNewNest_good _, trivial⟩ ?mk ?rest
                case mk =>
                  refine ⟨fun u wz hb hd => ?_, fun u wz hb hd => ?_, fun u wz hb hd => ?_, fun u wz hb hd => ?_, fun u wz hb hd => ?_, fun u wz hb hd => ?_, fun u wz hb hd => ?_, fun u wz hb hd => ?_, trivial⟩
                  all_goals simp only [Act.put, List.setIfInBounds_toArray, List.set_cons_zero, List.set_cons_succ]
                  · go_simp
                    exact ⟨rfl, Below.refl _ _, fun h => by cases h⟩
                  · have e0 : u 0 = .pointer (some ⟨w.heap.size, 0, none⟩) := hd 0 (by omega) (by kernel_rfl)
                    rw [e0]
                    have n0' := (hb.cell (p := ⟨w.heap.size, 0, none⟩) (lt_of_cell n0)).trans n0
                    go_simp
                    exact ⟨rfl, Below.refl _ _, fun h => by cases h⟩
                  · go_simp
                    exact ⟨⟨_, rfl⟩, bl_new _, fun h => by cases h⟩
                  · go_simp
                    exact ⟨rfl, Below.refl _ _, fun h => by cases h⟩
                  · have e3 : u 3 = .pointer (some ⟨w.heap.size, 1, none⟩) := hd 3 (by omega) (by kernel_rfl)
                    rw [e3]
                    have n1' := (hb.cell (p := ⟨w.heap.size, 1, none⟩) (lt_of_cell n1)).trans n1
                    go_simp
                    exact ⟨rfl, Below.refl _ _, fun h => by cases h⟩
                  · obtain ⟨B2, e2⟩ := hd 2 (by omega) (by kernel_rfl)
                    have e4 : u 4 = .slice (some ⟨b, off, none⟩) tl tc := hd 4 (by omega) (by kernel_rfl)
                    rw [e2, e4]
                    exact stms_fresh (.tmp 185) (.tmp 187) rfl B2 b off tl tc qs rfl rfl (fun j hj => (HQA.out j hj).below hb) HTL.out.1 HTL.out.2 (fun R cap w3 h1 h2 h3 h4 => ⟨_, rfl, ⟨R, cap, rfl, h1, h2, Nat.le_trans hb.size h3⟩, h4, fun h => by cases h⟩)
                  · have e1 : u 1 = .slice za zl zc := hd 1 (by omega) (by kernel_rfl)
                    obtain ⟨R5, c5, e5, h5⟩ := hd 5 (by omega) (by kernel_rfl)
                    rw [e1, e5]
                    go_simp
                    exact ⟨⟨R5, c5, rfl, h5⟩, Below.refl _ _, fun h => by cases h⟩
                  · go_simp
                    exact ⟨⟨_, rfl, World.alloc_heap_new _ _, hb.size⟩, bl_new _, fun h => by cases h⟩
                case rest =>
                  intro u wz hb hf hp
                  have f0 : u 0 = .pointer (some ⟨w.heap.size, 0, none⟩) := hf 0 (by omega)
                  have f1 : u 1 = .slice za zl zc := hf 1 (by omega)
                  obtain ⟨_, f2⟩ := hf 2 (by omega)
                  have f3 : u 3 = .pointer (some ⟨w.heap.size, 1, none⟩) := hf 3 (by omega)
                  have f4 : u 4 = .slice (some ⟨b, off, none⟩) tl tc := hf 4 (by omega)
                  obtain ⟨_, _, f5, _⟩ := hf 5 (by omega)
                  obtain ⟨R, cap, f6, hR, hcap, hRn⟩ := hf 6 (by omega)
                  obtain ⟨O, f7, hO, hOn⟩ := hf 7 (by omega)
                  refine UptoW.rest 1 8 (by rfl) (by kernel_rfl) ?_
                  simp only [List.take, List.drop, putOps, Act.put, List.setIfInBounds_toArray, List.set_cons_zero, List.set_cons_succ, Nat.reduceAdd, f0, f1, f2, f3, f4, f5, f6, f7]
                  clear f0 f1 f2 f3 f4 f5 f6 f7 hf hp
                  obtain ⟨o0, o1⟩ := hO.cells
                  have zo := hO.lt
                  have y0 := hO.free 0
                  have y1 := hO.free 1
                  have hRO : R ≠ O := fun e => by
                    obtain ⟨f, ⟨c, hc, _⟩, _⟩ := hR
                    unfold NsBlk at hO
                    rw [e, hO] at hc
                    simp only [Option.some.injEq, Obj.cells.injEq] at hc
                    exact absurd hc.2.1 (by decide)
                  obtain ⟨W5, hW5⟩ : ∃ W5, W5 = (wz.setCell ⟨O, 0, none⟩ (.slice za zl zc)).setCell ⟨O, 1, none⟩ (.slice (some ⟨R, 0, none⟩) tl cap) := ⟨_, rfl⟩
                  have hO5 : NsBlk W5 O za zl zc (some ⟨R, 0, none⟩) tl cap := by rw [hW5]; exact hO.put _ _ _ _ _ _
                  have hR5 : OutS8 W5 R cap qs tl := hR.oth (by rw [hW5]; simp [World.setCell, Array.getElem?_modify, hRO.symm])
                  have hb5 : Below wr.heap.size wr W5 := by rw [hW5]; exact (hb.setCell (p := ⟨O, 0, none⟩) hOn _).setCell (p := ⟨O, 1, none⟩) hOn _
                  have HW5 := hide hW5
                  clear hb hR hO hW5
                  refine wpList_plain rfl (fun KK hKK => ?_)
                  go_simp
                  refine hKK _ _ (wpList_nil ?_)
                  clear hKK KK
                  rw [← HW5.out]
                  have HB5 := hide hb5
                  have HO5 := hide hO5
                  have HR5 := hide hR5
                  have HRN := hide (And.intro hRO (And.intro hRn (And.intro hOn hcap)))
                  have hf5 := HGL.out.fam.below hb5
                  have tc := fun k => (tM_cells hf5 (by omega) k).1
                  rw [HTW.out.cells] at tc
                  have tz := (tM_cells hf5 (by omega) 0).2.2
                  simp only at tz
                  have t0 : W5.cell? ⟨gt, 0, none⟩ = some (.slice sw.ba sw.bl sw.bc) := tc 0
                  have t1 : W5.cell? ⟨gt, 1, none⟩ = some (.slice sw.ra sw.rl sw.rc) := tc 1
                  have t2 : W5.cell? ⟨gt, 2, none⟩ = some (.int .i64 sw.kd) := tc 2
                  have t3 : W5.cell? ⟨gt, 3, none⟩ = some (.int .i64 sw.va) := tc 3
                  have t4 : W5.cell? ⟨gt, 4, none⟩ = some (.int .i64 sw.pu.arr) := tc 4
                  have t5 : W5.cell? ⟨gt, 5, none⟩ = some (.slice sw.pu.ca sw.pu.cl sw.pu.cc) := tc 5
                  have t6 : W5.cell? ⟨gt, 6, none⟩ = some (.int .i64 sw.pu.con) := tc 6
                  have t7 : W5.cell? ⟨gt, 7, none⟩ = some (.slice sw.ga sw.gl sw.gc) := tc 7
                  clear tc hf5 o0 o1 zo y0 y1 n0 n1 zn
                  obtain ⟨o0, o1⟩ := hO5.cells
                  have zo := hO5.lt
                  obtain ⟨f, r1, r2⟩ := hR5
                  have hIl := HSM.out.1
                  have hIz : (I : Int) < (tl : Int) := by omega
                  have d0 := r1.cell (i := I * 8) (by omega)
                  have y0 := r1.frozen (I * 8)
                  have d1 := r1.cell (i := I * 8 + 1) (by omega)
                  have y1 := r1.frozen (I * 8 + 1)
                  have d2 := r1.cell (i := I * 8 + 2) (by omega)
                  have y2 := r1.frozen (I * 8 + 2)
                  have d3 := r1.cell (i := I * 8 + 3) (by omega)
                  have y3 := r1.frozen (I * 8 + 3)
                  have d4 := r1.cell (i := I * 8 + 4) (by omega)
                  have y4 := r1.frozen (I * 8 + 4)
                  have d5 := r1.cell (i := I * 8 + 5) (by omega)
                  have y5 := r1.frozen (I * 8 + 5)
                  have d6 := r1.cell (i := I * 8 + 6) (by omega)
                  have y6 := r1.frozen (I * 8 + 6)
                  have d7 := r1.cell (i := I * 8 + 7) (by omega)
                  have y7 := r1.frozen (I * 8 + 7)
                  have zR := r1.lt
                  clear hb5 hO5 r1 r2 hRO hRn hOn hcap HW5
                  go_upto_region 38 with fail
                  obtain ⟨W6, hW6⟩ : ∃ W6, W6 = putS W5 R I sw := ⟨_, rfl⟩
                  have hW6' := hW6
                  unfold putS at hW6'
                  rw [← hW6']
                  obtain ⟨hRO, hRn, hOn, hcap⟩ := HRN.out
                  have oth : ∀ x, x ≠ R → W6.heap[x]? = W5.heap[x]? := fun x hx => by rw [hW6]; exact putS_oth _ _ _ _ x hx
                  have hsz6 : W6.heap.size = W5.heap.size := by rw [hW6]; exact putS_size _ _ _ _
                  have hO6 : NsBlk W6 O za zl zc (some ⟨R, 0, none⟩) tl cap := (oth O (fun e => hRO e.symm)).trans HO5.out
                  have hb6 : Below wr.heap.size wr W6 := by rw [hW6]; exact putS_belowN HB5.out hRn _ _
                  have hR6 : OutS8 W6 R cap (fun j => if j = I then sw else qs j) tl := by rw [hW6]; exact HR5.out.putK HSM.out.1 sw
                  have hsl := HLL.out.1
                  have HSG : Hid (∀ W', Fm W' WS.heap.size (7 + (q.rl + q.gl)) (tM ⟨gt, gl, q.kd, q.va, q.pu.arr, q.pu.con, bK - 1, u0, LP⟩ V) → Below w.heap.size w W' → ∀ j, j < tl → SG W' (if j = I then sw else qs j) ((ss.set I (stripS s K M))[j]?.getD stmD)) := fun W' hF hB j hj => by
                    by_cases e : j = I
                    · subst e
                      rw [if_pos rfl]
                      have e2 : (ss.set j (stripS s K M))[j]?.getD stmD = stripS s K M := by simp [hsl, hj]
                      rw [e2]
                      exact HTE.out.sg HTW.out hF
                    · rw [if_neg e, List.getElem?_set, if_neg (fun e2 => e e2.symm)]
                      exact HQG.out W' hB j hj
                  have hS6 : Stms W6 (some ⟨R, 0, none⟩) tl (ss.set I (stripS s K M)) := stms_outK hR6 hcap (by rw [List.length_set]; exact hsl) (by have := HTL.out.2; omega) (HSG.out W6 (HGL.out.fam.below hb6) (bl_on HBW.out hb6))
                  have HNW2 := hide (rNestWrong_any za zl zc zs (some ⟨R, 0, none⟩) tl cap (ss.set I (stripS s K M)) W6 (HZ.out.below (bl_on HBW.out hb6)) hS6)
                  rw [← HEQ.out] at HNW2
                  have HO6 := hide hO6
                  have HB6 := hide hb6
                  have HR6 := hide hR6
                  have HGL6 := hide (HGL.out.fam.below hb6)
                  clear d0 y0 t0 d1 y1 t1 d2 y2 t2 d3 y3 t3 d4 y4 t4 d5 y5 t5 d6 y6 t6 d7 y7 t7 zR tz hW6 hW6' oth hsz6 hO6 hb6 hR6 hS6 hRO hRn hOn hcap hsl o0 o1 zo HGL
                  obtain ⟨o0, o1⟩ := HO6.out.cells
                  have zo := HO6.out.lt
                  go_wp2_with fail
                  refine HNW2.out.mono ?_
                  rintro e w7 ⟨rfl, hb⟩
                  have HO7 := hide (HO6.out.below hb)
                  have HB7 := hide (bl_on HB6.out hb)
                  have HR7 := hide (HR6.out.below hb)
                  have HF7 := hide (HGL6.out.below hb)
                  clear o0 o1 zo hb HO6 HB6 HR6 HGL6
                  have HP7 := hide (HPS.out.below (bl_on HGLB.out HB7.out))
                  have HBE := hide (bl_on HBW.out HB7.out)
                  obtain ⟨o0, o1⟩ := HO7.out.cells
                  have zo := HO7.out.lt
                  obtain ⟨q0, q1⟩ := HP7.out.cells
                  have zq := HP7.out.lt
                  have g0 := HP7.out.free 0
                  have g1 := HP7.out.free 1
                  by_cases hE0 : e8 = 0
                  rotate_left
                  · have qE : (e8 != 0) = true := by simpa using hE0
                    have HNN := hide hE0
                    clear hE0
                    go_wp2_with fail
                    have PZ2 := HP7.out.put none 0 0 none 0 0
                    obtain ⟨x0, x1⟩ := PZ2.cells
                    refine bodyPost_ret (v := .tuple #[.agg #[.slice none 0 0, .slice none 0 0], .int .i64 e8]) (by simp [results, Try.results18, go_sem, x0, x1]) rfl ⟨⟨none, 0, 0, none, 0, 0, [], [], rfl, ints_no _, stms_nil _, fun h => absurd h HNN.out, fun _ => ⟨rfl, rfl⟩⟩, ?_⟩
                    exact (HBE.out.setCell (p := ⟨w.heap.size + 1, 0, none⟩) (by simp only; omega) _).setCell (p := ⟨w.heap.size + 1, 1, none⟩) (by simp only; omega) _
                  · have HE9 := hide hE0
                    rw [hE0]
                    clear hE0
                    go_wp2_with fail
                    have PZ2 := HP7.out.put za zl zc (some ⟨R, 0, none⟩) tl cap
                    obtain ⟨x0, x1⟩ := PZ2.cells
                    obtain ⟨WE, hWE⟩ : ∃ WE, WE = (w7.setCell ⟨w.heap.size + 1, 0, none⟩ (.slice za zl zc)).setCell ⟨w.heap.size + 1, 1, none⟩ (.slice (some ⟨R, 0, none⟩) tl cap) := ⟨_, rfl⟩
                    have oth : ∀ x, x ≠ w.heap.size + 1 → WE.heap[x]? = w7.heap[x]? := fun x hx => by rw [hWE]; simp [World.setCell, Array.getElem?_modify, hx.symm]
                    have hBE : Below w.heap.size w WE := by rw [hWE]; exact (HBE.out.setCell (p := ⟨w.heap.size + 1, 0, none⟩) (by simp only; omega) _).setCell (p := ⟨w.heap.size + 1, 1, none⟩) (by simp only; omega) _
                    have hws2 : w.heap.size + 1 < WS.heap.size := HPS.out.lt
                    have hwr2 : WS.heap.size ≤ wr.heap.size := HGLB.out.size
                    obtain ⟨hRO, hRn, hOn, hcap⟩ := HRN.out
                    have hRE : OutS8 WE R cap (fun j => if j = I then sw else qs j) tl := HR7.out.oth (oth R (by omega))
                    have hFE := HF7.out.keepB (w1 := WE) (fun g h1 h2 => oth g (by omega))
                    rw [← hWE] at x0 x1 ⊢
                    refine bodyPost_ret (v := .tuple #[.agg #[.slice za zl zc, .slice (some ⟨R, 0, none⟩) tl cap], .int .i64 0]) (by simp [results, Try.results18, go_sem, x0, x1]) rfl ⟨⟨za, zl, zc, some ⟨R, 0, none⟩, tl, cap, zs, ss.set I (stripS s K M), by rw [HE9.out], HZ.out.below hBE, stms_outK hRE hcap (by rw [List.length_set]; exact HLL.out.1) (by have := HTL.out.2; omega) (HSG.out WE hFE hBE), fun _ => ⟨rfl, ?_⟩, fun h => absurd HE9.out h⟩, hBE⟩
                    rw [HSE.out]
                    rfl
end Go.Proofs.Ytmmigbkilbfheaa.V
