/-
  The law: OrderStrips.
-/
import Derived.Test.YtmmigbkilbfheaaK28
import Derived.Test.YtmmigbkilbfheaaK31
import Derived.Test.YtmmigbkilbfheaaK18
import Derived.Deep.DeepCutAuto
import Derived.BigQuiet
namespace Go.Proofs.Ytmmigbkilbfheaa.V
open Go Go.RowKit Go.Shelf
set_option linter.unusedVariables false

theorem os_drewN (w : World) (n : Nat) : Below w.heap.size w (w.drewN n) := by
  induction n with
  | zero => exact Below.refl _ _
  | succ n ih => exact ih.drew
def fPl (zs : List Int) (ss : List Stm) (tl : Nat) : Fact := ⟨fun v w => ∃ ma mc T, v = .slice ma tl mc ∧ TimesA w ma tl T ∧ (nestE zs ss = 0 → T = plainT ss), false⟩
theorem fPl_good (zs : List Int) (ss : List Stm) (tl : Nat) : (fPl zs ss tl).Good := ⟨fun _ _ _ ⟨a, c, T, h1, h2, h3⟩ hb => ⟨a, c, T, h1, h2.below hb, h3⟩, fun h => by cases h⟩
set_option maxRecDepth 100000 in
set_option maxHeartbeats 8000000 in
theorem orderStrips_walk (za : Option Addr) (zl zc : Nat) (zs : List Int) (ta : Option Addr) (tl tc : Nat) (ss : List Stm) (i k n : Int) (w : World) (hz : Ints w za zl zs) (hs : Stms w ta tl ss) (hi : B64 i) (hk : B64 k) (hn : B64 n) (hzl : zl ≤ 1048576) (htl : tl ≤ 1048576) (hm : ∀ s ∈ ss, s.box.length ≤ 1048576) :
    Calls Try.prog 5 #[.agg #[.slice za zl zc, .slice ta tl tc], .int .i64 i, .int .i64 k, .int .i64 n] w fun e w' => e = .returned (.bool true) ∧ Below w.heap.size w w' := by
  have B0 : Below w.heap.size w (w.alloc (.cells #[.slice za zl zc, .slice ta tl tc] 25)) := bl_new _
  have P0 := NsBlk.new w za zl zc ta tl tc
  obtain ⟨W, hW⟩ : ∃ W, W = w.alloc (.cells #[.slice za zl zc, .slice ta tl tc] 25) := ⟨_, rfl⟩
  rw [← hW] at B0 P0
  have C0 := hide (fun (V : World) (hb : Below w.heap.size w V) => oStrip_any za zl zc zs ta tl tc ss i k n V (hz.below hb) (hs.below hb) hi hk hn (by omega))
  have C1 := hide (fun (V : World) (hb : Below w.heap.size w V) => rStrip_any za zl zc zs ta tl tc ss i k n V (hz.below hb) (hs.below hb) hi hk hn)
  have C2 := hide (fun (V : World) (hb : Below w.heap.size w V) => oPlain_len za zl zc zs ta tl tc ss V (hz.below hb) (hs.below hb) (by omega))
  have C3 := hide (fun (V : World) (hb : Below w.heap.size w V) => rPlain_any za zl zc ta tl tc ss V (hs.below hb) htl hm)
  have C4 := hide (fun (V : World) (hb : Below w.heap.size w V) => rNestWrong_any za zl zc zs ta tl tc ss V (hz.below hb) (hs.below hb))
  have HSL := hide hs.1
  obtain ⟨n0, n1⟩ := P0.cells
  have zn := P0.lt
  have HB := hide B0
  have HN := hide P0
  have HW := hide hW
  clear hz hs hi hk hn B0 P0 hW hzl hm
  go_enter Try.func5, Try.ntmps5
  go_wp2_with fail
  rw [← HW.out]
  refine (C0.out W HB.out).mono ?_
  rintro e w1 ⟨⟨za', zl', zc', ta', tl', tc', zs1, ss1, rfl, hz1, hs1, hok1, hno1⟩, hb⟩
  obtain ⟨w2, hw2⟩ : ∃ w2, w2 = w1.alloc (.cells #[.slice za' zl' zc', .slice ta' tl' tc'] 25) := ⟨_, rfl⟩
  have B2 : Below w1.heap.size w1 w2 := by rw [hw2]; exact bl_new _
  obtain ⟨A1, hA1⟩ : ∃ A1, A1 = w1.heap.size := ⟨_, rfl⟩
  have HF2 : Hid (NsBlk w2 A1 za' zl' zc' ta' tl' tc') := by rw [Hid, hw2, hA1]; exact World.alloc_heap_new _ _
  have HW2 := hide hw2
  have HB2 := hide (bl_on (bl_on HB.out hb) B2)
  have HN2 := hide ((HN.out.below hb).below B2)
  have HZ1 := hide (hz1.below B2)
  have HS1 := hide (hs1.below B2)
  have HO1 := hide (And.intro hok1 hno1)
  have HA1 := hide hA1
  obtain ⟨E, hE⟩ : ∃ E, E = stripE zs ss i k n := ⟨_, rfl⟩
  rw [← hE] at HO1 ⊢
  have HE := hide hE
  clear hb n0 n1 zn HN hz1 hs1 hok1 hno1 hw2 B2 HB HW hA1 hE
  obtain ⟨n0, n1⟩ := HN2.out.cells
  have zn := HN2.out.lt
  go_upto_region 2 with fail
  rw [← HW2.out, ← HA1.out]
  go_wp2_with fail
  refine (C1.out w2 HB2.out).mono ?_
  rintro e w3 ⟨⟨zb, zbl, zbc, tb, tbl, tbc, zs2, ss2, rfl, hz2, hs2, hok2, hno2⟩, hb⟩
  rw [← HE.out] at hok2 hno2 ⊢
  have hzz : zs2 = zs1 ∧ ss2 = ss1 := by
    by_cases h0 : E = 0
    · rw [(hok2 h0).1, (hok2 h0).2, (HO1.out.1 h0).1, (HO1.out.1 h0).2]; exact ⟨rfl, rfl⟩
    · rw [(hno2 h0).1, (hno2 h0).2, (HO1.out.2 h0).1, (HO1.out.2 h0).2]; exact ⟨rfl, rfl⟩
  rw [hzz.1] at hz2
  rw [hzz.2] at hs2
  obtain ⟨w4, hw4⟩ : ∃ w4, w4 = w3.alloc (.cells #[.slice zb zbl zbc, .slice tb tbl tbc] 25) := ⟨_, rfl⟩
  have B4 : Below w3.heap.size w3 w4 := by rw [hw4]; exact bl_new _
  obtain ⟨A3, hA3⟩ : ∃ A3, A3 = w3.heap.size := ⟨_, rfl⟩
  have HG4 : Hid (NsBlk w4 A3 zb zbl zbc tb tbl tbc) := by rw [Hid, hw4, hA3]; exact World.alloc_heap_new _ _
  have HW4 := hide hw4
  have HB4 := hide (bl_on (bl_on HB2.out hb) B4)
  have HN4 := hide ((HN2.out.below hb).below B4)
  have HF4 := hide ((HF2.out.below hb).below B4)
  have HSN := hide (sameNest_ok za' zl' zc' ta' tl' tc' zb zbl zbc tb tbl tbc zs1 ss1 w4 ((HZ1.out.below hb).below B4) (hz2.below B4) ((HS1.out.below hb).below B4) (hs2.below B4))
  have HA3 := hide hA3
  clear hb n0 n1 zn HN2 hz2 hs2 hok2 hno2 hzz hw4 B4 HF2 HB2 HZ1 HS1 HO1 HE hA3
  obtain ⟨n0, n1⟩ := HN4.out.cells
  have zn := HN4.out.lt
  obtain ⟨f0, f1⟩ := HF4.out.cells
  have zf := HF4.out.lt
  obtain ⟨g0, g1⟩ := HG4.out.cells
  have zg := HG4.out.lt
  go_upto_region 3 with fail
  rw [← HW4.out, ← HA3.out]
  go_wp2_with fail
  refine HSN.out.mono ?_
  rintro e w5 ⟨rfl, hb⟩
  have HB5 := hide (bl_on HB4.out hb)
  have HN5 := hide (HN4.out.below hb)
  clear hb n0 n1 zn f0 f1 zf g0 g1 zg HN4 HF4 HG4 HB4 HSN
  obtain ⟨n0, n1⟩ := HN5.out.cells
  have zn := HN5.out.lt
  go_upto_region 5 with fail
  refine region_made 4 6 [fIs (.agg #[.slice za zl zc, .slice ta tl tc]), fPl zs ss tl, fIs (.agg #[.slice za zl zc, .slice ta tl tc]), fPl zs ss tl] (by kernel_rfl) (by kernel_rfl) (by kernel_rfl) (fun _ ⟨_, _⟩ ⟨_, _⟩ _ e h => by cases e; exact h) ⟨fIs_good _, fPl_good _ _ _, fIs_good _, fPl_good _ _ _, trivial⟩ ?mk ?rest
  case mk =>
    refine ⟨fun u wz hb hd => ?_, fun u wz hb hd => ?_, fun u wz hb hd => ?_, fun u wz hb hd => ?_, trivial⟩
    all_goals simp only [Act.put, List.setIfInBounds_toArray, List.set_cons_zero, List.set_cons_succ]
    · have n0' := (hb.cell (p := ⟨w.heap.size, 0, none⟩) (lt_of_cell n0)).trans n0
      have n1' := (hb.cell (p := ⟨w.heap.size, 1, none⟩) (lt_of_cell n1)).trans n1
      go_simp
      exact ⟨rfl, Below.refl _ _, fun h => by cases h⟩
    · have e0 : u 0 = .agg #[.slice za zl zc, .slice ta tl tc] := hd 0 (by omega) (by kernel_rfl)
      rw [e0]
      go_simp
      refine (C2.out wz (bl_on HB5.out hb)).mono ?_
      rintro e w2 ⟨⟨ma, mc, T, rfl, h1, h2⟩, hb2⟩
      exact ⟨⟨ma, mc, T, rfl, h1, h2⟩, hb2, fun h => by cases h⟩
    · have n0' := (hb.cell (p := ⟨w.heap.size, 0, none⟩) (lt_of_cell n0)).trans n0
      have n1' := (hb.cell (p := ⟨w.heap.size, 1, none⟩) (lt_of_cell n1)).trans n1
      go_simp
      exact ⟨rfl, Below.refl _ _, fun h => by cases h⟩
    · have e2 : u 2 = .agg #[.slice za zl zc, .slice ta tl tc] := hd 2 (by omega) (by kernel_rfl)
      rw [e2]
      go_simp
      refine (C3.out wz (bl_on HB5.out hb)).mono ?_
      rintro e w2 ⟨⟨mb, md, rfl, h1⟩, hb2⟩
      exact ⟨⟨mb, md, plainT ss, rfl, h1, fun _ => rfl⟩, hb2, fun h => by cases h⟩
  case rest =>
    intro u wz hb hf hp
    have f0 : u 0 = .agg #[.slice za zl zc, .slice ta tl tc] := hf 0 (by omega)
    obtain ⟨ma, mc, T, f1, hT, hTE⟩ := hf 1 (by omega)
    have f2 : u 2 = .agg #[.slice za zl zc, .slice ta tl tc] := hf 2 (by omega)
    obtain ⟨mb, md, T2, f3, hT2, hTE2⟩ := hf 3 (by omega)
    refine UptoW.rest 2 4 (by rfl) (by kernel_rfl) ?_
    simp only [List.take, List.drop, putOps, Act.put, List.setIfInBounds_toArray, List.set_cons_zero, List.set_cons_succ, Nat.reduceAdd, f0, f1, f2, f3]
    clear f0 f1 f2 f3 hf hp
    have HBZ := hide (bl_on HB5.out hb)
    have HNZ := hide (HN5.out.below hb)
    have HT := hide hT
    have HT2 := hide hT2
    have HTE := hide hTE
    have HTE2 := hide hTE2
    clear hb hT hT2 hTE hTE2 n0 n1 zn HN5 HB5
    obtain ⟨n0, n1⟩ := HNZ.out.cells
    have zn := HNZ.out.lt
    go_wp2_with fail
    refine (C4.out wz HBZ.out).mono ?_
    rintro e w6 ⟨rfl, hb⟩
    have HB6 := hide (bl_on HBZ.out hb)
    have HTa := hide (HT.out.below hb)
    have HTb := hide (HT2.out.below hb)
    clear hb n0 n1 zn HNZ HBZ HT HT2
    by_cases hE : nestE zs ss = 0
    rotate_left
    · have qE : (nestE zs ss != 0) = true := by simpa using hE
      obtain ⟨E9, hE9⟩ : ∃ E9, E9 = nestE zs ss := ⟨_, rfl⟩
      rw [← hE9] at qE ⊢
      clear hE hE9
      go_wp2_with fail
      go_ret
      exact ⟨rfl, HB6.out⟩
    rw [hE]
    have e1 := HTE.out hE
    have e2 := HTE2.out hE
    rw [e1] at HTa
    rw [e2] at HTb
    clear e1 e2 HTE HTE2 T T2 hE
    go_wp2_with fail
    go_loopw [56] (fun vj wr => ∃ j : Nat, j ≤ tl ∧ vj = .int .i64 j ∧ Below w6.heap.size w6 wr) (fun vj _ => tl - (intOf vj).toNat)
    case atStart => exact ⟨0, Nat.zero_le _, rfl, Below.refl _ _⟩
    case round =>
      obtain ⟨j, hj, rfl, hbr⟩ := hrel
      have HBR := hide hbr
      clear hbr
      by_cases hjl : j < tl
      · have hjz : (j : Int) < (tl : Int) := by omega
        obtain ⟨b1, o1, rfl, hy1⟩ := HTa.out.2.2.resolve_left (by omega)
        obtain ⟨b2, o2, rfl, hy2⟩ := HTb.out.2.2.resolve_left (by omega)
        obtain ⟨x1, l1, d1, p1, r1⟩ := hy1 j hjl
        obtain ⟨x2, l2, d2, p2, r2⟩ := hy2 j hjl
        obtain rfl : l1 = l2 := r1.1.symm.trans r2.1
        have p1 := (HBR.out.cell (p := ⟨b1, o1 + j, none⟩) (lt_of_cell p1)).trans p1
        have p2 := (HBR.out.cell (p := ⟨b2, o2 + j, none⟩) (lt_of_cell p2)).trans p2
        have z1 := lt_of_cell p1
        have z2 := lt_of_cell p2
        simp only at z1 z2
        have HR1 := hide (r1.below HBR.out)
        have HR2 := hide (r2.below HBR.out)
        have hl1 := r1.2.1
        clear hy1 hy2 r1 r2
        go_upto_region 13 with fail
        go_cut [69] (fun c wx => c = .bool false ∧ Below wr.heap.size wr wx)
        case first =>
          go_quiet (fail)
          go_wp2
          go_meet
          exact ⟨rfl, os_drewN _ _⟩
        case rest =>
          obtain ⟨rfl, hbc⟩ := hcut
          have HBC := hide (bl_on HBR.out hbc)
          have HRa := hide (HR1.out.below hbc)
          have HRb := hide (HR2.out.below hbc)
          have q1 := (hbc.cell (p := ⟨b1, o1 + j, none⟩) z1).trans p1
          have q2 := (hbc.cell (p := ⟨b2, o2 + j, none⟩) z2).trans p2
          have y1 := lt_of_cell q1
          have y2 := lt_of_cell q2
          simp only at y1 y2
          clear hbc p1 p2 z1 z2 HR1 HR2
          go_wp2_with fail
          go_loopw [75] (fun vm wv => ∃ m : Nat, m ≤ l1 ∧ vm = .int .i64 m ∧ Below wc.heap.size wc wv) (fun vm _ => l1 - (intOf vm).toNat)
          case atStart => exact ⟨0, Nat.zero_le _, rfl, Below.refl _ _⟩
          case round =>
            obtain ⟨m, hm, rfl, hbv⟩ := hrel
            by_cases hml : m < l1
            · have hmz : (m : Int) < (l1 : Int) := by omega
              obtain ⟨e1, i1, e2, i2, ua, ul, uc, va, vl, vc, xs, con, rfl, rfl, k0, k1, k2, k3, hx, hy⟩ := (HRa.out.below hbv).two (HRb.out.below hbv) hml
              have s1 := (hbv.cell (p := ⟨b1, o1 + j, none⟩) y1).trans q1
              have s2 := (hbv.cell (p := ⟨b2, o2 + j, none⟩) y2).trans q2
              have HBV := hide hbv
              have HCS := hide (fun (V : World) (hb : Below wr.heap.size wr V) => sameRow_ok con ua ul uc va vl vc xs V (hx.below hb) (hy.below hb))
              clear hx hy hbv q1 q2 y1 y2
              go_upto_region 18 with fail
              refine region_made 15 17 [fIs (.slice (some ⟨b1, o1, none⟩) tl mc), fIs (.int .i64 (j : Int)), fIs (.pointer (some ⟨b1, o1 + j, none⟩)), fIs (.slice (some ⟨e1, i1, none⟩) l1 d1), fIs (.int .i64 (m : Int)), fIs (.pointer (some ⟨e1, i1 + m * 2, none⟩)), fIs (.agg #[.slice ua ul uc, .int .i64 con]), fIs (.slice (some ⟨b2, o2, none⟩) tl md), fIs (.int .i64 (j : Int)), fIs (.pointer (some ⟨b2, o2 + j, none⟩)), fIs (.slice (some ⟨e2, i2, none⟩) l1 d2), fIs (.int .i64 (m : Int)), fIs (.pointer (some ⟨e2, i2 + m * 2, none⟩)), fIs (.agg #[.slice va vl vc, .int .i64 con]), fIs (.bool true)] (by kernel_rfl) (by kernel_rfl) (by kernel_rfl) (fun ch p q w3 e h => by obtain ⟨t1, d1⟩ := p; obtain ⟨t2, d2⟩ := q; cases e; exact h) ⟨fIs_good _, fIs_good _, fIs_good _, fIs_good _, fIs_good _, fIs_good _, fIs_good _, fIs_good _, fIs_good _, fIs_good _, fIs_good _, fIs_good _, fIs_good _, fIs_good _, fIs_good _, trivial⟩ ?mkF ?restF
              case mkF =>
                refine ⟨fun u wz hb hd => ?_, fun u wz hb hd => ?_, fun u wz hb hd => ?_, fun u wz hb hd => ?_, fun u wz hb hd => ?_, fun u wz hb hd => ?_, fun u wz hb hd => ?_, fun u wz hb hd => ?_, fun u wz hb hd => ?_, fun u wz hb hd => ?_, fun u wz hb hd => ?_, fun u wz hb hd => ?_, fun u wz hb hd => ?_, fun u wz hb hd => ?_, fun u wz hb hd => ?_, trivial⟩
                all_goals simp only [Act.put, List.setIfInBounds_toArray, List.set_cons_zero, List.set_cons_succ]
                · go_simp
                  exact ⟨rfl, Below.refl _ _, fun h => by cases h⟩
                · go_simp
                  exact ⟨rfl, Below.refl _ _, fun h => by cases h⟩
                · have e0 : u 0 = .slice (some ⟨b1, o1, none⟩) tl mc := hd 0 (by omega) (by kernel_rfl)
                  have e1 : u 1 = .int .i64 (j : Int) := hd 1 (by omega) (by kernel_rfl)
                  rw [e0, e1]
                  go_simp
                  exact ⟨rfl, Below.refl _ _, fun h => by cases h⟩
                · have e2 : u 2 = .pointer (some ⟨b1, o1 + j, none⟩) := hd 2 (by omega) (by kernel_rfl)
                  rw [e2]
                  have s1' := (hb.cell (p := ⟨b1, o1 + j, none⟩) (lt_of_cell s1)).trans s1
                  go_simp
                  exact ⟨rfl, Below.refl _ _, fun h => by cases h⟩
                · go_simp
                  exact ⟨rfl, Below.refl _ _, fun h => by cases h⟩
                · have e3 : u 3 = .slice (some ⟨e1, i1, none⟩) l1 d1 := hd 3 (by omega) (by kernel_rfl)
                  have e4 : u 4 = .int .i64 (m : Int) := hd 4 (by omega) (by kernel_rfl)
                  rw [e3, e4]
                  go_simp
                  exact ⟨rfl, Below.refl _ _, fun h => by cases h⟩
                · have e5 : u 5 = .pointer (some ⟨e1, i1 + m * 2, none⟩) := hd 5 (by omega) (by kernel_rfl)
                  rw [e5]
                  have k0' := (hb.cell (p := ⟨e1, i1 + m * 2, none⟩) (lt_of_cell k0)).trans k0
                  have k1' := (hb.cell (p := ⟨e1, i1 + m * 2 + 1, none⟩) (lt_of_cell k1)).trans k1
                  go_simp
                  exact ⟨rfl, Below.refl _ _, fun h => by cases h⟩
                · go_simp
                  exact ⟨rfl, Below.refl _ _, fun h => by cases h⟩
                · go_simp
                  exact ⟨rfl, Below.refl _ _, fun h => by cases h⟩
                · have e7 : u 7 = .slice (some ⟨b2, o2, none⟩) tl md := hd 7 (by omega) (by kernel_rfl)
                  have e8 : u 8 = .int .i64 (j : Int) := hd 8 (by omega) (by kernel_rfl)
                  rw [e7, e8]
                  go_simp
                  exact ⟨rfl, Below.refl _ _, fun h => by cases h⟩
                · have e9 : u 9 = .pointer (some ⟨b2, o2 + j, none⟩) := hd 9 (by omega) (by kernel_rfl)
                  rw [e9]
                  have s2' := (hb.cell (p := ⟨b2, o2 + j, none⟩) (lt_of_cell s2)).trans s2
                  go_simp
                  exact ⟨rfl, Below.refl _ _, fun h => by cases h⟩
                · go_simp
                  exact ⟨rfl, Below.refl _ _, fun h => by cases h⟩
                · have e10 : u 10 = .slice (some ⟨e2, i2, none⟩) l1 d2 := hd 10 (by omega) (by kernel_rfl)
                  have e11 : u 11 = .int .i64 (m : Int) := hd 11 (by omega) (by kernel_rfl)
                  rw [e10, e11]
                  go_simp
                  exact ⟨rfl, Below.refl _ _, fun h => by cases h⟩
                · have e12 : u 12 = .pointer (some ⟨e2, i2 + m * 2, none⟩) := hd 12 (by omega) (by kernel_rfl)
                  rw [e12]
                  have k2' := (hb.cell (p := ⟨e2, i2 + m * 2, none⟩) (lt_of_cell k2)).trans k2
                  have k3' := (hb.cell (p := ⟨e2, i2 + m * 2 + 1, none⟩) (lt_of_cell k3)).trans k3
                  go_simp
                  exact ⟨rfl, Below.refl _ _, fun h => by cases h⟩
                · have e6 : u 6 = .agg #[.slice ua ul uc, .int .i64 con] := hd 6 (by omega) (by kernel_rfl)
                  have e13 : u 13 = .agg #[.slice va vl vc, .int .i64 con] := hd 13 (by omega) (by kernel_rfl)
                  rw [e6, e13]
                  go_simp
                  refine (HCS.out wz hb).mono ?_
                  rintro e w2 ⟨rfl, hb2⟩
                  exact ⟨rfl, hb2, fun h => by cases h⟩
              case restF =>
                intro u wz hb hf hp
                have f0 : u 0 = .slice (some ⟨b1, o1, none⟩) tl mc := hf 0 (by omega)
                have f1 : u 1 = .int .i64 (j : Int) := hf 1 (by omega)
                have f2 : u 2 = .pointer (some ⟨b1, o1 + j, none⟩) := hf 2 (by omega)
                have f3 : u 3 = .slice (some ⟨e1, i1, none⟩) l1 d1 := hf 3 (by omega)
                have f4 : u 4 = .int .i64 (m : Int) := hf 4 (by omega)
                have f5 : u 5 = .pointer (some ⟨e1, i1 + m * 2, none⟩) := hf 5 (by omega)
                have f6 : u 6 = .agg #[.slice ua ul uc, .int .i64 con] := hf 6 (by omega)
                have f7 : u 7 = .slice (some ⟨b2, o2, none⟩) tl md := hf 7 (by omega)
                have f8 : u 8 = .int .i64 (j : Int) := hf 8 (by omega)
                have f9 : u 9 = .pointer (some ⟨b2, o2 + j, none⟩) := hf 9 (by omega)
                have f10 : u 10 = .slice (some ⟨e2, i2, none⟩) l1 d2 := hf 10 (by omega)
                have f11 : u 11 = .int .i64 (m : Int) := hf 11 (by omega)
                have f12 : u 12 = .pointer (some ⟨e2, i2 + m * 2, none⟩) := hf 12 (by omega)
                have f13 : u 13 = .agg #[.slice va vl vc, .int .i64 con] := hf 13 (by omega)
                have f14 : u 14 = .bool true := hf 14 (by omega)
                refine UptoW.rest 1 15 (by rfl) (by kernel_rfl) ?_
                simp only [List.take, List.drop, putOps, Act.put, List.setIfInBounds_toArray, List.set_cons_zero, List.set_cons_succ, Nat.reduceAdd, f0, f1, f2, f3, f4, f5, f6, f7, f8, f9, f10, f11, f12, f13, f14]
                clear f0 f1 f2 f3 f4 f5 f6 f7 f8 f9 f10 f11 f12 f13 f14 hf hp
                have HBX := hide (bl_on HBV.out hb)
                clear hb k0 k1 k2 k3 s1 s2
                go_wp2_with fail
                go_roundw
                case rel => exact ⟨m + 1, by omega, by go_num, HBX.out⟩
                case measure => simp [intOf]; omega
            · have hmz : ¬ (m : Int) < (l1 : Int) := by omega
              have HBV := hide hbv
              clear hbv q1 q2 y1 y2
              go_wp2_with fail
              go_roundw
              case rel => exact ⟨j + 1, by omega, by go_num, bl_on HBC.out HBV.out⟩
              case measure => simp [intOf]; omega
      · have hjz : ¬ (j : Int) < (tl : Int) := by omega
        go_wp2_with fail
        go_ret
        exact ⟨rfl, bl_on HB6.out HBR.out⟩
end Go.Proofs.Ytmmigbkilbfheaa.V
