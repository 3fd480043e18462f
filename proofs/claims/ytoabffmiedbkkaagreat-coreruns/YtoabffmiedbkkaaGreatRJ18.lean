/-
  The document's Do: kind 1.
-/
import Derived.Test.YtoabffmiedbkkaaGreatRJ16
namespace Go.Proofs.YtoabffmiedbkkaaGreat.V
set_option maxRecDepth 20000
open Go Go.RowKit
set_option linter.unusedVariables false
set_option linter.unusedSimpArgs false

set_option maxRecDepth 20000 in
set_option maxHeartbeats 8000000 in
theorem rdo13_1 (a N : Nat) (bz cz v : Int) (P M : Sw1) (gp op gm om : Nat) (p q : Int → Int) (W : World) (hp : WrdAt W P gp op p) (hm : WrdAt W M gm om q) (hne : gp ≠ gm) (hP9 : P.n ≤ 4096) (hN4 : N ≤ 4096) (ha : a + N ≤ P.n) (hmm : ∀ k : Nat, k < N → 0 ≤ bz + (k : Int) * cz ∧ bz + (k : Int) * cz < (M.n : Int)) (hbz : -1048576 ≤ bz ∧ bz ≤ 1048576) (hcz : -1048576 ≤ cz ∧ cz ≤ 1048576) (hM9 : M.n ≤ 1048576) :
    Calls Tryz.prog 17 #[.agg #[.int .i64 1, .int .i64 (a : Int), .int .i64 bz, .int .i64 cz, .int .i64 (N : Int), .int .i64 v], .slice P.a P.n P.c, .slice M.a M.n M.c] W fun e w' => DoAns P M gp op gm om p q W ⟨1, (a : Int), bz, cz, (N : Int), v⟩ e w' := by
  obtain ⟨V, hV⟩ : ∃ V, V = W.alloc (.cells #[.int .i64 1, .int .i64 (a : Int), .int .i64 bz, .int .i64 cz, .int .i64 (N : Int), .int .i64 v] 50) := ⟨_, rfl⟩
  obtain ⟨ib, hib⟩ : ∃ b, b = W.heap.size := ⟨_, rfl⟩
  have hbV : Below W.heap.size W V := by rw [hV]; exact bl_new _
  have hIB : InB V ib 1 (a : Int) bz cz (N : Int) v := by unfold InB; rw [hV, hib]; exact World.alloc_heap_new _ _
  have hp' := hp.below hbV
  have hm' := hm.below hbV
  have hgl : 0 < P.n → gp < ib := fun h0 => by rw [hib]; exact hp.lt h0
  have hml : 0 < M.n → gm < ib := fun h0 => by rw [hib]; exact hm.lt h0
  have HV := hide hV
  have HIBE := hide hib
  have HIL := hide hIB.lt
  have HBV := hide hbV
  have HIB := hide hIB
  have HP := hide hp'
  have HM := hide hm'
  obtain ⟨Q, hQ⟩ : ∃ Q, Q = DoAns P M gp op gm om p q W ⟨1, (a : Int), bz, cz, (N : Int), v⟩ := ⟨_, rfl⟩
  rw [← hQ]
  have HQ := hide hQ
  clear hp hm hp' hm' hV hib hbV hIB hQ
  go_enter Tryz.func17, Tryz.ntmps17
  go_upto_region 1 with fail
  rw [← HV.out, ← HIBE.out]
  go_upto_region 2 with (at_builtin; refine wpl_wrd_e rfl (.tmp 8) (.tmp 9) rfl _ P.n P.c P.a p rfl rfl (fun h0 => ⟨gp, op, HP.out.1 h0, fun k hk => ((HP.out.below (bl_new _)).cell hk)⟩) (by omega) ?_; intro go oc w3 ho3 hg3 hb3)
  have hbz3 := Below.on HBV.out (Below.on (bl_new (w := V) (.cells #[] 2)) hb3.out)
  have hb13 := Below.on (bl_new (w := V) (.cells #[] 2)) hb3.out
  have hgo1 : 0 < P.n → ib < go := fun h0 => by
    have h1 := hg3.out h0
    have h2 := HIL.out
    simp at h1
    omega
  have HG := hide hgo1
  have HP3 := hide (HP.out.below hb13)
  have HM3 := hide (HM.out.below hb13)
  have HI3 := hide (HIB.out.below hb13)
  have HW3 : Hid (WrB (fun b => b = gp ∨ b = gm) W w3) := WrB.of hbz3
  clear hbz3 hb13 hgo1 HP HM HIB HIL hg3 hb3
  have HO3 : Hid (WrdAt w3 ⟨some ⟨go, 0, none⟩, P.n, oc⟩ go 0 p) := ho3
  clear ho3
  go_wp2_with fail
  go_loopw [7] (fun i wr => ∃ k : Nat, k ≤ N ∧ i = .int .i64 k ∧ WrdAt wr P gp op (padS (⟨1, (a : Int), bz, cz, (N : Int), v⟩) p q k) ∧ WrdAt wr M gm om (q) ∧ WrdAt wr ⟨some ⟨go, 0, none⟩, P.n, oc⟩ go 0 p ∧ InB wr ib 1 (a : Int) bz cz (N : Int) v ∧ WrB (fun b => b = gp ∨ b = gm) W wr) (fun i _ => N - (intOf i).toNat)
  case atStart => exact ⟨0, Nat.zero_le _, by first | rfl | trivial, HP3.out.congr (fun w hw => (padS_zero _ _ _ _).symm), HM3.out, HO3.out, HI3.out, HW3.out⟩
  case round =>
    obtain ⟨k, hk, rfl, h1, h2, h3, h4, h5⟩ := hrel
    have HPR := hide h1
    have HMR := hide h2
    have HOR := hide h3
    have HIR := hide h4
    have HWR := hide h5
    obtain ⟨i0, i1, i2, i3, i4, i5⟩ := h4.cells
    have zi := h4.lt
    clear h1 h2 h3 h4 h5
    by_cases hlt : k < N
    · have hkz : (k : Int) < (N : Int) := by omega
      have hpn0 : 0 < P.n := by omega
      have hpa : P.a = some ⟨gp, op, none⟩ := HPR.out.1 hpn0
      have hgi := hgl hpn0
      have hgo := HG.out hpn0
      obtain ⟨ka, hka⟩ : ∃ ka : Nat, ka = a + k := ⟨_, rfl⟩
      have HWKA : Hid (IntKind.i64.wrap ((a : Int) + (k : Int)) = (ka : Int)) := by
        show IntKind.i64.wrap _ = _
        rw [wrapk_sm (by omega) (by omega)]
        omega
      have HKA : Hid ((ka : Int) = (a : Int) + (k : Int)) := by show _ = _; omega
      have hkal : ka < P.n := by omega
      have hmk := hmm k hlt
      obtain ⟨km, hkm⟩ : ∃ km : Nat, (km : Int) = bz + (k : Int) * cz := ⟨(bz + (k : Int) * cz).toNat, by omega⟩
      have hkml : km < M.n := by omega
      have hma : M.a = some ⟨gm, om, none⟩ := HMR.out.1 (by omega)
      have hmi := hml (by omega)
      have hkc : -4294967296 ≤ (k : Int) * cz ∧ (k : Int) * cz ≤ 4294967296 := by
        have h9 := between (n := 4096) (k := (k : Int)) (c := cz) (by omega) (by omega)
        rcases Int.le_total 0 cz with h | h
        · have := h9.1 h; omega
        · have := h9.2 h; omega
      have HWM : Hid (IntKind.i64.wrap ((k : Int) * cz) = (k : Int) * cz) := wrapk_sm (by omega) (by omega)
      have HWKM : Hid (IntKind.i64.wrap (bz + (k : Int) * cz) = (km : Int)) := by
        show IntKind.i64.wrap _ = _
        rw [wrapk_sm (by omega) (by omega)]
        omega
      have HKM := hide hkm
      obtain ⟨vm, hvm⟩ : ∃ v, v = q (km : Int) := ⟨_, rfl⟩
      have HVM := hide hvm
      clear hmk hkc
      have cvm := HMR.out.cell (k := km) (by first | omega | (simp only; omega))
      rw [← HVM.out] at cvm
      clear hka hkm hvm
      go_upto_region 7 with fail
      refine region_made 16 18 [fIs (.slice P.a P.n P.c), fIs (.pointer (some ⟨ib, 1, none⟩)), fIs (.int .i64 (a : Int)), fIs (.int .i64 (k : Int)), fIs (.int .i64 (ka : Int)), fIs (.slice M.a M.n M.c), fIs (.pointer (some ⟨ib, 2, none⟩)), fIs (.int .i64 bz), fIs (.int .i64 (k : Int)), fIs (.pointer (some ⟨ib, 3, none⟩)), fIs (.int .i64 cz), fIs (.int .i64 ((k : Int) * cz)), fIs (.int .i64 (km : Int)), fIs (.pointer (some ⟨gm, om + km, none⟩)), fIs (.int .i64 vm), fIs (.pointer (some ⟨gp, op + ka, none⟩))] (by kernel_rfl) (by kernel_rfl) (by kernel_rfl) (fun _ ⟨_, _⟩ ⟨_, _⟩ _ e h => by cases e; exact h) ⟨fIs_good _, fIs_good _, fIs_good _, fIs_good _, fIs_good _, fIs_good _, fIs_good _, fIs_good _, fIs_good _, fIs_good _, fIs_good _, fIs_good _, fIs_good _, fIs_good _, fIs_good _, fIs_good _, trivial⟩ ?mk ?rest
      case mk =>
        refine ⟨fun u wz hb hd => ?_, fun u wz hb hd => ?_, fun u wz hb hd => ?_, fun u wz hb hd => ?_, fun u wz hb hd => ?_, fun u wz hb hd => ?_, fun u wz hb hd => ?_, fun u wz hb hd => ?_, fun u wz hb hd => ?_, fun u wz hb hd => ?_, fun u wz hb hd => ?_, fun u wz hb hd => ?_, fun u wz hb hd => ?_, fun u wz hb hd => ?_, fun u wz hb hd => ?_, fun u wz hb hd => ?_, trivial⟩
        all_goals simp only [Act.put, List.setIfInBounds_toArray, List.set_cons_zero, List.set_cons_succ]
        · go_simp
          exact ⟨rfl, Below.refl _ _, fun h => by cases h⟩
        · go_simp
          exact ⟨rfl, Below.refl _ _, fun h => by cases h⟩
        · have e1 : u 1 = .pointer (some ⟨ib, 1, none⟩) := hd 1 (by omega) (by kernel_rfl)
          rw [e1]
          have i1' := (hb.cell (p := ⟨ib, 1, none⟩) (lt_of_cell i1)).trans i1
          go_simp
          exact ⟨rfl, Below.refl _ _, fun h => by cases h⟩
        · go_simp
          exact ⟨rfl, Below.refl _ _, fun h => by cases h⟩
        · have e2 : u 2 = .int .i64 (a : Int) := hd 2 (by omega) (by kernel_rfl)
          have e3 : u 3 = .int .i64 (k : Int) := hd 3 (by omega) (by kernel_rfl)
          rw [e2, e3]
          go_simp
          rw [HWKA.out]
          exact ⟨rfl, Below.refl _ _, fun h => by cases h⟩
        · go_simp
          exact ⟨rfl, Below.refl _ _, fun h => by cases h⟩
        · go_simp
          exact ⟨rfl, Below.refl _ _, fun h => by cases h⟩
        · have e6 : u 6 = .pointer (some ⟨ib, 2, none⟩) := hd 6 (by omega) (by kernel_rfl)
          rw [e6]
          have i2' := (hb.cell (p := ⟨ib, 2, none⟩) (lt_of_cell i2)).trans i2
          go_simp
          exact ⟨rfl, Below.refl _ _, fun h => by cases h⟩
        · go_simp
          exact ⟨rfl, Below.refl _ _, fun h => by cases h⟩
        · go_simp
          exact ⟨rfl, Below.refl _ _, fun h => by cases h⟩
        · have e9 : u 9 = .pointer (some ⟨ib, 3, none⟩) := hd 9 (by omega) (by kernel_rfl)
          rw [e9]
          have i3' := (hb.cell (p := ⟨ib, 3, none⟩) (lt_of_cell i3)).trans i3
          go_simp
          exact ⟨rfl, Below.refl _ _, fun h => by cases h⟩
        · have e8 : u 8 = .int .i64 (k : Int) := hd 8 (by omega) (by kernel_rfl)
          have e10 : u 10 = .int .i64 cz := hd 10 (by omega) (by kernel_rfl)
          rw [e8, e10]
          go_simp
          rw [HWM.out]
          exact ⟨rfl, Below.refl _ _, fun h => by cases h⟩
        · have e7 : u 7 = .int .i64 bz := hd 7 (by omega) (by kernel_rfl)
          have e11 : u 11 = .int .i64 ((k : Int) * cz) := hd 11 (by omega) (by kernel_rfl)
          rw [e7, e11]
          go_simp
          rw [HWKM.out]
          exact ⟨rfl, Below.refl _ _, fun h => by cases h⟩
        · have e5 : u 5 = .slice M.a M.n M.c := hd 5 (by omega) (by kernel_rfl)
          have e12 : u 12 = .int .i64 (km : Int) := hd 12 (by omega) (by kernel_rfl)
          rw [e5, e12]
          rw [hma]
          have q1 : (0 : Int) ≤ (km : Int) := by omega
          have q2 : (km : Int) < (M.n : Int) := by omega
          go_simp
          exact ⟨rfl, Below.refl _ _, fun h => by cases h⟩
        · have e13 : u 13 = .pointer (some ⟨gm, om + km, none⟩) := hd 13 (by omega) (by kernel_rfl)
          rw [e13]
          have cvm' := (hb.cell (p := ⟨gm, om + km, none⟩) (lt_of_cell cvm)).trans cvm
          go_simp
          exact ⟨rfl, Below.refl _ _, fun h => by cases h⟩
        · have e0 : u 0 = .slice P.a P.n P.c := hd 0 (by omega) (by kernel_rfl)
          have e4 : u 4 = .int .i64 (ka : Int) := hd 4 (by omega) (by kernel_rfl)
          rw [e0, e4]
          rw [hpa]
          have q1 : (0 : Int) ≤ (ka : Int) := by omega
          have q2 : (ka : Int) < (P.n : Int) := by omega
          go_simp
          exact ⟨rfl, Below.refl _ _, fun h => by cases h⟩
      case rest =>
        intro u wz hb hf hp
        have f0 : u 0 = .slice P.a P.n P.c := hf 0 (by omega)
        have f1 : u 1 = .pointer (some ⟨ib, 1, none⟩) := hf 1 (by omega)
        have f2 : u 2 = .int .i64 (a : Int) := hf 2 (by omega)
        have f3 : u 3 = .int .i64 (k : Int) := hf 3 (by omega)
        have f4 : u 4 = .int .i64 (ka : Int) := hf 4 (by omega)
        have f5 : u 5 = .slice M.a M.n M.c := hf 5 (by omega)
        have f6 : u 6 = .pointer (some ⟨ib, 2, none⟩) := hf 6 (by omega)
        have f7 : u 7 = .int .i64 bz := hf 7 (by omega)
        have f8 : u 8 = .int .i64 (k : Int) := hf 8 (by omega)
        have f9 : u 9 = .pointer (some ⟨ib, 3, none⟩) := hf 9 (by omega)
        have f10 : u 10 = .int .i64 cz := hf 10 (by omega)
        have f11 : u 11 = .int .i64 ((k : Int) * cz) := hf 11 (by omega)
        have f12 : u 12 = .int .i64 (km : Int) := hf 12 (by omega)
        have f13 : u 13 = .pointer (some ⟨gm, om + km, none⟩) := hf 13 (by omega)
        have f14 : u 14 = .int .i64 vm := hf 14 (by omega)
        have f15 : u 15 = .pointer (some ⟨gp, op + ka, none⟩) := hf 15 (by omega)
        refine UptoW.rest 1 16 (by rfl) (by kernel_rfl) ?_
        simp only [List.take, List.drop, putOps, Act.put, List.setIfInBounds_toArray, List.set_cons_zero, List.set_cons_succ, Nat.reduceAdd, f0, f1, f2, f3, f4, f5, f6, f7, f8, f9, f10, f11, f12, f13, f14, f15]
        clear f0 f1 f2 f3 f4 f5 f6 f7 f8 f9 f10 f11 f12 f13 f14 f15 hf hp
        have HPZ := hide (HPR.out.below hb)
        have HMZ := hide (HMR.out.below hb)
        have HOZ := hide (HOR.out.below hb)
        have HIZ := hide (HIR.out.below hb)
        have HWZ := hide (HWR.out.trans (WrB.of hb))
        have sc := HPZ.out.cell (k := ka) (by omega)
        have sf := HPZ.out.frozen (by omega) (op + ka)
        have sz := HPZ.out.lt (by omega)
        clear hb cvm
        go_wp2_with fail
        go_roundw
        case rel =>
          refine ⟨k + 1, by omega, by first | rfl | go_num, ?_, ?_, HOZ.out.keep (fun _ => Below.heap_setCell _ _ _ _ (by simp only; omega)), HIZ.out.set (by simp only; omega) _, HWZ.out.set (.inl rfl) _⟩
          · refine (HPZ.out.put hkal _).congr (fun w hw => ?_)
            rw [padS_step (x := ⟨1, (a : Int), bz, cz, (N : Int), v⟩) (by simp) p q k ka HKA.out]
            simp only
            rw [← HKM.out, ← HVM.out]
            simp [newE, twoI]
          · exact HMZ.out.keep (fun _ => Below.heap_setCell _ _ _ _ hne.symm)
        case measure => simp [intOf]; omega
    · obtain rfl : N = k := by omega
      go_wp2_with fail
      refine bodyPost_end (v := .tuple #[]) (by simp [results, Tryz.results17, go_sem]) rfl ?_
      rw [HQ.out]
      exact ⟨rfl, HPR.out.congr (fun w hw => padS_all (by simp) p q N rfl _), HMR.out.congr (fun w hw => by unfold doMm; rw [if_neg (by simp)]), HWR.out⟩
end Go.Proofs.YtoabffmiedbkkaaGreat.V
