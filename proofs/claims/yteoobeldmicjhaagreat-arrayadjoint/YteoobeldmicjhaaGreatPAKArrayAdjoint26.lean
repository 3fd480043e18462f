/-
  Contract: adjointref2.padDims. Contract: adjointref2.joinDims. Contracts: array.shape and adjointref2.ruled where all dimensions must be alike. adjointlaw2.back: the kind Pad.
-/
import Derived.Test.YteoobeldmicjhaaGreatPAKArrayAdjoint23
import Derived.Test.YteoobeldmicjhaaGreatPAKArrayAdjoint9
import Derived.Test.YteoobeldmicjhaaGreatPAKArrayAdjoint8
import Derived.Test.YteoobeldmicjhaaGreatPAKArrayAdjoint22
import Derived.Test.YteoobeldmicjhaaGreatPAKArrayAdjoint20
namespace Go.Proofs.YteoobeldmicjhaaGreat.V
set_option maxRecDepth 20000
open Go.RowKit

set_option maxRecDepth 100000 in
set_option maxHeartbeats 4000000 in
theorem rpadDims_any (k x : Int) (vd va : Value) (la : Option Addr) (ll lc : Nat) (lo : List Int) (ha : Option Addr) (hl hc : Nat) (hi : List Int) (ta : Option Addr) (tl tc : Nat) (st : List Int) (da : Option Addr) (dl dc : Nat) (ds : List Int) (w : World)
    (hlo : Ints w la ll lo) (hhi : Ints w ha hl hi) (hst : Ints w ta tl st) (hd : Ints w da dl ds) (hz : sizeE ds = 0) :
    Calls Tryz.prog 51 #[.agg #[.int .i64 k, vd, va, .slice la ll lc, .slice ha hl hc, .slice ta tl tc, .int .i64 x], .slice da dl dc] w fun e w' => OutP e w' (padP ds lo hi st) ∧ Below w.heap.size w w' := by
  have HLO := hide hlo
  have HHI := hide hhi
  have HST := hide hst
  have HD := hide hd
  have HN := hide hd.1
  have HZ := hide (sizeE_ok hz).2.1
  have h6 : dl ≤ 6 := by have := (sizeE_ok hz).1; have := hd.1; omega
  obtain ⟨i0, hi0, hz0, hz1, hz2⟩ := info_parts info_int
  have HI := hide hi0
  have HZ0 := hide hz0
  have HZ1 := hide hz1
  have HZ2 := hide hz2
  clear hi0 hz0 hz1 hz2
  have HB1 := hide ((Below.refl w.heap.size w).alloc (Nat.le_refl _) (.cells #[.int .i64 k, vd, va, .slice la ll lc, .slice ha hl hc, .slice ta tl tc, .int .i64 x] 31))
  have HOP := hide (OpAt.new w k vd va (.slice la ll lc) (.slice ha hl hc) (.slice ta tl tc) x)
  have e1 := hlo.1
  have e2 := hhi.1
  have e3 := hst.1
  have e4 := hd.1
  clear hlo hhi hst hd hz
  by_cases cl : ll = dl ∧ hl = dl ∧ tl = dl
  case neg =>
    have hp : padP ds lo hi st = ([], 6) := by
      unfold padP lensB
      rw [e1, e2, e3, e4, if_neg]
      simp only [Bool.and_eq_true, decide_eq_true_eq]; exact cl
    rw [hp]
    clear hp e1 e2 e3 e4
    by_cases q1 : ll = dl
    · by_cases q2 : hl = dl
      · have q3 : ((tl : Int) != (dl : Int)) = true := by simp; omega
        subst q1
        subst q2
        clear cl
        go_enter Tryz.func51, Tryz.ntmps51
        go_wp2
        go_ret2
        exact ⟨outP_none _ _, HB1.out⟩
      · have q3 : ((hl : Int) != (dl : Int)) = true := by simp; omega
        subst q1
        clear cl q2
        go_enter Tryz.func51, Tryz.ntmps51
        go_wp2
        go_ret2
        exact ⟨outP_none _ _, HB1.out⟩
    · have q3 : ((ll : Int) != (dl : Int)) = true := by simp; omega
      clear cl q1
      go_enter Tryz.func51, Tryz.ntmps51
      go_wp2
      go_ret2
      exact ⟨outP_none _ _, HB1.out⟩
  obtain ⟨q1, q2, q3⟩ := cl
  have hp : padP ds lo hi st = if anyPad ds.length lo hi st = true then ([], 4) else (padD ds lo hi st, 0) := by
    unfold padP lensB
    rw [e1, e2, e3, e4, if_pos]
    simp only [Bool.and_eq_true, decide_eq_true_eq]; exact ⟨q1, q2, q3⟩
  have HPP := hide hp
  obtain rfl := q1
  obtain rfl := q2
  obtain rfl := q3
  clear hp e1 e2 e3 e4
  go_enter Tryz.func51, Tryz.ntmps51
  go_wp2
  go_loopw [6, 33] (fun v i wr => ∃ m : Nat, m ≤ tl ∧ i = .int .i64 m ∧ OpAt wr w.heap.size k vd va (.slice la tl lc) (.slice ha tl hc) (.slice ta tl tc) x ∧ wr.ownsRow (w.heap.size + 1) 3 1 v m (((padD ds lo hi st).take m).map (Value.int .i64)) ∧ (∀ j, j < m → padBad lo hi st j = false) ∧ Below w.heap.size w wr) (fun _ i _ => tl - (intOf i).toNat)
  case atStart => exact ⟨0, Nat.zero_le _, rfl, HOP.out, World.ownsRow_nil _ _ _ _, fun j hj => by omega, HB1.out⟩
  case round =>
    obtain ⟨m, hm, rfl, hop, hown, hgood, hB⟩ := hrel
    have HO := hide hop
    have HX := hide hown
    have HG := hide hgood
    have HB := hide hB
    clear hop hown hgood hB
    by_cases hlt : m < tl
    · obtain ⟨lb, lof, rfl, hlb, hlc⟩ := HLO.out.at (by omega)
      obtain ⟨hb, hof, rfl, hhb, hhc⟩ := HHI.out.at (by omega)
      obtain ⟨tb, tof, rfl, htb, htc⟩ := HST.out.at (by omega)
      obtain ⟨db, dof, rfl, hdb, hdc⟩ := HD.out.at (by omega)
      obtain ⟨L, hL⟩ : ∃ L, L = lo[m]?.getD 0 := ⟨_, rfl⟩
      obtain ⟨U, hU⟩ : ∃ U, U = hi[m]?.getD 0 := ⟨_, rfl⟩
      obtain ⟨T, hT⟩ : ∃ T, T = st[m]?.getD 0 := ⟨_, rfl⟩
      obtain ⟨D, hD⟩ : ∃ D, D = ds[m]?.getD 0 := ⟨_, rfl⟩
      have cl : wr.cell? ⟨lb, lof + m, none⟩ = some (.int .i64 L) := by rw [hL]; exact (HB.out.cell (p := ⟨lb, lof + m, none⟩) hlb).trans (hlc m hlt)
      have ch : wr.cell? ⟨hb, hof + m, none⟩ = some (.int .i64 U) := by rw [hU]; exact (HB.out.cell (p := ⟨hb, hof + m, none⟩) hhb).trans (hhc m hlt)
      have ct : wr.cell? ⟨tb, tof + m, none⟩ = some (.int .i64 T) := by rw [hT]; exact (HB.out.cell (p := ⟨tb, tof + m, none⟩) htb).trans (htc m hlt)
      have cd : wr.cell? ⟨db, dof + m, none⟩ = some (.int .i64 D) := by rw [hD]; exact (HB.out.cell (p := ⟨db, dof + m, none⟩) hdb).trans (hdc m hlt)
      have hDb : 0 ≤ D ∧ D ≤ 4096 := by rw [hD]; exact HZ.out _ (mem_getD ds m (by rw [HN.out]; exact hlt))
      have HPB : Hid (padBad lo hi st m = (decide (L < 0) || (decide (4096 < L) || (decide (U < 0) || (decide (4096 < U) || (decide (T < 1) || decide (4096 < T))))))) := by rw [Hid, hL, hU, hT]; rfl
      have HPV : Hid (padV ds lo hi st m = L + U + (if 0 < D then (D - 1) * T + 1 else 0)) := by rw [Hid, hL, hU, hT, hD]; rfl
      obtain ⟨o0, o1, o2, o3, o4, o5, o6⟩ := HO.out.cells
      have i1 : (0 : Int) ≤ (m : Int) := Int.natCast_nonneg _
      have i2 : (m : Int) < (tl : Int) := by omega
      have HBAD : Hid (padBad lo hi st m = true → padP ds lo hi st = ([], 4)) := fun hb => by
        rw [HPP.out, if_pos]
        unfold anyPad
        rw [List.any_eq_true]
        exact ⟨m, by rw [List.mem_range, HN.out]; exact hlt, hb⟩
      have HCL : Hid (∀ wx, Below w.heap.size w wx → wx.cell? ⟨lb, lof + m, none⟩ = some (.int .i64 L)) := fun wx hx => by rw [hL]; exact (hx.cell (p := ⟨lb, lof + m, none⟩) hlb).trans (hlc m hlt)
      have HCH : Hid (∀ wx, Below w.heap.size w wx → wx.cell? ⟨hb, hof + m, none⟩ = some (.int .i64 U)) := fun wx hx => by rw [hU]; exact (hx.cell (p := ⟨hb, hof + m, none⟩) hhb).trans (hhc m hlt)
      clear hlc hhc htc hdc hL hU hT hD
      by_cases x1 : L < 0
      · go_wp2
        go_ret2
        rw [HBAD.out (by rw [HPB.out]; simp [x1])]
        exact ⟨outP_none _ _, HB.out⟩
      by_cases x2 : 4096 < L
      · go_wp2
        go_ret2
        rw [HBAD.out (by rw [HPB.out]; simp [x2])]
        exact ⟨outP_none _ _, HB.out⟩
      by_cases x3 : U < 0
      · go_wp2
        go_ret2
        rw [HBAD.out (by rw [HPB.out]; simp [x3])]
        exact ⟨outP_none _ _, HB.out⟩
      by_cases x4 : 4096 < U
      · go_wp2
        go_ret2
        rw [HBAD.out (by rw [HPB.out]; simp [x4])]
        exact ⟨outP_none _ _, HB.out⟩
      by_cases x5 : T < 1
      · go_wp2
        go_ret2
        rw [HBAD.out (by rw [HPB.out]; simp [x5])]
        exact ⟨outP_none _ _, HB.out⟩
      by_cases x6 : 4096 < T
      · go_wp2
        go_ret2
        rw [HBAD.out (by rw [HPB.out]; simp [x6])]
        exact ⟨outP_none _ _, HB.out⟩
      have HOK : Hid (padBad lo hi st m = false) := by
        rw [Hid, HPB.out]
        simp; omega
      have HGS : Hid (∀ j, j < m + 1 → padBad lo hi st j = false) := fun j hj => by
        by_cases e : j = m
        · rw [e]; exact HOK.out
        · exact HG.out j (by omega)
      have HTS : Hid ((padD ds lo hi st).take (m + 1) = (padD ds lo hi st).take m ++ [padV ds lo hi st m]) := by
        have hkd : m < ds.length := by rw [HN.out]; exact hlt
        rw [Hid, take_succ_getD _ m (by rw [padD_length]; exact hkd), padD_getD ds lo hi st m hkd]
      have HFIN : Hid (∀ (wx w2 : World) (v' : Value) (V : Int), V = padV ds lo hi st m → OpAt wx w.heap.size k vd va (.slice (some ⟨lb, lof, none⟩) tl lc) (.slice (some ⟨hb, hof, none⟩) tl hc) (.slice (some ⟨tb, tof, none⟩) tl tc) x → Below w.heap.size w wx → wx.ownsRow (w.heap.size + 1) 3 1 u6 m (((padD ds lo hi st).take m).map (Value.int .i64)) → w2.ownsRow (w.heap.size + 1) 3 1 v' (m + 1) (((padD ds lo hi st).take m).map (Value.int .i64) ++ [.int .i64 V]) → wx.grownBy w2 u6.ownBlock →
          OpAt w2 w.heap.size k vd va (.slice (some ⟨lb, lof, none⟩) tl lc) (.slice (some ⟨hb, hof, none⟩) tl hc) (.slice (some ⟨tb, tof, none⟩) tl tc) x ∧ w2.ownsRow (w.heap.size + 1) 3 1 v' (m + 1) (((padD ds lo hi st).take (m + 1)).map (Value.int .i64)) ∧ Below w.heap.size w w2) := by
        intro wx w2 v' V hV hop hBx hown hown2 hg
        refine ⟨?_, ?_, ?_⟩
        · have := hg.block w.heap.size hop.lt (fun e => by have := (hown.lt _ e.symm).1; omega)
          exact this.trans hop
        · rw [HTS.out, List.map_append, ← hV]; exact hown2
        · exact hBx.grown hg hBx.size (fun j e => by have := (hown.lt j e).1; omega)
      have hsz : w.heap.size + 1 ≤ wr.heap.size := HO.out.lt
      by_cases cD : 0 < D
      · have hm3 : 0 ≤ (D - 1) * T := Int.mul_nonneg (by omega) (by omega)
        have hm4 : (D - 1) * T ≤ 4096 * 4096 := Int.mul_le_mul (by omega) (by omega) (by omega) (by omega)
        have HPV' : Hid (padV ds lo hi st m = L + U + ((D - 1) * T + 1)) := by rw [Hid, HPV.out, if_pos cD]
        obtain ⟨M, hM⟩ : ∃ M, M = (D - 1) * T + 1 := ⟨_, rfl⟩
        have HM := hide hM
        go_wp2_with fail
        go_cut [8] (fun n wc => n = .int .i64 M ∧ OpAt wc w.heap.size k vd va (.slice (some ⟨lb, lof, none⟩) tl lc) (.slice (some ⟨hb, hof, none⟩) tl hc) (.slice (some ⟨tb, tof, none⟩) tl tc) x ∧ wc.ownsRow (w.heap.size + 1) 3 1 u6 m (((padD ds lo hi st).take m).map (Value.int .i64)) ∧ Below w.heap.size w wc)
        case first =>
          go_region
          all_goals go_wp2
          all_goals go_meet
          all_goals exact ⟨by rw [HM.out], HO.out, HX.out.drew, HB.out.drew⟩
        case rest =>
          obtain ⟨rfl, hop, hown, hB⟩ := hcut
          clear cl ch ct cd o0 o1 o2 o3 o4 o5 o6 HO HX HB hsz
          have HO := hide hop
          have HX := hide hown
          have HB := hide hB
          have hsz : w.heap.size + 1 ≤ wc.heap.size := hop.lt
          have cl := HCL.out _ hB
          have ch := HCH.out _ hB
          obtain ⟨o0, o1, o2, o3, o4, o5, o6⟩ := HO.out.cells
          clear hop hown hB
          have hMb : 0 ≤ M ∧ M ≤ 4096 * 4096 + 1 := by omega
          have HV : Hid (IntKind.i64.wrap (IntKind.i64.wrap (L + M) + U) = padV ds lo hi st m) := by
            rw [Hid, HPV'.out, ← HM.out, wrap_in (L + M) (by omega) (by omega), wrap_in _ (by omega) (by omega)]; omega
          clear hm3 hm4 hM cD
          go_wp2_with fail
          go_region_law ((refine step_append_lies _ (by rfl) _ _ _ (by rfl) (w.heap.size + 1) 3 i0 _ 1 8 Tryz.underlying22 HI.out HZ0.out HZ1.out HZ2.out rfl (by omega) _ _ _ (by rfl) ((HX.out.alloc _).drew) ⟨wc.heap.size, 0, none⟩ 1 1 [.int .i64 (IntKind.i64.wrap (IntKind.i64.wrap (L + M) + U))] (by rfl) (by rfl) (World.news_of_block (cs := #[.int .i64 (IntKind.i64.wrap (IntKind.i64.wrap (L + M) + U))]) (t := 3) (fr := (0, 0)) (heap_alloc_new wc _)) (by simp [Value.oneCell']) (by omega) (by unfold maxLen; omega) (by omega) (by have := HB.out.size; simp; omega) (wc.heap.size + 1) (by simp) ?_; intro g1 c1 w2 hown1 hgrow hat hlt3; have HX2 := hide hown1; have HG2 := hide hgrow; clear hown1 hgrow hat))
          all_goals go_wp2
          all_goals go_roundw
          all_goals try (case measure => simp [intOf]; omega)
          all_goals
            have hf := HFIN.out ((wc.alloc (.cells #[.int .i64 (IntKind.i64.wrap (IntKind.i64.wrap (L + M) + U))] 3)).drew) w2 _ _ HV.out (HO.out.alloc _) ((HB.out.alloc HB.out.size _).drew) ((HX.out.alloc _).drew) HX2.out HG2.out
            have hr : ∃ m' : Nat, m' ≤ tl ∧ Value.int .i64 ((m : Int) + 1) = .int .i64 m' ∧ OpAt w2 w.heap.size k vd va (.slice (some ⟨lb, lof, none⟩) tl lc) (.slice (some ⟨hb, hof, none⟩) tl hc) (.slice (some ⟨tb, tof, none⟩) tl tc) x ∧ w2.ownsRow (w.heap.size + 1) 3 1 (.slice (some ⟨g1, 0, none⟩) (m + 1) c1) m' (((padD ds lo hi st).take m').map (Value.int .i64)) ∧ (∀ j, j < m' → padBad lo hi st j = false) ∧ Below w.heap.size w w2 := ⟨m + 1, by omega, by go_num, hf.1, hf.2.1, HGS.out, hf.2.2⟩
            first
              | exact hr
              | (repeat apply Exists.intro
                 exact ⟨hr, rfl⟩)
      · have HPV' : Hid (padV ds lo hi st m = L + U) := by rw [Hid, HPV.out, if_neg cD]; omega
        have HV : Hid (IntKind.i64.wrap (IntKind.i64.wrap L + U) = padV ds lo hi st m) := by
          rw [Hid, HPV'.out, wrap_in L (by omega) (by omega), wrap_in _ (by omega) (by omega)]
        go_wp2_with fail
        go_region_law ((refine step_append_lies _ (by rfl) _ _ _ (by rfl) (w.heap.size + 1) 3 i0 _ 1 8 Tryz.underlying22 HI.out HZ0.out HZ1.out HZ2.out rfl (by omega) _ _ _ (by rfl) ((HX.out.alloc _).drew) ⟨wr.heap.size, 0, none⟩ 1 1 [.int .i64 (IntKind.i64.wrap (IntKind.i64.wrap L + U))] (by rfl) (by rfl) (World.news_of_block (cs := #[.int .i64 (IntKind.i64.wrap (IntKind.i64.wrap L + U))]) (t := 3) (fr := (0, 0)) (heap_alloc_new wr _)) (by simp [Value.oneCell']) (by omega) (by unfold maxLen; omega) (by omega) (by have := HB.out.size; simp; omega) (wr.heap.size + 1) (by simp) ?_; intro g1 c1 w2 hown1 hgrow hat hlt3; have HX2 := hide hown1; have HG2 := hide hgrow; clear hown1 hgrow hat))
        all_goals go_wp2
        all_goals go_roundw
        all_goals try (case measure => simp [intOf]; omega)
        all_goals
          have hf := HFIN.out ((wr.alloc (.cells #[.int .i64 (IntKind.i64.wrap (IntKind.i64.wrap L + U))] 3)).drew) w2 _ _ HV.out (HO.out.alloc _) ((HB.out.alloc HB.out.size _).drew) ((HX.out.alloc _).drew) HX2.out HG2.out
          exact ⟨m + 1, by omega, by go_num, hf.1, hf.2.1, HGS.out, hf.2.2⟩
    · obtain rfl : m = tl := by omega
      have hp : padP ds lo hi st = (padD ds lo hi st, 0) := by
        rw [HPP.out, if_neg]
        unfold anyPad
        rw [List.any_eq_true]
        rintro ⟨j, hj, hb⟩
        rw [List.mem_range, HN.out] at hj
        rw [HG.out j hj] at hb
        cases hb
      have HPF := hide hp
      clear hp
      go_wp2
      go_ret2
      rw [HPF.out]
      have ho := HX.out
      rw [List.take_of_length_le (by rw [padD_length, HN.out]; exact Nat.le_refl _)] at ho
      refine ⟨outP_new (newAt_own' (w := w) ho (by omega) (by rw [padD_length, HN.out]) (by omega) (fun y hy => ?_)) 0, HB.out⟩
      obtain ⟨j, hj, rfl⟩ := List.getElem_of_mem hy
      have hj' : j < ds.length := by rw [padD_length] at hj; exact hj
      have e1 := padD_getD ds lo hi st j hj'
      have e2 : (padD ds lo hi st)[j]?.getD 0 = (padD ds lo hi st)[j] := by simp [hj]
      rw [← e2, e1]
      have := padV_bd (ds := ds) (HZ.out _ (mem_getD ds j hj')) (HG.out j (by rw [HN.out] at hj'; exact hj'))
      omega

end Go.Proofs.YteoobeldmicjhaaGreat.V
namespace Go.Proofs.YteoobeldmicjhaaGreat.V
set_option maxRecDepth 20000
open Go.RowKit

/-- A row with room behind it. -/
def RowC (w : World) (g c n : Nat) (xs : List Int) : Prop := ∃ f, w.rowIs g 3 c f ∧ ∀ j, j < n → f j = .int .i64 (xs[j]?.getD 0)
theorem RowC.below {w w' : World} {g c n : Nat} {xs : List Int} (h : RowC w g c n xs) (hb : Below w.heap.size w w') : RowC w' g c n xs := by
  obtain ⟨f, h1, h2⟩ := h
  exact ⟨f, h1.of_block (hb.block g h1.lt), h2⟩
theorem RowC.cell {w : World} {g c n : Nat} {xs : List Int} (h : RowC w g c n xs) (hn : n ≤ c) {j : Nat} (hj : j < n) : w.cell? ⟨g, j, none⟩ = some (.int .i64 (xs[j]?.getD 0)) := by
  obtain ⟨f, h1, h2⟩ := h
  have := h1.cell (show j < c by omega)
  rwa [h2 j hj] at this
theorem RowC.frozen {w : World} {g c n : Nat} {xs : List Int} (h : RowC w g c n xs) (j : Nat) : w.frozen? ⟨g, j, none⟩ = false := by
  obtain ⟨f, h1, h2⟩ := h
  exact h1.frozen j
theorem RowC.set {w : World} {g c n : Nat} {xs : List Int} (h : RowC w g c n xs) (p : Nat) (V' : Int) (hp : p < xs.length) : RowC (w.setCell ⟨g, p, none⟩ (.int .i64 V')) g c n (xs.set p V') := by
  obtain ⟨f, h1, h2⟩ := h
  refine ⟨_, h1.set p (.int .i64 V'), fun j hj => ?_⟩
  rw [set_getD xs p j V' hp]
  by_cases e : j = p
  · simp [e]
  · simp [e, h2 j hj]
theorem RowC.ints {w : World} {g c n : Nat} {xs : List Int} (h : RowC w g c n xs) (hn : n ≤ c) (hl : xs.length = n) (hm : n ≤ 9223372036854775807) (hb : ∀ x ∈ xs, -9223372036854775808 ≤ x ∧ x ≤ 9223372036854775807) : Ints w (some ⟨g, 0, none⟩) n xs :=
  ⟨hl, hm, hb, .inr ⟨g, 0, rfl, fun j hj => by rw [Nat.zero_add]; exact h.cell hn hj⟩⟩
end Go.Proofs.YteoobeldmicjhaaGreat.V
namespace Go.Proofs.YteoobeldmicjhaaGreat.V
set_option maxRecDepth 20000
open Go.RowKit

end Go.Proofs.YteoobeldmicjhaaGreat.V
namespace Go.Proofs.YteoobeldmicjhaaGreat.V
set_option maxRecDepth 20000
open Go.RowKit

/-- Where what was padded ends. -/
def pdE (x l s : Int) : Int := l + (if 0 < x then (x - 1) * s + 1 else 0)
def pdHi (ds lo st : List Int) : List Int := (List.range ds.length).map fun j => pdE (ds[j]?.getD 0) (lo[j]?.getD 0) (st[j]?.getD 0)
theorem pdHi_length (ds lo st : List Int) : (pdHi ds lo st).length = ds.length := by simp [pdHi]
theorem pdHi_at (ds lo st : List Int) (j : Nat) (h : j < ds.length) : (pdHi ds lo st)[j]?.getD 0 = pdE (ds[j]?.getD 0) (lo[j]?.getD 0) (st[j]?.getD 0) := by simp [pdHi, h]
/-- What is padded, of one dimension. -/
structure PadOne (X L S : Int) : Prop where
  dim : 0 ≤ X
  top : X ≤ 4096
  lo : 0 ≤ L
  big : L ≤ 4096
  one : 1 ≤ S
  far : S ≤ 4096
theorem pdE_bd {x l s : Int} (h : PadOne x l s) : 0 ≤ pdE x l s ∧ pdE x l s ≤ 16785409 := by
  obtain ⟨h1, h2, h3, h4, h5, h6⟩ := h
  unfold pdE
  split
  · have a1 : 0 ≤ (x - 1) * s := Int.mul_nonneg (by omega) (by omega)
    have a2 : (x - 1) * s ≤ 4096 * 4096 := Int.mul_le_mul (by omega) h6 (by omega) (by omega)
    omega
  · omega

set_option maxRecDepth 100000 in
set_option maxHeartbeats 2000000 in
theorem back_14 (ea : Option Addr) (el ec : Nat) (pa : Option Addr) (pl pc : Nat) (la : Option Addr) (ll lc : Nat) (ha : Option Addr) (hl hc : Nat) (ta : Option Addr) (tl tc : Nat) (x : Int) (da : Option Addr) (dl dc : Nat) (ds lo hi st : List Int) (w : World) (hd : Ints w da dl ds) (hl' : Ints w la ll lo) (hh : Ints w ha hl hi) (ht : Ints w ta tl st) (e1 : dl = ll) (e2 : dl = hl) (e3 : dl = tl) (h6 : dl ≤ 6) (hok : ∀ j, j < dl → PadOne (ds[j]?.getD 0) (lo[j]?.getD 0) (st[j]?.getD 0)) :
    Calls Tryz.prog 14 #[.agg #[.int .i64 14, .slice ea el ec, .slice pa pl pc, .slice la ll lc, .slice ha hl hc, .slice ta tl tc, .int .i64 x], .slice da dl dc] w fun e w' => (∃ (X : Option Addr) (n c : Nat), e = .returned (.agg #[.int .i64 13, .slice none 0 0, .slice none 0 0, .slice la ll lc, .slice X n c, .slice ta tl tc, .int .i64 0]) ∧ Lst w' X n c (pdHi ds lo st)) ∧ Below w.heap.size w w' := by
  subst e1
  subst e2
  subst e3
  have HB1 := (Below.refl w.heap.size w).alloc (Nat.le_refl _) (.cells #[.int .i64 14, .slice ea el ec, .slice pa pl pc, .slice la dl lc, .slice ha dl hc, .slice ta dl tc, .int .i64 x] 31)
  have HB2 := hide (HB1.alloc HB1.size (.cells #[.int .i64 0, .slice none 0 0, .slice none 0 0, .slice none 0 0, .slice none 0 0, .slice none 0 0, .int .i64 0] 31))
  have HOP := hide ((OpAt.new w 14 (.slice ea el ec) (.slice pa pl pc) (.slice la dl lc) (.slice ha dl hc) (.slice ta dl tc) x).alloc (.cells #[.int .i64 0, .slice none 0 0, .slice none 0 0, .slice none 0 0, .slice none 0 0, .slice none 0 0, .int .i64 0] 31))
  have hrs := OpAt.new (w.alloc (.cells #[.int .i64 14, .slice ea el ec, .slice pa pl pc, .slice la dl lc, .slice ha dl hc, .slice ta dl tc, .int .i64 x] 31)) 0 (.slice none 0 0) (.slice none 0 0) (.slice none 0 0) (.slice none 0 0) (.slice none 0 0) 0
  simp only [World.size_alloc] at hrs
  have HRS := hide hrs
  obtain ⟨o0, o1, o2, o3, o4, o5, o6⟩ := HOP.out.cells
  clear hrs HB1
  have Hd2 := hide (hd.below HB2.out)
  have Hl2 := hide (hl'.below HB2.out)
  have Hh2 := hide (hh.below HB2.out)
  have Ht2 := hide (ht.below HB2.out)
  have HOK := hide hok
  have HDL := hide hd.1
  have hdm := hd.2.1
  have hmk := run_make_row' (P := Tryz.prog) 22 3 (.int .i64 0) 8 Tryz.underlying22 info_int rfl .i64 .i64 dl (by omega) (by omega)
  have hob := HOP.out.alloc (.cells (madeCells #[.int .i64 0] dl) 3)
  obtain ⟨q0, q1, q2, q3, q4, q5, q6⟩ := hob.cells
  clear hd hl' hh ht hok hob
  go_enter Tryz.func14, Tryz.ntmps14
  go_wp2
  obtain ⟨W2, hW2⟩ : ∃ W2, W2 = ((w.alloc (.cells #[.int .i64 14, .slice ea el ec, .slice pa pl pc, .slice la dl lc, .slice ha dl hc, .slice ta dl tc, .int .i64 x] 31)).alloc (.cells #[.int .i64 0, .slice none 0 0, .slice none 0 0, .slice none 0 0, .slice none 0 0, .slice none 0 0, .int .i64 0] 31)) := ⟨_, rfl⟩
  have hs2 : W2.heap.size = w.heap.size + 2 := by rw [hW2]; simp
  have hs2' : w.heap.size + 1 + 1 = W2.heap.size := by omega
  rw [← hW2] at HB2 HOP HRS Hd2 Hl2 Hh2 Ht2 ⊢
  rw [hs2']
  have HS2 := hide hs2
  clear hs2 hs2' hW2 o0 o1 o2 o3 o4 o5 o6 q0 q1 q2 q3 q4 q5 q6 hmk
  go_loopw [188] (fun i wr => ∃ k : Nat, k ≤ dl ∧ i = .int .i64 k ∧ wr.rowIs W2.heap.size 3 dl (onWay (pdHi ds lo st) [] k) ∧ Below W2.heap.size W2 wr) (fun i _ => dl - (intOf i).toNat)
  case atStart => exact ⟨0, Nat.zero_le _, rfl, (World.rowIs_made W2 (.int .i64 0) dl 3).congr (fun j _ => by simp [onWay]), (Below.refl _ _).alloc (Nat.le_refl _) _⟩
  case round =>
    obtain ⟨k, hk, rfl, hrow, hB⟩ := hrel
    have HR := hide hrow
    have HB := hide hB
    clear hrow hB
    by_cases hlt : k < dl
    · have hok := HOK.out k hlt
      obtain ⟨db, doff, ed, hdb, hdc⟩ := Hd2.out.at (by omega)
      subst ed
      have HdC := hide (hdc k hlt)
      obtain ⟨lb, loff, el, hlb, hlc⟩ := Hl2.out.at (by omega)
      subst el
      have HlC := hide (hlc k hlt)
      obtain ⟨tb, toff, et, htb, htc⟩ := Ht2.out.at (by omega)
      subst et
      have HtC := hide (htc k hlt)
      have HV : Hid ((pdHi ds lo st)[k]?.getD 0 = pdE (ds[k]?.getD 0) (lo[k]?.getD 0) (st[k]?.getD 0)) := pdHi_at _ _ _ k (by rw [HDL.out]; exact hlt)
      obtain ⟨X, hX⟩ : ∃ X, X = ds[k]?.getD 0 := ⟨_, rfl⟩
      obtain ⟨L, hL⟩ : ∃ L, L = lo[k]?.getD 0 := ⟨_, rfl⟩
      obtain ⟨S, hS⟩ : ∃ S, S = st[k]?.getD 0 := ⟨_, rfl⟩
      rw [← hX, ← hL, ← hS] at HV hok
      rw [← hX] at HdC
      rw [← hL] at HlC
      rw [← hS] at HtC
      clear hX hL hS hdc hlc htc
      have hbd := pdE_bd hok
      obtain ⟨k1, k2, k3, k4, k5, k6⟩ := hok
      have HOR := hide (HOP.out.below HB.out)
      obtain ⟨o0, o1, o2, o3, o4, o5, o6⟩ := HOR.out.cells
      have cd := (HB.out.cell (p := ⟨db, doff + k, none⟩) hdb).trans HdC.out
      have cl := (HB.out.cell (p := ⟨lb, loff + k, none⟩) hlb).trans HlC.out
      have ct := (HB.out.cell (p := ⟨tb, toff + k, none⟩) htb).trans HtC.out
      have hr := HR.out.cell (i := k) (by omega)
      have hf := HR.out.frozen k
      have HR5 := hide (HR.out.set k (.int .i64 L))
      have HB5 := hide (HB.out.setCell (p := ⟨W2.heap.size, k, none⟩) (Nat.le_refl _) (.int .i64 L))
      have HOR5 := hide (HOP.out.below HB5.out)
      obtain ⟨v0, v1, v2, v3, v4, v5, v6⟩ := HOR5.out.cells
      have cl5 := (HB5.out.cell (p := ⟨lb, loff + k, none⟩) hlb).trans HlC.out
      have ct5 := (HB5.out.cell (p := ⟨tb, toff + k, none⟩) htb).trans HtC.out
      have hr5 := HR5.out.cell (i := k) (by omega)
      have hf5 := HR5.out.frozen k
      have i1 : (0 : Int) ≤ (k : Int) := Int.natCast_nonneg _
      have i2 : (k : Int) < (dl : Int) := by omega
      by_cases hX0 : 0 < X
      · obtain ⟨M, hM⟩ : ∃ M, M = (X - 1) * S := ⟨_, rfl⟩
        have hm1 : 0 ≤ M := by rw [hM]; exact Int.mul_nonneg (by omega) (by omega)
        have hm2 : M ≤ 4096 * 4096 := by rw [hM]; exact Int.mul_le_mul (by omega) k6 (by omega) (by omega)
        have HE : Hid (pdE X L S = L + M + 1) := by rw [Hid, pdE, if_pos hX0, ← hM]; omega
        have w1' : IntKind.i64.wrap (X - 1) = X - 1 := wrap_in _ (by omega) (by omega)
        have w2' : IntKind.i64.wrap ((X - 1) * S) = M := by rw [← hM]; exact wrap_in _ (by omega) (by omega)
        have w3' : IntKind.i64.wrap (L + M) = L + M := wrap_in _ (by omega) (by omega)
        have w4' : IntKind.i64.wrap (L + M + 1) = L + M + 1 := wrap_in _ (by omega) (by omega)
        clear hM hbd
        go_wp2_with fail
        go_region
        all_goals go_wp2
        all_goals go_roundw
        case rel =>
          refine ⟨k + 1, by omega, by go_num, ((HR5.out.set k (.int .i64 (L + M + 1))).drew).congr (fun j _ => ?_), (HB5.out.setCell (p := ⟨W2.heap.size, k, none⟩) (Nat.le_refl _) _).drew⟩
          rw [← HE.out, ← HV.out]
          have := onWay_succ (pdHi ds lo st) [] k j
          by_cases e : j = k
          · subst e; simpa using this
          · simpa [e] using this
        case measure => simp [intOf]; omega
      · have HE : Hid (pdE X L S = L) := by rw [Hid, pdE, if_neg hX0]; omega
        have hx0 : X = 0 := by omega
        clear hbd
        go_wp2
        go_roundw
        case rel =>
          refine ⟨k + 1, by omega, by go_num, HR5.out.congr (fun j _ => ?_), HB5.out⟩
          have hv := HV.out
          rw [HE.out] at hv
          rw [← hv]; exact onWay_succ _ _ k j
        case measure => simp [intOf]; omega
    · have hkp : k = dl := by omega
      have hs2 := HS2.out
      have hrr := HRS.out.below HB.out
      have HRR := hide hrr
      have HOR := hide (HOP.out.below HB.out)
      obtain ⟨o0, o1, o2, o3, o4, o5, o6⟩ := HOR.out.cells
      have hrow := HR.out
      rw [hkp] at hrow
      have hlst : Lst wr (some ⟨W2.heap.size, 0, none⟩) dl dl (pdHi ds lo st) := ⟨ints_of_rowI (onWay_all hrow) (by rw [pdHi_length, HDL.out]) (by omega) (fun x hx => by
        obtain ⟨j, hj, e⟩ := List.getElem_of_mem hx
        have hj' : j < dl := by rw [pdHi_length, HDL.out] at hj; exact hj
        have h2 := pdE_bd (HOK.out j hj')
        have h3 := pdHi_at ds lo st j (by rw [HDL.out]; exact hj')
        simp [hj] at h3
        omega), Nat.le_refl _, fun e => by cases e⟩
      obtain ⟨y0, y1, y2, y3, y4, y5, y6⟩ := HRR.out.cells
      have z0 := op7_frozen HRR.out 0
      have z1 := op7_frozen HRR.out 1
      have z2 := op7_frozen HRR.out 2
      have z3 := op7_frozen HRR.out 3
      have z4 := op7_frozen HRR.out 4
      have z5 := op7_frozen HRR.out 5
      have z6 := op7_frozen HRR.out 6
      have HBF := hide (op7_below (b := w.heap.size + 1) (Below.on HB2.out HB.out) (by omega) (.int .i64 13) (.slice none 0 0) (.slice none 0 0) (.slice la dl lc) (.slice (some ⟨W2.heap.size, 0, none⟩) dl dl) (.slice ta dl tc) (.int .i64 0))
      have HXF := hide (op7_lst (b := w.heap.size + 1) hlst (fun g o e => by cases e; omega) (.int .i64 13) (.slice none 0 0) (.slice none 0 0) (.slice la dl lc) (.slice (some ⟨W2.heap.size, 0, none⟩) dl dl) (.slice ta dl tc) (.int .i64 0))
      clear hlst hrow hs2 hrr
      go_wp2
      have hput := op7_put HRR.out 13 (.slice none 0 0) (.slice none 0 0) (.slice la dl lc) (.slice (some ⟨W2.heap.size, 0, none⟩) dl dl) (.slice ta dl tc) 0
      obtain ⟨u0, u1, u2, u3, u4, u5, u6⟩ := hput.cells
      exact bodyPost_ret (v := .agg #[.int .i64 13, .slice none 0 0, .slice none 0 0, .slice la dl lc, .slice (some ⟨W2.heap.size, 0, none⟩) dl dl, .slice ta dl tc, .int .i64 0]) (by simp [results, Tryz.results14, go_sem, u0, u1, u2, u3, u4, u5, u6]) rfl ⟨⟨_, _, _, rfl, HXF.out⟩, HBF.out⟩

end Go.Proofs.YteoobeldmicjhaaGreat.V
