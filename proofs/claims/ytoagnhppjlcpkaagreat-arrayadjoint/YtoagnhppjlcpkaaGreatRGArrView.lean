/-
  Contract: adjointref2.viewDims.
-/
import Derived.Test.YtoagnhppjlcpkaaGreatRGArrSeen
import Derived.Test.YtoagnhppjlcpkaaGreatRGRTurnNew
import Derived.Test.YtoagnhppjlcpkaaGreatRGRReads
import Derived.Test.YtoagnhppjlcpkaaGreatRGRCut
import Derived.Test.YtoagnhppjlcpkaaGreatRGRSpread
import Derived.Test.YtoagnhppjlcpkaaGreatRGRFlip
import Derived.Test.YtoagnhppjlcpkaaGreatRHArrPad
import Derived.Test.YtoagnhppjlcpkaaGreatRGRTurn
import Derived.Test.YtoagnhppjlcpkaaGreatRGArrSides
import Derived.Test.YtoagnhppjlcpkaaGreatRHArrJoin
import Derived.Test.YtoagnhppjlcpkaaGreatRGSteps
import Derived.Test.YtoagnhppjlcpkaaGreatRGArrTake
namespace Go.Proofs.YtoagnhppjlcpkaaGreat.V
set_option maxRecDepth 20000
open Go.RowKit

set_option maxRecDepth 100000 in
set_option maxHeartbeats 4000000 in
theorem viewDims_turn (k x : Int) (da : Option Addr) (dl dc : Nat) (ds : List Int) (ea : Option Addr) (el ec : Nat) (es : List Int) (pa : Option Addr) (pl pc : Nat) (ps : List Int) (la : Option Addr) (ll lc : Nat) (lo : List Int) (ha : Option Addr) (hl hc : Nat) (hi : List Int) (ta : Option Addr) (tl tc : Nat) (st : List Int) (w : World)
    (hd : Ints w da dl ds) (he : Ints w ea el es) (hp : Ints w pa pl ps) (hlo : Ints w la ll lo) (hhi : Ints w ha hl hi) (hst : Ints w ta tl st) (hz : sizeE ds = 0) (hdc : dl ≤ dc) (hec : el ≤ ec) (hk : k = 11) :
    Calls Tryz.prog 81 #[.agg #[.int .i64 k, .slice ea el ec, .slice pa pl pc, .slice la ll lc, .slice ha hl hc, .slice ta tl tc, .int .i64 x], .slice da dl dc] w fun e w' => OutP e w' (okL (turnE 0 ds (stepsV ds) ps) (taken ds ps), turnE 0 ds (stepsV ds) ps) ∧ Below w.heap.size w w' := by
  obtain ⟨E, hEE⟩ : ∃ E, turnE 0 ds (stepsV ds) ps = E := ⟨_, rfl⟩
  rw [hEE]
  have HEE := hide hEE
  have HD := hide hd
  have HE := hide he
  have HP := hide hp
  have HLO := hide hlo
  have HHI := hide hhi
  have HST := hide hst
  have HZ := hide hz
  have HEC := hide hec
  have c9 : (k == 9) = false := by simp; omega
  have c11 : (k == 11) = true := by simp; omega
  clear hd he hp hlo hhi hst hz hEE hk hec
  have HB2 := hide ((Below.refl w.heap.size w).alloc (Nat.le_refl _) (.cells #[.int .i64 k, .slice ea el ec, .slice pa pl pc, .slice la ll lc, .slice ha hl hc, .slice ta tl tc, .int .i64 x] 24))
  have HOP := hide (OpAt.new w k (.slice ea el ec) (.slice pa pl pc) (.slice la ll lc) (.slice ha hl hc) (.slice ta tl tc) x)
  go_enter Tryz.func81, Tryz.ntmps81
  go_wp2_with fail
  refine (rwhole_any _ _ _ ds _ (HD.out.below HB2.out) hdc).mono ?_
  rintro e w1 ⟨hgv, hb⟩
  rw [HZ.out] at hgv
  obtain ⟨da1, dl1, dc1, sa1, sl1, sc1, rfl, hi1, hj1, ⟨hq1, hq2⟩, hF, hG⟩ := hgv
  have e1 : ∀ l, okL 0 l = l := fun l => by unfold okL; rw [if_pos rfl]
  rw [e1] at hi1 hj1
  have HI1 := hide hi1
  have HJ1 := hide hj1
  have HB1 := hide (Below.on HB2.out hb)
  obtain ⟨o0, o1, o2, o3, o4, o5, o6⟩ := (HOP.out.below hb).cells
  obtain ⟨o0', o1', o2', o3', o4', o5', o6'⟩ := ((HOP.out.below hb).alloc (.cells #[.int .i64 0, .slice da1 dl1 dc1, .slice sa1 sl1 sc1] 80)).cells
  clear hi1 hj1 hF hG hb e1
  have HA1 := hide ((Below.refl w1.heap.size w1).alloc (Nat.le_refl _) (.cells #[.int .i64 0, .slice da1 dl1 dc1, .slice sa1 sl1 sc1] 80))
  have HV1 := hide (ViewAt.new w1 (.int .i64 0) (.slice da1 dl1 dc1) (.slice sa1 sl1 sc1))
  have HB3 := hide (HB1.out.alloc HB1.out.size (.cells #[.int .i64 0, .slice da1 dl1 dc1, .slice sa1 sl1 sc1] 80))
  go_wp2_with (go_at_call 106; refine (rturn_anyF _ _ _ _ ds _ _ _ (stepsV ds) _ _ _ ps _ (HI1.out.below HA1.out) (HJ1.out.below HA1.out) (HP.out.below HB3.out)).mono ?_; rintro e w2 ⟨hgv, hb⟩; rw [HEE.out] at hgv; obtain ⟨da2, dl2, dc2, sa2, sl2, sc2, rfl, hi2, hj2, ⟨hc1, hc2⟩, hF2, hG2⟩ := hgv; simp only [World.size_alloc] at hF2 hG2; have HI2 := hide hi2; have HF2 := hide hF2; have HR2 := hide (HV1.out.below hb); have HB4 := hide (Below.on HB3.out hb); obtain ⟨⟨r0, r1, r2⟩, f0, f1, f2⟩ := HR2.out.cells; clear hb hi2 hj2 hF2 hG2)
  go_ret2
  have hln : 0 < dl2 → 0 < dl1 := okL_len HI2.out (fun h => by
    have hE := HEE.out
    rw [h] at hE
    have h1 := (turn_again hE).1.1
    have h2 := HI1.out.1
    rw [taken_length]; omega)
  exact ⟨⟨_, _, _, rfl, ints_putL HI2.out HF2.out HI1.out hln (Nat.le_refl _) (by omega), hc1⟩, below_put HB4.out HB1.out.size⟩

set_option maxRecDepth 100000 in
set_option maxHeartbeats 4000000 in
theorem viewDims_flip (k x : Int) (da : Option Addr) (dl dc : Nat) (ds : List Int) (ea : Option Addr) (el ec : Nat) (es : List Int) (pa : Option Addr) (pl pc : Nat) (ps : List Int) (la : Option Addr) (ll lc : Nat) (lo : List Int) (ha : Option Addr) (hl hc : Nat) (hi : List Int) (ta : Option Addr) (tl tc : Nat) (st : List Int) (w : World)
    (hd : Ints w da dl ds) (he : Ints w ea el es) (hp : Ints w pa pl ps) (hlo : Ints w la ll lo) (hhi : Ints w ha hl hi) (hst : Ints w ta tl st) (hz : sizeE ds = 0) (hdc : dl ≤ dc) (hec : el ≤ ec) (hk : k ≠ 9 ∧ k ≠ 11 ∧ k ≠ 13) :
    Calls Tryz.prog 81 #[.agg #[.int .i64 k, .slice ea el ec, .slice pa pl pc, .slice la ll lc, .slice ha hl hc, .slice ta tl tc, .int .i64 x], .slice da dl dc] w fun e w' => OutP e w' (okL (flipE 0 ds (stepsV ds) ps) (ds), flipE 0 ds (stepsV ds) ps) ∧ Below w.heap.size w w' := by
  obtain ⟨E, hEE⟩ : ∃ E, flipE 0 ds (stepsV ds) ps = E := ⟨_, rfl⟩
  rw [hEE]
  have HEE := hide hEE
  have HD := hide hd
  have HE := hide he
  have HP := hide hp
  have HLO := hide hlo
  have HHI := hide hhi
  have HST := hide hst
  have HZ := hide hz
  have HEC := hide hec
  have c9 : (k == 9) = false := by simp; omega
  have c11 : (k == 11) = false := by simp; omega
  have c13 : (k == 13) = false := by simp; omega
  clear hd he hp hlo hhi hst hz hEE hk hec
  have HB2 := hide ((Below.refl w.heap.size w).alloc (Nat.le_refl _) (.cells #[.int .i64 k, .slice ea el ec, .slice pa pl pc, .slice la ll lc, .slice ha hl hc, .slice ta tl tc, .int .i64 x] 24))
  have HOP := hide (OpAt.new w k (.slice ea el ec) (.slice pa pl pc) (.slice la ll lc) (.slice ha hl hc) (.slice ta tl tc) x)
  go_enter Tryz.func81, Tryz.ntmps81
  go_wp2_with fail
  refine (rwhole_any _ _ _ ds _ (HD.out.below HB2.out) hdc).mono ?_
  rintro e w1 ⟨hgv, hb⟩
  rw [HZ.out] at hgv
  obtain ⟨da1, dl1, dc1, sa1, sl1, sc1, rfl, hi1, hj1, ⟨hq1, hq2⟩, hF, hG⟩ := hgv
  have e1 : ∀ l, okL 0 l = l := fun l => by unfold okL; rw [if_pos rfl]
  rw [e1] at hi1 hj1
  have HI1 := hide hi1
  have HJ1 := hide hj1
  have HB1 := hide (Below.on HB2.out hb)
  obtain ⟨o0, o1, o2, o3, o4, o5, o6⟩ := (HOP.out.below hb).cells
  obtain ⟨o0', o1', o2', o3', o4', o5', o6'⟩ := ((HOP.out.below hb).alloc (.cells #[.int .i64 0, .slice da1 dl1 dc1, .slice sa1 sl1 sc1] 80)).cells
  clear hi1 hj1 hF hG hb e1
  have HA1 := hide ((Below.refl w1.heap.size w1).alloc (Nat.le_refl _) (.cells #[.int .i64 0, .slice da1 dl1 dc1, .slice sa1 sl1 sc1] 80))
  have HV1 := hide (ViewAt.new w1 (.int .i64 0) (.slice da1 dl1 dc1) (.slice sa1 sl1 sc1))
  have HB3 := hide (HB1.out.alloc HB1.out.size (.cells #[.int .i64 0, .slice da1 dl1 dc1, .slice sa1 sl1 sc1] 80))
  go_wp2_with (go_at_call 108; refine (rflip_any _ _ _ _ ds _ _ _ (stepsV ds) _ _ _ ps _ (HI1.out.below HA1.out) (HJ1.out.below HA1.out) (HP.out.below HB3.out) hq1).mono ?_; rintro e w2 ⟨hgv, hb⟩; rw [HEE.out] at hgv; obtain ⟨da2, dl2, dc2, sa2, sl2, sc2, rfl, hi2, hj2, ⟨hc1, hc2⟩, hF2, hG2⟩ := hgv; simp only [World.size_alloc] at hF2 hG2; have HI2 := hide hi2; have HF2 := hide hF2; have HR2 := hide (HV1.out.below hb); have HB4 := hide (Below.on HB3.out hb); obtain ⟨⟨r0, r1, r2⟩, f0, f1, f2⟩ := HR2.out.cells; clear hb hi2 hj2 hF2 hG2)
  go_ret2
  have hln : 0 < dl2 → 0 < dl1 := okL_len HI2.out (fun h => by
    have hE := HEE.out
    rw [h] at hE
    exact HI1.out.1)
  exact ⟨⟨_, _, _, rfl, ints_putL HI2.out HF2.out HI1.out hln (Nat.le_refl _) (by omega), hc1⟩, below_put HB4.out HB1.out.size⟩

set_option maxRecDepth 100000 in
set_option maxHeartbeats 4000000 in
theorem viewDims_cut (k x : Int) (da : Option Addr) (dl dc : Nat) (ds : List Int) (ea : Option Addr) (el ec : Nat) (es : List Int) (pa : Option Addr) (pl pc : Nat) (ps : List Int) (la : Option Addr) (ll lc : Nat) (lo : List Int) (ha : Option Addr) (hl hc : Nat) (hi : List Int) (ta : Option Addr) (tl tc : Nat) (st : List Int) (w : World)
    (hd : Ints w da dl ds) (he : Ints w ea el es) (hp : Ints w pa pl ps) (hlo : Ints w la ll lo) (hhi : Ints w ha hl hi) (hst : Ints w ta tl st) (hz : sizeE ds = 0) (hdc : dl ≤ dc) (hec : el ≤ ec) (hk : k = 13) :
    Calls Tryz.prog 81 #[.agg #[.int .i64 k, .slice ea el ec, .slice pa pl pc, .slice la ll lc, .slice ha hl hc, .slice ta tl tc, .int .i64 x], .slice da dl dc] w fun e w' => OutP e w' (okL (cutE 0 ds (stepsV ds) lo hi st) (cutD ds lo hi st), cutE 0 ds (stepsV ds) lo hi st) ∧ Below w.heap.size w w' := by
  obtain ⟨E, hEE⟩ : ∃ E, cutE 0 ds (stepsV ds) lo hi st = E := ⟨_, rfl⟩
  rw [hEE]
  have HEE := hide hEE
  have HD := hide hd
  have HE := hide he
  have HP := hide hp
  have HLO := hide hlo
  have HHI := hide hhi
  have HST := hide hst
  have HZ := hide hz
  have HEC := hide hec
  have c9 : (k == 9) = false := by simp; omega
  have c11 : (k == 11) = false := by simp; omega
  have c13 : (k == 13) = true := by simp; omega
  clear hd he hp hlo hhi hst hz hEE hk hec
  have HB2 := hide ((Below.refl w.heap.size w).alloc (Nat.le_refl _) (.cells #[.int .i64 k, .slice ea el ec, .slice pa pl pc, .slice la ll lc, .slice ha hl hc, .slice ta tl tc, .int .i64 x] 24))
  have HOP := hide (OpAt.new w k (.slice ea el ec) (.slice pa pl pc) (.slice la ll lc) (.slice ha hl hc) (.slice ta tl tc) x)
  go_enter Tryz.func81, Tryz.ntmps81
  go_wp2_with fail
  refine (rwhole_any _ _ _ ds _ (HD.out.below HB2.out) hdc).mono ?_
  rintro e w1 ⟨hgv, hb⟩
  rw [HZ.out] at hgv
  obtain ⟨da1, dl1, dc1, sa1, sl1, sc1, rfl, hi1, hj1, ⟨hq1, hq2⟩, hF, hG⟩ := hgv
  have e1 : ∀ l, okL 0 l = l := fun l => by unfold okL; rw [if_pos rfl]
  rw [e1] at hi1 hj1
  have HI1 := hide hi1
  have HJ1 := hide hj1
  have HB1 := hide (Below.on HB2.out hb)
  obtain ⟨o0, o1, o2, o3, o4, o5, o6⟩ := (HOP.out.below hb).cells
  obtain ⟨o0', o1', o2', o3', o4', o5', o6'⟩ := ((HOP.out.below hb).alloc (.cells #[.int .i64 0, .slice da1 dl1 dc1, .slice sa1 sl1 sc1] 80)).cells
  clear hi1 hj1 hF hG hb e1
  have HA1 := hide ((Below.refl w1.heap.size w1).alloc (Nat.le_refl _) (.cells #[.int .i64 0, .slice da1 dl1 dc1, .slice sa1 sl1 sc1] 80))
  have HV1 := hide (ViewAt.new w1 (.int .i64 0) (.slice da1 dl1 dc1) (.slice sa1 sl1 sc1))
  have HB3 := hide (HB1.out.alloc HB1.out.size (.cells #[.int .i64 0, .slice da1 dl1 dc1, .slice sa1 sl1 sc1] 80))
  go_wp2_with (go_at_call 107; refine (rcut_any _ _ _ _ ds _ _ _ (stepsV ds) _ _ _ lo _ _ _ hi _ _ _ st _ (HI1.out.below HA1.out) (HJ1.out.below HA1.out) (HLO.out.below HB3.out) (HHI.out.below HB3.out) (HST.out.below HB3.out)).mono ?_; rintro e w2 ⟨hgv, hb⟩; rw [HEE.out] at hgv; obtain ⟨da2, dl2, dc2, sa2, sl2, sc2, rfl, hi2, hj2, ⟨hc1, hc2⟩, hF2, hG2⟩ := hgv; simp only [World.size_alloc] at hF2 hG2; have HI2 := hide hi2; have HF2 := hide hF2; have HR2 := hide (HV1.out.below hb); have HB4 := hide (Below.on HB3.out hb); obtain ⟨⟨r0, r1, r2⟩, f0, f1, f2⟩ := HR2.out.cells; clear hb hi2 hj2 hF2 hG2)
  go_ret2
  have hln : 0 < dl2 → 0 < dl1 := okL_len HI2.out (fun h => by
    have hE := HEE.out
    rw [h] at hE
    rw [cutD_length]; exact HI1.out.1)
  exact ⟨⟨_, _, _, rfl, ints_putL HI2.out HF2.out HI1.out hln (Nat.le_refl _) (by omega), hc1⟩, below_put HB4.out HB1.out.size⟩

set_option maxRecDepth 100000 in
set_option maxHeartbeats 4000000 in
theorem viewDims_spread (k x : Int) (da : Option Addr) (dl dc : Nat) (ds : List Int) (ea : Option Addr) (el ec : Nat) (es : List Int) (pa : Option Addr) (pl pc : Nat) (ps : List Int) (la : Option Addr) (ll lc : Nat) (lo : List Int) (ha : Option Addr) (hl hc : Nat) (hi : List Int) (ta : Option Addr) (tl tc : Nat) (st : List Int) (w : World)
    (hd : Ints w da dl ds) (he : Ints w ea el es) (hp : Ints w pa pl ps) (hlo : Ints w la ll lo) (hhi : Ints w ha hl hi) (hst : Ints w ta tl st) (hz : sizeE ds = 0) (hdc : dl ≤ dc) (hec : el ≤ ec) (hk : k = 9) :
    Calls Tryz.prog 81 #[.agg #[.int .i64 k, .slice ea el ec, .slice pa pl pc, .slice la ll lc, .slice ha hl hc, .slice ta tl tc, .int .i64 x], .slice da dl dc] w fun e w' => OutP e w' (okL (sprE 0 ds (stepsV ds) es ps) (es), sprE 0 ds (stepsV ds) es ps) ∧ Below w.heap.size w w' := by
  obtain ⟨E, hEE⟩ : ∃ E, sprE 0 ds (stepsV ds) es ps = E := ⟨_, rfl⟩
  rw [hEE]
  have HEE := hide hEE
  have HD := hide hd
  have HE := hide he
  have HP := hide hp
  have HLO := hide hlo
  have HHI := hide hhi
  have HST := hide hst
  have HZ := hide hz
  have HEC := hide hec
  have c9 : (k == 9) = true := by simp; omega
  clear hd he hp hlo hhi hst hz hEE hk hec
  have HB2 := hide ((Below.refl w.heap.size w).alloc (Nat.le_refl _) (.cells #[.int .i64 k, .slice ea el ec, .slice pa pl pc, .slice la ll lc, .slice ha hl hc, .slice ta tl tc, .int .i64 x] 24))
  have HOP := hide (OpAt.new w k (.slice ea el ec) (.slice pa pl pc) (.slice la ll lc) (.slice ha hl hc) (.slice ta tl tc) x)
  go_enter Tryz.func81, Tryz.ntmps81
  go_wp2_with fail
  refine (rwhole_any _ _ _ ds _ (HD.out.below HB2.out) hdc).mono ?_
  rintro e w1 ⟨hgv, hb⟩
  rw [HZ.out] at hgv
  obtain ⟨da1, dl1, dc1, sa1, sl1, sc1, rfl, hi1, hj1, ⟨hq1, hq2⟩, hF, hG⟩ := hgv
  have e1 : ∀ l, okL 0 l = l := fun l => by unfold okL; rw [if_pos rfl]
  rw [e1] at hi1 hj1
  have HI1 := hide hi1
  have HJ1 := hide hj1
  have HB1 := hide (Below.on HB2.out hb)
  obtain ⟨o0, o1, o2, o3, o4, o5, o6⟩ := (HOP.out.below hb).cells
  obtain ⟨o0', o1', o2', o3', o4', o5', o6'⟩ := ((HOP.out.below hb).alloc (.cells #[.int .i64 0, .slice da1 dl1 dc1, .slice sa1 sl1 sc1] 80)).cells
  clear hi1 hj1 hF hG hb e1
  have HA1 := hide ((Below.refl w1.heap.size w1).alloc (Nat.le_refl _) (.cells #[.int .i64 0, .slice da1 dl1 dc1, .slice sa1 sl1 sc1] 80))
  have HV1 := hide (ViewAt.new w1 (.int .i64 0) (.slice da1 dl1 dc1) (.slice sa1 sl1 sc1))
  have HB3 := hide (HB1.out.alloc HB1.out.size (.cells #[.int .i64 0, .slice da1 dl1 dc1, .slice sa1 sl1 sc1] 80))
  go_wp2_with (go_at_call 105; refine (rspread_any _ _ _ _ ds _ _ _ (stepsV ds) _ _ _ es _ _ _ ps _ (HI1.out.below HA1.out) (HJ1.out.below HA1.out) (HE.out.below HB3.out) (HP.out.below HB3.out) HEC.out).mono ?_; rintro e w2 ⟨hgv, hb⟩; rw [HEE.out] at hgv; obtain ⟨da2, dl2, dc2, sa2, sl2, sc2, rfl, hi2, hj2, ⟨hc1, hc2⟩, hF2, hG2⟩ := hgv; simp only [World.size_alloc] at hF2 hG2; have HI2 := hide hi2; have HF2 := hide hF2; have HR2 := hide (HV1.out.below hb); have HB4 := hide (Below.on HB3.out hb); obtain ⟨⟨r0, r1, r2⟩, f0, f1, f2⟩ := HR2.out.cells; clear hb hi2 hj2 hF2 hG2)
  go_ret2
  have hln : 0 < dl2 → 0 < el := okL_len HI2.out (fun h => by
    have hE := HEE.out
    rw [h] at hE
    exact HE.out.1)
  exact ⟨⟨_, _, _, rfl, ints_putL HI2.out HF2.out (HE.out.below HB1.out) hln (Nat.le_refl _) (by omega), hc1⟩, below_put HB4.out HB1.out.size⟩
end Go.Proofs.YtoagnhppjlcpkaaGreat.V

/-
  Contract: adjointref2.padDims.
-/
namespace Go.Proofs.YtoagnhppjlcpkaaGreat.V
set_option maxRecDepth 20000
open Go.RowKit

set_option maxRecDepth 100000 in
set_option maxHeartbeats 4000000 in
theorem rpadDims_any (k x : Int) (vd va : Value) (la : Option Addr) (ll lc : Nat) (lo : List Int) (ha : Option Addr) (hl hc : Nat) (hi : List Int) (ta : Option Addr) (tl tc : Nat) (st : List Int) (da : Option Addr) (dl dc : Nat) (ds : List Int) (w : World)
    (hlo : Ints w la ll lo) (hhi : Ints w ha hl hi) (hst : Ints w ta tl st) (hd : Ints w da dl ds) (hz : sizeE ds = 0) :
    Calls Tryz.prog 78 #[.agg #[.int .i64 k, vd, va, .slice la ll lc, .slice ha hl hc, .slice ta tl tc, .int .i64 x], .slice da dl dc] w fun e w' => OutP e w' (padP ds lo hi st) ∧ Below w.heap.size w w' := by
  have HLO := hide hlo
  have HHI := hide hhi
  have HST := hide hst
  have HD := hide hd
  have HN := hide hd.1
  have HZ := hide (sizeE_ok hz).2.1
  have h6 : dl ≤ 6 := by have := (sizeE_ok hz).1; have := hd.1; omega
  obtain ⟨i0, hi0, hz0, hz1, hz2⟩ := info_parts info_int
  have HI := hide hi0
  have HZ0 := hide hz0
  have HZ1 := hide hz1
  have HZ2 := hide hz2
  clear hi0 hz0 hz1 hz2
  have HB1 := hide ((Below.refl w.heap.size w).alloc (Nat.le_refl _) (.cells #[.int .i64 k, vd, va, .slice la ll lc, .slice ha hl hc, .slice ta tl tc, .int .i64 x] 24))
  have HOP := hide (OpAt.new w k vd va (.slice la ll lc) (.slice ha hl hc) (.slice ta tl tc) x)
  have e1 := hlo.1
  have e2 := hhi.1
  have e3 := hst.1
  have e4 := hd.1
  clear hlo hhi hst hd hz
  by_cases cl : ll = dl ∧ hl = dl ∧ tl = dl
  case neg =>
    have hp : padP ds lo hi st = ([], 6) := by
      unfold padP lensB
      rw [e1, e2, e3, e4, if_neg]
      simp only [Bool.and_eq_true, decide_eq_true_eq]; exact cl
    rw [hp]
    clear hp e1 e2 e3 e4
    by_cases q1 : ll = dl
    · by_cases q2 : hl = dl
      · have q3 : ((tl : Int) != (dl : Int)) = true := by simp; omega
        subst q1
        subst q2
        clear cl
        go_enter Tryz.func78, Tryz.ntmps78
        go_wp2
        go_ret2
        exact ⟨outP_none _ _, HB1.out⟩
      · have q3 : ((hl : Int) != (dl : Int)) = true := by simp; omega
        subst q1
        clear cl q2
        go_enter Tryz.func78, Tryz.ntmps78
        go_wp2
        go_ret2
        exact ⟨outP_none _ _, HB1.out⟩
    · have q3 : ((ll : Int) != (dl : Int)) = true := by simp; omega
      clear cl q1
      go_enter Tryz.func78, Tryz.ntmps78
      go_wp2
      go_ret2
      exact ⟨outP_none _ _, HB1.out⟩
  obtain ⟨q1, q2, q3⟩ := cl
  have hp : padP ds lo hi st = if anyPad ds.length lo hi st = true then ([], 4) else (padD ds lo hi st, 0) := by
    unfold padP lensB
    rw [e1, e2, e3, e4, if_pos]
    simp only [Bool.and_eq_true, decide_eq_true_eq]; exact ⟨q1, q2, q3⟩
  have HPP := hide hp
  obtain rfl := q1
  obtain rfl := q2
  obtain rfl := q3
  clear hp e1 e2 e3 e4
  go_enter Tryz.func78, Tryz.ntmps78
  go_wp2
  go_loopw [6, 33] (fun v i wr => ∃ m : Nat, m ≤ tl ∧ i = .int .i64 m ∧ OpAt wr w.heap.size k vd va (.slice la tl lc) (.slice ha tl hc) (.slice ta tl tc) x ∧ wr.ownsRow (w.heap.size + 1) 3 1 v m (((padD ds lo hi st).take m).map (Value.int .i64)) ∧ (∀ j, j < m → padBad lo hi st j = false) ∧ Below w.heap.size w wr) (fun _ i _ => tl - (intOf i).toNat)
  case atStart => exact ⟨0, Nat.zero_le _, rfl, HOP.out, World.ownsRow_nil _ _ _ _, fun j hj => by omega, HB1.out⟩
  case round =>
    obtain ⟨m, hm, rfl, hop, hown, hgood, hB⟩ := hrel
    have HO := hide hop
    have HX := hide hown
    have HG := hide hgood
    have HB := hide hB
    clear hop hown hgood hB
    by_cases hlt : m < tl
    · obtain ⟨lb, lof, rfl, hlb, hlc⟩ := HLO.out.at (by omega)
      obtain ⟨hb, hof, rfl, hhb, hhc⟩ := HHI.out.at (by omega)
      obtain ⟨tb, tof, rfl, htb, htc⟩ := HST.out.at (by omega)
      obtain ⟨db, dof, rfl, hdb, hdc⟩ := HD.out.at (by omega)
      obtain ⟨L, hL⟩ : ∃ L, L = lo[m]?.getD 0 := ⟨_, rfl⟩
      obtain ⟨U, hU⟩ : ∃ U, U = hi[m]?.getD 0 := ⟨_, rfl⟩
      obtain ⟨T, hT⟩ : ∃ T, T = st[m]?.getD 0 := ⟨_, rfl⟩
      obtain ⟨D, hD⟩ : ∃ D, D = ds[m]?.getD 0 := ⟨_, rfl⟩
      have cl : wr.cell? ⟨lb, lof + m, none⟩ = some (.int .i64 L) := by rw [hL]; exact (HB.out.cell (p := ⟨lb, lof + m, none⟩) hlb).trans (hlc m hlt)
      have ch : wr.cell? ⟨hb, hof + m, none⟩ = some (.int .i64 U) := by rw [hU]; exact (HB.out.cell (p := ⟨hb, hof + m, none⟩) hhb).trans (hhc m hlt)
      have ct : wr.cell? ⟨tb, tof + m, none⟩ = some (.int .i64 T) := by rw [hT]; exact (HB.out.cell (p := ⟨tb, tof + m, none⟩) htb).trans (htc m hlt)
      have cd : wr.cell? ⟨db, dof + m, none⟩ = some (.int .i64 D) := by rw [hD]; exact (HB.out.cell (p := ⟨db, dof + m, none⟩) hdb).trans (hdc m hlt)
      have hDb : 0 ≤ D ∧ D ≤ 4096 := by rw [hD]; exact HZ.out _ (mem_getD ds m (by rw [HN.out]; exact hlt))
      have HPB : Hid (padBad lo hi st m = (decide (L < 0) || (decide (4096 < L) || (decide (U < 0) || (decide (4096 < U) || (decide (T < 1) || decide (4096 < T))))))) := by rw [Hid, hL, hU, hT]; rfl
      have HPV : Hid (padV ds lo hi st m = L + U + (if 0 < D then (D - 1) * T + 1 else 0)) := by rw [Hid, hL, hU, hT, hD]; rfl
      obtain ⟨o0, o1, o2, o3, o4, o5, o6⟩ := HO.out.cells
      have i1 : (0 : Int) ≤ (m : Int) := Int.natCast_nonneg _
      have i2 : (m : Int) < (tl : Int) := by omega
      have HBAD : Hid (padBad lo hi st m = true → padP ds lo hi st = ([], 4)) := fun hb => by
        rw [HPP.out, if_pos]
        unfold anyPad
        rw [List.any_eq_true]
        exact ⟨m, by rw [List.mem_range, HN.out]; exact hlt, hb⟩
      have HCL : Hid (∀ wx, Below w.heap.size w wx → wx.cell? ⟨lb, lof + m, none⟩ = some (.int .i64 L)) := fun wx hx => by rw [hL]; exact (hx.cell (p := ⟨lb, lof + m, none⟩) hlb).trans (hlc m hlt)
      have HCH : Hid (∀ wx, Below w.heap.size w wx → wx.cell? ⟨hb, hof + m, none⟩ = some (.int .i64 U)) := fun wx hx => by rw [hU]; exact (hx.cell (p := ⟨hb, hof + m, none⟩) hhb).trans (hhc m hlt)
      clear hlc hhc htc hdc hL hU hT hD
      by_cases x1 : L < 0
      · go_wp2
        go_ret2
        rw [HBAD.out (by rw [HPB.out]; simp [x1])]
        exact ⟨outP_none _ _, HB.out⟩
      by_cases x2 : 4096 < L
      · go_wp2
        go_ret2
        rw [HBAD.out (by rw [HPB.out]; simp [x2])]
        exact ⟨outP_none _ _, HB.out⟩
      by_cases x3 : U < 0
      · go_wp2
        go_ret2
        rw [HBAD.out (by rw [HPB.out]; simp [x3])]
        exact ⟨outP_none _ _, HB.out⟩
      by_cases x4 : 4096 < U
      · go_wp2
        go_ret2
        rw [HBAD.out (by rw [HPB.out]; simp [x4])]
        exact ⟨outP_none _ _, HB.out⟩
      by_cases x5 : T < 1
      · go_wp2
        go_ret2
        rw [HBAD.out (by rw [HPB.out]; simp [x5])]
        exact ⟨outP_none _ _, HB.out⟩
      by_cases x6 : 4096 < T
      · go_wp2
        go_ret2
        rw [HBAD.out (by rw [HPB.out]; simp [x6])]
        exact ⟨outP_none _ _, HB.out⟩
      have HOK : Hid (padBad lo hi st m = false) := by
        rw [Hid, HPB.out]
        simp; omega
      have HGS : Hid (∀ j, j < m + 1 → padBad lo hi st j = false) := fun j hj => by
        by_cases e : j = m
        · rw [e]; exact HOK.out
        · exact HG.out j (by omega)
      have HTS : Hid ((padD ds lo hi st).take (m + 1) = (padD ds lo hi st).take m ++ [padV ds lo hi st m]) := by
        have hkd : m < ds.length := by rw [HN.out]; exact hlt
        rw [Hid, take_succ_getD _ m (by rw [padD_length]; exact hkd), padD_getD ds lo hi st m hkd]
      have HFIN : Hid (∀ (wx w2 : World) (v' : Value) (V : Int), V = padV ds lo hi st m → OpAt wx w.heap.size k vd va (.slice (some ⟨lb, lof, none⟩) tl lc) (.slice (some ⟨hb, hof, none⟩) tl hc) (.slice (some ⟨tb, tof, none⟩) tl tc) x → Below w.heap.size w wx → wx.ownsRow (w.heap.size + 1) 3 1 u6 m (((padD ds lo hi st).take m).map (Value.int .i64)) → w2.ownsRow (w.heap.size + 1) 3 1 v' (m + 1) (((padD ds lo hi st).take m).map (Value.int .i64) ++ [.int .i64 V]) → wx.grownBy w2 u6.ownBlock →
          OpAt w2 w.heap.size k vd va (.slice (some ⟨lb, lof, none⟩) tl lc) (.slice (some ⟨hb, hof, none⟩) tl hc) (.slice (some ⟨tb, tof, none⟩) tl tc) x ∧ w2.ownsRow (w.heap.size + 1) 3 1 v' (m + 1) (((padD ds lo hi st).take (m + 1)).map (Value.int .i64)) ∧ Below w.heap.size w w2) := by
        intro wx w2 v' V hV hop hBx hown hown2 hg
        refine ⟨?_, ?_, ?_⟩
        · have := hg.block w.heap.size hop.lt (fun e => by have := (hown.lt _ e.symm).1; omega)
          exact this.trans hop
        · rw [HTS.out, List.map_append, ← hV]; exact hown2
        · exact hBx.grown hg hBx.size (fun j e => by have := (hown.lt j e).1; omega)
      have hsz : w.heap.size + 1 ≤ wr.heap.size := HO.out.lt
      by_cases cD : 0 < D
      · have hm3 : 0 ≤ (D - 1) * T := Int.mul_nonneg (by omega) (by omega)
        have hm4 : (D - 1) * T ≤ 4096 * 4096 := Int.mul_le_mul (by omega) (by omega) (by omega) (by omega)
        have HPV' : Hid (padV ds lo hi st m = L + U + ((D - 1) * T + 1)) := by rw [Hid, HPV.out, if_pos cD]
        obtain ⟨M, hM⟩ : ∃ M, M = (D - 1) * T + 1 := ⟨_, rfl⟩
        have HM := hide hM
        go_wp2_with fail
        go_cut [8] (fun n wc => n = .int .i64 M ∧ OpAt wc w.heap.size k vd va (.slice (some ⟨lb, lof, none⟩) tl lc) (.slice (some ⟨hb, hof, none⟩) tl hc) (.slice (some ⟨tb, tof, none⟩) tl tc) x ∧ wc.ownsRow (w.heap.size + 1) 3 1 u6 m (((padD ds lo hi st).take m).map (Value.int .i64)) ∧ Below w.heap.size w wc)
        case first =>
          go_region
          all_goals go_wp2
          all_goals go_meet
          all_goals exact ⟨by rw [HM.out], HO.out, HX.out.drew, HB.out.drew⟩
        case rest =>
          obtain ⟨rfl, hop, hown, hB⟩ := hcut
          clear cl ch ct cd o0 o1 o2 o3 o4 o5 o6 HO HX HB hsz
          have HO := hide hop
          have HX := hide hown
          have HB := hide hB
          have hsz : w.heap.size + 1 ≤ wc.heap.size := hop.lt
          have cl := HCL.out _ hB
          have ch := HCH.out _ hB
          obtain ⟨o0, o1, o2, o3, o4, o5, o6⟩ := HO.out.cells
          clear hop hown hB
          have hMb : 0 ≤ M ∧ M ≤ 4096 * 4096 + 1 := by omega
          have HV : Hid (IntKind.i64.wrap (IntKind.i64.wrap (L + M) + U) = padV ds lo hi st m) := by
            rw [Hid, HPV'.out, ← HM.out, wrap_in (L + M) (by omega) (by omega), wrap_in _ (by omega) (by omega)]; omega
          clear hm3 hm4 hM cD
          go_wp2_with fail
          go_region_law ((refine step_append_lies _ (by rfl) _ _ _ (by rfl) (w.heap.size + 1) 3 i0 _ 1 8 Tryz.underlying22 HI.out HZ0.out HZ1.out HZ2.out rfl (by omega) _ _ _ (by rfl) ((HX.out.alloc _).drew) ⟨wc.heap.size, 0, none⟩ 1 1 [.int .i64 (IntKind.i64.wrap (IntKind.i64.wrap (L + M) + U))] (by rfl) (by rfl) (World.news_of_block (cs := #[.int .i64 (IntKind.i64.wrap (IntKind.i64.wrap (L + M) + U))]) (t := 3) (fr := (0, 0)) (heap_alloc_new wc _)) (by simp [Value.oneCell']) (by omega) (by unfold maxLen; omega) (by omega) (by have := HB.out.size; simp; omega) (wc.heap.size + 1) (by simp) ?_; intro g1 c1 w2 hown1 hgrow hat hlt3; have HX2 := hide hown1; have HG2 := hide hgrow; clear hown1 hgrow hat))
          all_goals go_wp2
          all_goals go_roundw
          all_goals try (case measure => simp [intOf]; omega)
          all_goals
            have hf := HFIN.out ((wc.alloc (.cells #[.int .i64 (IntKind.i64.wrap (IntKind.i64.wrap (L + M) + U))] 3)).drew) w2 _ _ HV.out (HO.out.alloc _) ((HB.out.alloc HB.out.size _).drew) ((HX.out.alloc _).drew) HX2.out HG2.out
            have hr : ∃ m' : Nat, m' ≤ tl ∧ Value.int .i64 ((m : Int) + 1) = .int .i64 m' ∧ OpAt w2 w.heap.size k vd va (.slice (some ⟨lb, lof, none⟩) tl lc) (.slice (some ⟨hb, hof, none⟩) tl hc) (.slice (some ⟨tb, tof, none⟩) tl tc) x ∧ w2.ownsRow (w.heap.size + 1) 3 1 (.slice (some ⟨g1, 0, none⟩) (m + 1) c1) m' (((padD ds lo hi st).take m').map (Value.int .i64)) ∧ (∀ j, j < m' → padBad lo hi st j = false) ∧ Below w.heap.size w w2 := ⟨m + 1, by omega, by go_num, hf.1, hf.2.1, HGS.out, hf.2.2⟩
            first
              | exact hr
              | (repeat apply Exists.intro
                 exact ⟨hr, rfl⟩)
      · have HPV' : Hid (padV ds lo hi st m = L + U) := by rw [Hid, HPV.out, if_neg cD]; omega
        have HV : Hid (IntKind.i64.wrap (IntKind.i64.wrap L + U) = padV ds lo hi st m) := by
          rw [Hid, HPV'.out, wrap_in L (by omega) (by omega), wrap_in _ (by omega) (by omega)]
        go_wp2_with fail
        go_region_law ((refine step_append_lies _ (by rfl) _ _ _ (by rfl) (w.heap.size + 1) 3 i0 _ 1 8 Tryz.underlying22 HI.out HZ0.out HZ1.out HZ2.out rfl (by omega) _ _ _ (by rfl) ((HX.out.alloc _).drew) ⟨wr.heap.size, 0, none⟩ 1 1 [.int .i64 (IntKind.i64.wrap (IntKind.i64.wrap L + U))] (by rfl) (by rfl) (World.news_of_block (cs := #[.int .i64 (IntKind.i64.wrap (IntKind.i64.wrap L + U))]) (t := 3) (fr := (0, 0)) (heap_alloc_new wr _)) (by simp [Value.oneCell']) (by omega) (by unfold maxLen; omega) (by omega) (by have := HB.out.size; simp; omega) (wr.heap.size + 1) (by simp) ?_; intro g1 c1 w2 hown1 hgrow hat hlt3; have HX2 := hide hown1; have HG2 := hide hgrow; clear hown1 hgrow hat))
        all_goals go_wp2
        all_goals go_roundw
        all_goals try (case measure => simp [intOf]; omega)
        all_goals
          have hf := HFIN.out ((wr.alloc (.cells #[.int .i64 (IntKind.i64.wrap (IntKind.i64.wrap L + U))] 3)).drew) w2 _ _ HV.out (HO.out.alloc _) ((HB.out.alloc HB.out.size _).drew) ((HX.out.alloc _).drew) HX2.out HG2.out
          exact ⟨m + 1, by omega, by go_num, hf.1, hf.2.1, HGS.out, hf.2.2⟩
    · obtain rfl : m = tl := by omega
      have hp : padP ds lo hi st = (padD ds lo hi st, 0) := by
        rw [HPP.out, if_neg]
        unfold anyPad
        rw [List.any_eq_true]
        rintro ⟨j, hj, hb⟩
        rw [List.mem_range, HN.out] at hj
        rw [HG.out j hj] at hb
        cases hb
      have HPF := hide hp
      clear hp
      go_wp2
      go_ret2
      rw [HPF.out]
      have ho := HX.out
      rw [List.take_of_length_le (by rw [padD_length, HN.out]; exact Nat.le_refl _)] at ho
      refine ⟨outP_new (newAt_own' (w := w) ho (by omega) (by rw [padD_length, HN.out]) (by omega) (fun y hy => ?_)) 0, HB.out⟩
      obtain ⟨j, hj, rfl⟩ := List.getElem_of_mem hy
      have hj' : j < ds.length := by rw [padD_length] at hj; exact hj
      have e1 := padD_getD ds lo hi st j hj'
      have e2 : (padD ds lo hi st)[j]?.getD 0 = (padD ds lo hi st)[j] := by simp [hj]
      rw [← e2, e1]
      have := padV_bd (ds := ds) (HZ.out _ (mem_getD ds j hj')) (HG.out j (by rw [HN.out] at hj'; exact hj'))
      omega

end Go.Proofs.YtoagnhppjlcpkaaGreat.V

/-
  Contract: adjointref2.dotDims.
-/
namespace Go.Proofs.YtoagnhppjlcpkaaGreat.V
set_option maxRecDepth 20000
open Go.RowKit

end Go.Proofs.YtoagnhppjlcpkaaGreat.V

/-
  Contract: adjointref2.joinDims.
-/
namespace Go.Proofs.YtoagnhppjlcpkaaGreat.V
set_option maxRecDepth 20000
open Go.RowKit

/-- A row with room behind it. -/
def RowC (w : World) (g c n : Nat) (xs : List Int) : Prop := ∃ f, w.rowIs g 3 c f ∧ ∀ j, j < n → f j = .int .i64 (xs[j]?.getD 0)
theorem RowC.below {w w' : World} {g c n : Nat} {xs : List Int} (h : RowC w g c n xs) (hb : Below w.heap.size w w') : RowC w' g c n xs := by
  obtain ⟨f, h1, h2⟩ := h
  exact ⟨f, h1.of_block (hb.block g h1.lt), h2⟩
theorem RowC.cell {w : World} {g c n : Nat} {xs : List Int} (h : RowC w g c n xs) (hn : n ≤ c) {j : Nat} (hj : j < n) : w.cell? ⟨g, j, none⟩ = some (.int .i64 (xs[j]?.getD 0)) := by
  obtain ⟨f, h1, h2⟩ := h
  have := h1.cell (show j < c by omega)
  rwa [h2 j hj] at this
theorem RowC.frozen {w : World} {g c n : Nat} {xs : List Int} (h : RowC w g c n xs) (j : Nat) : w.frozen? ⟨g, j, none⟩ = false := by
  obtain ⟨f, h1, h2⟩ := h
  exact h1.frozen j
theorem RowC.set {w : World} {g c n : Nat} {xs : List Int} (h : RowC w g c n xs) (p : Nat) (V' : Int) (hp : p < xs.length) : RowC (w.setCell ⟨g, p, none⟩ (.int .i64 V')) g c n (xs.set p V') := by
  obtain ⟨f, h1, h2⟩ := h
  refine ⟨_, h1.set p (.int .i64 V'), fun j hj => ?_⟩
  rw [set_getD xs p j V' hp]
  by_cases e : j = p
  · simp [e]
  · simp [e, h2 j hj]
theorem RowC.ints {w : World} {g c n : Nat} {xs : List Int} (h : RowC w g c n xs) (hn : n ≤ c) (hl : xs.length = n) (hm : n ≤ 9223372036854775807) (hb : ∀ x ∈ xs, -9223372036854775808 ≤ x ∧ x ≤ 9223372036854775807) : Ints w (some ⟨g, 0, none⟩) n xs :=
  ⟨hl, hm, hb, .inr ⟨g, 0, rfl, fun j hj => by rw [Nat.zero_add]; exact h.cell hn hj⟩⟩
end Go.Proofs.YtoagnhppjlcpkaaGreat.V

/-
  Contract: adjointref2.ruled, by kind.
-/
namespace Go.Proofs.YtoagnhppjlcpkaaGreat.V
set_option maxRecDepth 20000
open Go.RowKit

end Go.Proofs.YtoagnhppjlcpkaaGreat.V

/-
  Contract: adjointref2.ruled, by kind.
-/
namespace Go.Proofs.YtoagnhppjlcpkaaGreat.V
set_option maxRecDepth 20000
open Go.RowKit

end Go.Proofs.YtoagnhppjlcpkaaGreat.V

/-
  Contract: adjointref2.ruled, by kind.
-/
namespace Go.Proofs.YtoagnhppjlcpkaaGreat.V
set_option maxRecDepth 20000
open Go.RowKit

end Go.Proofs.YtoagnhppjlcpkaaGreat.V

/-
  Contract: adjointref2.ruled, by kind.
-/
namespace Go.Proofs.YtoagnhppjlcpkaaGreat.V
set_option maxRecDepth 20000
open Go.RowKit

end Go.Proofs.YtoagnhppjlcpkaaGreat.V

/-
  Contract: adjointref2.ruled, by kind.
-/
namespace Go.Proofs.YtoagnhppjlcpkaaGreat.V
set_option maxRecDepth 20000
open Go.RowKit

end Go.Proofs.YtoagnhppjlcpkaaGreat.V

/-
  Contract: adjointref2.ruled, by kind.
-/
namespace Go.Proofs.YtoagnhppjlcpkaaGreat.V
set_option maxRecDepth 20000
open Go.RowKit

end Go.Proofs.YtoagnhppjlcpkaaGreat.V

/-
  Contract: adjointref2.ruled, by kind.
-/
namespace Go.Proofs.YtoagnhppjlcpkaaGreat.V
set_option maxRecDepth 20000
open Go.RowKit

end Go.Proofs.YtoagnhppjlcpkaaGreat.V

/-
  Contracts: array.shape and adjointref2.ruled where all dimensions must be alike.
-/
namespace Go.Proofs.YtoagnhppjlcpkaaGreat.V
set_option maxRecDepth 20000
open Go.RowKit

end Go.Proofs.YtoagnhppjlcpkaaGreat.V
