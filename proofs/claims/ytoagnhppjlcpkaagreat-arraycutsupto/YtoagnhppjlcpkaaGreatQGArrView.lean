/-
  Contract: adjointref2.viewDims.
-/
import Derived.Test.YtoagnhppjlcpkaaGreatQGArrSeen
import Derived.Test.YtoagnhppjlcpkaaGreatQGRTurnNew
import Derived.Test.YtoagnhppjlcpkaaGreatQGRReads
import Derived.Test.YtoagnhppjlcpkaaGreatQGRCut
import Derived.Test.YtoagnhppjlcpkaaGreatQGRSpread
import Derived.Test.YtoagnhppjlcpkaaGreatQGRFlip
import Derived.Test.YtoagnhppjlcpkaaGreatQHArrPad
import Derived.Test.YtoagnhppjlcpkaaGreatQGRTurn
import Derived.Test.YtoagnhppjlcpkaaGreatQGArrSides
import Derived.Test.YtoagnhppjlcpkaaGreatQHArrJoin
import Derived.Test.YtoagnhppjlcpkaaGreatQGSteps
import Derived.Test.YtoagnhppjlcpkaaGreatQGArrTake
namespace Go.Proofs.YtoagnhppjlcpkaaGreat.V
set_option maxRecDepth 20000
open Go.RowKit

set_option maxRecDepth 100000 in
set_option maxHeartbeats 4000000 in
theorem viewDims_turn (k x : Int) (da : Option Addr) (dl dc : Nat) (ds : List Int) (ea : Option Addr) (el ec : Nat) (es : List Int) (pa : Option Addr) (pl pc : Nat) (ps : List Int) (la : Option Addr) (ll lc : Nat) (lo : List Int) (ha : Option Addr) (hl hc : Nat) (hi : List Int) (ta : Option Addr) (tl tc : Nat) (st : List Int) (w : World)
    (hd : Ints w da dl ds) (he : Ints w ea el es) (hp : Ints w pa pl ps) (hlo : Ints w la ll lo) (hhi : Ints w ha hl hi) (hst : Ints w ta tl st) (hz : sizeE ds = 0) (hdc : dl ≤ dc) (hec : el ≤ ec) (hk : k = 11) :
    Calls Tryz.prog 81 #[.agg #[.int .i64 k, .slice ea el ec, .slice pa pl pc, .slice la ll lc, .slice ha hl hc, .slice ta tl tc, .int .i64 x], .slice da dl dc] w fun e w' => OutP e w' (okL (turnE 0 ds (stepsV ds) ps) (taken ds ps), turnE 0 ds (stepsV ds) ps) ∧ Below w.heap.size w w' := by
  obtain ⟨E, hEE⟩ : ∃ E, turnE 0 ds (stepsV ds) ps = E := ⟨_, rfl⟩
  rw [hEE]
  have HEE := hide hEE
  have HD := hide hd
  have HE := hide he
  have HP := hide hp
  have HLO := hide hlo
  have HHI := hide hhi
  have HST := hide hst
  have HZ := hide hz
  have HEC := hide hec
  have c9 : (k == 9) = false := by simp; omega
  have c11 : (k == 11) = true := by simp; omega
  clear hd he hp hlo hhi hst hz hEE hk hec
  have HB2 := hide ((Below.refl w.heap.size w).alloc (Nat.le_refl _) (.cells #[.int .i64 k, .slice ea el ec, .slice pa pl pc, .slice la ll lc, .slice ha hl hc, .slice ta tl tc, .int .i64 x] 24))
  have HOP := hide (OpAt.new w k (.slice ea el ec) (.slice pa pl pc) (.slice la ll lc) (.slice ha hl hc) (.slice ta tl tc) x)
  go_enter Tryz.func81, Tryz.ntmps81
  go_wp2_with fail
  refine (rwhole_any _ _ _ ds _ (HD.out.below HB2.out) hdc).mono ?_
  rintro e w1 ⟨hgv, hb⟩
  rw [HZ.out] at hgv
  obtain ⟨da1, dl1, dc1, sa1, sl1, sc1, rfl, hi1, hj1, ⟨hq1, hq2⟩, hF, hG⟩ := hgv
  have e1 : ∀ l, okL 0 l = l := fun l => by unfold okL; rw [if_pos rfl]
  rw [e1] at hi1 hj1
  have HI1 := hide hi1
  have HJ1 := hide hj1
  have HB1 := hide (Below.on HB2.out hb)
  obtain ⟨o0, o1, o2, o3, o4, o5, o6⟩ := (HOP.out.below hb).cells
  obtain ⟨o0', o1', o2', o3', o4', o5', o6'⟩ := ((HOP.out.below hb).alloc (.cells #[.int .i64 0, .slice da1 dl1 dc1, .slice sa1 sl1 sc1] 80)).cells
  clear hi1 hj1 hF hG hb e1
  have HA1 := hide ((Below.refl w1.heap.size w1).alloc (Nat.le_refl _) (.cells #[.int .i64 0, .slice da1 dl1 dc1, .slice sa1 sl1 sc1] 80))
  have HV1 := hide (ViewAt.new w1 (.int .i64 0) (.slice da1 dl1 dc1) (.slice sa1 sl1 sc1))
  have HB3 := hide (HB1.out.alloc HB1.out.size (.cells #[.int .i64 0, .slice da1 dl1 dc1, .slice sa1 sl1 sc1] 80))
  go_wp2_with (go_at_call 106; refine (rturn_anyF _ _ _ _ ds _ _ _ (stepsV ds) _ _ _ ps _ (HI1.out.below HA1.out) (HJ1.out.below HA1.out) (HP.out.below HB3.out)).mono ?_; rintro e w2 ⟨hgv, hb⟩; rw [HEE.out] at hgv; obtain ⟨da2, dl2, dc2, sa2, sl2, sc2, rfl, hi2, hj2, ⟨hc1, hc2⟩, hF2, hG2⟩ := hgv; simp only [World.size_alloc] at hF2 hG2; have HI2 := hide hi2; have HF2 := hide hF2; have HR2 := hide (HV1.out.below hb); have HB4 := hide (Below.on HB3.out hb); obtain ⟨⟨r0, r1, r2⟩, f0, f1, f2⟩ := HR2.out.cells; clear hb hi2 hj2 hF2 hG2)
  go_ret2
  have hln : 0 < dl2 → 0 < dl1 := okL_len HI2.out (fun h => by
    have hE := HEE.out
    rw [h] at hE
    have h1 := (turn_again hE).1.1
    have h2 := HI1.out.1
    rw [taken_length]; omega)
  exact ⟨⟨_, _, _, rfl, ints_putL HI2.out HF2.out HI1.out hln (Nat.le_refl _) (by omega), hc1⟩, below_put HB4.out HB1.out.size⟩

set_option maxRecDepth 100000 in
set_option maxHeartbeats 4000000 in
theorem viewDims_flip (k x : Int) (da : Option Addr) (dl dc : Nat) (ds : List Int) (ea : Option Addr) (el ec : Nat) (es : List Int) (pa : Option Addr) (pl pc : Nat) (ps : List Int) (la : Option Addr) (ll lc : Nat) (lo : List Int) (ha : Option Addr) (hl hc : Nat) (hi : List Int) (ta : Option Addr) (tl tc : Nat) (st : List Int) (w : World)
    (hd : Ints w da dl ds) (he : Ints w ea el es) (hp : Ints w pa pl ps) (hlo : Ints w la ll lo) (hhi : Ints w ha hl hi) (hst : Ints w ta tl st) (hz : sizeE ds = 0) (hdc : dl ≤ dc) (hec : el ≤ ec) (hk : k ≠ 9 ∧ k ≠ 11 ∧ k ≠ 13) :
    Calls Tryz.prog 81 #[.agg #[.int .i64 k, .slice ea el ec, .slice pa pl pc, .slice la ll lc, .slice ha hl hc, .slice ta tl tc, .int .i64 x], .slice da dl dc] w fun e w' => OutP e w' (okL (flipE 0 ds (stepsV ds) ps) (ds), flipE 0 ds (stepsV ds) ps) ∧ Below w.heap.size w w' := by
  obtain ⟨E, hEE⟩ : ∃ E, flipE 0 ds (stepsV ds) ps = E := ⟨_, rfl⟩
  rw [hEE]
  have HEE := hide hEE
  have HD := hide hd
  have HE := hide he
  have HP := hide hp
  have HLO := hide hlo
  have HHI := hide hhi
  have HST := hide hst
  have HZ := hide hz
  have HEC := hide hec
  have c9 : (k == 9) = false := by simp; omega
  have c11 : (k == 11) = false := by simp; omega
  have c13 : (k == 13) = false := by simp; omega
  clear hd he hp hlo hhi hst hz hEE hk hec
  have HB2 := hide ((Below.refl w.heap.size w).alloc (Nat.le_refl _) (.cells #[.int .i64 k, .slice ea el ec, .slice pa pl pc, .slice la ll lc, .slice ha hl hc, .slice ta tl tc, .int .i64 x] 24))
  have HOP := hide (OpAt.new w k (.slice ea el ec) (.slice pa pl pc) (.slice la ll lc) (.slice ha hl hc) (.slice ta tl tc) x)
  go_enter Tryz.func81, Tryz.ntmps81
  go_wp2_with fail
  refine (rwhole_any _ _ _ ds _ (HD.out.below HB2.out) hdc).mono ?_
  rintro e w1 ⟨hgv, hb⟩
  rw [HZ.out] at hgv
  obtain ⟨da1, dl1, dc1, sa1, sl1, sc1, rfl, hi1, hj1, ⟨hq1, hq2⟩, hF, hG⟩ := hgv
  have e1 : ∀ l, okL 0 l = l := fun l => by unfold okL; rw [if_pos rfl]
  rw [e1] at hi1 hj1
  have HI1 := hide hi1
  have HJ1 := hide hj1
  have HB1 := hide (Below.on HB2.out hb)
  obtain ⟨o0, o1, o2, o3, o4, o5, o6⟩ := (HOP.out.below hb).cells
  obtain ⟨o0', o1', o2', o3', o4', o5', o6'⟩ := ((HOP.out.below hb).alloc (.cells #[.int .i64 0, .slice da1 dl1 dc1, .slice sa1 sl1 sc1] 80)).cells
  clear hi1 hj1 hF hG hb e1
  have HA1 := hide ((Below.refl w1.heap.size w1).alloc (Nat.le_refl _) (.cells #[.int .i64 0, .slice da1 dl1 dc1, .slice sa1 sl1 sc1] 80))
  have HV1 := hide (ViewAt.new w1 (.int .i64 0) (.slice da1 dl1 dc1) (.slice sa1 sl1 sc1))
  have HB3 := hide (HB1.out.alloc HB1.out.size (.cells #[.int .i64 0, .slice da1 dl1 dc1, .slice sa1 sl1 sc1] 80))
  go_wp2_with (go_at_call 108; refine (rflip_any _ _ _ _ ds _ _ _ (stepsV ds) _ _ _ ps _ (HI1.out.below HA1.out) (HJ1.out.below HA1.out) (HP.out.below HB3.out) hq1).mono ?_; rintro e w2 ⟨hgv, hb⟩; rw [HEE.out] at hgv; obtain ⟨da2, dl2, dc2, sa2, sl2, sc2, rfl, hi2, hj2, ⟨hc1, hc2⟩, hF2, hG2⟩ := hgv; simp only [World.size_alloc] at hF2 hG2; have HI2 := hide hi2; have HF2 := hide hF2; have HR2 := hide (HV1.out.below hb); have HB4 := hide (Below.on HB3.out hb); obtain ⟨⟨r0, r1, r2⟩, f0, f1, f2⟩ := HR2.out.cells; clear hb hi2 hj2 hF2 hG2)
  go_ret2
  have hln : 0 < dl2 → 0 < dl1 := okL_len HI2.out (fun h => by
    have hE := HEE.out
    rw [h] at hE
    exact HI1.out.1)
  exact ⟨⟨_, _, _, rfl, ints_putL HI2.out HF2.out HI1.out hln (Nat.le_refl _) (by omega), hc1⟩, below_put HB4.out HB1.out.size⟩

set_option maxRecDepth 100000 in
set_option maxHeartbeats 4000000 in
theorem viewDims_cut (k x : Int) (da : Option Addr) (dl dc : Nat) (ds : List Int) (ea : Option Addr) (el ec : Nat) (es : List Int) (pa : Option Addr) (pl pc : Nat) (ps : List Int) (la : Option Addr) (ll lc : Nat) (lo : List Int) (ha : Option Addr) (hl hc : Nat) (hi : List Int) (ta : Option Addr) (tl tc : Nat) (st : List Int) (w : World)
    (hd : Ints w da dl ds) (he : Ints w ea el es) (hp : Ints w pa pl ps) (hlo : Ints w la ll lo) (hhi : Ints w ha hl hi) (hst : Ints w ta tl st) (hz : sizeE ds = 0) (hdc : dl ≤ dc) (hec : el ≤ ec) (hk : k = 13) :
    Calls Tryz.prog 81 #[.agg #[.int .i64 k, .slice ea el ec, .slice pa pl pc, .slice la ll lc, .slice ha hl hc, .slice ta tl tc, .int .i64 x], .slice da dl dc] w fun e w' => OutP e w' (okL (cutE 0 ds (stepsV ds) lo hi st) (cutD ds lo hi st), cutE 0 ds (stepsV ds) lo hi st) ∧ Below w.heap.size w w' := by
  obtain ⟨E, hEE⟩ : ∃ E, cutE 0 ds (stepsV ds) lo hi st = E := ⟨_, rfl⟩
  rw [hEE]
  have HEE := hide hEE
  have HD := hide hd
  have HE := hide he
  have HP := hide hp
  have HLO := hide hlo
  have HHI := hide hhi
  have HST := hide hst
  have HZ := hide hz
  have HEC := hide hec
  have c9 : (k == 9) = false := by simp; omega
  have c11 : (k == 11) = false := by simp; omega
  have c13 : (k == 13) = true := by simp; omega
  clear hd he hp hlo hhi hst hz hEE hk hec
  have HB2 := hide ((Below.refl w.heap.size w).alloc (Nat.le_refl _) (.cells #[.int .i64 k, .slice ea el ec, .slice pa pl pc, .slice la ll lc, .slice ha hl hc, .slice ta tl tc, .int .i64 x] 24))
  have HOP := hide (OpAt.new w k (.slice ea el ec) (.slice pa pl pc) (.slice la ll lc) (.slice ha hl hc) (.slice ta tl tc) x)
  go_enter Tryz.func81, Tryz.ntmps81
  go_wp2_with fail
  refine (rwhole_any _ _ _ ds _ (HD.out.below HB2.out) hdc).mono ?_
  rintro e w1 ⟨hgv, hb⟩
  rw [HZ.out] at hgv
  obtain ⟨da1, dl1, dc1, sa1, sl1, sc1, rfl, hi1, hj1, ⟨hq1, hq2⟩, hF, hG⟩ := hgv
  have e1 : ∀ l, okL 0 l = l := fun l => by unfold okL; rw [if_pos rfl]
  rw [e1] at hi1 hj1
  have HI1 := hide hi1
  have HJ1 := hide hj1
  have HB1 := hide (Below.on HB2.out hb)
  obtain ⟨o0, o1, o2, o3, o4, o5, o6⟩ := (HOP.out.below hb).cells
  obtain ⟨o0', o1', o2', o3', o4', o5', o6'⟩ := ((HOP.out.below hb).alloc (.cells #[.int .i64 0, .slice da1 dl1 dc1, .slice sa1 sl1 sc1] 80)).cells
  clear hi1 hj1 hF hG hb e1
  have HA1 := hide ((Below.refl w1.heap.size w1).alloc (Nat.le_refl _) (.cells #[.int .i64 0, .slice da1 dl1 dc1, .slice sa1 sl1 sc1] 80))
  have HV1 := hide (ViewAt.new w1 (.int .i64 0) (.slice da1 dl1 dc1) (.slice sa1 sl1 sc1))
  have HB3 := hide (HB1.out.alloc HB1.out.size (.cells #[.int .i64 0, .slice da1 dl1 dc1, .slice sa1 sl1 sc1] 80))
  go_wp2_with (go_at_call 107; refine (rcut_any _ _ _ _ ds _ _ _ (stepsV ds) _ _ _ lo _ _ _ hi _ _ _ st _ (HI1.out.below HA1.out) (HJ1.out.below HA1.out) (HLO.out.below HB3.out) (HHI.out.below HB3.out) (HST.out.below HB3.out)).mono ?_; rintro e w2 ⟨hgv, hb⟩; rw [HEE.out] at hgv; obtain ⟨da2, dl2, dc2, sa2, sl2, sc2, rfl, hi2, hj2, ⟨hc1, hc2⟩, hF2, hG2⟩ := hgv; simp only [World.size_alloc] at hF2 hG2; have HI2 := hide hi2; have HF2 := hide hF2; have HR2 := hide (HV1.out.below hb); have HB4 := hide (Below.on HB3.out hb); obtain ⟨⟨r0, r1, r2⟩, f0, f1, f2⟩ := HR2.out.cells; clear hb hi2 hj2 hF2 hG2)
  go_ret2
  have hln : 0 < dl2 → 0 < dl1 := okL_len HI2.out (fun h => by
    have hE := HEE.out
    rw [h] at hE
    rw [cutD_length]; exact HI1.out.1)
  exact ⟨⟨_, _, _, rfl, ints_putL HI2.out HF2.out HI1.out hln (Nat.le_refl _) (by omega), hc1⟩, below_put HB4.out HB1.out.size⟩

set_option maxRecDepth 100000 in
set_option maxHeartbeats 4000000 in
theorem viewDims_spread (k x : Int) (da : Option Addr) (dl dc : Nat) (ds : List Int) (ea : Option Addr) (el ec : Nat) (es : List Int) (pa : Option Addr) (pl pc : Nat) (ps : List Int) (la : Option Addr) (ll lc : Nat) (lo : List Int) (ha : Option Addr) (hl hc : Nat) (hi : List Int) (ta : Option Addr) (tl tc : Nat) (st : List Int) (w : World)
    (hd : Ints w da dl ds) (he : Ints w ea el es) (hp : Ints w pa pl ps) (hlo : Ints w la ll lo) (hhi : Ints w ha hl hi) (hst : Ints w ta tl st) (hz : sizeE ds = 0) (hdc : dl ≤ dc) (hec : el ≤ ec) (hk : k = 9) :
    Calls Tryz.prog 81 #[.agg #[.int .i64 k, .slice ea el ec, .slice pa pl pc, .slice la ll lc, .slice ha hl hc, .slice ta tl tc, .int .i64 x], .slice da dl dc] w fun e w' => OutP e w' (okL (sprE 0 ds (stepsV ds) es ps) (es), sprE 0 ds (stepsV ds) es ps) ∧ Below w.heap.size w w' := by
  obtain ⟨E, hEE⟩ : ∃ E, sprE 0 ds (stepsV ds) es ps = E := ⟨_, rfl⟩
  rw [hEE]
  have HEE := hide hEE
  have HD := hide hd
  have HE := hide he
  have HP := hide hp
  have HLO := hide hlo
  have HHI := hide hhi
  have HST := hide hst
  have HZ := hide hz
  have HEC := hide hec
  have c9 : (k == 9) = true := by simp; omega
  clear hd he hp hlo hhi hst hz hEE hk hec
  have HB2 := hide ((Below.refl w.heap.size w).alloc (Nat.le_refl _) (.cells #[.int .i64 k, .slice ea el ec, .slice pa pl pc, .slice la ll lc, .slice ha hl hc, .slice ta tl tc, .int .i64 x] 24))
  have HOP := hide (OpAt.new w k (.slice ea el ec) (.slice pa pl pc) (.slice la ll lc) (.slice ha hl hc) (.slice ta tl tc) x)
  go_enter Tryz.func81, Tryz.ntmps81
  go_wp2_with fail
  refine (rwhole_any _ _ _ ds _ (HD.out.below HB2.out) hdc).mono ?_
  rintro e w1 ⟨hgv, hb⟩
  rw [HZ.out] at hgv
  obtain ⟨da1, dl1, dc1, sa1, sl1, sc1, rfl, hi1, hj1, ⟨hq1, hq2⟩, hF, hG⟩ := hgv
  have e1 : ∀ l, okL 0 l = l := fun l => by unfold okL; rw [if_pos rfl]
  rw [e1] at hi1 hj1
  have HI1 := hide hi1
  have HJ1 := hide hj1
  have HB1 := hide (Below.on HB2.out hb)
  obtain ⟨o0, o1, o2, o3, o4, o5, o6⟩ := (HOP.out.below hb).cells
  obtain ⟨o0', o1', o2', o3', o4', o5', o6'⟩ := ((HOP.out.below hb).alloc (.cells #[.int .i64 0, .slice da1 dl1 dc1, .slice sa1 sl1 sc1] 80)).cells
  clear hi1 hj1 hF hG hb e1
  have HA1 := hide ((Below.refl w1.heap.size w1).alloc (Nat.le_refl _) (.cells #[.int .i64 0, .slice da1 dl1 dc1, .slice sa1 sl1 sc1] 80))
  have HV1 := hide (ViewAt.new w1 (.int .i64 0) (.slice da1 dl1 dc1) (.slice sa1 sl1 sc1))
  have HB3 := hide (HB1.out.alloc HB1.out.size (.cells #[.int .i64 0, .slice da1 dl1 dc1, .slice sa1 sl1 sc1] 80))
  go_wp2_with (go_at_call 105; refine (rspread_any _ _ _ _ ds _ _ _ (stepsV ds) _ _ _ es _ _ _ ps _ (HI1.out.below HA1.out) (HJ1.out.below HA1.out) (HE.out.below HB3.out) (HP.out.below HB3.out) HEC.out).mono ?_; rintro e w2 ⟨hgv, hb⟩; rw [HEE.out] at hgv; obtain ⟨da2, dl2, dc2, sa2, sl2, sc2, rfl, hi2, hj2, ⟨hc1, hc2⟩, hF2, hG2⟩ := hgv; simp only [World.size_alloc] at hF2 hG2; have HI2 := hide hi2; have HF2 := hide hF2; have HR2 := hide (HV1.out.below hb); have HB4 := hide (Below.on HB3.out hb); obtain ⟨⟨r0, r1, r2⟩, f0, f1, f2⟩ := HR2.out.cells; clear hb hi2 hj2 hF2 hG2)
  go_ret2
  have hln : 0 < dl2 → 0 < el := okL_len HI2.out (fun h => by
    have hE := HEE.out
    rw [h] at hE
    exact HE.out.1)
  exact ⟨⟨_, _, _, rfl, ints_putL HI2.out HF2.out (HE.out.below HB1.out) hln (Nat.le_refl _) (by omega), hc1⟩, below_put HB4.out HB1.out.size⟩
end Go.Proofs.YtoagnhppjlcpkaaGreat.V

/-
  Contract: adjointref2.padDims.
-/
namespace Go.Proofs.YtoagnhppjlcpkaaGreat.V
set_option maxRecDepth 20000
open Go.RowKit

set_option maxRecDepth 100000 in
set_option maxHeartbeats 4000000 in
theorem rpadDims_any (k x : Int) (vd va : Value) (la : Option Addr) (ll lc : Nat) (lo : List Int) (ha : Option Addr) (hl hc : Nat) (hi : List Int) (ta : Option Addr) (tl tc : Nat) (st : List Int) (da : Option Addr) (dl dc : Nat) (ds : List Int) (w : World)
    (hlo : Ints w la ll lo) (hhi : Ints w ha hl hi) (hst : Ints w ta tl st) (hd : Ints w da dl ds) (hz : sizeE ds = 0) :
    Calls Tryz.prog 78 #[.agg #[.int .i64 k, vd, va, .slice la ll lc, .slice ha hl hc, .slice ta tl tc, .int .i64 x], .slice da dl dc] w fun e w' => OutP e w' (padP ds lo hi st) ∧ Below w.heap.size w w' := by
  have HLO := hide hlo
  have HHI := hide hhi
  have HST := hide hst
  have HD := hide hd
  have HN := hide hd.1
  have HZ := hide (sizeE_ok hz).2.1
  have h6 : dl ≤ 6 := by have := (sizeE_ok hz).1; have := hd.1; omega
  obtain ⟨i0, hi0, hz0, hz1, hz2⟩ := info_parts info_int
  have HI := hide hi0
  have HZ0 := hide hz0
  have HZ1 := hide hz1
  have HZ2 := hide hz2
  clear hi0 hz0 hz1 hz2
  have HB1 := hide ((Below.refl w.heap.size w).alloc (Nat.le_refl _) (.cells #[.int .i64 k, vd, va, .slice la ll lc, .slice ha hl hc, .slice ta tl tc, .int .i64 x] 24))
  have HOP := hide (OpAt.new w k vd va (.slice la ll lc) (.slice ha hl hc) (.slice ta tl tc) x)
  have e1 := hlo.1
  have e2 := hhi.1
  have e3 := hst.1
  have e4 := hd.1
  clear hlo hhi hst hd hz
  by_cases cl : ll = dl ∧ hl = dl ∧ tl = dl
  case neg =>
    have hp : padP ds lo hi st = ([], 6) := by
      unfold padP lensB
      rw [e1, e2, e3, e4, if_neg]
      simp only [Bool.and_eq_true, decide_eq_true_eq]; exact cl
    rw [hp]
    clear hp e1 e2 e3 e4
    by_cases q1 : ll = dl
    · by_cases q2 : hl = dl
      · have q3 : ((tl : Int) != (dl : Int)) = true := by simp; omega
        subst q1
        subst q2
        clear cl
        go_enter Tryz.func78, Tryz.ntmps78
        go_wp2
        go_ret2
        exact ⟨outP_none _ _, HB1.out⟩
      · have q3 : ((hl : Int) != (dl : Int)) = true := by simp; omega
        subst q1
        clear cl q2
        go_enter Tryz.func78, Tryz.ntmps78
        go_wp2
        go_ret2
        exact ⟨outP_none _ _, HB1.out⟩
    · have q3 : ((ll : Int) != (dl : Int)) = true := by simp; omega
      clear cl q1
      go_enter Tryz.func78, Tryz.ntmps78
      go_wp2
      go_ret2
      exact ⟨outP_none _ _, HB1.out⟩
  obtain ⟨q1, q2, q3⟩ := cl
  have hp : padP ds lo hi st = if anyPad ds.length lo hi st = true then ([], 4) else (padD ds lo hi st, 0) := by
    unfold padP lensB
    rw [e1, e2, e3, e4, if_pos]
    simp only [Bool.and_eq_true, decide_eq_true_eq]; exact ⟨q1, q2, q3⟩
  have HPP := hide hp
  obtain rfl := q1
  obtain rfl := q2
  obtain rfl := q3
  clear hp e1 e2 e3 e4
  go_enter Tryz.func78, Tryz.ntmps78
  go_wp2
  go_loopw [6, 33] (fun v i wr => ∃ m : Nat, m ≤ tl ∧ i = .int .i64 m ∧ OpAt wr w.heap.size k vd va (.slice la tl lc) (.slice ha tl hc) (.slice ta tl tc) x ∧ wr.ownsRow (w.heap.size + 1) 3 1 v m (((padD ds lo hi st).take m).map (Value.int .i64)) ∧ (∀ j, j < m → padBad lo hi st j = false) ∧ Below w.heap.size w wr) (fun _ i _ => tl - (intOf i).toNat)
  case atStart => exact ⟨0, Nat.zero_le _, rfl, HOP.out, World.ownsRow_nil _ _ _ _, fun j hj => by omega, HB1.out⟩
  case round =>
    obtain ⟨m, hm, rfl, hop, hown, hgood, hB⟩ := hrel
    have HO := hide hop
    have HX := hide hown
    have HG := hide hgood
    have HB := hide hB
    clear hop hown hgood hB
    by_cases hlt : m < tl
    · obtain ⟨lb, lof, rfl, hlb, hlc⟩ := HLO.out.at (by omega)
      obtain ⟨hb, hof, rfl, hhb, hhc⟩ := HHI.out.at (by omega)
      obtain ⟨tb, tof, rfl, htb, htc⟩ := HST.out.at (by omega)
      obtain ⟨db, dof, rfl, hdb, hdc⟩ := HD.out.at (by omega)
      obtain ⟨L, hL⟩ : ∃ L, L = lo[m]?.getD 0 := ⟨_, rfl⟩
      obtain ⟨U, hU⟩ : ∃ U, U = hi[m]?.getD 0 := ⟨_, rfl⟩
      obtain ⟨T, hT⟩ : ∃ T, T = st[m]?.getD 0 := ⟨_, rfl⟩
      obtain ⟨D, hD⟩ : ∃ D, D = ds[m]?.getD 0 := ⟨_, rfl⟩
      have cl : wr.cell? ⟨lb, lof + m, none⟩ = some (.int .i64 L) := by rw [hL]; exact (HB.out.cell (p := ⟨lb, lof + m, none⟩) hlb).trans (hlc m hlt)
      have ch : wr.cell? ⟨hb, hof + m, none⟩ = some (.int .i64 U) := by rw [hU]; exact (HB.out.cell (p := ⟨hb, hof + m, none⟩) hhb).trans (hhc m hlt)
      have ct : wr.cell? ⟨tb, tof + m, none⟩ = some (.int .i64 T) := by rw [hT]; exact (HB.out.cell (p := ⟨tb, tof + m, none⟩) htb).trans (htc m hlt)
      have cd : wr.cell? ⟨db, dof + m, none⟩ = some (.int .i64 D) := by rw [hD]; exact (HB.out.cell (p := ⟨db, dof + m, none⟩) hdb).trans (hdc m hlt)
      have hDb : 0 ≤ D ∧ D ≤ 4096 := by rw [hD]; exact HZ.out _ (mem_getD ds m (by rw [HN.out]; exact hlt))
      have HPB : Hid (padBad lo hi st m = (decide (L < 0) || (decide (4096 < L) || (decide (U < 0) || (decide (4096 < U) || (decide (T < 1) || decide (4096 < T))))))) := by rw [Hid, hL, hU, hT]; rfl
      have HPV : Hid (padV ds lo hi st m = L + U + (if 0 < D then (D - 1) * T + 1 else 0)) := by rw [Hid, hL, hU, hT, hD]; rfl
      obtain ⟨o0, o1, o2, o3, o4, o5, o6⟩ := HO.out.cells
      have i1 : (0 : Int) ≤ (m : Int) := Int.natCast_nonneg _
      have i2 : (m : Int) < (tl : Int) := by omega
      have HBAD : Hid (padBad lo hi st m = true → padP ds lo hi st = ([], 4)) := fun hb => by
        rw [HPP.out, if_pos]
        unfold anyPad
        rw [List.any_eq_true]
        exact ⟨m, by rw [List.mem_range, HN.out]; exact hlt, hb⟩
      have HCL : Hid (∀ wx, Below w.heap.size w wx → wx.cell? ⟨lb, lof + m, none⟩ = some (.int .i64 L)) := fun wx hx => by rw [hL]; exact (hx.cell (p := ⟨lb, lof + m, none⟩) hlb).trans (hlc m hlt)
      have HCH : Hid (∀ wx, Below w.heap.size w wx → wx.cell? ⟨hb, hof + m, none⟩ = some (.int .i64 U)) := fun wx hx => by rw [hU]; exact (hx.cell (p := ⟨hb, hof + m, none⟩) hhb).trans (hhc m hlt)
      clear hlc hhc htc hdc hL hU hT hD
      by_cases x1 : L < 0
      · go_wp2
        go_ret2
        rw [HBAD.out (by rw [HPB.out]; simp [x1])]
        exact ⟨outP_none _ _, HB.out⟩
      by_cases x2 : 4096 < L
      · go_wp2
        go_ret2
        rw [HBAD.out (by rw [HPB.out]; simp [x2])]
        exact ⟨outP_none _ _, HB.out⟩
      by_cases x3 : U < 0
      · go_wp2
        go_ret2
        rw [HBAD.out (by rw [HPB.out]; simp [x3])]
        exact ⟨outP_none _ _, HB.out⟩
      by_cases x4 : 4096 < U
      · go_wp2
        go_ret2
        rw [HBAD.out (by rw [HPB.out]; simp [x4])]
        exact ⟨outP_none _ _, HB.out⟩
      by_cases x5 : T < 1
      · go_wp2
        go_ret2
        rw [HBAD.out (by rw [HPB.out]; simp [x5])]
        exact ⟨outP_none _ _, HB.out⟩
      by_cases x6 : 4096 < T
      · go_wp2
        go_ret2
        rw [HBAD.out (by rw [HPB.out]; simp [x6])]
        exact ⟨outP_none _ _, HB.out⟩
      have HOK : Hid (padBad lo hi st m = false) := by
        rw [Hid, HPB.out]
        simp; omega
      have HGS : Hid (∀ j, j < m + 1 → padBad lo hi st j = false) := fun j hj => by
        by_cases e : j = m
        · rw [e]; exact HOK.out
        · exact HG.out j (by omega)
      have HTS : Hid ((padD ds lo hi st).take (m + 1) = (padD ds lo hi st).take m ++ [padV ds lo hi st m]) := by
        have hkd : m < ds.length := by rw [HN.out]; exact hlt
        rw [Hid, take_succ_getD _ m (by rw [padD_length]; exact hkd), padD_getD ds lo hi st m hkd]
      have HFIN : Hid (∀ (wx w2 : World) (v' : Value) (V : Int), V = padV ds lo hi st m → OpAt wx w.heap.size k vd va (.slice (some ⟨lb, lof, none⟩) tl lc) (.slice (some ⟨hb, hof, none⟩) tl hc) (.slice (some ⟨tb, tof, none⟩) tl tc) x → Below w.heap.size w wx → wx.ownsRow (w.heap.size + 1) 3 1 u6 m (((padD ds lo hi st).take m).map (Value.int .i64)) → w2.ownsRow (w.heap.size + 1) 3 1 v' (m + 1) (((padD ds lo hi st).take m).map (Value.int .i64) ++ [.int .i64 V]) → wx.grownBy w2 u6.ownBlock →
          OpAt w2 w.heap.size k vd va (.slice (some ⟨lb, lof, none⟩) tl lc) (.slice (some ⟨hb, hof, none⟩) tl hc) (.slice (some ⟨tb, tof, none⟩) tl tc) x ∧ w2.ownsRow (w.heap.size + 1) 3 1 v' (m + 1) (((padD ds lo hi st).take (m + 1)).map (Value.int .i64)) ∧ Below w.heap.size w w2) := by
        intro wx w2 v' V hV hop hBx hown hown2 hg
        refine ⟨?_, ?_, ?_⟩
        · have := hg.block w.heap.size hop.lt (fun e => by have := (hown.lt _ e.symm).1; omega)
          exact this.trans hop
        · rw [HTS.out, List.map_append, ← hV]; exact hown2
        · exact hBx.grown hg hBx.size (fun j e => by have := (hown.lt j e).1; omega)
      have hsz : w.heap.size + 1 ≤ wr.heap.size := HO.out.lt
      by_cases cD : 0 < D
      · have hm3 : 0 ≤ (D - 1) * T := Int.mul_nonneg (by omega) (by omega)
        have hm4 : (D - 1) * T ≤ 4096 * 4096 := Int.mul_le_mul (by omega) (by omega) (by omega) (by omega)
        have HPV' : Hid (padV ds lo hi st m = L + U + ((D - 1) * T + 1)) := by rw [Hid, HPV.out, if_pos cD]
        obtain ⟨M, hM⟩ : ∃ M, M = (D - 1) * T + 1 := ⟨_, rfl⟩
        have HM := hide hM
        go_wp2_with fail
        go_cut [8] (fun n wc => n = .int .i64 M ∧ OpAt wc w.heap.size k vd va (.slice (some ⟨lb, lof, none⟩) tl lc) (.slice (some ⟨hb, hof, none⟩) tl hc) (.slice (some ⟨tb, tof, none⟩) tl tc) x ∧ wc.ownsRow (w.heap.size + 1) 3 1 u6 m (((padD ds lo hi st).take m).map (Value.int .i64)) ∧ Below w.heap.size w wc)
        case first =>
          go_region
          all_goals go_wp2
          all_goals go_meet
          all_goals exact ⟨by rw [HM.out], HO.out, HX.out.drew, HB.out.drew⟩
        case rest =>
          obtain ⟨rfl, hop, hown, hB⟩ := hcut
          clear cl ch ct cd o0 o1 o2 o3 o4 o5 o6 HO HX HB hsz
          have HO := hide hop
          have HX := hide hown
          have HB := hide hB
          have hsz : w.heap.size + 1 ≤ wc.heap.size := hop.lt
          have cl := HCL.out _ hB
          have ch := HCH.out _ hB
          obtain ⟨o0, o1, o2, o3, o4, o5, o6⟩ := HO.out.cells
          clear hop hown hB
          have hMb : 0 ≤ M ∧ M ≤ 4096 * 4096 + 1 := by omega
          have HV : Hid (IntKind.i64.wrap (IntKind.i64.wrap (L + M) + U) = padV ds lo hi st m) := by
            rw [Hid, HPV'.out, ← HM.out, wrap_in (L + M) (by omega) (by omega), wrap_in _ (by omega) (by omega)]; omega
          clear hm3 hm4 hM cD
          go_wp2_with fail
          go_region_law ((refine step_append_lies _ (by rfl) _ _ _ (by rfl) (w.heap.size + 1) 3 i0 _ 1 8 Tryz.underlying22 HI.out HZ0.out HZ1.out HZ2.out rfl (by omega) _ _ _ (by rfl) ((HX.out.alloc _).drew) ⟨wc.heap.size, 0, none⟩ 1 1 [.int .i64 (IntKind.i64.wrap (IntKind.i64.wrap (L + M) + U))] (by rfl) (by rfl) (World.news_of_block (cs := #[.int .i64 (IntKind.i64.wrap (IntKind.i64.wrap (L + M) + U))]) (t := 3) (fr := (0, 0)) (heap_alloc_new wc _)) (by simp [Value.oneCell']) (by omega) (by unfold maxLen; omega) (by omega) (by have := HB.out.size; simp; omega) (wc.heap.size + 1) (by simp) ?_; intro g1 c1 w2 hown1 hgrow hat hlt3; have HX2 := hide hown1; have HG2 := hide hgrow; clear hown1 hgrow hat))
          all_goals go_wp2
          all_goals go_roundw
          all_goals try (case measure => simp [intOf]; omega)
          all_goals
            have hf := HFIN.out ((wc.alloc (.cells #[.int .i64 (IntKind.i64.wrap (IntKind.i64.wrap (L + M) + U))] 3)).drew) w2 _ _ HV.out (HO.out.alloc _) ((HB.out.alloc HB.out.size _).drew) ((HX.out.alloc _).drew) HX2.out HG2.out
            have hr : ∃ m' : Nat, m' ≤ tl ∧ Value.int .i64 ((m : Int) + 1) = .int .i64 m' ∧ OpAt w2 w.heap.size k vd va (.slice (some ⟨lb, lof, none⟩) tl lc) (.slice (some ⟨hb, hof, none⟩) tl hc) (.slice (some ⟨tb, tof, none⟩) tl tc) x ∧ w2.ownsRow (w.heap.size + 1) 3 1 (.slice (some ⟨g1, 0, none⟩) (m + 1) c1) m' (((padD ds lo hi st).take m').map (Value.int .i64)) ∧ (∀ j, j < m' → padBad lo hi st j = false) ∧ Below w.heap.size w w2 := ⟨m + 1, by omega, by go_num, hf.1, hf.2.1, HGS.out, hf.2.2⟩
            first
              | exact hr
              | (repeat apply Exists.intro
                 exact ⟨hr, rfl⟩)
      · have HPV' : Hid (padV ds lo hi st m = L + U) := by rw [Hid, HPV.out, if_neg cD]; omega
        have HV : Hid (IntKind.i64.wrap (IntKind.i64.wrap L + U) = padV ds lo hi st m) := by
          rw [Hid, HPV'.out, wrap_in L (by omega) (by omega), wrap_in _ (by omega) (by omega)]
        go_wp2_with fail
        go_region_law ((refine step_append_lies _ (by rfl) _ _ _ (by rfl) (w.heap.size + 1) 3 i0 _ 1 8 Tryz.underlying22 HI.out HZ0.out HZ1.out HZ2.out rfl (by omega) _ _ _ (by rfl) ((HX.out.alloc _).drew) ⟨wr.heap.size, 0, none⟩ 1 1 [.int .i64 (IntKind.i64.wrap (IntKind.i64.wrap L + U))] (by rfl) (by rfl) (World.news_of_block (cs := #[.int .i64 (IntKind.i64.wrap (IntKind.i64.wrap L + U))]) (t := 3) (fr := (0, 0)) (heap_alloc_new wr _)) (by simp [Value.oneCell']) (by omega) (by unfold maxLen; omega) (by omega) (by have := HB.out.size; simp; omega) (wr.heap.size + 1) (by simp) ?_; intro g1 c1 w2 hown1 hgrow hat hlt3; have HX2 := hide hown1; have HG2 := hide hgrow; clear hown1 hgrow hat))
        all_goals go_wp2
        all_goals go_roundw
        all_goals try (case measure => simp [intOf]; omega)
        all_goals
          have hf := HFIN.out ((wr.alloc (.cells #[.int .i64 (IntKind.i64.wrap (IntKind.i64.wrap L + U))] 3)).drew) w2 _ _ HV.out (HO.out.alloc _) ((HB.out.alloc HB.out.size _).drew) ((HX.out.alloc _).drew) HX2.out HG2.out
          exact ⟨m + 1, by omega, by go_num, hf.1, hf.2.1, HGS.out, hf.2.2⟩
    · obtain rfl : m = tl := by omega
      have hp : padP ds lo hi st = (padD ds lo hi st, 0) := by
        rw [HPP.out, if_neg]
        unfold anyPad
        rw [List.any_eq_true]
        rintro ⟨j, hj, hb⟩
        rw [List.mem_range, HN.out] at hj
        rw [HG.out j hj] at hb
        cases hb
      have HPF := hide hp
      clear hp
      go_wp2
      go_ret2
      rw [HPF.out]
      have ho := HX.out
      rw [List.take_of_length_le (by rw [padD_length, HN.out]; exact Nat.le_refl _)] at ho
      refine ⟨outP_new (newAt_own' (w := w) ho (by omega) (by rw [padD_length, HN.out]) (by omega) (fun y hy => ?_)) 0, HB.out⟩
      obtain ⟨j, hj, rfl⟩ := List.getElem_of_mem hy
      have hj' : j < ds.length := by rw [padD_length] at hj; exact hj
      have e1 := padD_getD ds lo hi st j hj'
      have e2 : (padD ds lo hi st)[j]?.getD 0 = (padD ds lo hi st)[j] := by simp [hj]
      rw [← e2, e1]
      have := padV_bd (ds := ds) (HZ.out _ (mem_getD ds j hj')) (HG.out j (by rw [HN.out] at hj'; exact hj'))
      omega

end Go.Proofs.YtoagnhppjlcpkaaGreat.V

/-
  Contract: adjointref2.dotDims.
-/
namespace Go.Proofs.YtoagnhppjlcpkaaGreat.V
set_option maxRecDepth 20000
open Go.RowKit

set_option maxRecDepth 100000 in
set_option maxHeartbeats 4000000 in
theorem rdotDims_any (k x : Int) (vd : Value) (pa : Option Addr) (pl pc : Nat) (ps : List Int) (la : Option Addr) (ll lc : Nat) (lo : List Int) (ha : Option Addr) (hl hc : Nat) (hi : List Int) (ta : Option Addr) (tl tc : Nat) (st : List Int) (da : Option Addr) (dl dc : Nat) (ds : List Int) (ea : Option Addr) (el ec : Nat) (es : List Int) (w : World)
    (hp : Lst w pa pl pc ps) (hlo : Lst w la ll lc lo) (hhi : Lst w ha hl hc hi) (hst : Lst w ta tl tc st) (hd : Ints w da dl ds) (he : Ints w ea el es) (h6 : dl ≤ 6) (h6' : el ≤ 6) (b1 : pl ≤ 1048576) (b2 : ll ≤ 1048576) (b3 : hl ≤ 1048576) (b4 : tl ≤ 1048576) :
    Calls Tryz.prog 79 #[.agg #[.int .i64 k, vd, .slice pa pl pc, .slice la ll lc, .slice ha hl hc, .slice ta tl tc, .int .i64 x], .slice da dl dc, .slice ea el ec] w fun e w' => OutP e w' (dotP ps st lo hi ds es) ∧ Below w.heap.size w w' := by
  have HP := hide hp
  have HLO := hide hlo
  have HHI := hide hhi
  have HST := hide hst
  have HD := hide hd
  have HE := hide he
  have HND := hide hd.1
  have HNE := hide he.1
  have HLP := hide hp.1.1
  have HLL := hide hlo.1.1
  have HLH := hide hhi.1.1
  have HLT := hide hst.1.1
  clear hp hlo hhi hst hd he
  have HB0 := hide ((Below.refl w.heap.size w).alloc (Nat.le_refl _) (.cells #[.int .i64 k, vd, .slice pa pl pc, .slice la ll lc, .slice ha hl hc, .slice ta tl tc, .int .i64 x] 24))
  have HO0 := hide (OpAt.new w k vd (.slice pa pl pc) (.slice la ll lc) (.slice ha hl hc) (.slice ta tl tc) x)
  obtain ⟨a00, a01, a02, a03, a04, a05, a06⟩ := HO0.out.cells
  have HNO : Hid (¬ (Once (ps ++ lo) dl ∧ Once (st ++ hi) el ∧ taken ds ps = taken es st ∧ taken ds lo = taken es hi) → dotP ps st lo hi ds es = ([], 6)) := fun hn => by
    unfold dotP
    rw [if_neg]
    intro h
    simp only [dotB, Bool.and_eq_true, decide_eq_true_eq] at h
    obtain ⟨g1, g2, g3, g4⟩ := h
    rw [onceB_iff, HND.out] at g1
    rw [onceB_iff, HNE.out] at g2
    exact hn ⟨once_comm.1 g1, once_comm.1 g2, g4, g3⟩
  by_cases c1 : pl = tl
  case neg =>
    rw [HNO.out (fun h => c1 (by have := congrArg List.length h.2.2.1; rw [taken_length, taken_length, HLP.out, HLT.out] at this; exact this))]
    have q : ((pl : Int) != (tl : Int)) = true := by simp; omega
    clear c1
    go_enter Tryz.func79, Tryz.ntmps79
    go_wp2
    go_ret2
    exact ⟨outP_none _ _, HB0.out⟩
  subst c1
  by_cases c2 : ll = hl
  case neg =>
    rw [HNO.out (fun h => c2 (by have := congrArg List.length h.2.2.2; rw [taken_length, taken_length, HLL.out, HLH.out] at this; exact this))]
    have q : ((ll : Int) != (hl : Int)) = true := by simp; omega
    clear c2
    go_enter Tryz.func79, Tryz.ntmps79
    go_wp2
    go_ret2
    exact ⟨outP_none _ _, HB0.out⟩
  subst c2
  by_cases cA : Once (ps ++ lo) dl
  case neg =>
    rw [HNO.out (fun h => cA h.1)]
    have HCA := hide cA
    clear cA
    go_enter Tryz.func79, Tryz.ntmps79
    go_wp2_with (first
      | (go_at_call_of 47 (Value.slice pa pl pc); refine (both_any _ _ _ (ps) _ _ _ (lo) _ (HP.out.below HB0.out) (HLO.out.below HB0.out) (by omega)).mono ?_; rintro e w1 ⟨⟨v1, rfl, X1, n1, d1, rfl, hl1, _⟩, hb⟩; have HL1 := hide hl1; have hlen1 := hl1.1.1; have HX1 := hide hb; have HB1 := hide (Below.on HB0.out hb); have HO1 := hide (HO0.out.below hb); obtain ⟨a10, a11, a12, a13, a14, a15, a16⟩ := HO1.out.cells; clear hl1 hb)
      | (go_at_call_of 103 (Value.int .i64 dl); refine (once_any _ _ _ (ps ++ lo) dl _ HL1.out).mono ?_; rintro e w2 ⟨⟨bb, rfl, hbt⟩, hb⟩; obtain rfl : bb = false := by { cases bb; rfl; exact absurd (hbt.1 rfl) HCA.out }; have HX2 := hide hb; have HB2 := hide (Below.on HB1.out hb); have HO2 := hide (HO1.out.below hb); obtain ⟨a20, a21, a22, a23, a24, a25, a26⟩ := HO2.out.cells; clear hb hbt))
    go_ret2
    exact ⟨outP_none _ _, HB2.out⟩
  have HCA := hide cA
  clear cA
  by_cases cB : Once (st ++ hi) el
  case neg =>
    rw [HNO.out (fun h => cB h.2.1)]
    have HCB := hide cB
    clear cB
    go_enter Tryz.func79, Tryz.ntmps79
    go_wp2_with (first
      | (go_at_call_of 47 (Value.slice pa pl pc); refine (both_any _ _ _ (ps) _ _ _ (lo) _ (HP.out.below HB0.out) (HLO.out.below HB0.out) (by omega)).mono ?_; rintro e w1 ⟨⟨v1, rfl, X1, n1, d1, rfl, hl1, _⟩, hb⟩; have HL1 := hide hl1; have hlen1 := hl1.1.1; have HX1 := hide hb; have HB1 := hide (Below.on HB0.out hb); have HO1 := hide (HO0.out.below hb); obtain ⟨a10, a11, a12, a13, a14, a15, a16⟩ := HO1.out.cells; clear hl1 hb)
      | (go_at_call_of 47 (Value.slice ta pl tc); refine (both_any _ _ _ (st) _ _ _ (hi) _ (HST.out.below HB2.out) (HHI.out.below HB2.out) (by omega)).mono ?_; rintro e w3 ⟨⟨v3, rfl, X3, n3, d3, rfl, hl3, _⟩, hb⟩; have HL3 := hide hl3; have hlen3 := hl3.1.1; have HX3 := hide hb; have HB3 := hide (Below.on HB2.out hb); have HO3 := hide (HO2.out.below hb); obtain ⟨a30, a31, a32, a33, a34, a35, a36⟩ := HO3.out.cells; clear hl3 hb)
      | (go_at_call_of 103 (Value.int .i64 dl); refine (once_any _ _ _ (ps ++ lo) dl _ HL1.out).mono ?_; rintro e w2 ⟨⟨bb, rfl, hbt⟩, hb⟩; obtain rfl : bb = true := hbt.2 HCA.out; have HX2 := hide hb; have HB2 := hide (Below.on HB1.out hb); have HO2 := hide (HO1.out.below hb); obtain ⟨a20, a21, a22, a23, a24, a25, a26⟩ := HO2.out.cells; clear hb hbt)
      | (go_at_call_of 103 (Value.int .i64 el); refine (once_any _ _ _ (st ++ hi) el _ HL3.out).mono ?_; rintro e w4 ⟨⟨bb, rfl, hbt⟩, hb⟩; obtain rfl : bb = false := by { cases bb; rfl; exact absurd (hbt.1 rfl) HCB.out }; have HX4 := hide hb; have HB4 := hide (Below.on HB3.out hb); have HO4 := hide (HO3.out.below hb); obtain ⟨a40, a41, a42, a43, a44, a45, a46⟩ := HO4.out.cells; clear hb hbt))
    go_ret2
    exact ⟨outP_none _ _, HB4.out⟩
  have HCB := hide cB
  clear cB
  have HINP : Hid (∀ y ∈ ps, 0 ≤ y ∧ y < (dl : Int)) := fun y hy => (once_iff.1 HCA.out).1 y (List.mem_append_left _ hy)
  have HINL : Hid (∀ y ∈ lo, 0 ≤ y ∧ y < (dl : Int)) := fun y hy => (once_iff.1 HCA.out).1 y (List.mem_append_right _ hy)
  have HINT : Hid (∀ y ∈ st, 0 ≤ y ∧ y < (el : Int)) := fun y hy => (once_iff.1 HCB.out).1 y (List.mem_append_left _ hy)
  have HINH : Hid (∀ y ∈ hi, 0 ≤ y ∧ y < (el : Int)) := fun y hy => (once_iff.1 HCB.out).1 y (List.mem_append_right _ hy)
  have hs1 : pl + ll ≤ 6 := by have := once_len HCA.out; rw [List.length_append, HLP.out, HLL.out] at this; omega
  have HTA : Hid (∀ wx, Below w.heap.size w wx → ∀ X n c (ys : List Int), Ints wx X n ys → (∀ y ∈ ys, 0 ≤ y ∧ y < (dl : Int)) → n ≤ 6 → Calls Tryz.prog 41 #[.slice da dl dc, .slice X n c] wx fun e w' => GivesL wx e w' (taken ds ys) ∧ Below wx.heap.size wx w') := fun wx hx X n c ys h1 h2 h3 => chosen_any _ _ _ ds _ _ _ ys _ (HD.out.below hx) h1 h2 h3
  have HTB : Hid (∀ wx, Below w.heap.size w wx → ∀ X n c (ys : List Int), Ints wx X n ys → (∀ y ∈ ys, 0 ≤ y ∧ y < (el : Int)) → n ≤ 6 → Calls Tryz.prog 41 #[.slice ea el ec, .slice X n c] wx fun e w' => GivesL wx e w' (taken es ys) ∧ Below wx.heap.size wx w') := fun wx hx X n c ys h1 h2 h3 => chosen_any _ _ _ es _ _ _ ys _ (HE.out.below hx) h1 h2 h3
  go_enter Tryz.func79, Tryz.ntmps79
  go_wp2_with (first
    | (go_at_call_of 47 (Value.slice pa pl pc); refine (both_any _ _ _ (ps) _ _ _ (lo) _ (HP.out.below HB0.out) (HLO.out.below HB0.out) (by omega)).mono ?_; rintro e w1 ⟨⟨v1, rfl, X1, n1, d1, rfl, hl1, _⟩, hb⟩; have HL1 := hide hl1; have hlen1 := hl1.1.1; have HX1 := hide hb; have HB1 := hide (Below.on HB0.out hb); have HO1 := hide (HO0.out.below hb); obtain ⟨a10, a11, a12, a13, a14, a15, a16⟩ := HO1.out.cells; clear hl1 hb)
    | (go_at_call_of 47 (Value.slice ta pl tc); refine (both_any _ _ _ (st) _ _ _ (hi) _ (HST.out.below HB2.out) (HHI.out.below HB2.out) (by omega)).mono ?_; rintro e w3 ⟨⟨v3, rfl, X3, n3, d3, rfl, hl3, _⟩, hb⟩; have HL3 := hide hl3; have hlen3 := hl3.1.1; have HX3 := hide hb; have HB3 := hide (Below.on HB2.out hb); have HO3 := hide (HO2.out.below hb); obtain ⟨a30, a31, a32, a33, a34, a35, a36⟩ := HO3.out.cells; clear hl3 hb)
    | (go_at_call_of 103 (Value.int .i64 dl); refine (once_any _ _ _ (ps ++ lo) dl _ HL1.out).mono ?_; rintro e w2 ⟨⟨bb, rfl, hbt⟩, hb⟩; obtain rfl : bb = true := hbt.2 HCA.out; have HX2 := hide hb; have HB2 := hide (Below.on HB1.out hb); have HO2 := hide (HO1.out.below hb); obtain ⟨a20, a21, a22, a23, a24, a25, a26⟩ := HO2.out.cells; clear hb hbt)
    | (go_at_call_of 103 (Value.int .i64 el); refine (once_any _ _ _ (st ++ hi) el _ HL3.out).mono ?_; rintro e w4 ⟨⟨bb, rfl, hbt⟩, hb⟩; obtain rfl : bb = true := hbt.2 HCB.out; have HX4 := hide hb; have HB4 := hide (Below.on HB3.out hb); have HO4 := hide (HO3.out.below hb); obtain ⟨a40, a41, a42, a43, a44, a45, a46⟩ := HO4.out.cells; clear hb hbt))
  go_cut [67] (fun t wc => ∃ u : Bool, t = .bool u ∧ u = (!(decide (taken ds ps = taken es st) && decide (taken ds lo = taken es hi))) ∧ Below w4.heap.size w4 wc)
  case first =>
    by_cases q1 : taken ds ps = taken es st
    case neg =>
      have HJF : Hid (true = (!(decide (taken ds ps = taken es st) && decide (taken ds lo = taken es hi)))) := by simp [Hid, q1]
      have Q1 : Hid (decide (taken ds ps = taken es st) = false) := decide_eq_false q1
      clear q1
      refine wp_region_held_drew (S := (fun w' => w'.cell? ⟨w.heap.size, 2, none⟩ = some (.slice pa pl pc) ∧ w'.cell? ⟨w.heap.size, 3, none⟩ = some (.slice la ll lc) ∧ w'.cell? ⟨w.heap.size, 4, none⟩ = some (.slice ha ll hc) ∧ w'.cell? ⟨w.heap.size, 5, none⟩ = some (.slice ta pl tc))) (by kernel_rfl) ⟨drew_cell a42, drew_cell a43, drew_cell a44, drew_cell a45⟩ (fun hHeld => ?_)
      refine' wpAnyH_take (i := 0) (oi := { dst := some 46, op := Op.move (Operand.tmp 1), type := 22, pos := "ref.go:137", after := #[], guard := none }) (v := _) rfl (by kernel_rfl) (by kernel_rfl) (by kernel_rfl) (fun _ _ _ h => h) (Or.inl ⟨by kernel_rfl, ?zy0⟩) (by assumption) ?_
      case zy0 => (intro wz hSw; (try dsimp only at hSw); go_simp; try with_reducible rfl)
      simp only [Act.put, List.setIfInBounds_toArray, List.set_cons_zero, List.set_cons_succ]
      refine' wpAnyH_take (i := 1) (oi := { dst := some 47, op := Op.fieldAddr 24 (Operand.tmp 3) 2, type := 0, pos := "ref.go:137", after := #[], guard := none }) (v := _) rfl (by kernel_rfl) (by kernel_rfl) (by kernel_rfl) (fun _ _ _ h => h) (Or.inl ⟨by kernel_rfl, ?zy1⟩) (by assumption) ?_
      case zy1 => (intro wz hSw; (try dsimp only at hSw); go_simp; try with_reducible rfl)
      simp only [Act.put, List.setIfInBounds_toArray, List.set_cons_zero, List.set_cons_succ]
      refine' wpAnyH_take (i := 2) (oi := { dst := some 48, op := Op.load 22 (Operand.tmp 47), type := 22, pos := "ref.go:137", after := #[{ on := 1, ground := Ground.data }], guard := none }) (v := _) rfl (by kernel_rfl) (by kernel_rfl) (by kernel_rfl) (fun _ _ _ h => h) (Or.inl ⟨by kernel_rfl, ?zy2⟩) (by assumption) ?_
      case zy2 => (intro wz hSw; (try dsimp only at hSw); go_simp; try with_reducible rfl)
      simp only [Act.put, List.setIfInBounds_toArray, List.set_cons_zero, List.set_cons_succ]
      refine' wpAnyH_take (i := 4) (oi := { dst := some 50, op := Op.move (Operand.tmp 2), type := 22, pos := "ref.go:137", after := #[], guard := none }) (v := _) rfl (by kernel_rfl) (by kernel_rfl) (by kernel_rfl) (fun _ _ _ h => h) (Or.inl ⟨by kernel_rfl, ?zy4⟩) (by assumption) ?_
      case zy4 => (intro wz hSw; (try dsimp only at hSw); go_simp; try with_reducible rfl)
      simp only [Act.put, List.setIfInBounds_toArray, List.set_cons_zero, List.set_cons_succ]
      refine' wpAnyH_take (i := 5) (oi := { dst := some 51, op := Op.fieldAddr 24 (Operand.tmp 3) 5, type := 0, pos := "ref.go:137", after := #[], guard := none }) (v := _) rfl (by kernel_rfl) (by kernel_rfl) (by kernel_rfl) (fun _ _ _ h => h) (Or.inl ⟨by kernel_rfl, ?zy5⟩) (by assumption) ?_
      case zy5 => (intro wz hSw; (try dsimp only at hSw); go_simp; try with_reducible rfl)
      simp only [Act.put, List.setIfInBounds_toArray, List.set_cons_zero, List.set_cons_succ]
      refine' wpAnyH_take (i := 6) (oi := { dst := some 52, op := Op.load 22 (Operand.tmp 51), type := 22, pos := "ref.go:137", after := #[{ on := 5, ground := Ground.data }], guard := none }) (v := _) rfl (by kernel_rfl) (by kernel_rfl) (by kernel_rfl) (fun _ _ _ h => h) (Or.inl ⟨by kernel_rfl, ?zy6⟩) (by assumption) ?_
      case zy6 => (intro wz hSw; (try dsimp only at hSw); go_simp; try with_reducible rfl)
      simp only [Act.put, List.setIfInBounds_toArray, List.set_cons_zero, List.set_cons_succ]
      refine wpAnyH_ready (rs := [3]) (by kernel_rfl) (by simp) ?_
      refine AllReadyH.cons (o := { dst := some 49, op := Op.call { callee := Callee.value (Operand.func 41), args := #[Operand.tmp 46, Operand.tmp 48], argTypes := #[22, 22] }, type := 22, pos := "ref.go:137", after := #[{ on := 0, ground := Ground.data }, { on := 2, ground := Ground.data }], guard := none }) rfl (fun K hK => ?_) AllReadyH.nil
      go_simp
      refine (HTA.out _ (HB4.out.drew) _ _ _ (ps) (HP.out.below (HB4.out.drew)).1 HINP.out (by omega)).mono ?_
      rintro e w5 ⟨⟨v5, rfl, X5, n5, d5, rfl, hl5, _⟩, hb⟩
      have HL5 := hide hl5
      have hlen5 := hl5.1.1
      have HX5 := hide (Below.on ((Below.refl w4.heap.size w4).drew) hb)
      have HB5 := hide (Below.on HB4.out HX5.out)
      have HO5 := hide (HO4.out.below HX5.out)
      obtain ⟨a50, a51, a52, a53, a54, a55, a56⟩ := HO5.out.cells
      clear hl5 hb
      try simp only []
      refine hK.out _ _ ⟨a52, a53, a54, a55⟩ (fun hHeld5 => ?_)
      clear hK K
      try simp only [Act.put, List.setIfInBounds_toArray, List.set_cons_zero, List.set_cons_succ]
      refine wpAnyH_ready (rs := [7]) (by kernel_rfl) (by simp) ?_
      refine AllReadyH.cons (o := { dst := some 53, op := Op.call { callee := Callee.value (Operand.func 41), args := #[Operand.tmp 50, Operand.tmp 52], argTypes := #[22, 22] }, type := 22, pos := "ref.go:137", after := #[{ on := 4, ground := Ground.data }, { on := 6, ground := Ground.data }, { on := 3, ground := Ground.chain }], guard := none }) rfl (fun K hK => ?_) AllReadyH.nil
      go_simp
      refine (HTB.out _ (HB5.out) _ _ _ (st) (HST.out.below (HB5.out)).1 HINT.out (by omega)).mono ?_
      rintro e w6 ⟨⟨v6, rfl, X6, n6, d6, rfl, hl6, _⟩, hb⟩
      have HL6 := hide hl6
      have hlen6 := hl6.1.1
      have HX6 := hide hb
      have HB6 := hide (Below.on HB5.out hb)
      have HO6 := hide (HO5.out.below hb)
      obtain ⟨a60, a61, a62, a63, a64, a65, a66⟩ := HO6.out.cells
      clear hl6 hb
      try simp only []
      refine hK.out _ _ ⟨a62, a63, a64, a65⟩ (fun hHeld6 => ?_)
      clear hK K
      try simp only [Act.put, List.setIfInBounds_toArray, List.set_cons_zero, List.set_cons_succ]
      refine wpAnyH_ready (rs := [8]) (by kernel_rfl) (by simp) ?_
      refine AllReadyH.cons (o := { dst := some 54, op := Op.call { callee := Callee.value (Operand.func 13), args := #[Operand.tmp 49, Operand.tmp 53], argTypes := #[22, 22] }, type := 4, pos := "ref.go:137", after := #[{ on := 3, ground := Ground.data }, { on := 7, ground := Ground.data }, { on := 7, ground := Ground.chain }], guard := none }) rfl (fun K hK => ?_) AllReadyH.nil
      go_simp
      refine (sameList_any _ _ _ (taken ds ps) _ _ _ (taken es st) _ (HL5.out.1.below HX6.out) HL6.out.1).mono ?_
      rintro e w7 ⟨rfl, m7, hw⟩
      rw [Q1.out]
      have hb : Below w6.heap.size w6 w7 := (hw ▸ below_drewN _ m7)
      have HX7 := hide hb
      have HB7 := hide (Below.on HB6.out hb)
      have HO7 := hide (HO6.out.below hb)
      obtain ⟨a70, a71, a72, a73, a74, a75, a76⟩ := HO7.out.cells
      clear hw hb
      try simp only []
      refine hK.out _ _ ⟨a72, a73, a74, a75⟩ (fun hHeld7 => ?_)
      clear hK K
      try simp only [Act.put, List.setIfInBounds_toArray, List.set_cons_zero, List.set_cons_succ]
      refine' wpAnyH_take (i := 9) (oi := { dst := some 55, op := Op.unOp UnOp.not 4 (Operand.tmp 54), type := 4, pos := "ref.go:137", after := #[{ on := 8, ground := Ground.data }], guard := none }) (v := _) rfl (by kernel_rfl) (by kernel_rfl) (by kernel_rfl) (fun _ _ _ h => h) (Or.inl ⟨by kernel_rfl, ?zy9⟩) (by assumption) ?_
      case zy9 => (intro wz hSw; (try dsimp only at hSw); go_simp; try with_reducible rfl)
      simp only [Act.put, List.setIfInBounds_toArray, List.set_cons_zero, List.set_cons_succ]
      refine' wpAnyH_take (i := 10) (oi := { dst := some 56, op := Op.move (Operand.tmp 55), type := 4, pos := "ref.go:137", after := #[{ on := 9, ground := Ground.data }, { on := 8, ground := Ground.chain }], guard := none }) (v := _) rfl (by kernel_rfl) (by kernel_rfl) (by kernel_rfl) (fun _ _ _ h => h) (Or.inl ⟨by kernel_rfl, ?zy10⟩) (by assumption) ?_
      case zy10 => (intro wz hSw; (try dsimp only at hSw); go_simp; try with_reducible rfl)
      simp only [Act.put, List.setIfInBounds_toArray, List.set_cons_zero, List.set_cons_succ]
      refine' wpAnyH_take (i := 11) (oi := { dst := some 57, op := Op.move (Operand.tmp 1), type := 22, pos := "ref.go:137", after := #[{ on := 10, ground := Ground.guard }], guard := some (10, false) }) (v := undef) rfl (by kernel_rfl) (by kernel_rfl) (by kernel_rfl) (fun _ _ _ h => h) (Or.inr ⟨by kernel_rfl, rfl⟩) (by assumption) ?_
      simp only [Act.put, List.setIfInBounds_toArray, List.set_cons_zero, List.set_cons_succ]
      refine' wpAnyH_take (i := 12) (oi := { dst := some 58, op := Op.fieldAddr 24 (Operand.tmp 3) 3, type := 0, pos := "ref.go:137", after := #[{ on := 10, ground := Ground.guard }], guard := some (10, false) }) (v := undef) rfl (by kernel_rfl) (by kernel_rfl) (by kernel_rfl) (fun _ _ _ h => h) (Or.inr ⟨by kernel_rfl, rfl⟩) (by assumption) ?_
      simp only [Act.put, List.setIfInBounds_toArray, List.set_cons_zero, List.set_cons_succ]
      refine' wpAnyH_take (i := 13) (oi := { dst := some 59, op := Op.load 22 (Operand.tmp 58), type := 22, pos := "ref.go:137", after := #[{ on := 12, ground := Ground.data }, { on := 10, ground := Ground.guard }], guard := some (10, false) }) (v := undef) rfl (by kernel_rfl) (by kernel_rfl) (by kernel_rfl) (fun _ _ _ h => h) (Or.inr ⟨by kernel_rfl, rfl⟩) (by assumption) ?_
      simp only [Act.put, List.setIfInBounds_toArray, List.set_cons_zero, List.set_cons_succ]
      refine' wpAnyH_take (i := 14) (oi := { dst := some 60, op := Op.call { callee := Callee.value (Operand.func 41), args := #[Operand.tmp 57, Operand.tmp 59], argTypes := #[22, 22] }, type := 22, pos := "ref.go:137", after := #[{ on := 11, ground := Ground.data }, { on := 13, ground := Ground.data }, { on := 10, ground := Ground.chain }, { on := 10, ground := Ground.guard }], guard := some (10, false) }) (v := undef) rfl (by kernel_rfl) (by kernel_rfl) (by kernel_rfl) (fun _ _ _ h => h) (Or.inr ⟨by kernel_rfl, rfl⟩) (by assumption) ?_
      simp only [Act.put, List.setIfInBounds_toArray, List.set_cons_zero, List.set_cons_succ]
      refine' wpAnyH_take (i := 15) (oi := { dst := some 61, op := Op.move (Operand.tmp 2), type := 22, pos := "ref.go:137", after := #[{ on := 10, ground := Ground.guard }], guard := some (10, false) }) (v := undef) rfl (by kernel_rfl) (by kernel_rfl) (by kernel_rfl) (fun _ _ _ h => h) (Or.inr ⟨by kernel_rfl, rfl⟩) (by assumption) ?_
      simp only [Act.put, List.setIfInBounds_toArray, List.set_cons_zero, List.set_cons_succ]
      refine' wpAnyH_take (i := 16) (oi := { dst := some 62, op := Op.fieldAddr 24 (Operand.tmp 3) 4, type := 0, pos := "ref.go:137", after := #[{ on := 10, ground := Ground.guard }], guard := some (10, false) }) (v := undef) rfl (by kernel_rfl) (by kernel_rfl) (by kernel_rfl) (fun _ _ _ h => h) (Or.inr ⟨by kernel_rfl, rfl⟩) (by assumption) ?_
      simp only [Act.put, List.setIfInBounds_toArray, List.set_cons_zero, List.set_cons_succ]
      refine' wpAnyH_take (i := 17) (oi := { dst := some 63, op := Op.load 22 (Operand.tmp 62), type := 22, pos := "ref.go:137", after := #[{ on := 16, ground := Ground.data }, { on := 10, ground := Ground.guard }], guard := some (10, false) }) (v := undef) rfl (by kernel_rfl) (by kernel_rfl) (by kernel_rfl) (fun _ _ _ h => h) (Or.inr ⟨by kernel_rfl, rfl⟩) (by assumption) ?_
      simp only [Act.put, List.setIfInBounds_toArray, List.set_cons_zero, List.set_cons_succ]
      refine' wpAnyH_take (i := 18) (oi := { dst := some 64, op := Op.call { callee := Callee.value (Operand.func 41), args := #[Operand.tmp 61, Operand.tmp 63], argTypes := #[22, 22] }, type := 22, pos := "ref.go:137", after := #[{ on := 15, ground := Ground.data }, { on := 17, ground := Ground.data }, { on := 14, ground := Ground.chain }, { on := 10, ground := Ground.guard }], guard := some (10, false) }) (v := undef) rfl (by kernel_rfl) (by kernel_rfl) (by kernel_rfl) (fun _ _ _ h => h) (Or.inr ⟨by kernel_rfl, rfl⟩) (by assumption) ?_
      simp only [Act.put, List.setIfInBounds_toArray, List.set_cons_zero, List.set_cons_succ]
      refine' wpAnyH_take (i := 19) (oi := { dst := some 65, op := Op.call { callee := Callee.value (Operand.func 13), args := #[Operand.tmp 60, Operand.tmp 64], argTypes := #[22, 22] }, type := 4, pos := "ref.go:137", after := #[{ on := 14, ground := Ground.data }, { on := 18, ground := Ground.data }, { on := 18, ground := Ground.chain }, { on := 10, ground := Ground.guard }], guard := some (10, false) }) (v := undef) rfl (by kernel_rfl) (by kernel_rfl) (by kernel_rfl) (fun _ _ _ h => h) (Or.inr ⟨by kernel_rfl, rfl⟩) (by assumption) ?_
      simp only [Act.put, List.setIfInBounds_toArray, List.set_cons_zero, List.set_cons_succ]
      refine' wpAnyH_take (i := 20) (oi := { dst := some 66, op := Op.unOp UnOp.not 4 (Operand.tmp 65), type := 4, pos := "ref.go:137", after := #[{ on := 19, ground := Ground.data }, { on := 10, ground := Ground.guard }], guard := some (10, false) }) (v := undef) rfl (by kernel_rfl) (by kernel_rfl) (by kernel_rfl) (fun _ _ _ h => h) (Or.inr ⟨by kernel_rfl, rfl⟩) (by assumption) ?_
      simp only [Act.put, List.setIfInBounds_toArray, List.set_cons_zero, List.set_cons_succ]
      refine' wpAnyH_take (i := 21) (oi := { dst := some 67, op := Op.pick (Operand.tmp 56) (Operand.const (Value.bool true)) (Operand.tmp 66), type := 4, pos := "ref.go:137", after := #[{ on := 10, ground := Ground.data }, { on := 20, ground := Ground.data }], guard := none }) (v := _) rfl (by kernel_rfl) (by kernel_rfl) (by kernel_rfl) (fun _ _ _ h => h) (Or.inl ⟨by kernel_rfl, ?zy21⟩) (by assumption) ?_
      case zy21 => (intro wz hSw; (try dsimp only at hSw); go_simp; try with_reducible rfl)
      simp only [Act.put, List.setIfInBounds_toArray, List.set_cons_zero, List.set_cons_succ]
      refine wpAnyH_done (by kernel_rfl) ?_ _
      go_wp2
      go_meet
      exact ⟨true, rfl, HJF.out, Below.on (Below.on HX5.out HX6.out) HX7.out⟩
    have Q1 : Hid (decide (taken ds ps = taken es st) = true) := decide_eq_true q1
    have HJF : Hid ((!decide (taken ds lo = taken es hi)) = (!(decide (taken ds ps = taken es st) && decide (taken ds lo = taken es hi)))) := by simp [Hid, q1]
    clear q1
    refine wp_region_held_drew (S := (fun w' => w'.cell? ⟨w.heap.size, 2, none⟩ = some (.slice pa pl pc) ∧ w'.cell? ⟨w.heap.size, 3, none⟩ = some (.slice la ll lc) ∧ w'.cell? ⟨w.heap.size, 4, none⟩ = some (.slice ha ll hc) ∧ w'.cell? ⟨w.heap.size, 5, none⟩ = some (.slice ta pl tc))) (by kernel_rfl) ⟨drew_cell a42, drew_cell a43, drew_cell a44, drew_cell a45⟩ (fun hHeld => ?_)
    refine' wpAnyH_take (i := 0) (oi := { dst := some 46, op := Op.move (Operand.tmp 1), type := 22, pos := "ref.go:137", after := #[], guard := none }) (v := _) rfl (by kernel_rfl) (by kernel_rfl) (by kernel_rfl) (fun _ _ _ h => h) (Or.inl ⟨by kernel_rfl, ?zy0⟩) (by assumption) ?_
    case zy0 => (intro wz hSw; (try dsimp only at hSw); go_simp; try with_reducible rfl)
    simp only [Act.put, List.setIfInBounds_toArray, List.set_cons_zero, List.set_cons_succ]
    refine' wpAnyH_take (i := 1) (oi := { dst := some 47, op := Op.fieldAddr 24 (Operand.tmp 3) 2, type := 0, pos := "ref.go:137", after := #[], guard := none }) (v := _) rfl (by kernel_rfl) (by kernel_rfl) (by kernel_rfl) (fun _ _ _ h => h) (Or.inl ⟨by kernel_rfl, ?zy1⟩) (by assumption) ?_
    case zy1 => (intro wz hSw; (try dsimp only at hSw); go_simp; try with_reducible rfl)
    simp only [Act.put, List.setIfInBounds_toArray, List.set_cons_zero, List.set_cons_succ]
    refine' wpAnyH_take (i := 2) (oi := { dst := some 48, op := Op.load 22 (Operand.tmp 47), type := 22, pos := "ref.go:137", after := #[{ on := 1, ground := Ground.data }], guard := none }) (v := _) rfl (by kernel_rfl) (by kernel_rfl) (by kernel_rfl) (fun _ _ _ h => h) (Or.inl ⟨by kernel_rfl, ?zy2⟩) (by assumption) ?_
    case zy2 => (intro wz hSw; (try dsimp only at hSw); go_simp; try with_reducible rfl)
    simp only [Act.put, List.setIfInBounds_toArray, List.set_cons_zero, List.set_cons_succ]
    refine' wpAnyH_take (i := 4) (oi := { dst := some 50, op := Op.move (Operand.tmp 2), type := 22, pos := "ref.go:137", after := #[], guard := none }) (v := _) rfl (by kernel_rfl) (by kernel_rfl) (by kernel_rfl) (fun _ _ _ h => h) (Or.inl ⟨by kernel_rfl, ?zy4⟩) (by assumption) ?_
    case zy4 => (intro wz hSw; (try dsimp only at hSw); go_simp; try with_reducible rfl)
    simp only [Act.put, List.setIfInBounds_toArray, List.set_cons_zero, List.set_cons_succ]
    refine' wpAnyH_take (i := 5) (oi := { dst := some 51, op := Op.fieldAddr 24 (Operand.tmp 3) 5, type := 0, pos := "ref.go:137", after := #[], guard := none }) (v := _) rfl (by kernel_rfl) (by kernel_rfl) (by kernel_rfl) (fun _ _ _ h => h) (Or.inl ⟨by kernel_rfl, ?zy5⟩) (by assumption) ?_
    case zy5 => (intro wz hSw; (try dsimp only at hSw); go_simp; try with_reducible rfl)
    simp only [Act.put, List.setIfInBounds_toArray, List.set_cons_zero, List.set_cons_succ]
    refine' wpAnyH_take (i := 6) (oi := { dst := some 52, op := Op.load 22 (Operand.tmp 51), type := 22, pos := "ref.go:137", after := #[{ on := 5, ground := Ground.data }], guard := none }) (v := _) rfl (by kernel_rfl) (by kernel_rfl) (by kernel_rfl) (fun _ _ _ h => h) (Or.inl ⟨by kernel_rfl, ?zy6⟩) (by assumption) ?_
    case zy6 => (intro wz hSw; (try dsimp only at hSw); go_simp; try with_reducible rfl)
    simp only [Act.put, List.setIfInBounds_toArray, List.set_cons_zero, List.set_cons_succ]
    refine wpAnyH_ready (rs := [3]) (by kernel_rfl) (by simp) ?_
    refine AllReadyH.cons (o := { dst := some 49, op := Op.call { callee := Callee.value (Operand.func 41), args := #[Operand.tmp 46, Operand.tmp 48], argTypes := #[22, 22] }, type := 22, pos := "ref.go:137", after := #[{ on := 0, ground := Ground.data }, { on := 2, ground := Ground.data }], guard := none }) rfl (fun K hK => ?_) AllReadyH.nil
    go_simp
    refine (HTA.out _ (HB4.out.drew) _ _ _ (ps) (HP.out.below (HB4.out.drew)).1 HINP.out (by omega)).mono ?_
    rintro e w5 ⟨⟨v5, rfl, X5, n5, d5, rfl, hl5, _⟩, hb⟩
    have HL5 := hide hl5
    have hlen5 := hl5.1.1
    have HX5 := hide (Below.on ((Below.refl w4.heap.size w4).drew) hb)
    have HB5 := hide (Below.on HB4.out HX5.out)
    have HO5 := hide (HO4.out.below HX5.out)
    obtain ⟨a50, a51, a52, a53, a54, a55, a56⟩ := HO5.out.cells
    clear hl5 hb
    try simp only []
    refine hK.out _ _ ⟨a52, a53, a54, a55⟩ (fun hHeld5 => ?_)
    clear hK K
    try simp only [Act.put, List.setIfInBounds_toArray, List.set_cons_zero, List.set_cons_succ]
    refine wpAnyH_ready (rs := [7]) (by kernel_rfl) (by simp) ?_
    refine AllReadyH.cons (o := { dst := some 53, op := Op.call { callee := Callee.value (Operand.func 41), args := #[Operand.tmp 50, Operand.tmp 52], argTypes := #[22, 22] }, type := 22, pos := "ref.go:137", after := #[{ on := 4, ground := Ground.data }, { on := 6, ground := Ground.data }, { on := 3, ground := Ground.chain }], guard := none }) rfl (fun K hK => ?_) AllReadyH.nil
    go_simp
    refine (HTB.out _ (HB5.out) _ _ _ (st) (HST.out.below (HB5.out)).1 HINT.out (by omega)).mono ?_
    rintro e w6 ⟨⟨v6, rfl, X6, n6, d6, rfl, hl6, _⟩, hb⟩
    have HL6 := hide hl6
    have hlen6 := hl6.1.1
    have HX6 := hide hb
    have HB6 := hide (Below.on HB5.out hb)
    have HO6 := hide (HO5.out.below hb)
    obtain ⟨a60, a61, a62, a63, a64, a65, a66⟩ := HO6.out.cells
    clear hl6 hb
    try simp only []
    refine hK.out _ _ ⟨a62, a63, a64, a65⟩ (fun hHeld6 => ?_)
    clear hK K
    try simp only [Act.put, List.setIfInBounds_toArray, List.set_cons_zero, List.set_cons_succ]
    refine wpAnyH_ready (rs := [8]) (by kernel_rfl) (by simp) ?_
    refine AllReadyH.cons (o := { dst := some 54, op := Op.call { callee := Callee.value (Operand.func 13), args := #[Operand.tmp 49, Operand.tmp 53], argTypes := #[22, 22] }, type := 4, pos := "ref.go:137", after := #[{ on := 3, ground := Ground.data }, { on := 7, ground := Ground.data }, { on := 7, ground := Ground.chain }], guard := none }) rfl (fun K hK => ?_) AllReadyH.nil
    go_simp
    refine (sameList_any _ _ _ (taken ds ps) _ _ _ (taken es st) _ (HL5.out.1.below HX6.out) HL6.out.1).mono ?_
    rintro e w7 ⟨rfl, m7, hw⟩
    rw [Q1.out]
    have hb : Below w6.heap.size w6 w7 := (hw ▸ below_drewN _ m7)
    have HX7 := hide hb
    have HB7 := hide (Below.on HB6.out hb)
    have HO7 := hide (HO6.out.below hb)
    obtain ⟨a70, a71, a72, a73, a74, a75, a76⟩ := HO7.out.cells
    clear hw hb
    try simp only []
    refine hK.out _ _ ⟨a72, a73, a74, a75⟩ (fun hHeld7 => ?_)
    clear hK K
    try simp only [Act.put, List.setIfInBounds_toArray, List.set_cons_zero, List.set_cons_succ]
    refine' wpAnyH_take (i := 9) (oi := { dst := some 55, op := Op.unOp UnOp.not 4 (Operand.tmp 54), type := 4, pos := "ref.go:137", after := #[{ on := 8, ground := Ground.data }], guard := none }) (v := _) rfl (by kernel_rfl) (by kernel_rfl) (by kernel_rfl) (fun _ _ _ h => h) (Or.inl ⟨by kernel_rfl, ?zy9⟩) (by assumption) ?_
    case zy9 => (intro wz hSw; (try dsimp only at hSw); go_simp; try with_reducible rfl)
    simp only [Act.put, List.setIfInBounds_toArray, List.set_cons_zero, List.set_cons_succ]
    refine' wpAnyH_take (i := 10) (oi := { dst := some 56, op := Op.move (Operand.tmp 55), type := 4, pos := "ref.go:137", after := #[{ on := 9, ground := Ground.data }, { on := 8, ground := Ground.chain }], guard := none }) (v := _) rfl (by kernel_rfl) (by kernel_rfl) (by kernel_rfl) (fun _ _ _ h => h) (Or.inl ⟨by kernel_rfl, ?zy10⟩) (by assumption) ?_
    case zy10 => (intro wz hSw; (try dsimp only at hSw); go_simp; try with_reducible rfl)
    simp only [Act.put, List.setIfInBounds_toArray, List.set_cons_zero, List.set_cons_succ]
    refine' wpAnyH_take (i := 11) (oi := { dst := some 57, op := Op.move (Operand.tmp 1), type := 22, pos := "ref.go:137", after := #[{ on := 10, ground := Ground.guard }], guard := some (10, false) }) (v := _) rfl (by kernel_rfl) (by kernel_rfl) (by kernel_rfl) (fun _ _ _ h => h) (Or.inl ⟨by kernel_rfl, ?zy11⟩) (by assumption) ?_
    case zy11 => (intro wz hSw; (try dsimp only at hSw); go_simp; try with_reducible rfl)
    simp only [Act.put, List.setIfInBounds_toArray, List.set_cons_zero, List.set_cons_succ]
    refine' wpAnyH_take (i := 12) (oi := { dst := some 58, op := Op.fieldAddr 24 (Operand.tmp 3) 3, type := 0, pos := "ref.go:137", after := #[{ on := 10, ground := Ground.guard }], guard := some (10, false) }) (v := _) rfl (by kernel_rfl) (by kernel_rfl) (by kernel_rfl) (fun _ _ _ h => h) (Or.inl ⟨by kernel_rfl, ?zy12⟩) (by assumption) ?_
    case zy12 => (intro wz hSw; (try dsimp only at hSw); go_simp; try with_reducible rfl)
    simp only [Act.put, List.setIfInBounds_toArray, List.set_cons_zero, List.set_cons_succ]
    refine' wpAnyH_take (i := 13) (oi := { dst := some 59, op := Op.load 22 (Operand.tmp 58), type := 22, pos := "ref.go:137", after := #[{ on := 12, ground := Ground.data }, { on := 10, ground := Ground.guard }], guard := some (10, false) }) (v := _) rfl (by kernel_rfl) (by kernel_rfl) (by kernel_rfl) (fun _ _ _ h => h) (Or.inl ⟨by kernel_rfl, ?zy13⟩) (by assumption) ?_
    case zy13 => (intro wz hSw; (try dsimp only at hSw); go_simp; try with_reducible rfl)
    simp only [Act.put, List.setIfInBounds_toArray, List.set_cons_zero, List.set_cons_succ]
    refine' wpAnyH_take (i := 15) (oi := { dst := some 61, op := Op.move (Operand.tmp 2), type := 22, pos := "ref.go:137", after := #[{ on := 10, ground := Ground.guard }], guard := some (10, false) }) (v := _) rfl (by kernel_rfl) (by kernel_rfl) (by kernel_rfl) (fun _ _ _ h => h) (Or.inl ⟨by kernel_rfl, ?zy15⟩) (by assumption) ?_
    case zy15 => (intro wz hSw; (try dsimp only at hSw); go_simp; try with_reducible rfl)
    simp only [Act.put, List.setIfInBounds_toArray, List.set_cons_zero, List.set_cons_succ]
    refine' wpAnyH_take (i := 16) (oi := { dst := some 62, op := Op.fieldAddr 24 (Operand.tmp 3) 4, type := 0, pos := "ref.go:137", after := #[{ on := 10, ground := Ground.guard }], guard := some (10, false) }) (v := _) rfl (by kernel_rfl) (by kernel_rfl) (by kernel_rfl) (fun _ _ _ h => h) (Or.inl ⟨by kernel_rfl, ?zy16⟩) (by assumption) ?_
    case zy16 => (intro wz hSw; (try dsimp only at hSw); go_simp; try with_reducible rfl)
    simp only [Act.put, List.setIfInBounds_toArray, List.set_cons_zero, List.set_cons_succ]
    refine' wpAnyH_take (i := 17) (oi := { dst := some 63, op := Op.load 22 (Operand.tmp 62), type := 22, pos := "ref.go:137", after := #[{ on := 16, ground := Ground.data }, { on := 10, ground := Ground.guard }], guard := some (10, false) }) (v := _) rfl (by kernel_rfl) (by kernel_rfl) (by kernel_rfl) (fun _ _ _ h => h) (Or.inl ⟨by kernel_rfl, ?zy17⟩) (by assumption) ?_
    case zy17 => (intro wz hSw; (try dsimp only at hSw); go_simp; try with_reducible rfl)
    simp only [Act.put, List.setIfInBounds_toArray, List.set_cons_zero, List.set_cons_succ]
    refine wpAnyH_ready (rs := [14]) (by kernel_rfl) (by simp) ?_
    refine AllReadyH.cons (o := { dst := some 60, op := Op.call { callee := Callee.value (Operand.func 41), args := #[Operand.tmp 57, Operand.tmp 59], argTypes := #[22, 22] }, type := 22, pos := "ref.go:137", after := #[{ on := 11, ground := Ground.data }, { on := 13, ground := Ground.data }, { on := 10, ground := Ground.chain }, { on := 10, ground := Ground.guard }], guard := some (10, false) }) rfl (fun K hK => ?_) AllReadyH.nil
    go_simp
    refine (HTA.out _ (HB7.out) _ _ _ (lo) (HLO.out.below (HB7.out)).1 HINL.out (by omega)).mono ?_
    rintro e w8 ⟨⟨v8, rfl, X8, n8, d8, rfl, hl8, _⟩, hb⟩
    have HL8 := hide hl8
    have hlen8 := hl8.1.1
    have HX8 := hide hb
    have HB8 := hide (Below.on HB7.out hb)
    have HO8 := hide (HO7.out.below hb)
    obtain ⟨a80, a81, a82, a83, a84, a85, a86⟩ := HO8.out.cells
    clear hl8 hb
    try simp only []
    refine hK.out _ _ ⟨a82, a83, a84, a85⟩ (fun hHeld8 => ?_)
    clear hK K
    try simp only [Act.put, List.setIfInBounds_toArray, List.set_cons_zero, List.set_cons_succ]
    refine wpAnyH_ready (rs := [18]) (by kernel_rfl) (by simp) ?_
    refine AllReadyH.cons (o := { dst := some 64, op := Op.call { callee := Callee.value (Operand.func 41), args := #[Operand.tmp 61, Operand.tmp 63], argTypes := #[22, 22] }, type := 22, pos := "ref.go:137", after := #[{ on := 15, ground := Ground.data }, { on := 17, ground := Ground.data }, { on := 14, ground := Ground.chain }, { on := 10, ground := Ground.guard }], guard := some (10, false) }) rfl (fun K hK => ?_) AllReadyH.nil
    go_simp
    refine (HTB.out _ (HB8.out) _ _ _ (hi) (HHI.out.below (HB8.out)).1 HINH.out (by omega)).mono ?_
    rintro e w9 ⟨⟨v9, rfl, X9, n9, d9, rfl, hl9, _⟩, hb⟩
    have HL9 := hide hl9
    have hlen9 := hl9.1.1
    have HX9 := hide hb
    have HB9 := hide (Below.on HB8.out hb)
    have HO9 := hide (HO8.out.below hb)
    obtain ⟨a90, a91, a92, a93, a94, a95, a96⟩ := HO9.out.cells
    clear hl9 hb
    try simp only []
    refine hK.out _ _ ⟨a92, a93, a94, a95⟩ (fun hHeld9 => ?_)
    clear hK K
    try simp only [Act.put, List.setIfInBounds_toArray, List.set_cons_zero, List.set_cons_succ]
    refine wpAnyH_ready (rs := [19]) (by kernel_rfl) (by simp) ?_
    refine AllReadyH.cons (o := { dst := some 65, op := Op.call { callee := Callee.value (Operand.func 13), args := #[Operand.tmp 60, Operand.tmp 64], argTypes := #[22, 22] }, type := 4, pos := "ref.go:137", after := #[{ on := 14, ground := Ground.data }, { on := 18, ground := Ground.data }, { on := 18, ground := Ground.chain }, { on := 10, ground := Ground.guard }], guard := some (10, false) }) rfl (fun K hK => ?_) AllReadyH.nil
    go_simp
    refine (sameList_any _ _ _ (taken ds lo) _ _ _ (taken es hi) _ (HL8.out.1.below HX9.out) HL9.out.1).mono ?_
    rintro e w10 ⟨rfl, m10, hw⟩
    have hb : Below w9.heap.size w9 w10 := (hw ▸ below_drewN _ m10)
    have HX10 := hide hb
    have HB10 := hide (Below.on HB9.out hb)
    have HO10 := hide (HO9.out.below hb)
    obtain ⟨a100, a101, a102, a103, a104, a105, a106⟩ := HO10.out.cells
    clear hw hb
    try simp only []
    refine hK.out _ _ ⟨a102, a103, a104, a105⟩ (fun hHeld10 => ?_)
    clear hK K
    try simp only [Act.put, List.setIfInBounds_toArray, List.set_cons_zero, List.set_cons_succ]
    refine' wpAnyH_take (i := 20) (oi := { dst := some 66, op := Op.unOp UnOp.not 4 (Operand.tmp 65), type := 4, pos := "ref.go:137", after := #[{ on := 19, ground := Ground.data }, { on := 10, ground := Ground.guard }], guard := some (10, false) }) (v := _) rfl (by kernel_rfl) (by kernel_rfl) (by kernel_rfl) (fun _ _ _ h => h) (Or.inl ⟨by kernel_rfl, ?zy20⟩) (by assumption) ?_
    case zy20 => (intro wz hSw; (try dsimp only at hSw); go_simp; try with_reducible rfl)
    simp only [Act.put, List.setIfInBounds_toArray, List.set_cons_zero, List.set_cons_succ]
    refine' wpAnyH_take (i := 21) (oi := { dst := some 67, op := Op.pick (Operand.tmp 56) (Operand.const (Value.bool true)) (Operand.tmp 66), type := 4, pos := "ref.go:137", after := #[{ on := 10, ground := Ground.data }, { on := 20, ground := Ground.data }], guard := none }) (v := _) rfl (by kernel_rfl) (by kernel_rfl) (by kernel_rfl) (fun _ _ _ h => h) (Or.inl ⟨by kernel_rfl, ?zy21⟩) (by assumption) ?_
    case zy21 => (intro wz hSw; (try dsimp only at hSw); go_simp; try with_reducible rfl)
    simp only [Act.put, List.setIfInBounds_toArray, List.set_cons_zero, List.set_cons_succ]
    refine wpAnyH_done (by kernel_rfl) ?_ _
    go_wp2
    go_meet
    exact ⟨!decide (taken ds lo = taken es hi), rfl, HJF.out, Below.on (Below.on (Below.on (Below.on (Below.on HX5.out HX6.out) HX7.out) HX8.out) HX9.out) HX10.out⟩
  case rest =>
    obtain ⟨u, rfl, hu, hb⟩ := hcut
    clear a40 a41 a42 a43 a44 a45 a46
    have HX5 := hide hb
    have HB5 := hide (Below.on HB4.out hb)
    have HO5 := hide (HO4.out.below hb)
    obtain ⟨a50, a51, a52, a53, a54, a55, a56⟩ := HO5.out.cells
    clear hb
    cases u with
    | true =>
      have HNE2 : Hid (¬ (taken ds ps = taken es st ∧ taken ds lo = taken es hi)) := fun h => by simp [h.1, h.2] at hu
      clear hu
      go_wp2
      go_ret2
      rw [HNO.out (fun h => HNE2.out h.2.2)]
      exact ⟨outP_none _ _, HB5.out⟩
    | false =>
      have HEQ : Hid (taken ds ps = taken es st ∧ taken ds lo = taken es hi) := by
        cases e : (decide (taken ds ps = taken es st) && decide (taken ds lo = taken es hi)) with
        | false => rw [e] at hu; cases hu
        | true => simp only [Bool.and_eq_true, decide_eq_true_eq] at e; exact e
      clear hu
      have hpp : dotP ps st lo hi ds es = (dotL ps st lo hi ds es, 0) := by
        unfold dotP
        rw [if_pos]
        simp only [dotB, Bool.and_eq_true, decide_eq_true_eq, onceB_iff, HND.out, HNE.out]
        exact ⟨once_comm.1 HCA.out, once_comm.1 HCB.out, HEQ.out.2, HEQ.out.1⟩
      have HPP := hide hpp
      clear hpp
      go_wp2_with (first
        | (go_at_call_of 47 (Value.slice pa pl pc); refine (both_any _ _ _ (ps) _ _ _ (lo) _ (HP.out.below HB5.out) (HLO.out.below HB5.out) (by omega)).mono ?_; rintro e w6 ⟨⟨v6, rfl, X6, n6, d6, rfl, hl6, _⟩, hb⟩; have HL6 := hide hl6; have hlen6 := hl6.1.1; have HX6 := hide hb; have HB6 := hide (Below.on HB5.out hb); have HO6 := hide (HO5.out.below hb); obtain ⟨a60, a61, a62, a63, a64, a65, a66⟩ := HO6.out.cells; clear hl6 hb)
        | (go_at_call_of 40 (Value.slice X6 n6 d6); refine (free_any _ _ _ ds _ _ _ (ps ++ lo) _ (HD.out.below HB6.out) HL6.out.1 h6).mono ?_; rintro e w7 ⟨⟨v7, rfl, X7, n7, d7, rfl, hl7, _⟩, hb⟩; have HL7 := hide hl7; have hlen7 := hl7.1.1; have HX7 := hide hb; have HB7 := hide (Below.on HB6.out hb); have HO7 := hide (HO6.out.below hb); obtain ⟨a70, a71, a72, a73, a74, a75, a76⟩ := HO7.out.cells; clear hl7 hb)
        | (go_at_call_of 41 (Value.slice X7 n7 d7); refine (HTA.out _ HB7.out _ _ _ (freeL (ps ++ lo) dl) HL7.out.1 (fun y hy => freeL_bd _ _ y hy) (by { have := freeL_len (ps ++ lo) dl; omega })).mono ?_; rintro e w8 ⟨⟨v8, rfl, X8, n8, d8, rfl, hl8, _⟩, hb⟩; have HL8 := hide hl8; have hlen8 := hl8.1.1; have HX8 := hide hb; have HB8 := hide (Below.on HB7.out hb); have HO8 := hide (HO7.out.below hb); obtain ⟨a80, a81, a82, a83, a84, a85, a86⟩ := HO8.out.cells; clear hl8 hb; have hq8 : n8 ≤ 6 := by { have hz := hlen8; rw [taken_length] at hz; have := freeL_len (ps ++ lo) dl; omega })
        | (go_at_call_of 47 (Value.slice ta pl tc); refine (both_any _ _ _ (st) _ _ _ (hi) _ (HST.out.below HB8.out) (HHI.out.below HB8.out) (by omega)).mono ?_; rintro e w9 ⟨⟨v9, rfl, X9, n9, d9, rfl, hl9, _⟩, hb⟩; have HL9 := hide hl9; have hlen9 := hl9.1.1; have HX9 := hide hb; have HB9 := hide (Below.on HB8.out hb); have HO9 := hide (HO8.out.below hb); obtain ⟨a90, a91, a92, a93, a94, a95, a96⟩ := HO9.out.cells; clear hl9 hb)
        | (go_at_call_of 40 (Value.slice X9 n9 d9); refine (free_any _ _ _ es _ _ _ (st ++ hi) _ (HE.out.below HB9.out) HL9.out.1 h6').mono ?_; rintro e w10 ⟨⟨v10, rfl, X10, n10, d10, rfl, hl10, _⟩, hb⟩; have HL10 := hide hl10; have hlen10 := hl10.1.1; have HX10 := hide hb; have HB10 := hide (Below.on HB9.out hb); have HO10 := hide (HO9.out.below hb); obtain ⟨a100, a101, a102, a103, a104, a105, a106⟩ := HO10.out.cells; clear hl10 hb)
        | (go_at_call_of 41 (Value.slice X10 n10 d10); refine (HTB.out _ HB10.out _ _ _ (freeL (st ++ hi) el) HL10.out.1 (fun y hy => freeL_bd _ _ y hy) (by { have := freeL_len (st ++ hi) el; omega })).mono ?_; rintro e w11 ⟨⟨v11, rfl, X11, n11, d11, rfl, hl11, _⟩, hb⟩; have HL11 := hide hl11; have hlen11 := hl11.1.1; have HX11 := hide hb; have HB11 := hide (Below.on HB10.out hb); have HO11 := hide (HO10.out.below hb); obtain ⟨a110, a111, a112, a113, a114, a115, a116⟩ := HO11.out.cells; clear hl11 hb; have hq11 : n11 ≤ 6 := by { have hz := hlen11; rw [taken_length] at hz; have := freeL_len (st ++ hi) el; omega })
        | (go_at_call_of 41 (Value.slice la ll lc); refine (HTA.out _ HB11.out _ _ _ lo (HLO.out.below HB11.out).1 HINL.out (by omega)).mono ?_; rintro e w12 ⟨⟨v12, rfl, X12, n12, d12, rfl, hl12, _⟩, hb⟩; have HL12 := hide hl12; have hlen12 := hl12.1.1; have HX12 := hide hb; have HB12 := hide (Below.on HB11.out hb); have HO12 := hide (HO11.out.below hb); obtain ⟨a120, a121, a122, a123, a124, a125, a126⟩ := HO12.out.cells; clear hl12 hb; have hq12 : n12 ≤ 6 := by { have hz := hlen12; rw [taken_length, HLL.out] at hz; omega })
        | (go_at_call_of 47 (Value.slice X12 n12 d12); refine (both_any _ _ _ (taken ds lo) _ _ _ (taken ds (freeL (ps ++ lo) dl)) _ HL12.out ((((HL8.out.below HX9.out).below HX10.out).below HX11.out).below HX12.out) (by omega)).mono ?_; rintro e w13 ⟨⟨v13, rfl, X13, n13, d13, rfl, hl13, _⟩, hb⟩; have HL13 := hide hl13; have hlen13 := hl13.1.1; have HX13 := hide hb; have HB13 := hide (Below.on HB12.out hb); have HO13 := hide (HO12.out.below hb); obtain ⟨a130, a131, a132, a133, a134, a135, a136⟩ := HO13.out.cells; clear hl13 hb; have hq13 : n13 ≤ 12 := by { have hz := hlen13; rw [List.length_append] at hz; omega })
        | (go_at_call_of 47 (Value.slice X13 n13 d13); refine (both_any _ _ _ (taken ds lo ++ taken ds (freeL (ps ++ lo) dl)) _ _ _ (taken es (freeL (st ++ hi) el)) _ HL13.out ((HL11.out.below HX12.out).below HX13.out) (by omega)).mono ?_; rintro e w14 ⟨⟨v14, rfl, X14, n14, d14, rfl, hl14, _⟩, hb⟩; have HL14 := hide hl14; have hlen14 := hl14.1.1; have HX14 := hide hb; have HB14 := hide (Below.on HB13.out hb); have HO14 := hide (HO13.out.below hb); obtain ⟨a140, a141, a142, a143, a144, a145, a146⟩ := HO14.out.cells; clear hl14 hb))
      go_ret2
      have e : taken ds lo ++ taken ds (freeL (ps ++ lo) dl) ++ taken es (freeL (st ++ hi) el) = dotL ps st lo hi ds es := by
        rw [dotL, HND.out, HNE.out, freeL_comm ps lo, freeL_comm st hi]
      rw [HPP.out, ← e]
      exact ⟨outP_lst HL14.out 0, HB14.out⟩
end Go.Proofs.YtoagnhppjlcpkaaGreat.V

/-
  Contract: adjointref2.joinDims.
-/
namespace Go.Proofs.YtoagnhppjlcpkaaGreat.V
set_option maxRecDepth 20000
open Go.RowKit

/-- A row with room behind it. -/
def RowC (w : World) (g c n : Nat) (xs : List Int) : Prop := ∃ f, w.rowIs g 3 c f ∧ ∀ j, j < n → f j = .int .i64 (xs[j]?.getD 0)
theorem RowC.below {w w' : World} {g c n : Nat} {xs : List Int} (h : RowC w g c n xs) (hb : Below w.heap.size w w') : RowC w' g c n xs := by
  obtain ⟨f, h1, h2⟩ := h
  exact ⟨f, h1.of_block (hb.block g h1.lt), h2⟩
theorem RowC.cell {w : World} {g c n : Nat} {xs : List Int} (h : RowC w g c n xs) (hn : n ≤ c) {j : Nat} (hj : j < n) : w.cell? ⟨g, j, none⟩ = some (.int .i64 (xs[j]?.getD 0)) := by
  obtain ⟨f, h1, h2⟩ := h
  have := h1.cell (show j < c by omega)
  rwa [h2 j hj] at this
theorem RowC.frozen {w : World} {g c n : Nat} {xs : List Int} (h : RowC w g c n xs) (j : Nat) : w.frozen? ⟨g, j, none⟩ = false := by
  obtain ⟨f, h1, h2⟩ := h
  exact h1.frozen j
theorem RowC.set {w : World} {g c n : Nat} {xs : List Int} (h : RowC w g c n xs) (p : Nat) (V' : Int) (hp : p < xs.length) : RowC (w.setCell ⟨g, p, none⟩ (.int .i64 V')) g c n (xs.set p V') := by
  obtain ⟨f, h1, h2⟩ := h
  refine ⟨_, h1.set p (.int .i64 V'), fun j hj => ?_⟩
  rw [set_getD xs p j V' hp]
  by_cases e : j = p
  · simp [e]
  · simp [e, h2 j hj]
theorem RowC.ints {w : World} {g c n : Nat} {xs : List Int} (h : RowC w g c n xs) (hn : n ≤ c) (hl : xs.length = n) (hm : n ≤ 9223372036854775807) (hb : ∀ x ∈ xs, -9223372036854775808 ≤ x ∧ x ≤ 9223372036854775807) : Ints w (some ⟨g, 0, none⟩) n xs :=
  ⟨hl, hm, hb, .inr ⟨g, 0, rfl, fun j hj => by rw [Nat.zero_add]; exact h.cell hn hj⟩⟩
theorem own_split {w : World} {B n : Nat} {v : Value} {xs : List Int} (h : w.ownsRow B 3 1 v n (xs.map (Value.int .i64))) (hl : xs.length = n) (h0 : 0 < n) : ∃ g c, v = .slice (some ⟨g, 0, none⟩) n c ∧ B ≤ g ∧ n ≤ c ∧ RowC w g c n xs := by
  rcases h.2 with ⟨rfl, h2⟩ | ⟨g, cap, cur, rfl, h3, _, h4, _⟩
  · omega
  · obtain ⟨f, hf, hg⟩ := row_of_own h hl
    exact ⟨g, cap, rfl, h3, h4, f, hf, hg.1⟩
theorem joinB_iff {p : Nat} {ds d : List Int} : joinB p ds d = true ↔ d.length = ds.length ∧ ∀ q, q < ds.length → q ≠ p → d[q]?.getD 0 = ds[q]?.getD 0 := by
  simp only [joinB, Bool.and_eq_true, decide_eq_true_eq]
  constructor
  · rintro ⟨h1, h2, h3⟩
    refine ⟨h1, fun q hq hne => ?_⟩
    by_cases e : q < p
    · have := congrArg (fun l => l[q]?) h2
      simp only [List.getElem?_take_of_lt e] at this
      rw [this]
    · have := congrArg (fun l => l[q - (p + 1)]?) h3
      simp only [List.getElem?_drop] at this
      have e2 : p + 1 + (q - (p + 1)) = q := by omega
      rw [e2] at this
      rw [this]
  · rintro ⟨h1, h2⟩
    have key : ∀ q, q ≠ p → d[q]? = ds[q]? := fun q hne => by
      by_cases e : q < ds.length
      · have := h2 q e hne
        have e' : q < d.length := by omega
        simpa [e, e'] using this
      · have e' : ¬ q < d.length := by omega
        simp [e, e']
    refine ⟨h1, ?_, ?_⟩
    · apply List.ext_getElem?
      intro q
      by_cases e : q < p
      · rw [List.getElem?_take_of_lt e, List.getElem?_take_of_lt e]; exact key q (by omega)
      · rw [List.getElem?_take_eq_none (by omega), List.getElem?_take_eq_none (by omega)]
    · apply List.ext_getElem?
      intro q
      rw [List.getElem?_drop, List.getElem?_drop]; exact key _ (by omega)
set_option maxRecDepth 100000 in
set_option maxHeartbeats 4000000 in
theorem rjoinDims_any (k x : Int) (vd vl vh vs : Value) (pa : Option Addr) (pl pc : Nat) (ps : List Int) (A : Option Addr) (len cap : Nat) (xss : List (List Int)) (w : World) (hp : Lst w pa pl pc ps) (h : Lsts w A len xss) (hcap : len ≤ cap) (h1 : 1 ≤ len) (hlen : len ≤ 1048576) (hz : ∀ d ∈ xss, sizeE d = 0) :
    Calls Tryz.prog 80 #[.agg #[.int .i64 k, vd, .slice pa pl pc, vl, vh, vs, .int .i64 x], .slice A len cap] w fun e w' => OutP e w' (joinP ps xss) ∧ Below w.heap.size w w' := by
  have H := hide h
  have HP := hide hp
  have HN := hide h.1
  have HPL := hide hp.1.1
  have HZ := hide hz
  obtain ⟨b, off, rfl, hc⟩ := h.at (by omega)
  obtain ⟨X0, m0, c0, hc0, hl0⟩ := hc 0 (by omega)
  obtain ⟨ds, hds⟩ : ∃ ds, ds = xss[0]?.getD [] := ⟨_, rfl⟩
  rw [← hds] at hl0
  have HDS := hide hds
  have HC := hide hc
  have hc0' : w.cell? ⟨b, off, none⟩ = some (.slice X0 m0 c0) := hc0
  have HC0 := hide hc0'
  have HL0 := hide hl0
  have hmem0 : ds ∈ xss := by rw [hds]; exact mem_getDL xss 0 (by rw [h.1]; omega)
  have hz0 := sizeE_ok (hz ds hmem0)
  have hm06 : m0 ≤ 6 := by have := hl0.1.1; omega
  clear h hp hz hc hc0 hl0 hds hmem0
  have HB1 := hide ((Below.refl w.heap.size w).alloc (Nat.le_refl _) (.cells #[.int .i64 k, vd, .slice pa pl pc, vl, vh, vs, .int .i64 x] 24))
  have HOP := hide (OpAt.new w k vd (.slice pa pl pc) vl vh vs x)
  have q0 : (w.alloc (.cells #[.int .i64 k, vd, .slice pa pl pc, vl, vh, vs, .int .i64 x] 24)).cell? ⟨b, off, none⟩ = some (.slice X0 m0 c0) := (HB1.out.cell (p := ⟨b, off, none⟩) (lt_of_cell HC0.out)).trans HC0.out
  have hpos : (0 : Int) < (len : Int) := by omega
  have HBAD : Hid (¬ (ps.length = 1 ∧ 0 ≤ joinAt ps ∧ joinAt ps < (ds.length : Int)) → joinP ps xss = ([], 6)) := fun hn => by
    unfold joinP
    rw [← HDS.out, if_neg]
    rintro ⟨a1, a2, a3, _⟩
    exact hn ⟨a1, a2, a3⟩
  obtain ⟨o0, o1, o2, o3, o4, o5, o6⟩ := HOP.out.cells
  by_cases c1 : pl = 1
  case neg =>
    rw [HBAD.out (fun hh => c1 (by rw [← HPL.out]; exact hh.1))]
    have q : ((pl : Int) != 1) = true := by simp; omega
    clear c1
    go_enter Tryz.func80, Tryz.ntmps80
    go_wp2_with fail
    go_quiet (fail)
    go_wp2
    go_ret2
    exact ⟨outP_none _ _, Below.on HB1.out (below_drewN _ _)⟩
  subst c1
  obtain ⟨pb, pof, rfl, hpb, hpc⟩ := HP.out.1.at (by omega)
  obtain ⟨P, hP⟩ : ∃ P, P = joinAt ps := ⟨_, rfl⟩
  have hcp : w.cell? ⟨pb, pof, none⟩ = some (.int .i64 P) := by rw [hP]; exact hpc 0 (by omega)
  have HCP := hide hcp
  have hdl : ds.length = m0 := HL0.out.1.1
  have HDL := hide hdl
  have cp : (w.alloc (.cells #[.int .i64 k, vd, .slice (some ⟨pb, pof, none⟩) 1 pc, vl, vh, vs, .int .i64 x] 24)).cell? ⟨pb, pof, none⟩ = some (.int .i64 P) := (HB1.out.cell (p := ⟨pb, pof, none⟩) hpb).trans HCP.out
  clear hpc hcp
  by_cases c2 : P < 0
  · rw [HBAD.out (fun hh => by rw [← hP] at hh; omega)]
    clear hP
    go_enter Tryz.func80, Tryz.ntmps80
    go_wp2_with fail
    go_quiet (fail)
    go_wp2
    go_ret2
    exact ⟨outP_none _ _, Below.on HB1.out (below_drewN _ _)⟩
  have c2' : decide (P < 0) = false := decide_eq_false c2
  by_cases c3 : (m0 : Int) ≤ P
  · rw [HBAD.out (fun hh => by rw [← hP] at hh; omega)]
    clear hP
    go_enter Tryz.func80, Tryz.ntmps80
    go_wp2_with fail
    go_quiet (fail)
    go_wp2
    go_ret2
    exact ⟨outP_none _ _, Below.on HB1.out (below_drewN _ _)⟩
  have c3' : decide ((m0 : Int) ≤ P) = false := decide_eq_false c3
  obtain ⟨p, rfl⟩ : ∃ p : Nat, P = (p : Int) := ⟨P.toNat, by omega⟩
  have c3'' : decide (m0 ≤ p) = false := decide_eq_false (by omega)
  have hpm : p < m0 := by omega
  have HPT : Hid ((joinAt ps).toNat = p) := by rw [Hid, ← hP]; simp
  have HJP : Hid (joinP ps xss = if (xss.drop 1).all (joinB p ds) = true then (ds.set p (joinS p xss), 0) else ([], 6)) := by
    unfold joinP
    rw [Hid, ← HDS.out, HPT.out]
    by_cases e : (xss.drop 1).all (joinB p ds) = true
    · rw [if_pos ⟨HPL.out, by omega, by omega, e⟩, if_pos e]
    · rw [if_neg (fun hh => e hh.2.2.2), if_neg e]
  have HS1 : Hid (ds.set p (joinS p (xss.take 1)) = ds) := by
    have e : xss.take 1 = [ds] := by
      have := take_snocL xss 0 (by rw [HN.out]; omega)
      simpa [← HDS.out] using this
    rw [Hid, e]
    have e2 : joinS p [ds] = ds[p]?.getD 0 := by simp [joinS]
    rw [e2]; exact set_same ds p
  have HSB : Hid (∀ m, 0 ≤ joinS p (xss.take m) ∧ joinS p (xss.take m) ≤ 4096 * 1048576) := fun m => by
    have h3 := joinS_bd p (xss.take m) (fun d hd => (sizeE_ok (HZ.out d (List.mem_of_mem_take hd))).2.1)
    have h4 : (xss.take m).length ≤ 1048576 := by simp; have := HN.out; omega
    omega
  have HPLD : Hid (p < ds.length) := by rw [Hid, HDL.out]; exact hpm
  clear hP
  go_enter Tryz.func80, Tryz.ntmps80
  go_wp2_with fail
  go_cut [31] (fun t wc => t = .bool false ∧ Below (w.heap.size + 1) (w.alloc (.cells #[.int .i64 k, vd, .slice (some ⟨pb, pof, none⟩) 1 pc, vl, vh, vs, .int .i64 x] 24)) wc)
  case first =>
    go_quiet (fail)
    go_wp2
    go_meet
    exact ⟨rfl, below_drewN _ _⟩
  case rest =>
    obtain ⟨rfl, hW⟩ := hcut
    have hW' : Below (w.alloc (.cells #[.int .i64 k, vd, .slice (some ⟨pb, pof, none⟩) 1 pc, vl, vh, vs, .int .i64 x] 24)).heap.size (w.alloc (.cells #[.int .i64 k, vd, .slice (some ⟨pb, pof, none⟩) 1 pc, vl, vh, vs, .int .i64 x] 24)) wc := by simpa using hW
    have HB2 := hide (Below.on HB1.out hW')
    have HO2 := hide (HOP.out.below hW')
    clear hW hW' o0 o1 o2 o3 o4 o5 o6 q0 cp c2' c3' c3''
    have q0 : (wc.alloc (.cells #[] 3)).cell? ⟨b, off, none⟩ = some (.slice X0 m0 c0) := ((HB2.out.alloc HB2.out.size _).cell (p := ⟨b, off, none⟩) (lt_of_cell HC0.out)).trans HC0.out
    have HA := hide (HB2.out.alloc HB2.out.size (.cells #[] 3))
    have HX1 := hide (World.ownsRow_made (e := 3) (size := 1) wc #[] 0 (Nat.le_refl _) (Nat.zero_le _) rfl)
    by_cases cc : cap = 1
    · subst cc
      obtain rfl : len = 1 := by omega
      go_wp2_with (at_builtin; refine append_list (by rfl) (.tmp 32) (.tmp 35) (by rfl) wc.heap.size _ _ _ (by rfl) HX1.out _ _ _ ds (by rfl) (HL0.out.below HA.out) (by omega) (by simp) ?_; intro v1 w1 hown1 hg1; have hown2 : w1.ownsRow wc.heap.size 3 1 v1 m0 (ds.map (Value.int .i64)) := by { simpa using hown1 }; obtain ⟨g, c, rfl, hBg, hmc, hrow⟩ := own_split hown2 HDL.out (by omega); have HR := hide hrow; have HBg := hide hBg; have HB3 := hide (HA.out.grown hg1 HA.out.size (fun j e => by { have := (HX1.out.lt j e).1; have := HB2.out.size; omega })); have HO3 : Hid (OpAt w1 w.heap.size k vd (.slice (some ⟨pb, pof, none⟩) 1 pc) vl vh vs x) := ((hg1.block w.heap.size (HO2.out.alloc _).lt (fun e => by { have := (HX1.out.lt _ e.symm).1; have := HO2.out.lt; omega })).trans (HO2.out.alloc _)); clear hown1 hown2 hg1 hrow hBg)
      go_loopw [40] (fun i wr => i = .int .i64 0 ∧ RowC wr g c m0 ds ∧ Below w.heap.size w wr) (fun _ _ => 0)
      case atStart => exact ⟨rfl, HR.out, HB3.out⟩
      case round =>
        obtain ⟨rfl, hr, hB⟩ := hrel
        clear HR HB3
        have HR := hide hr
        have HB := hide hB
        clear hr hB
        go_wp2
        go_ret2
        have e1 : xss.take 1 = xss := List.take_of_length_le (by rw [HN.out]; exact Nat.le_refl _)
        have e2 := HS1.out
        rw [e1] at e2
        have e3 : (xss.drop 1).all (joinB p ds) = true := by rw [List.drop_eq_nil_of_le (by rw [HN.out]; exact Nat.le_refl _)]; rfl
        rw [HJP.out, if_pos e3, e2]
        exact ⟨⟨_, _, _, rfl, HR.out.ints hmc HDL.out (by omega) HL0.out.1.2.2.1, hmc⟩, HB.out⟩
    · go_wp2_with (at_builtin; refine append_list (by rfl) (.tmp 32) (.tmp 35) (by rfl) wc.heap.size _ _ _ (by rfl) HX1.out _ _ _ ds (by rfl) (HL0.out.below HA.out) (by omega) (by simp) ?_; intro v1 w1 hown1 hg1; have hown2 : w1.ownsRow wc.heap.size 3 1 v1 m0 (ds.map (Value.int .i64)) := by { simpa using hown1 }; obtain ⟨g, c, rfl, hBg, hmc, hrow⟩ := own_split hown2 HDL.out (by omega); have HR := hide hrow; have HBg := hide hBg; have HB3 := hide (HA.out.grown hg1 HA.out.size (fun j e => by { have := (HX1.out.lt j e).1; have := HB2.out.size; omega })); have HO3 : Hid (OpAt w1 w.heap.size k vd (.slice (some ⟨pb, pof, none⟩) 1 pc) vl vh vs x) := ((hg1.block w.heap.size (HO2.out.alloc _).lt (fun e => by { have := (HX1.out.lt _ e.symm).1; have := HO2.out.lt; omega })).trans (HO2.out.alloc _)); clear hown1 hown2 hg1 hrow hBg)
      go_loopw [40] (fun i wr => ∃ j : Nat, j ≤ len - 1 ∧ i = .int .i64 j ∧ (∀ t, t < j → joinB p ds (xss[t + 1]?.getD []) = true) ∧ RowC wr g c m0 (ds.set p (joinS p (xss.take (j + 1)))) ∧ OpAt wr w.heap.size k vd (.slice (some ⟨pb, pof, none⟩) 1 pc) vl vh vs x ∧ Below w.heap.size w wr) (fun i _ => len - 1 - (intOf i).toNat)
      case atStart => exact ⟨0, Nat.zero_le _, rfl, fun t ht => by omega, by rw [HS1.out]; exact HR.out, HO3.out, HB3.out⟩
      case round =>
        clear HR HB3 HO3
        obtain ⟨j, hj, rfl, hgood, hr, ho, hB⟩ := hrel
        have HG := hide hgood
        have HR := hide hr
        have HO := hide ho
        have HB := hide hB
        clear hr hB hgood ho
        by_cases hlt : j < len - 1
        · obtain ⟨X, m, cX, hcj0, hlj⟩ := HC.out (j + 1) (by omega)
          have hcj : wr.cell? ⟨b, off + 1 + j, none⟩ = some (.slice X m cX) := by
            have e : off + 1 + j = off + (j + 1) := by omega
            rw [e]; exact (HB.out.cell (p := ⟨b, off + (j + 1), none⟩) (lt_of_cell hcj0)).trans hcj0
          obtain ⟨d, hd⟩ : ∃ d, d = xss[j + 1]?.getD [] := ⟨_, rfl⟩
          rw [← hd] at hlj
          have HDJ := hide hd
          have HLJ := hide hlj
          have hmemd : d ∈ xss := by rw [hd]; exact mem_getDL xss (j + 1) (by rw [HN.out]; omega)
          have hzd := sizeE_ok (HZ.out d hmemd)
          have hmd := hlj.1.1
          have HMD := hide hmd
          have HZD := hide hzd.2.1
          have HNO : Hid (joinB p ds d = false → joinP ps xss = ([], 6)) := fun hn => by
            rw [HJP.out, if_neg]
            intro ha
            have := (joinAll_iff _ _).1 ha j (by rw [HN.out]; omega)
            rw [← HDJ.out, hn] at this
            cases this
          have HSJ := hide (HSB.out (j + 1))
          obtain ⟨J, hJ⟩ : ∃ J, J = joinS p (xss.take (j + 1)) := ⟨_, rfl⟩
          rw [← hJ] at HR HSJ
          have HJ := hide hJ
          have i1 : (0 : Int) ≤ (j : Int) := Int.natCast_nonneg _
          have i2 : (j : Int) < ((len - 1 : Nat) : Int) := by omega
          clear hcj0 hlj hmemd hd hJ
          by_cases c4 : m = m0
          case neg =>
            have q : ((m : Int) != (m0 : Int)) = true := by simp; omega
            have HJF : Hid (joinB p ds d = false) := by
              unfold joinB
              rw [Hid, HDL.out, hmd]
              simp [c4]
            clear c4
            go_wp2
            go_ret2
            rw [HNO.out HJF.out]
            exact ⟨outP_none _ _, HB.out⟩
          subst c4
          obtain ⟨b1, off1, rfl, hb1, hc1⟩ := HLJ.out.1.at (by omega)
          have HC1 := hide hc1
          obtain ⟨D, hD⟩ : ∃ D, D = d[p]?.getD 0 := ⟨_, rfl⟩
          have hDb : 0 ≤ D ∧ D ≤ 4096 := by rw [hD]; exact getD_bd HZD.out p
          have hJb : 0 ≤ J ∧ J ≤ 4096 * 1048576 := HSJ.out
          have HDD := hide hD
          have hm6 : m ≤ 6 := hm06
          clear hc1 hD
          go_wp2
          go_loopw [51] (fun i wq => ∃ t : Nat, t ≤ m ∧ i = .int .i64 t ∧ (∀ r, r < t → r ≠ p → d[r]?.getD 0 = ds[r]?.getD 0) ∧ RowC wq g c m (ds.set p (if p < t then J + D else J)) ∧ OpAt wq w.heap.size k vd (.slice (some ⟨pb, pof, none⟩) 1 pc) vl vh vs x ∧ Below w.heap.size w wq) (fun i _ => m - (intOf i).toNat)
          case atStart => exact ⟨0, Nat.zero_le _, rfl, fun r hr => by omega, by rw [if_neg (by omega)]; exact HR.out, HO.out, HB.out⟩
          case round =>
            clear HR HO HB hcj
            obtain ⟨t, ht, rfl, hsm, hr, ho, hB⟩ := hrel
            have HSM := hide hsm
            have HR := hide hr
            have HO := hide ho
            have HB := hide hB
            clear hsm hr ho hB
            obtain ⟨o0, o1, o2, o3, o4, o5, o6⟩ := HO.out.cells
            have cp : wr.cell? ⟨pb, pof, none⟩ = some (.int .i64 (p : Int)) := (HB.out.cell (p := ⟨pb, pof, none⟩) hpb).trans HCP.out
            have hgw : w.heap.size + 1 ≤ g := by have := HBg.out; have := HO2.out.lt; omega
            by_cases hlt2 : t < m
            · have cd : wr.cell? ⟨b1, off1 + t, none⟩ = some (.int .i64 (d[t]?.getD 0)) := (HB.out.cell (p := ⟨b1, off1 + t, none⟩) hb1).trans (HC1.out t hlt2)
              have co := HR.out.cell hmc hlt2
              have fo := HR.out.frozen t
              have i3 : (0 : Int) ≤ (t : Int) := Int.natCast_nonneg _
              have i4 : (t : Int) < (m : Int) := by omega
              by_cases e : t = p
              · subst e
                rw [if_neg (by omega), set_getD ds t t J HPLD.out, if_pos rfl] at co
                rw [← HDD.out] at cd
                rw [if_neg (by omega)] at HR
                have qe : ((t : Int) == (t : Int)) = true := by simp
                go_wp2_with fail
                go_region
                all_goals go_wp2
                all_goals go_roundw
                all_goals try (case measure => simp [intOf]; omega)
                all_goals
                  have hrow : RowC ((wr.setCell ⟨g, t, none⟩ (.int .i64 (J + D))).drew) g c m (ds.set t (if t < t + 1 then J + D else J)) := by
                    have h3 := HR.out.set t (J + D) (by rw [List.length_set]; exact HPLD.out)
                    rw [List.set_set] at h3
                    rw [if_pos (by omega)]
                    exact h3
                  have hr : ∃ t' : Nat, t' ≤ m ∧ Value.int .i64 ((t : Int) + 1) = .int .i64 t' ∧ (∀ r, r < t' → r ≠ t → d[r]?.getD 0 = ds[r]?.getD 0) ∧ RowC ((wr.setCell ⟨g, t, none⟩ (.int .i64 (J + D))).drew) g c m (ds.set t (if t < t' then J + D else J)) ∧ OpAt ((wr.setCell ⟨g, t, none⟩ (.int .i64 (J + D))).drew) w.heap.size k vd (.slice (some ⟨pb, pof, none⟩) 1 pc) vl vh vs x ∧ Below w.heap.size w ((wr.setCell ⟨g, t, none⟩ (.int .i64 (J + D))).drew) :=
                    ⟨t + 1, by omega, by go_num, fun r h1 h2 => HSM.out r (by omega) h2, hrow, HO.out.set (p := ⟨g, t, none⟩) (by simp; omega) _, (HB.out.setCell (p := ⟨g, t, none⟩) (by simp; omega) _).drew⟩
                  first
                    | exact hr
                    | (repeat apply Exists.intro
                       exact ⟨hr, rfl⟩)
              · rw [set_getD ds p t _ HPLD.out, if_neg e] at co
                have qe : ((t : Int) == (p : Int)) = false := by simp; omega
                have HCOND : Hid ((if p < t + 1 then J + D else J) = (if p < t then J + D else J)) := by
                  by_cases h1 : p < t
                  · rw [Hid, if_pos h1, if_pos (by omega)]
                  · rw [Hid, if_neg h1, if_neg (by omega)]
                have HTP := hide e
                clear e
                by_cases q2 : d[t]?.getD 0 = ds[t]?.getD 0
                · have HQ2 := hide q2
                  rw [q2] at cd
                  obtain ⟨Y, hY⟩ : ∃ Y, Y = ds[t]?.getD 0 := ⟨_, rfl⟩
                  rw [← hY] at cd co
                  have q3 : (Y != Y) = false := by simp
                  clear q2 hY
                  go_wp2_with fail
                  go_quiet (fail)
                  go_wp2
                  go_roundw
                  all_goals try (case measure => simp [intOf]; omega)
                  all_goals
                    have hr : ∃ t' : Nat, t' ≤ m ∧ Value.int .i64 ((t : Int) + 1) = .int .i64 t' ∧ (∀ r, r < t' → r ≠ p → d[r]?.getD 0 = ds[r]?.getD 0) ∧ RowC (wr.drewN nq) g c m (ds.set p (if p < t' then J + D else J)) ∧ OpAt (wr.drewN nq) w.heap.size k vd (.slice (some ⟨pb, pof, none⟩) 1 pc) vl vh vs x ∧ Below w.heap.size w (wr.drewN nq) := by
                      refine ⟨t + 1, by omega, by go_num, fun r h1 h2 => ?_, ?_, HO.out.below (below_drewN _ _), Below.on HB.out (below_drewN _ _)⟩
                      · by_cases h3 : r = t
                        · rw [h3]; exact HQ2.out
                        · exact HSM.out r (by omega) h2
                      · rw [HCOND.out]; exact HR.out.below (below_drewN _ _)
                    first
                      | exact hr
                      | (repeat apply Exists.intro
                         exact ⟨hr, rfl⟩)
                · have HJF : Hid (joinB p ds d = false) := by
                    rw [Hid, ← Bool.not_eq_true, joinB_iff]
                    rintro ⟨_, h2⟩
                    exact q2 (h2 t (by have := HDL.out; omega) HTP.out)
                  obtain ⟨Y, hY⟩ : ∃ Y, Y = d[t]?.getD 0 := ⟨_, rfl⟩
                  obtain ⟨Z, hZ⟩ : ∃ Z, Z = ds[t]?.getD 0 := ⟨_, rfl⟩
                  rw [← hY] at cd q2
                  rw [← hZ] at co q2
                  have q3 : (Y != Z) = true := by simp [q2]
                  clear q2 hY hZ
                  go_wp2_with fail
                  go_quiet (fail)
                  go_wp2
                  go_ret2
                  rw [HNO.out HJF.out]
                  exact ⟨outP_none _ _, Below.on HB.out (below_drewN _ _)⟩
            · obtain rfl : t = m := by omega
              have HJT : Hid (joinB p ds d = true) := joinB_iff.2 ⟨by rw [HMD.out, HDL.out], fun q h1 h2 => HSM.out q (by have := HDL.out; omega) h2⟩
              go_wp2
              go_roundw
              case rel =>
                have hsum : joinS p (xss.take (j + 1 + 1)) = J + D := by
                  rw [take_snocL xss (j + 1) (by rw [HN.out]; omega), joinS_snoc, ← HJ.out, ← HDJ.out, ← HDD.out]
                have h3 := HR.out
                rw [if_pos (by omega), ← hsum] at h3
                refine ⟨j + 1, by omega, by go_num, fun r hr => ?_, h3, HO.out, HB.out⟩
                by_cases e : r = j
                · rw [e, ← HDJ.out]; exact HJT.out
                · exact HG.out r (by omega)
              case measure => simp [intOf]; omega
        · obtain rfl : j = len - 1 := by omega
          go_wp2
          go_ret2
          have e1 : len - 1 + 1 = len := by omega
          have e2 := HR.out
          rw [e1, List.take_of_length_le (by rw [HN.out]; exact Nat.le_refl _)] at e2
          have e3 : (xss.drop 1).all (joinB p ds) = true := (joinAll_iff _ _).2 (fun t ht => HG.out t (by rw [HN.out] at ht; omega))
          have e4 := HSB.out len
          rw [List.take_of_length_le (by rw [HN.out]; exact Nat.le_refl _)] at e4
          rw [HJP.out, if_pos e3]
          exact ⟨⟨_, _, _, rfl, e2.ints hmc (by rw [List.length_set]; exact HDL.out) (by omega) (set_bd HL0.out.1.2.2.1 (by omega)), hmc⟩, HB.out⟩

end Go.Proofs.YtoagnhppjlcpkaaGreat.V

/-
  Contract: adjointref2.ruled, by kind.
-/
namespace Go.Proofs.YtoagnhppjlcpkaaGreat.V
set_option maxRecDepth 20000
open Go.RowKit

set_option maxRecDepth 100000 in
set_option maxHeartbeats 2000000 in
theorem ruled_2 (x : Int) (ea : Option Addr) (el ec : Nat) (es : List Int) (pa : Option Addr) (pl pc : Nat) (ps : List Int) (la : Option Addr) (ll lc : Nat) (lo : List Int) (ha : Option Addr) (hl hc : Nat) (hi : List Int) (ta : Option Addr) (tl tc : Nat) (st : List Int) (A : Option Addr) (len cap : Nat) (xss : List (List Int)) (w : World)
    (he : Lst w ea el ec es) (hp : Lst w pa pl pc ps) (hlo : Lst w la ll lc lo) (hhi : Lst w ha hl hc hi) (hst : Lst w ta tl tc st) (h : Lsts w A len xss) (hcap : len ≤ cap) (hz : ∀ d ∈ xss, sizeE d = 0) (hn : len = 0) (hlen : len ≤ 1048576) (b0 : el ≤ 1048576) (b1 : pl ≤ 1048576) (b2 : ll ≤ 1048576) (b3 : hl ≤ 1048576) (b4 : tl ≤ 1048576) :
    Calls Tryz.prog 38 #[.agg #[.int .i64 2, .slice ea el ec, .slice pa pl pc, .slice la ll lc, .slice ha hl hc, .slice ta tl tc, .int .i64 x], .slice A len cap] w fun e w' => OutP e w' ((es, 0)) ∧ Below w.heap.size w w' := by
  have zz := And.intro hcap (And.intro hlen (And.intro hn (And.intro b0 (And.intro b1 (And.intro b2 (And.intro b3 b4))))))
  clear zz
  have HE := hide he
  have HP := hide hp
  have HLO := hide hlo
  have HHI := hide hhi
  have HST := hide hst
  have H := hide h
  have HN := hide h.1
  have HZ := hide hz
  have HB1 := hide ((Below.refl w.heap.size w).alloc (Nat.le_refl _) (.cells #[.int .i64 2, .slice ea el ec, .slice pa pl pc, .slice la ll lc, .slice ha hl hc, .slice ta tl tc, .int .i64 x] 24))
  have HOP := hide (OpAt.new w 2 (.slice ea el ec) (.slice pa pl pc) (.slice la ll lc) (.slice ha hl hc) (.slice ta tl tc) x)
  obtain ⟨o0, o1, o2, o3, o4, o5, o6⟩ := HOP.out.cells
  clear h he hp hlo hhi hst hz
  go_enter Tryz.func38, Tryz.ntmps38
  go_wp2
  go_ret2
  exact ⟨outP_lst (HE.out.below HB1.out) 0, HB1.out⟩

set_option maxRecDepth 100000 in
set_option maxHeartbeats 2000000 in
theorem ruled_9 (x : Int) (ea : Option Addr) (el ec : Nat) (es : List Int) (pa : Option Addr) (pl pc : Nat) (ps : List Int) (la : Option Addr) (ll lc : Nat) (lo : List Int) (ha : Option Addr) (hl hc : Nat) (hi : List Int) (ta : Option Addr) (tl tc : Nat) (st : List Int) (A : Option Addr) (len cap : Nat) (xss : List (List Int)) (w : World)
    (he : Lst w ea el ec es) (hp : Lst w pa pl pc ps) (hlo : Lst w la ll lc lo) (hhi : Lst w ha hl hc hi) (hst : Lst w ta tl tc st) (h : Lsts w A len xss) (hcap : len ≤ cap) (hz : ∀ d ∈ xss, sizeE d = 0) (hn : len = 1) (hlen : len ≤ 1048576) (b0 : el ≤ 1048576) (b1 : pl ≤ 1048576) (b2 : ll ≤ 1048576) (b3 : hl ≤ 1048576) (b4 : tl ≤ 1048576) :
    Calls Tryz.prog 38 #[.agg #[.int .i64 9, .slice ea el ec, .slice pa pl pc, .slice la ll lc, .slice ha hl hc, .slice ta tl tc, .int .i64 x], .slice A len cap] w fun e w' => OutP e w' ((okL (sprE 0 (xss[0]?.getD []) (stepsV (xss[0]?.getD [])) es ps) es, sprE 0 (xss[0]?.getD []) (stepsV (xss[0]?.getD [])) es ps)) ∧ Below w.heap.size w w' := by
  have zz := And.intro hcap (And.intro hlen (And.intro hn (And.intro b0 (And.intro b1 (And.intro b2 (And.intro b3 b4))))))
  clear zz
  have HE := hide he
  have HP := hide hp
  have HLO := hide hlo
  have HHI := hide hhi
  have HST := hide hst
  have H := hide h
  have HN := hide h.1
  have HZ := hide hz
  have HB1 := hide ((Below.refl w.heap.size w).alloc (Nat.le_refl _) (.cells #[.int .i64 9, .slice ea el ec, .slice pa pl pc, .slice la ll lc, .slice ha hl hc, .slice ta tl tc, .int .i64 x] 24))
  have HOP := hide (OpAt.new w 9 (.slice ea el ec) (.slice pa pl pc) (.slice la ll lc) (.slice ha hl hc) (.slice ta tl tc) x)
  obtain ⟨o0, o1, o2, o3, o4, o5, o6⟩ := HOP.out.cells
  obtain ⟨b, off, rfl, hc⟩ := h.at (by omega)
  obtain ⟨X0, m0, c0, hc0, hl0⟩ := hc 0 (by omega)
  have hc0' : w.cell? ⟨b, off, none⟩ = some (.slice X0 m0 c0) := hc0
  obtain ⟨ds, hds⟩ : ∃ ds, ds = xss[0]?.getD [] := ⟨_, rfl⟩
  rw [← hds] at hl0 ⊢
  have HL0 := hide hl0
  have HC0 := hide hc0'
  have hzd : sizeE ds = 0 := by rw [hds]; exact hz _ (mem_getDL xss 0 (by rw [h.1]; omega))
  have HZD := hide hzd
  have h06 : m0 ≤ 6 := by have := (sizeE_ok hzd).1; have := hl0.1.1; omega
  have HD1 := hide (HL0.out.below HB1.out)
  have q0 := (HB1.out.cell (p := ⟨b, off, none⟩) (lt_of_cell hc0')).trans hc0'
  have i0 : (0 : Int) < (len : Int) := by omega
  clear h he hp hlo hhi hst hz hc hc0 hc0' hl0 hds hzd
  go_enter Tryz.func38, Tryz.ntmps38
  go_wp2_with fail
  go_region_with (go_at_call 81; refine (viewDims_spread 9 x _ _ _ ds _ _ _ es _ _ _ ps _ _ _ lo _ _ _ hi _ _ _ st _ (HL0.out.below (HB1.out.drew)).1 (HE.out.below (HB1.out.drew)).1 (HP.out.below (HB1.out.drew)).1 (HLO.out.below (HB1.out.drew)).1 (HHI.out.below (HB1.out.drew)).1 (HST.out.below (HB1.out.drew)).1 HZD.out HL0.out.2.1 HE.out.2.1 rfl).mono ?_; rintro e w1 ⟨⟨Z, nz, cz, rfl, hi1, hnc⟩, hb⟩; have HI1 := hide hi1; have HB2 := hide (Below.on (HB1.out.drew) hb); clear hi1 hb)
  all_goals go_wp2
  all_goals go_ret2
  all_goals exact ⟨⟨_, _, _, rfl, HI1.out, hnc⟩, HB2.out⟩

set_option maxRecDepth 100000 in
set_option maxHeartbeats 2000000 in
theorem ruled_11 (x : Int) (ea : Option Addr) (el ec : Nat) (es : List Int) (pa : Option Addr) (pl pc : Nat) (ps : List Int) (la : Option Addr) (ll lc : Nat) (lo : List Int) (ha : Option Addr) (hl hc : Nat) (hi : List Int) (ta : Option Addr) (tl tc : Nat) (st : List Int) (A : Option Addr) (len cap : Nat) (xss : List (List Int)) (w : World)
    (he : Lst w ea el ec es) (hp : Lst w pa pl pc ps) (hlo : Lst w la ll lc lo) (hhi : Lst w ha hl hc hi) (hst : Lst w ta tl tc st) (h : Lsts w A len xss) (hcap : len ≤ cap) (hz : ∀ d ∈ xss, sizeE d = 0) (hn : len = 1) (hlen : len ≤ 1048576) (b0 : el ≤ 1048576) (b1 : pl ≤ 1048576) (b2 : ll ≤ 1048576) (b3 : hl ≤ 1048576) (b4 : tl ≤ 1048576) :
    Calls Tryz.prog 38 #[.agg #[.int .i64 11, .slice ea el ec, .slice pa pl pc, .slice la ll lc, .slice ha hl hc, .slice ta tl tc, .int .i64 x], .slice A len cap] w fun e w' => OutP e w' ((okL (turnE 0 (xss[0]?.getD []) (stepsV (xss[0]?.getD [])) ps) (taken (xss[0]?.getD []) ps), turnE 0 (xss[0]?.getD []) (stepsV (xss[0]?.getD [])) ps)) ∧ Below w.heap.size w w' := by
  have zz := And.intro hcap (And.intro hlen (And.intro hn (And.intro b0 (And.intro b1 (And.intro b2 (And.intro b3 b4))))))
  clear zz
  have HE := hide he
  have HP := hide hp
  have HLO := hide hlo
  have HHI := hide hhi
  have HST := hide hst
  have H := hide h
  have HN := hide h.1
  have HZ := hide hz
  have HB1 := hide ((Below.refl w.heap.size w).alloc (Nat.le_refl _) (.cells #[.int .i64 11, .slice ea el ec, .slice pa pl pc, .slice la ll lc, .slice ha hl hc, .slice ta tl tc, .int .i64 x] 24))
  have HOP := hide (OpAt.new w 11 (.slice ea el ec) (.slice pa pl pc) (.slice la ll lc) (.slice ha hl hc) (.slice ta tl tc) x)
  obtain ⟨o0, o1, o2, o3, o4, o5, o6⟩ := HOP.out.cells
  obtain ⟨b, off, rfl, hc⟩ := h.at (by omega)
  obtain ⟨X0, m0, c0, hc0, hl0⟩ := hc 0 (by omega)
  have hc0' : w.cell? ⟨b, off, none⟩ = some (.slice X0 m0 c0) := hc0
  obtain ⟨ds, hds⟩ : ∃ ds, ds = xss[0]?.getD [] := ⟨_, rfl⟩
  rw [← hds] at hl0 ⊢
  have HL0 := hide hl0
  have HC0 := hide hc0'
  have hzd : sizeE ds = 0 := by rw [hds]; exact hz _ (mem_getDL xss 0 (by rw [h.1]; omega))
  have HZD := hide hzd
  have h06 : m0 ≤ 6 := by have := (sizeE_ok hzd).1; have := hl0.1.1; omega
  have HD1 := hide (HL0.out.below HB1.out)
  have q0 := (HB1.out.cell (p := ⟨b, off, none⟩) (lt_of_cell hc0')).trans hc0'
  have i0 : (0 : Int) < (len : Int) := by omega
  clear h he hp hlo hhi hst hz hc hc0 hc0' hl0 hds hzd
  go_enter Tryz.func38, Tryz.ntmps38
  go_wp2_with fail
  go_region_with (go_at_call 81; refine (viewDims_turn 11 x _ _ _ ds _ _ _ es _ _ _ ps _ _ _ lo _ _ _ hi _ _ _ st _ (HL0.out.below (HB1.out.drew)).1 (HE.out.below (HB1.out.drew)).1 (HP.out.below (HB1.out.drew)).1 (HLO.out.below (HB1.out.drew)).1 (HHI.out.below (HB1.out.drew)).1 (HST.out.below (HB1.out.drew)).1 HZD.out HL0.out.2.1 HE.out.2.1 rfl).mono ?_; rintro e w1 ⟨⟨Z, nz, cz, rfl, hi1, hnc⟩, hb⟩; have HI1 := hide hi1; have HB2 := hide (Below.on (HB1.out.drew) hb); clear hi1 hb)
  all_goals go_wp2
  all_goals go_ret2
  all_goals exact ⟨⟨_, _, _, rfl, HI1.out, hnc⟩, HB2.out⟩
end Go.Proofs.YtoagnhppjlcpkaaGreat.V

/-
  Contract: adjointref2.ruled, by kind.
-/
namespace Go.Proofs.YtoagnhppjlcpkaaGreat.V
set_option maxRecDepth 20000
open Go.RowKit

set_option maxRecDepth 100000 in
set_option maxHeartbeats 2000000 in
theorem ruled_13 (x : Int) (ea : Option Addr) (el ec : Nat) (es : List Int) (pa : Option Addr) (pl pc : Nat) (ps : List Int) (la : Option Addr) (ll lc : Nat) (lo : List Int) (ha : Option Addr) (hl hc : Nat) (hi : List Int) (ta : Option Addr) (tl tc : Nat) (st : List Int) (A : Option Addr) (len cap : Nat) (xss : List (List Int)) (w : World)
    (he : Lst w ea el ec es) (hp : Lst w pa pl pc ps) (hlo : Lst w la ll lc lo) (hhi : Lst w ha hl hc hi) (hst : Lst w ta tl tc st) (h : Lsts w A len xss) (hcap : len ≤ cap) (hz : ∀ d ∈ xss, sizeE d = 0) (hn : len = 1) (hlen : len ≤ 1048576) (b0 : el ≤ 1048576) (b1 : pl ≤ 1048576) (b2 : ll ≤ 1048576) (b3 : hl ≤ 1048576) (b4 : tl ≤ 1048576) :
    Calls Tryz.prog 38 #[.agg #[.int .i64 13, .slice ea el ec, .slice pa pl pc, .slice la ll lc, .slice ha hl hc, .slice ta tl tc, .int .i64 x], .slice A len cap] w fun e w' => OutP e w' ((okL (cutE 0 (xss[0]?.getD []) (stepsV (xss[0]?.getD [])) lo hi st) (cutD (xss[0]?.getD []) lo hi st), cutE 0 (xss[0]?.getD []) (stepsV (xss[0]?.getD [])) lo hi st)) ∧ Below w.heap.size w w' := by
  have zz := And.intro hcap (And.intro hlen (And.intro hn (And.intro b0 (And.intro b1 (And.intro b2 (And.intro b3 b4))))))
  clear zz
  have HE := hide he
  have HP := hide hp
  have HLO := hide hlo
  have HHI := hide hhi
  have HST := hide hst
  have H := hide h
  have HN := hide h.1
  have HZ := hide hz
  have HB1 := hide ((Below.refl w.heap.size w).alloc (Nat.le_refl _) (.cells #[.int .i64 13, .slice ea el ec, .slice pa pl pc, .slice la ll lc, .slice ha hl hc, .slice ta tl tc, .int .i64 x] 24))
  have HOP := hide (OpAt.new w 13 (.slice ea el ec) (.slice pa pl pc) (.slice la ll lc) (.slice ha hl hc) (.slice ta tl tc) x)
  obtain ⟨o0, o1, o2, o3, o4, o5, o6⟩ := HOP.out.cells
  obtain ⟨b, off, rfl, hc⟩ := h.at (by omega)
  obtain ⟨X0, m0, c0, hc0, hl0⟩ := hc 0 (by omega)
  have hc0' : w.cell? ⟨b, off, none⟩ = some (.slice X0 m0 c0) := hc0
  obtain ⟨ds, hds⟩ : ∃ ds, ds = xss[0]?.getD [] := ⟨_, rfl⟩
  rw [← hds] at hl0 ⊢
  have HL0 := hide hl0
  have HC0 := hide hc0'
  have hzd : sizeE ds = 0 := by rw [hds]; exact hz _ (mem_getDL xss 0 (by rw [h.1]; omega))
  have HZD := hide hzd
  have h06 : m0 ≤ 6 := by have := (sizeE_ok hzd).1; have := hl0.1.1; omega
  have HD1 := hide (HL0.out.below HB1.out)
  have q0 := (HB1.out.cell (p := ⟨b, off, none⟩) (lt_of_cell hc0')).trans hc0'
  have i0 : (0 : Int) < (len : Int) := by omega
  clear h he hp hlo hhi hst hz hc hc0 hc0' hl0 hds hzd
  go_enter Tryz.func38, Tryz.ntmps38
  go_wp2_with fail
  go_region_with (go_at_call 81; refine (viewDims_cut 13 x _ _ _ ds _ _ _ es _ _ _ ps _ _ _ lo _ _ _ hi _ _ _ st _ (HL0.out.below (HB1.out.drew)).1 (HE.out.below (HB1.out.drew)).1 (HP.out.below (HB1.out.drew)).1 (HLO.out.below (HB1.out.drew)).1 (HHI.out.below (HB1.out.drew)).1 (HST.out.below (HB1.out.drew)).1 HZD.out HL0.out.2.1 HE.out.2.1 rfl).mono ?_; rintro e w1 ⟨⟨Z, nz, cz, rfl, hi1, hnc⟩, hb⟩; have HI1 := hide hi1; have HB2 := hide (Below.on (HB1.out.drew) hb); clear hi1 hb)
  all_goals go_wp2
  all_goals go_ret2
  all_goals exact ⟨⟨_, _, _, rfl, HI1.out, hnc⟩, HB2.out⟩

set_option maxRecDepth 100000 in
set_option maxHeartbeats 2000000 in
theorem ruled_15 (x : Int) (ea : Option Addr) (el ec : Nat) (es : List Int) (pa : Option Addr) (pl pc : Nat) (ps : List Int) (la : Option Addr) (ll lc : Nat) (lo : List Int) (ha : Option Addr) (hl hc : Nat) (hi : List Int) (ta : Option Addr) (tl tc : Nat) (st : List Int) (A : Option Addr) (len cap : Nat) (xss : List (List Int)) (w : World)
    (he : Lst w ea el ec es) (hp : Lst w pa pl pc ps) (hlo : Lst w la ll lc lo) (hhi : Lst w ha hl hc hi) (hst : Lst w ta tl tc st) (h : Lsts w A len xss) (hcap : len ≤ cap) (hz : ∀ d ∈ xss, sizeE d = 0) (hn : len = 1) (hlen : len ≤ 1048576) (b0 : el ≤ 1048576) (b1 : pl ≤ 1048576) (b2 : ll ≤ 1048576) (b3 : hl ≤ 1048576) (b4 : tl ≤ 1048576) :
    Calls Tryz.prog 38 #[.agg #[.int .i64 15, .slice ea el ec, .slice pa pl pc, .slice la ll lc, .slice ha hl hc, .slice ta tl tc, .int .i64 x], .slice A len cap] w fun e w' => OutP e w' ((okL (flipE 0 (xss[0]?.getD []) (stepsV (xss[0]?.getD [])) ps) (xss[0]?.getD []), flipE 0 (xss[0]?.getD []) (stepsV (xss[0]?.getD [])) ps)) ∧ Below w.heap.size w w' := by
  have zz := And.intro hcap (And.intro hlen (And.intro hn (And.intro b0 (And.intro b1 (And.intro b2 (And.intro b3 b4))))))
  clear zz
  have HE := hide he
  have HP := hide hp
  have HLO := hide hlo
  have HHI := hide hhi
  have HST := hide hst
  have H := hide h
  have HN := hide h.1
  have HZ := hide hz
  have HB1 := hide ((Below.refl w.heap.size w).alloc (Nat.le_refl _) (.cells #[.int .i64 15, .slice ea el ec, .slice pa pl pc, .slice la ll lc, .slice ha hl hc, .slice ta tl tc, .int .i64 x] 24))
  have HOP := hide (OpAt.new w 15 (.slice ea el ec) (.slice pa pl pc) (.slice la ll lc) (.slice ha hl hc) (.slice ta tl tc) x)
  obtain ⟨o0, o1, o2, o3, o4, o5, o6⟩ := HOP.out.cells
  obtain ⟨b, off, rfl, hc⟩ := h.at (by omega)
  obtain ⟨X0, m0, c0, hc0, hl0⟩ := hc 0 (by omega)
  have hc0' : w.cell? ⟨b, off, none⟩ = some (.slice X0 m0 c0) := hc0
  obtain ⟨ds, hds⟩ : ∃ ds, ds = xss[0]?.getD [] := ⟨_, rfl⟩
  rw [← hds] at hl0 ⊢
  have HL0 := hide hl0
  have HC0 := hide hc0'
  have hzd : sizeE ds = 0 := by rw [hds]; exact hz _ (mem_getDL xss 0 (by rw [h.1]; omega))
  have HZD := hide hzd
  have h06 : m0 ≤ 6 := by have := (sizeE_ok hzd).1; have := hl0.1.1; omega
  have HD1 := hide (HL0.out.below HB1.out)
  have q0 := (HB1.out.cell (p := ⟨b, off, none⟩) (lt_of_cell hc0')).trans hc0'
  have i0 : (0 : Int) < (len : Int) := by omega
  clear h he hp hlo hhi hst hz hc hc0 hc0' hl0 hds hzd
  go_enter Tryz.func38, Tryz.ntmps38
  go_wp2_with fail
  go_region_with (go_at_call 81; refine (viewDims_flip 15 x _ _ _ ds _ _ _ es _ _ _ ps _ _ _ lo _ _ _ hi _ _ _ st _ (HL0.out.below (HB1.out.drew)).1 (HE.out.below (HB1.out.drew)).1 (HP.out.below (HB1.out.drew)).1 (HLO.out.below (HB1.out.drew)).1 (HHI.out.below (HB1.out.drew)).1 (HST.out.below (HB1.out.drew)).1 HZD.out HL0.out.2.1 HE.out.2.1 (by decide)).mono ?_; rintro e w1 ⟨⟨Z, nz, cz, rfl, hi1, hnc⟩, hb⟩; have HI1 := hide hi1; have HB2 := hide (Below.on (HB1.out.drew) hb); clear hi1 hb)
  all_goals go_wp2
  all_goals go_ret2
  all_goals exact ⟨⟨_, _, _, rfl, HI1.out, hnc⟩, HB2.out⟩

set_option maxRecDepth 100000 in
set_option maxHeartbeats 2000000 in
theorem ruled_17 (x : Int) (ea : Option Addr) (el ec : Nat) (es : List Int) (pa : Option Addr) (pl pc : Nat) (ps : List Int) (la : Option Addr) (ll lc : Nat) (lo : List Int) (ha : Option Addr) (hl hc : Nat) (hi : List Int) (ta : Option Addr) (tl tc : Nat) (st : List Int) (A : Option Addr) (len cap : Nat) (xss : List (List Int)) (w : World)
    (he : Lst w ea el ec es) (hp : Lst w pa pl pc ps) (hlo : Lst w la ll lc lo) (hhi : Lst w ha hl hc hi) (hst : Lst w ta tl tc st) (h : Lsts w A len xss) (hcap : len ≤ cap) (hz : ∀ d ∈ xss, sizeE d = 0) (hn : 1 ≤ len) (hlen : len ≤ 1048576) (b0 : el ≤ 1048576) (b1 : pl ≤ 1048576) (b2 : ll ≤ 1048576) (b3 : hl ≤ 1048576) (b4 : tl ≤ 1048576) :
    Calls Tryz.prog 38 #[.agg #[.int .i64 17, .slice ea el ec, .slice pa pl pc, .slice la ll lc, .slice ha hl hc, .slice ta tl tc, .int .i64 x], .slice A len cap] w fun e w' => OutP e w' (joinP ps xss) ∧ Below w.heap.size w w' := by
  have zz := And.intro hcap (And.intro hlen (And.intro hn (And.intro b0 (And.intro b1 (And.intro b2 (And.intro b3 b4))))))
  clear zz
  have HE := hide he
  have HP := hide hp
  have HLO := hide hlo
  have HHI := hide hhi
  have HST := hide hst
  have H := hide h
  have HN := hide h.1
  have HZ := hide hz
  have HB1 := hide ((Below.refl w.heap.size w).alloc (Nat.le_refl _) (.cells #[.int .i64 17, .slice ea el ec, .slice pa pl pc, .slice la ll lc, .slice ha hl hc, .slice ta tl tc, .int .i64 x] 24))
  have HOP := hide (OpAt.new w 17 (.slice ea el ec) (.slice pa pl pc) (.slice la ll lc) (.slice ha hl hc) (.slice ta tl tc) x)
  obtain ⟨o0, o1, o2, o3, o4, o5, o6⟩ := HOP.out.cells
  obtain ⟨b, off, rfl, hc⟩ := h.at (by omega)
  obtain ⟨X0, m0, c0, hc0, hl0⟩ := hc 0 (by omega)
  have hc0' : w.cell? ⟨b, off, none⟩ = some (.slice X0 m0 c0) := hc0
  obtain ⟨ds, hds⟩ : ∃ ds, ds = xss[0]?.getD [] := ⟨_, rfl⟩
  rw [← hds] at hl0
  have HL0 := hide hl0
  have HC0 := hide hc0'
  have hzd : sizeE ds = 0 := by rw [hds]; exact hz _ (mem_getDL xss 0 (by rw [h.1]; omega))
  have HZD := hide hzd
  have h06 : m0 ≤ 6 := by have := (sizeE_ok hzd).1; have := hl0.1.1; omega
  have HD1 := hide (HL0.out.below HB1.out)
  have q0 := (HB1.out.cell (p := ⟨b, off, none⟩) (lt_of_cell hc0')).trans hc0'
  have i0 : (0 : Int) < (len : Int) := by omega
  clear h he hp hlo hhi hst hz hc hc0 hc0' hl0 hds hzd
  go_enter Tryz.func38, Tryz.ntmps38
  go_wp2_with (go_at_call 80; refine (rjoinDims_any _ _ _ _ _ _ _ _ _ ps _ _ _ xss _ (HP.out.below (HB1.out)) (H.out.below (HB1.out)) hcap hn hlen HZ.out).mono ?_; rintro e w1 ⟨⟨Z, nz, cz, rfl, hi1, hnc⟩, hb⟩; have HI1 := hide hi1; have HB2 := hide (Below.on (HB1.out) hb); clear hi1 hb)
  go_ret2
  all_goals exact ⟨⟨_, _, _, rfl, HI1.out, hnc⟩, HB2.out⟩
end Go.Proofs.YtoagnhppjlcpkaaGreat.V

/-
  Contract: adjointref2.ruled, by kind.
-/
namespace Go.Proofs.YtoagnhppjlcpkaaGreat.V
set_option maxRecDepth 20000
open Go.RowKit

set_option maxRecDepth 100000 in
set_option maxHeartbeats 2000000 in
theorem ruled_14 (x : Int) (ea : Option Addr) (el ec : Nat) (es : List Int) (pa : Option Addr) (pl pc : Nat) (ps : List Int) (la : Option Addr) (ll lc : Nat) (lo : List Int) (ha : Option Addr) (hl hc : Nat) (hi : List Int) (ta : Option Addr) (tl tc : Nat) (st : List Int) (A : Option Addr) (len cap : Nat) (xss : List (List Int)) (w : World)
    (he : Lst w ea el ec es) (hp : Lst w pa pl pc ps) (hlo : Lst w la ll lc lo) (hhi : Lst w ha hl hc hi) (hst : Lst w ta tl tc st) (h : Lsts w A len xss) (hcap : len ≤ cap) (hz : ∀ d ∈ xss, sizeE d = 0) (hn : len = 1) (hlen : len ≤ 1048576) (b0 : el ≤ 1048576) (b1 : pl ≤ 1048576) (b2 : ll ≤ 1048576) (b3 : hl ≤ 1048576) (b4 : tl ≤ 1048576) :
    Calls Tryz.prog 38 #[.agg #[.int .i64 14, .slice ea el ec, .slice pa pl pc, .slice la ll lc, .slice ha hl hc, .slice ta tl tc, .int .i64 x], .slice A len cap] w fun e w' => OutP e w' (padP (xss[0]?.getD []) lo hi st) ∧ Below w.heap.size w w' := by
  have zz := And.intro hcap (And.intro hlen (And.intro hn (And.intro b0 (And.intro b1 (And.intro b2 (And.intro b3 b4))))))
  clear zz
  have HE := hide he
  have HP := hide hp
  have HLO := hide hlo
  have HHI := hide hhi
  have HST := hide hst
  have H := hide h
  have HN := hide h.1
  have HZ := hide hz
  have HB1 := hide ((Below.refl w.heap.size w).alloc (Nat.le_refl _) (.cells #[.int .i64 14, .slice ea el ec, .slice pa pl pc, .slice la ll lc, .slice ha hl hc, .slice ta tl tc, .int .i64 x] 24))
  have HOP := hide (OpAt.new w 14 (.slice ea el ec) (.slice pa pl pc) (.slice la ll lc) (.slice ha hl hc) (.slice ta tl tc) x)
  obtain ⟨o0, o1, o2, o3, o4, o5, o6⟩ := HOP.out.cells
  obtain ⟨b, off, rfl, hc⟩ := h.at (by omega)
  obtain ⟨X0, m0, c0, hc0, hl0⟩ := hc 0 (by omega)
  have hc0' : w.cell? ⟨b, off, none⟩ = some (.slice X0 m0 c0) := hc0
  obtain ⟨ds, hds⟩ : ∃ ds, ds = xss[0]?.getD [] := ⟨_, rfl⟩
  rw [← hds] at hl0 ⊢
  have HL0 := hide hl0
  have HC0 := hide hc0'
  have hzd : sizeE ds = 0 := by rw [hds]; exact hz _ (mem_getDL xss 0 (by rw [h.1]; omega))
  have HZD := hide hzd
  have h06 : m0 ≤ 6 := by have := (sizeE_ok hzd).1; have := hl0.1.1; omega
  have HD1 := hide (HL0.out.below HB1.out)
  have q0 := (HB1.out.cell (p := ⟨b, off, none⟩) (lt_of_cell hc0')).trans hc0'
  have i0 : (0 : Int) < (len : Int) := by omega
  clear h he hp hlo hhi hst hz hc hc0 hc0' hl0 hds hzd
  go_enter Tryz.func38, Tryz.ntmps38
  go_wp2_with fail
  go_region_with (go_at_call 78; refine (rpadDims_any _ _ _ _ _ _ _ lo _ _ _ hi _ _ _ st _ _ _ ds _ (HLO.out.below (HB1.out.drew)).1 (HHI.out.below (HB1.out.drew)).1 (HST.out.below (HB1.out.drew)).1 (HL0.out.below (HB1.out.drew)).1 HZD.out).mono ?_; rintro e w1 ⟨⟨Z, nz, cz, rfl, hi1, hnc⟩, hb⟩; have HI1 := hide hi1; have HB2 := hide (Below.on (HB1.out.drew) hb); clear hi1 hb)
  all_goals go_wp2
  all_goals go_ret2
  all_goals exact ⟨⟨_, _, _, rfl, HI1.out, hnc⟩, HB2.out⟩

set_option maxRecDepth 100000 in
set_option maxHeartbeats 2000000 in
theorem ruled_16 (x : Int) (ea : Option Addr) (el ec : Nat) (es : List Int) (pa : Option Addr) (pl pc : Nat) (ps : List Int) (la : Option Addr) (ll lc : Nat) (lo : List Int) (ha : Option Addr) (hl hc : Nat) (hi : List Int) (ta : Option Addr) (tl tc : Nat) (st : List Int) (A : Option Addr) (len cap : Nat) (xss : List (List Int)) (w : World)
    (he : Lst w ea el ec es) (hp : Lst w pa pl pc ps) (hlo : Lst w la ll lc lo) (hhi : Lst w ha hl hc hi) (hst : Lst w ta tl tc st) (h : Lsts w A len xss) (hcap : len ≤ cap) (hz : ∀ d ∈ xss, sizeE d = 0) (hn : len = 2) (hlen : len ≤ 1048576) (b0 : el ≤ 1048576) (b1 : pl ≤ 1048576) (b2 : ll ≤ 1048576) (b3 : hl ≤ 1048576) (b4 : tl ≤ 1048576) :
    Calls Tryz.prog 38 #[.agg #[.int .i64 16, .slice ea el ec, .slice pa pl pc, .slice la ll lc, .slice ha hl hc, .slice ta tl tc, .int .i64 x], .slice A len cap] w fun e w' => OutP e w' (dotP ps st lo hi (xss[0]?.getD []) (xss[1]?.getD [])) ∧ Below w.heap.size w w' := by
  have zz := And.intro hcap (And.intro hlen (And.intro hn (And.intro b0 (And.intro b1 (And.intro b2 (And.intro b3 b4))))))
  clear zz
  have HE := hide he
  have HP := hide hp
  have HLO := hide hlo
  have HHI := hide hhi
  have HST := hide hst
  have H := hide h
  have HN := hide h.1
  have HZ := hide hz
  have HB1 := hide ((Below.refl w.heap.size w).alloc (Nat.le_refl _) (.cells #[.int .i64 16, .slice ea el ec, .slice pa pl pc, .slice la ll lc, .slice ha hl hc, .slice ta tl tc, .int .i64 x] 24))
  have HOP := hide (OpAt.new w 16 (.slice ea el ec) (.slice pa pl pc) (.slice la ll lc) (.slice ha hl hc) (.slice ta tl tc) x)
  obtain ⟨o0, o1, o2, o3, o4, o5, o6⟩ := HOP.out.cells
  obtain ⟨b, off, rfl, hc⟩ := h.at (by omega)
  obtain ⟨X0, m0, c0, hc0, hl0⟩ := hc 0 (by omega)
  have hc0' : w.cell? ⟨b, off, none⟩ = some (.slice X0 m0 c0) := hc0
  obtain ⟨ds, hds⟩ : ∃ ds, ds = xss[0]?.getD [] := ⟨_, rfl⟩
  rw [← hds] at hl0 ⊢
  have HL0 := hide hl0
  have HC0 := hide hc0'
  have hzd : sizeE ds = 0 := by rw [hds]; exact hz _ (mem_getDL xss 0 (by rw [h.1]; omega))
  have HZD := hide hzd
  have h06 : m0 ≤ 6 := by have := (sizeE_ok hzd).1; have := hl0.1.1; omega
  have HD1 := hide (HL0.out.below HB1.out)
  have q0 := (HB1.out.cell (p := ⟨b, off, none⟩) (lt_of_cell hc0')).trans hc0'
  have i0 : (0 : Int) < (len : Int) := by omega
  obtain ⟨X1, m1, c1, hc1, hl1⟩ := hc 1 (by omega)
  obtain ⟨ds1, hds1⟩ : ∃ ds1, ds1 = xss[1]?.getD [] := ⟨_, rfl⟩
  rw [← hds1] at hl1 ⊢
  have HL1 := hide hl1
  have hzd1 : sizeE ds1 = 0 := by rw [hds1]; exact hz _ (mem_getDL xss 1 (by rw [h.1]; omega))
  have h16 : m1 ≤ 6 := by have := (sizeE_ok hzd1).1; have := hl1.1.1; omega
  have q1 := (HB1.out.cell (p := ⟨b, off + 1, none⟩) (lt_of_cell hc1)).trans hc1
  have i1 : (1 : Int) < (len : Int) := by omega
  clear h he hp hlo hhi hst hz hc hc0 hc0' hl0 hds hzd hc1 hl1 hds1 hzd1
  go_enter Tryz.func38, Tryz.ntmps38
  go_wp2_with fail
  go_region_with (go_at_call 79; refine (rdotDims_any _ _ _ _ _ _ ps _ _ _ lo _ _ _ hi _ _ _ st _ _ _ ds _ _ _ ds1 _ (HP.out.below (HB1.out.drew)) (HLO.out.below (HB1.out.drew)) (HHI.out.below (HB1.out.drew)) (HST.out.below (HB1.out.drew)) (HL0.out.below (HB1.out.drew)).1 (HL1.out.below (HB1.out.drew)).1 h06 h16 b1 b2 b3 b4).mono ?_; rintro e w1 ⟨⟨Z, nz, cz, rfl, hi1, hnc⟩, hb⟩; have HI1 := hide hi1; have HB2 := hide (Below.on (HB1.out.drew) hb); clear hi1 hb)
  all_goals go_wp2
  all_goals go_ret2
  all_goals exact ⟨⟨_, _, _, rfl, HI1.out, hnc⟩, HB2.out⟩
end Go.Proofs.YtoagnhppjlcpkaaGreat.V

/-
  Contract: adjointref2.ruled, by kind.
-/
namespace Go.Proofs.YtoagnhppjlcpkaaGreat.V
set_option maxRecDepth 20000
open Go.RowKit

set_option maxRecDepth 100000 in
set_option maxHeartbeats 2000000 in
theorem ruled_12 (x : Int) (ea : Option Addr) (el ec : Nat) (es : List Int) (pa : Option Addr) (pl pc : Nat) (ps : List Int) (la : Option Addr) (ll lc : Nat) (lo : List Int) (ha : Option Addr) (hl hc : Nat) (hi : List Int) (ta : Option Addr) (tl tc : Nat) (st : List Int) (A : Option Addr) (len cap : Nat) (xss : List (List Int)) (w : World)
    (he : Lst w ea el ec es) (hp : Lst w pa pl pc ps) (hlo : Lst w la ll lc lo) (hhi : Lst w ha hl hc hi) (hst : Lst w ta tl tc st) (h : Lsts w A len xss) (hcap : len ≤ cap) (hz : ∀ d ∈ xss, sizeE d = 0) (hn : len = 1) (hlen : len ≤ 1048576) (b0 : el ≤ 1048576) (b1 : pl ≤ 1048576) (b2 : ll ≤ 1048576) (b3 : hl ≤ 1048576) (b4 : tl ≤ 1048576) :
    Calls Tryz.prog 38 #[.agg #[.int .i64 12, .slice ea el ec, .slice pa pl pc, .slice la ll lc, .slice ha hl hc, .slice ta tl tc, .int .i64 x], .slice A len cap] w fun e w' => OutP e w' (reformP (xss[0]?.getD []) es) ∧ Below w.heap.size w w' := by
  have zz := And.intro hcap (And.intro hlen (And.intro hn (And.intro b0 (And.intro b1 (And.intro b2 (And.intro b3 b4))))))
  clear zz
  have HE := hide he
  have HP := hide hp
  have HLO := hide hlo
  have HHI := hide hhi
  have HST := hide hst
  have H := hide h
  have HN := hide h.1
  have HZ := hide hz
  have HB1 := hide ((Below.refl w.heap.size w).alloc (Nat.le_refl _) (.cells #[.int .i64 12, .slice ea el ec, .slice pa pl pc, .slice la ll lc, .slice ha hl hc, .slice ta tl tc, .int .i64 x] 24))
  have HOP := hide (OpAt.new w 12 (.slice ea el ec) (.slice pa pl pc) (.slice la ll lc) (.slice ha hl hc) (.slice ta tl tc) x)
  obtain ⟨o0, o1, o2, o3, o4, o5, o6⟩ := HOP.out.cells
  obtain ⟨b, off, rfl, hc⟩ := h.at (by omega)
  obtain ⟨X0, m0, c0, hc0, hl0⟩ := hc 0 (by omega)
  have hc0' : w.cell? ⟨b, off, none⟩ = some (.slice X0 m0 c0) := hc0
  obtain ⟨ds, hds⟩ : ∃ ds, ds = xss[0]?.getD [] := ⟨_, rfl⟩
  rw [← hds] at hl0 ⊢
  have HL0 := hide hl0
  have HC0 := hide hc0'
  have hzd : sizeE ds = 0 := by rw [hds]; exact hz _ (mem_getDL xss 0 (by rw [h.1]; omega))
  have HZD := hide hzd
  have h06 : m0 ≤ 6 := by have := (sizeE_ok hzd).1; have := hl0.1.1; omega
  have HD1 := hide (HL0.out.below HB1.out)
  have q0 := (HB1.out.cell (p := ⟨b, off, none⟩) (lt_of_cell hc0')).trans hc0'
  have i0 : (0 : Int) < (len : Int) := by omega
  clear h he hp hlo hhi hst hz hc hc0 hc0' hl0 hds hzd
  have HRP := hide (show reformP ds es = if sizeE es ≠ 0 then ([], sizeE es) else if sizeN es = sizeN ds then (es, 0) else ([], 6) from rfl)
  obtain ⟨E, hE⟩ : ∃ E, E = sizeE es := ⟨_, rfl⟩
  obtain ⟨N, hN⟩ : ∃ N, N = sizeN es := ⟨_, rfl⟩
  obtain ⟨M, hM⟩ : ∃ M, M = sizeN ds := ⟨_, rfl⟩
  have HEE := hide hE
  have HNN := hide hN
  have HMM := hide hM
  by_cases c1 : E = 0
  case neg =>
    have q : (E != 0) = true := by simp [c1]
    have hp : reformP ds es = ([], E) := by rw [HRP.out, ← hE, if_pos c1]
    rw [hp]
    clear hp hE hN hM c1
    go_enter Tryz.func38, Tryz.ntmps38
    go_wp2_with (go_at_call 37; refine (rsize_any _ _ _ es _ (HE.out.below HB1.out).1).mono ?_; rintro e w' ⟨rfl, hw'⟩; obtain rfl := hw'.symm; rw [← HEE.out, ← HNN.out])
    go_ret2
    exact ⟨outP_none _ _, HB1.out⟩
  subst c1
  by_cases c2 : N = M
  · have hp : reformP ds es = (es, 0) := by rw [HRP.out, ← hE, if_neg (by simp), if_pos (by rw [← hN, ← hM]; exact c2)]
    rw [hp]
    subst c2
    clear hp hE hN hM
    go_enter Tryz.func38, Tryz.ntmps38
    go_wp2_with (first
      | (go_at_call_of 37 (Value.slice ea el ec); refine (rsize_any _ _ _ es _ (HE.out.below HB1.out).1).mono ?_; rintro e w' ⟨rfl, hw'⟩; obtain rfl := hw'.symm; rw [← HEE.out, ← HNN.out])
      | (go_at_call 37; refine (rsize_any _ _ _ ds _ (HL0.out.below HB1.out).1).mono ?_; rintro e w' ⟨rfl, hw'⟩; obtain rfl := hw'.symm; rw [← HMM.out]))
    go_ret2
    exact ⟨outP_lst (HE.out.below HB1.out) 0, HB1.out⟩
  · have hp : reformP ds es = ([], 6) := by rw [HRP.out, ← hE, if_neg (by simp), if_neg (by rw [← hN, ← hM]; exact c2)]
    rw [hp]
    have q : (M != N) = true := by simp; exact fun h => c2 h.symm
    clear hp hE hN hM c2
    go_enter Tryz.func38, Tryz.ntmps38
    go_wp2_with (first
      | (go_at_call_of 37 (Value.slice ea el ec); refine (rsize_any _ _ _ es _ (HE.out.below HB1.out).1).mono ?_; rintro e w' ⟨rfl, hw'⟩; obtain rfl := hw'.symm; rw [← HEE.out, ← HNN.out])
      | (go_at_call 37; refine (rsize_any _ _ _ ds _ (HL0.out.below HB1.out).1).mono ?_; rintro e w' ⟨rfl, hw'⟩; obtain rfl := hw'.symm; rw [← HMM.out]))
    go_ret2
    exact ⟨outP_none _ _, HB1.out⟩
end Go.Proofs.YtoagnhppjlcpkaaGreat.V

/-
  Contract: adjointref2.ruled, by kind.
-/
namespace Go.Proofs.YtoagnhppjlcpkaaGreat.V
set_option maxRecDepth 20000
open Go.RowKit

set_option maxRecDepth 100000 in
set_option maxHeartbeats 2000000 in
theorem ruled_18 (x : Int) (ea : Option Addr) (el ec : Nat) (es : List Int) (pa : Option Addr) (pl pc : Nat) (ps : List Int) (la : Option Addr) (ll lc : Nat) (lo : List Int) (ha : Option Addr) (hl hc : Nat) (hi : List Int) (ta : Option Addr) (tl tc : Nat) (st : List Int) (A : Option Addr) (len cap : Nat) (xss : List (List Int)) (w : World)
    (he : Lst w ea el ec es) (hp : Lst w pa pl pc ps) (hlo : Lst w la ll lc lo) (hhi : Lst w ha hl hc hi) (hst : Lst w ta tl tc st) (h : Lsts w A len xss) (hcap : len ≤ cap) (hz : ∀ d ∈ xss, sizeE d = 0) (hn : len = 2) (hlen : len ≤ 1048576) (b0 : el ≤ 1048576) (b1 : pl ≤ 1048576) (b2 : ll ≤ 1048576) (b3 : hl ≤ 1048576) (b4 : tl ≤ 1048576) :
    Calls Tryz.prog 38 #[.agg #[.int .i64 18, .slice ea el ec, .slice pa pl pc, .slice la ll lc, .slice ha hl hc, .slice ta tl tc, .int .i64 x], .slice A len cap] w fun e w' => OutP e w' (takeP (xss[0]?.getD []) (xss[1]?.getD [])) ∧ Below w.heap.size w w' := by
  have zz := And.intro hcap (And.intro hlen (And.intro hn (And.intro b0 (And.intro b1 (And.intro b2 (And.intro b3 b4))))))
  clear zz
  have HE := hide he
  have HP := hide hp
  have HLO := hide hlo
  have HHI := hide hhi
  have HST := hide hst
  have H := hide h
  have HN := hide h.1
  have HZ := hide hz
  have HB1 := hide ((Below.refl w.heap.size w).alloc (Nat.le_refl _) (.cells #[.int .i64 18, .slice ea el ec, .slice pa pl pc, .slice la ll lc, .slice ha hl hc, .slice ta tl tc, .int .i64 x] 24))
  have HOP := hide (OpAt.new w 18 (.slice ea el ec) (.slice pa pl pc) (.slice la ll lc) (.slice ha hl hc) (.slice ta tl tc) x)
  obtain ⟨o0, o1, o2, o3, o4, o5, o6⟩ := HOP.out.cells
  obtain ⟨b, off, rfl, hc⟩ := h.at (by omega)
  obtain ⟨X0, m0, c0, hc0, hl0⟩ := hc 0 (by omega)
  have hc0' : w.cell? ⟨b, off, none⟩ = some (.slice X0 m0 c0) := hc0
  obtain ⟨ds, hds⟩ : ∃ ds, ds = xss[0]?.getD [] := ⟨_, rfl⟩
  rw [← hds] at hl0 ⊢
  have HL0 := hide hl0
  have HC0 := hide hc0'
  have hzd : sizeE ds = 0 := by rw [hds]; exact hz _ (mem_getDL xss 0 (by rw [h.1]; omega))
  have HZD := hide hzd
  have h06 : m0 ≤ 6 := by have := (sizeE_ok hzd).1; have := hl0.1.1; omega
  have HD1 := hide (HL0.out.below HB1.out)
  have q0 := (HB1.out.cell (p := ⟨b, off, none⟩) (lt_of_cell hc0')).trans hc0'
  have i0 : (0 : Int) < (len : Int) := by omega
  obtain ⟨X1, m1, c1, hc1, hl1⟩ := hc 1 (by omega)
  obtain ⟨ds1, hds1⟩ : ∃ ds1, ds1 = xss[1]?.getD [] := ⟨_, rfl⟩
  rw [← hds1] at hl1 ⊢
  have HL1 := hide hl1
  have hzd1 : sizeE ds1 = 0 := by rw [hds1]; exact hz _ (mem_getDL xss 1 (by rw [h.1]; omega))
  have h16 : m1 ≤ 6 := by have := (sizeE_ok hzd1).1; have := hl1.1.1; omega
  have q1 := (HB1.out.cell (p := ⟨b, off + 1, none⟩) (lt_of_cell hc1)).trans hc1
  have i1 : (1 : Int) < (len : Int) := by omega
  clear h he hp hlo hhi hst hz hc hc0 hc0' hl0 hds hzd hc1 hl1 hds1 hzd1
  have HLN := hide HL0.out.1.1
  by_cases c : m0 = 0
  · have hp : takeP ds ds1 = ([], 6) := by unfold takeP; rw [if_pos (by rw [HLN.out]; exact c)]
    rw [hp]
    have q : ((m0 : Int) == 0) = true := by simp [c]
    clear hp c
    go_enter Tryz.func38, Tryz.ntmps38
    go_wp2
    go_ret2
    exact ⟨outP_none _ _, HB1.out⟩
  have hp : takeP ds ds1 = (ds1 ++ ds.drop 1, 0) := by unfold takeP; rw [if_neg (by rw [HLN.out]; exact c)]
  rw [hp]
  have q : ((m0 : Int) == 0) = false := by simp; omega
  have hl1 : 1 ≤ m0 := by omega
  have hcp := HL0.out.2.1
  obtain ⟨b0', off0, rfl, hb0, hc0⟩ := HL0.out.1.at (by omega)
  clear hp c hc0
  by_cases cc : c0 = 1
  · subst cc
    have HDR : Hid (Lst w (some ⟨b0', off0, none⟩) 0 0 (ds.drop 1)) := by
      rw [List.drop_eq_nil_of_le (by rw [HLN.out]; omega)]; exact lst_empty w _ _
    go_enter Tryz.func38, Tryz.ntmps38
    go_wp2_with fail
    go_region_with (go_at_call 47; refine (both_any _ _ _ ds1 _ _ _ (ds.drop 1) _ (HL1.out.below HB1.out.drew) (HDR.out.below HB1.out.drew) (by omega)).mono ?_; rintro e w1 ⟨⟨v1, rfl, hv⟩, hb⟩; have HV := hide hv; have HB2 := hide (Below.on HB1.out.drew hb); clear hv hb)
    all_goals go_wp2
    all_goals go_ret2
    all_goals exact ⟨outP_new HV.out 0, HB2.out⟩
  · have HDR := hide (lst_drop HL0.out 1 (by omega))
    go_enter Tryz.func38, Tryz.ntmps38
    go_wp2_with fail
    go_region_with (go_at_call 47; refine (both_any _ _ _ ds1 _ _ _ (ds.drop 1) _ (HL1.out.below HB1.out.drew) (HDR.out.below HB1.out.drew) (by omega)).mono ?_; rintro e w1 ⟨⟨v1, rfl, hv⟩, hb⟩; have HV := hide hv; have HB2 := hide (Below.on HB1.out.drew hb); clear hv hb)
    all_goals go_wp2
    all_goals go_ret2
    all_goals exact ⟨outP_new HV.out 0, HB2.out⟩
end Go.Proofs.YtoagnhppjlcpkaaGreat.V

/-
  Contract: adjointref2.ruled, by kind.
-/
namespace Go.Proofs.YtoagnhppjlcpkaaGreat.V
set_option maxRecDepth 20000
open Go.RowKit

set_option maxRecDepth 100000 in
set_option maxHeartbeats 2000000 in
theorem ruled_10 (x : Int) (ea : Option Addr) (el ec : Nat) (es : List Int) (pa : Option Addr) (pl pc : Nat) (ps : List Int) (la : Option Addr) (ll lc : Nat) (lo : List Int) (ha : Option Addr) (hl hc : Nat) (hi : List Int) (ta : Option Addr) (tl tc : Nat) (st : List Int) (A : Option Addr) (len cap : Nat) (xss : List (List Int)) (w : World)
    (he : Lst w ea el ec es) (hp : Lst w pa pl pc ps) (hlo : Lst w la ll lc lo) (hhi : Lst w ha hl hc hi) (hst : Lst w ta tl tc st) (h : Lsts w A len xss) (hcap : len ≤ cap) (hz : ∀ d ∈ xss, sizeE d = 0) (hn : len = 1) (hlen : len ≤ 1048576) (b0 : el ≤ 1048576) (b1 : pl ≤ 1048576) (b2 : ll ≤ 1048576) (b3 : hl ≤ 1048576) (b4 : tl ≤ 1048576) :
    Calls Tryz.prog 38 #[.agg #[.int .i64 10, .slice ea el ec, .slice pa pl pc, .slice la ll lc, .slice ha hl hc, .slice ta tl tc, .int .i64 x], .slice A len cap] w fun e w' => OutP e w' (sumP (xss[0]?.getD []) ps) ∧ Below w.heap.size w w' := by
  have zz := And.intro hcap (And.intro hlen (And.intro hn (And.intro b0 (And.intro b1 (And.intro b2 (And.intro b3 b4))))))
  clear zz
  have HE := hide he
  have HP := hide hp
  have HLO := hide hlo
  have HHI := hide hhi
  have HST := hide hst
  have H := hide h
  have HN := hide h.1
  have HZ := hide hz
  have HB1 := hide ((Below.refl w.heap.size w).alloc (Nat.le_refl _) (.cells #[.int .i64 10, .slice ea el ec, .slice pa pl pc, .slice la ll lc, .slice ha hl hc, .slice ta tl tc, .int .i64 x] 24))
  have HOP := hide (OpAt.new w 10 (.slice ea el ec) (.slice pa pl pc) (.slice la ll lc) (.slice ha hl hc) (.slice ta tl tc) x)
  obtain ⟨o0, o1, o2, o3, o4, o5, o6⟩ := HOP.out.cells
  obtain ⟨b, off, rfl, hc⟩ := h.at (by omega)
  obtain ⟨X0, m0, c0, hc0, hl0⟩ := hc 0 (by omega)
  have hc0' : w.cell? ⟨b, off, none⟩ = some (.slice X0 m0 c0) := hc0
  obtain ⟨ds, hds⟩ : ∃ ds, ds = xss[0]?.getD [] := ⟨_, rfl⟩
  rw [← hds] at hl0 ⊢
  have HL0 := hide hl0
  have HC0 := hide hc0'
  have hzd : sizeE ds = 0 := by rw [hds]; exact hz _ (mem_getDL xss 0 (by rw [h.1]; omega))
  have HZD := hide hzd
  have h06 : m0 ≤ 6 := by have := (sizeE_ok hzd).1; have := hl0.1.1; omega
  have HD1 := hide (HL0.out.below HB1.out)
  have q0 := (HB1.out.cell (p := ⟨b, off, none⟩) (lt_of_cell hc0')).trans hc0'
  have i0 : (0 : Int) < (len : Int) := by omega
  clear h he hp hlo hhi hst hz hc hc0 hc0' hl0 hds hzd
  have HLN := hide HL0.out.1.1
  have HRQ : Hid (∀ (B : Bool), (B = true ↔ RiseOk ps m0) → ∀ W, Below w.heap.size w W → Calls Tryz.prog 77 #[.slice pa pl pc, .int .i64 m0] W fun e w' => e = .returned (.bool B) ∧ w' = W) := fun B hB W hW => by
    refine (rrising_any pa pl pc ps m0 W (HP.out.below hW).1 h06).mono ?_
    rintro e w' ⟨⟨r, rfl, hr⟩, rfl⟩
    have : r = B := by
      cases r <;> cases B <;> simp_all
    rw [this]; exact ⟨rfl, rfl⟩
  cases c : riseB ps ds.length with
  | false =>
    have hp : sumP ds ps = ([], 6) := by unfold sumP; rw [if_neg (by simp [c])]
    rw [hp]
    have hbf : (false = true) ↔ RiseOk ps m0 := by rw [← HLN.out, ← riseB_iff, c]
    have HRC := hide (HRQ.out false hbf)
    clear hbf HRQ
    clear hp c
    go_enter Tryz.func38, Tryz.ntmps38
    go_wp2_with fail
    go_quiet ((go_at_call 77; exact Calls.quiet_of_same (HRC.out _ (Below.on HB1.out (below_drewN _ _)))))
    go_wp2
    go_ret2
    exact ⟨outP_none _ _, Below.on HB1.out (below_drewN _ _)⟩
  | true =>
    have hp : sumP ds ps = (taken ds (freeL ps m0), 0) := by unfold sumP; rw [if_pos c, HLN.out]
    rw [hp]
    have hbt : (true = true) ↔ RiseOk ps m0 := by rw [← HLN.out, ← riseB_iff, c]
    have HRC := hide (HRQ.out true hbt)
    clear hbt HRQ
    clear hp c
    go_enter Tryz.func38, Tryz.ntmps38
    go_wp2_with fail
    go_quiet ((go_at_call 77; exact Calls.quiet_of_same (HRC.out _ (Below.on HB1.out (below_drewN _ _)))))
    go_wp2_with fail
    have HBN := hide (Below.on HB1.out (below_drewN _ nq))
    have s0 := (HBN.out.cell (p := ⟨b, off, none⟩) (lt_of_cell HC0.out)).trans HC0.out
    have s1 := (HOP.out.below (below_drewN _ nq)).cells.2.2.1
    generalize hWN : (w.alloc (.cells #[.int .i64 10, .slice ea el ec, .slice pa pl pc, .slice la ll lc, .slice ha hl hc, .slice ta tl tc, .int .i64 x] 24)).drewN nq = WN at HBN s0 s1 ⊢
    clear hWN
    go_region_held3 (fun w' => w'.cell? ⟨b, off, none⟩ = some (.slice X0 m0 c0) ∧ w'.cell? ⟨w.heap.size, 2, none⟩ = some (.slice pa pl pc)) (refine ⟨?_, ?_⟩ <;> with_reducible (repeat (first | assumption | apply drew_cell))) ((first | (go_at_call 40; refine (free_any _ _ _ ds _ _ _ ps _ (HL0.out.below HBN.out.drew).1 (HP.out.below HBN.out.drew).1 h06).mono ?_; rintro e w1 ⟨⟨v1, rfl, X1, n1, d1, rfl, hl1, _⟩, hb⟩; have HLF := hide hl1; have HB2 := hide (Below.on HBN.out.drew hb); have s10 := (hb.cell (p := ⟨b, off, none⟩) (lt_of_cell (drew_cell s0))).trans (drew_cell s0); have s11 := (hb.cell (p := ⟨w.heap.size, 2, none⟩) (lt_of_cell (drew_cell s1))).trans (drew_cell s1); have hn1 : n1 ≤ 6 := by { have := hl1.1.1; have := freeL_len ps m0; omega }; clear hl1 hb) | (go_at_call 41; refine (chosen_any _ _ _ ds _ _ _ (freeL ps m0) _ (HL0.out.below HB2.out).1 HLF.out.1 (fun y hy => freeL_bd ps m0 y hy) hn1).mono ?_; rintro e w2 ⟨⟨v2, rfl, hv⟩, hb⟩; have HV := hide hv; have HB3 := hide (Below.on HB2.out hb); have s20 := (hb.cell (p := ⟨b, off, none⟩) (lt_of_cell s10)).trans s10; have s21 := (hb.cell (p := ⟨w.heap.size, 2, none⟩) (lt_of_cell s11)).trans s11; clear hv hb)))
    all_goals go_wp2
    all_goals go_ret2
    all_goals exact ⟨outP_new HV.out 0, HB3.out⟩
end Go.Proofs.YtoagnhppjlcpkaaGreat.V

/-
  Contract: adjointref2.ruled, by kind.
-/
namespace Go.Proofs.YtoagnhppjlcpkaaGreat.V
set_option maxRecDepth 20000
open Go.RowKit

set_option maxRecDepth 100000 in
set_option maxHeartbeats 2000000 in
theorem ruled_19 (x : Int) (ea : Option Addr) (el ec : Nat) (es : List Int) (pa : Option Addr) (pl pc : Nat) (ps : List Int) (la : Option Addr) (ll lc : Nat) (lo : List Int) (ha : Option Addr) (hl hc : Nat) (hi : List Int) (ta : Option Addr) (tl tc : Nat) (st : List Int) (A : Option Addr) (len cap : Nat) (xss : List (List Int)) (w : World)
    (he : Lst w ea el ec es) (hp : Lst w pa pl pc ps) (hlo : Lst w la ll lc lo) (hhi : Lst w ha hl hc hi) (hst : Lst w ta tl tc st) (h : Lsts w A len xss) (hcap : len ≤ cap) (hz : ∀ d ∈ xss, sizeE d = 0) (hn : len = 2) (hlen : len ≤ 1048576) (b0 : el ≤ 1048576) (b1 : pl ≤ 1048576) (b2 : ll ≤ 1048576) (b3 : hl ≤ 1048576) (b4 : tl ≤ 1048576) :
    Calls Tryz.prog 38 #[.agg #[.int .i64 19, .slice ea el ec, .slice pa pl pc, .slice la ll lc, .slice ha hl hc, .slice ta tl tc, .int .i64 x], .slice A len cap] w fun e w' => OutP e w' (putP es (xss[0]?.getD []) (xss[1]?.getD [])) ∧ Below w.heap.size w w' := by
  have zz := And.intro hcap (And.intro hlen (And.intro hn (And.intro b0 (And.intro b1 (And.intro b2 (And.intro b3 b4))))))
  clear zz
  have HE := hide he
  have HP := hide hp
  have HLO := hide hlo
  have HHI := hide hhi
  have HST := hide hst
  have H := hide h
  have HN := hide h.1
  have HZ := hide hz
  have HB1 := hide ((Below.refl w.heap.size w).alloc (Nat.le_refl _) (.cells #[.int .i64 19, .slice ea el ec, .slice pa pl pc, .slice la ll lc, .slice ha hl hc, .slice ta tl tc, .int .i64 x] 24))
  have HOP := hide (OpAt.new w 19 (.slice ea el ec) (.slice pa pl pc) (.slice la ll lc) (.slice ha hl hc) (.slice ta tl tc) x)
  obtain ⟨o0, o1, o2, o3, o4, o5, o6⟩ := HOP.out.cells
  obtain ⟨b, off, rfl, hc⟩ := h.at (by omega)
  obtain ⟨X0, m0, c0, hc0, hl0⟩ := hc 0 (by omega)
  have hc0' : w.cell? ⟨b, off, none⟩ = some (.slice X0 m0 c0) := hc0
  obtain ⟨ds, hds⟩ : ∃ ds, ds = xss[0]?.getD [] := ⟨_, rfl⟩
  rw [← hds] at hl0 ⊢
  have HL0 := hide hl0
  have HC0 := hide hc0'
  have hzd : sizeE ds = 0 := by rw [hds]; exact hz _ (mem_getDL xss 0 (by rw [h.1]; omega))
  have HZD := hide hzd
  have h06 : m0 ≤ 6 := by have := (sizeE_ok hzd).1; have := hl0.1.1; omega
  have HD1 := hide (HL0.out.below HB1.out)
  have q0 := (HB1.out.cell (p := ⟨b, off, none⟩) (lt_of_cell hc0')).trans hc0'
  have i0 : (0 : Int) < (len : Int) := by omega
  obtain ⟨X1, m1, c1, hc1, hl1⟩ := hc 1 (by omega)
  obtain ⟨ds1, hds1⟩ : ∃ ds1, ds1 = xss[1]?.getD [] := ⟨_, rfl⟩
  rw [← hds1] at hl1 ⊢
  have HL1 := hide hl1
  have HCC : Hid (w.cell? ⟨b, off + 1, none⟩ = some (.slice X1 m1 c1)) := hc1
  have hzd1 : sizeE ds1 = 0 := by rw [hds1]; exact hz _ (mem_getDL xss 1 (by rw [h.1]; omega))
  have h16 : m1 ≤ 6 := by have := (sizeE_ok hzd1).1; have := hl1.1.1; omega
  have q1 := (HB1.out.cell (p := ⟨b, off + 1, none⟩) (lt_of_cell hc1)).trans hc1
  have i1 : (1 : Int) < (len : Int) := by omega
  clear h he hp hlo hhi hst hz hc hc0 hc0' hl0 hds hzd hc1 hl1 hds1 hzd1
  have HN0 := hide HL0.out.1.1
  have HN1 := hide HL1.out.1.1
  have HNE := hide HE.out.1.1
  by_cases c1 : el = 1
  case neg =>
    have hp : putP es ds ds1 = ([], 6) := by unfold putP; rw [if_pos (by rw [HNE.out]; exact c1)]
    rw [hp]
    have q : ((el : Int) != 1) = true := by simp; omega
    clear hp c1
    go_enter Tryz.func38, Tryz.ntmps38
    go_wp2_with fail
    go_quiet (fail)
    go_wp2
    go_ret2
    exact ⟨outP_none _ _, Below.on HB1.out (below_drewN _ _)⟩
  subst c1
  by_cases c2 : m0 < m1
  · have hp : putP es ds ds1 = ([], 6) := by unfold putP; rw [if_neg (by rw [HNE.out]; simp), if_pos (by rw [HN0.out, HN1.out]; exact c2)]
    rw [hp]
    have q : decide (m0 < m1) = true := decide_eq_true c2
    have q' : decide ((m0 : Int) < (m1 : Int)) = true := decide_eq_true (by omega)
    clear hp
    go_enter Tryz.func38, Tryz.ntmps38
    go_wp2_with fail
    go_quiet (fail)
    go_wp2
    go_ret2
    exact ⟨outP_none _ _, Below.on HB1.out (below_drewN _ _)⟩
  have q2 : decide (m0 < m1) = false := decide_eq_false c2
  have q2' : decide ((m0 : Int) < (m1 : Int)) = false := decide_eq_false (by omega)
  have hcap0 := HL0.out.2.1
  have HT := hide (lst_take HL0.out m1 (by omega))
  have HSL : Hid (∀ n c1 c2, Calls Tryz.prog 13 #[.slice X0 m1 c1, .slice X1 m1 c2] ((w.alloc (.cells #[.int .i64 19, .slice ea 1 ec, .slice pa pl pc, .slice la ll lc, .slice ha hl hc, .slice ta tl tc, .int .i64 x] 24)).drewN n) fun e w' => e = .returned (.bool (decide (ds.take m1 = ds1))) ∧ ∃ k, w' = ((w.alloc (.cells #[.int .i64 19, .slice ea 1 ec, .slice pa pl pc, .slice la ll lc, .slice ha hl hc, .slice ta tl tc, .int .i64 x] 24)).drewN n).drewN k) := fun n c1 c2 => sameList_any _ _ _ (ds.take m1) _ _ _ ds1 _ (HT.out.1.below (Below.on HB1.out (below_drewN _ n))) (HL1.out.1.below (Below.on HB1.out (below_drewN _ n)))
  have HPF : Hid (¬ ds.take m1 = ds1 → putP es ds ds1 = ([], 6)) := fun c3 => by unfold putP; rw [if_neg (by rw [HNE.out]; simp), if_neg (by rw [HN0.out, HN1.out]; exact c2), if_neg (by rw [HN1.out]; exact c3)]
  have HPT : Hid (ds.take m1 = ds1 → putP es ds ds1 = (es ++ ds.drop m1, 0)) := fun c3 => by unfold putP; rw [if_neg (by rw [HNE.out]; simp), if_neg (by rw [HN0.out, HN1.out]; exact c2), if_pos (by rw [HN1.out]; exact c3), HN1.out]
  obtain ⟨B, hBB⟩ : ∃ B, B = decide (ds.take m1 = ds1) := ⟨_, rfl⟩
  rw [← hBB] at HSL
  have HBB := hide hBB
  have hle : m1 ≤ m0 := by omega
  clear hBB c2
  go_enter Tryz.func38, Tryz.ntmps38
  go_wp2_with fail
  go_cut [158] (fun t wc => t = .bool (!B) ∧ Below (w.heap.size + 1) (w.alloc (.cells #[.int .i64 19, .slice ea 1 ec, .slice pa pl pc, .slice la ll lc, .slice ha hl hc, .slice ta tl tc, .int .i64 x] 24)) wc)
  case first =>
    go_quiet ((go_at_call 13; exact Calls.quiet_of (HSL.out _ _ _)))
    go_wp2
    go_meet
    exact ⟨rfl, below_drewN _ _⟩
  case rest =>
    obtain ⟨rfl, hW⟩ := hcut
    have hW' : Below (w.alloc (.cells #[.int .i64 19, .slice ea 1 ec, .slice pa pl pc, .slice la ll lc, .slice ha hl hc, .slice ta tl tc, .int .i64 x] 24)).heap.size (w.alloc (.cells #[.int .i64 19, .slice ea 1 ec, .slice pa pl pc, .slice la ll lc, .slice ha hl hc, .slice ta tl tc, .int .i64 x] 24)) wc := by simpa using hW
    have HBC := hide (Below.on HB1.out hW')
    have HOC := hide (HOP.out.below hW')
    clear hW hW' o0 o1 o2 o3 o4 o5 o6 q0 q1
    obtain ⟨o0, o1, o2, o3, o4, o5, o6⟩ := HOC.out.cells
    have q0 := (HBC.out.cell (p := ⟨b, off, none⟩) (lt_of_cell HC0.out)).trans HC0.out
    have q1 := (HBC.out.cell (p := ⟨b, off + 1, none⟩) (lt_of_cell HCC.out)).trans HCC.out
    clear q2 q2' HSL HT
    cases B with
    | false =>
      go_wp2
      go_ret2
      rw [HPF.out (of_decide_eq_false HBB.out.symm)]
      exact ⟨outP_none _ _, HBC.out⟩
    | true =>
      have HPP := hide (HPT.out (of_decide_eq_true HBB.out.symm))
      clear HPF HPT HBB
      cases X0 with
      | none =>
        obtain rfl : m0 = 0 := by
          rcases HL0.out.1.2.2.2 with e | ⟨_, _, e, _⟩
          · exact e
          · cases e
        obtain rfl : c0 = 0 := HL0.out.2.2 rfl
        obtain rfl : m1 = 0 := by omega
        have HL : Hid (Lst w none 0 0 (ds.drop 0)) := by rw [Hid, List.drop_zero]; exact HL0.out
        go_wp2_with fail
        have j1 : (0 : Int) ≤ (0 : Int) := Int.natCast_nonneg _
        have j2 : (0 : Int) ≤ (0 : Int) := by omega
        have j3 : (0 : Int) ≤ (0 : Int) := by omega
        go_region_held3 (fun w' => w'.cell? ⟨b, off, none⟩ = some (.slice none 0 0) ∧ w'.cell? ⟨b, off + 1, none⟩ = some (.slice X1 0 c1) ∧ w'.cell? ⟨w.heap.size, 1, none⟩ = some (.slice ea 1 ec)) (refine ⟨?_, ?_, ?_⟩ <;> with_reducible (repeat (first | assumption | apply drew_cell))) ((first | (go_at_call 47; refine (both_any _ _ _ es _ _ _ _ _ (HE.out.below HBC.out.drew) (HL.out.below HBC.out.drew) (by omega)).mono ?_; rintro e w1 ⟨⟨v1, rfl, hv⟩, hb⟩; have HV := hide hv; have HB2 := hide (Below.on HBC.out.drew hb); have s0 := (hb.cell (p := ⟨b, off, none⟩) (lt_of_cell (drew_cell q0))).trans (drew_cell q0); have s1 := (hb.cell (p := ⟨b, off + 1, none⟩) (lt_of_cell (drew_cell q1))).trans (drew_cell q1); have s2 := (hb.cell (p := ⟨w.heap.size, 1, none⟩) (lt_of_cell (drew_cell o1))).trans (drew_cell o1); clear hv hb)))
        all_goals go_wp2
        all_goals go_ret2
        all_goals rw [HPP.out]
        all_goals exact ⟨outP_new HV.out 0, HB2.out⟩
      | some p0 =>
      by_cases cc : c0 = m1
      · obtain rfl := cc.symm
        obtain rfl : m0 = m1 := by omega
        have HL : Hid (Lst w (some p0) 0 0 (ds.drop m0)) := by
          rw [List.drop_eq_nil_of_le (by rw [HN0.out]; exact Nat.le_refl _)]; exact lst_empty w _ _
        go_wp2_with fail
        have j1 : (0 : Int) ≤ (m0 : Int) := Int.natCast_nonneg _
        have j2 : (m0 : Int) ≤ (m0 : Int) := by omega
        have j3 : (m0 : Int) ≤ (m0 : Int) := by omega
        go_region_held3 (fun w' => w'.cell? ⟨b, off, none⟩ = some (.slice (some p0) m0 m0) ∧ w'.cell? ⟨b, off + 1, none⟩ = some (.slice X1 m0 c1) ∧ w'.cell? ⟨w.heap.size, 1, none⟩ = some (.slice ea 1 ec)) (refine ⟨?_, ?_, ?_⟩ <;> with_reducible (repeat (first | assumption | apply drew_cell))) ((first | (go_at_call 47; refine (both_any _ _ _ es _ _ _ _ _ (HE.out.below HBC.out.drew) (HL.out.below HBC.out.drew) (by omega)).mono ?_; rintro e w1 ⟨⟨v1, rfl, hv⟩, hb⟩; have HV := hide hv; have HB2 := hide (Below.on HBC.out.drew hb); have s0 := (hb.cell (p := ⟨b, off, none⟩) (lt_of_cell (drew_cell q0))).trans (drew_cell q0); have s1 := (hb.cell (p := ⟨b, off + 1, none⟩) (lt_of_cell (drew_cell q1))).trans (drew_cell q1); have s2 := (hb.cell (p := ⟨w.heap.size, 1, none⟩) (lt_of_cell (drew_cell o1))).trans (drew_cell o1); clear hv hb)))
        all_goals go_wp2
        all_goals go_ret2
        all_goals rw [HPP.out]
        all_goals exact ⟨outP_new HV.out 0, HB2.out⟩
      by_cases cz : m0 = 0
      · subst cz
        obtain rfl : m1 = 0 := by omega
        have HL : Hid (Lst w (some p0) 0 c0 (ds.drop 0)) := by rw [Hid, List.drop_zero]; exact HL0.out
        go_wp2_with fail
        have j1 : (0 : Int) ≤ (0 : Int) := Int.natCast_nonneg _
        have j2 : (0 : Int) ≤ (0 : Int) := by omega
        have j3 : (0 : Int) ≤ (c0 : Int) := by omega
        go_region_held3 (fun w' => w'.cell? ⟨b, off, none⟩ = some (.slice (some p0) 0 c0) ∧ w'.cell? ⟨b, off + 1, none⟩ = some (.slice X1 0 c1) ∧ w'.cell? ⟨w.heap.size, 1, none⟩ = some (.slice ea 1 ec)) (refine ⟨?_, ?_, ?_⟩ <;> with_reducible (repeat (first | assumption | apply drew_cell))) ((first | (go_at_call 47; refine (both_any _ _ _ es _ _ _ _ _ (HE.out.below HBC.out.drew) (HL.out.below HBC.out.drew) (by omega)).mono ?_; rintro e w1 ⟨⟨v1, rfl, hv⟩, hb⟩; have HV := hide hv; have HB2 := hide (Below.on HBC.out.drew hb); have s0 := (hb.cell (p := ⟨b, off, none⟩) (lt_of_cell (drew_cell q0))).trans (drew_cell q0); have s1 := (hb.cell (p := ⟨b, off + 1, none⟩) (lt_of_cell (drew_cell q1))).trans (drew_cell q1); have s2 := (hb.cell (p := ⟨w.heap.size, 1, none⟩) (lt_of_cell (drew_cell o1))).trans (drew_cell o1); clear hv hb)))
        all_goals go_wp2
        all_goals go_ret2
        all_goals rw [HPP.out]
        all_goals exact ⟨outP_new HV.out 0, HB2.out⟩
      · obtain ⟨bb, offb, e, hbb, hcc⟩ := HL0.out.1.at (by omega)
        cases e
        have HL := hide (lst_drop HL0.out m1 (by omega))
        clear hcc
        go_wp2_with fail
        have j1 : (0 : Int) ≤ (m1 : Int) := Int.natCast_nonneg _
        have j2 : (m1 : Int) ≤ (m0 : Int) := by omega
        have j3 : (m1 : Int) ≤ (c0 : Int) := by omega
        go_region_held3 (fun w' => w'.cell? ⟨b, off, none⟩ = some (.slice (some ⟨bb, offb, none⟩) m0 c0) ∧ w'.cell? ⟨b, off + 1, none⟩ = some (.slice X1 m1 c1) ∧ w'.cell? ⟨w.heap.size, 1, none⟩ = some (.slice ea 1 ec)) (refine ⟨?_, ?_, ?_⟩ <;> with_reducible (repeat (first | assumption | apply drew_cell))) ((first | (go_at_call 47; refine (both_any _ _ _ es _ _ _ _ _ (HE.out.below HBC.out.drew) (HL.out.below HBC.out.drew) (by omega)).mono ?_; rintro e w1 ⟨⟨v1, rfl, hv⟩, hb⟩; have HV := hide hv; have HB2 := hide (Below.on HBC.out.drew hb); have s0 := (hb.cell (p := ⟨b, off, none⟩) (lt_of_cell (drew_cell q0))).trans (drew_cell q0); have s1 := (hb.cell (p := ⟨b, off + 1, none⟩) (lt_of_cell (drew_cell q1))).trans (drew_cell q1); have s2 := (hb.cell (p := ⟨w.heap.size, 1, none⟩) (lt_of_cell (drew_cell o1))).trans (drew_cell o1); clear hv hb)))
        all_goals go_wp2
        all_goals go_ret2
        all_goals rw [HPP.out]
        all_goals exact ⟨outP_new HV.out 0, HB2.out⟩
end Go.Proofs.YtoagnhppjlcpkaaGreat.V

/-
  Contracts: array.shape and adjointref2.ruled where all dimensions must be alike.
-/
namespace Go.Proofs.YtoagnhppjlcpkaaGreat.V
set_option maxRecDepth 20000
open Go.RowKit

set_option maxRecDepth 100000 in
set_option maxHeartbeats 2000000 in
theorem shape_same (k x : Int) (ea : Option Addr) (el ec : Nat) (es : List Int) (pa : Option Addr) (pl pc : Nat) (ps : List Int) (la : Option Addr) (ll lc : Nat) (lo : List Int) (ha : Option Addr) (hl hc : Nat) (hi : List Int) (ta : Option Addr) (tl tc : Nat) (st : List Int) (A : Option Addr) (len cap : Nat) (xss : List (List Int)) (w : World)
    (he : Lst w ea el ec es) (hp : Lst w pa pl pc ps) (hlo : Lst w la ll lc lo) (hhi : Lst w ha hl hc hi) (hst : Lst w ta tl tc st) (h : Lsts w A len xss) (hcap : len ≤ cap) (hz : ∀ d ∈ xss, sizeE d = 0) (hk : 3 ≤ k ∧ k ≤ 8) (hn : 1 ≤ len) (hlen : len ≤ 1048576) (b0 : el ≤ 1048576) (b1 : pl ≤ 1048576) (b2 : ll ≤ 1048576) (b3 : hl ≤ 1048576) (b4 : tl ≤ 1048576) :
    Calls Tryz.prog 28 #[.agg #[.int .i64 k, .slice ea el ec, .slice pa pl pc, .slice la ll lc, .slice ha hl hc, .slice ta tl tc, .int .i64 x], .slice A len cap] w fun e w' => OutP e w' (sameP xss) ∧ Below w.heap.size w w' := by
  have zz := And.intro hcap (And.intro hlen (And.intro hn (And.intro b0 (And.intro b1 (And.intro b2 (And.intro b3 b4))))))
  clear zz
  have HE := hide he
  have HP := hide hp
  have HLO := hide hlo
  have HHI := hide hhi
  have HST := hide hst
  have H := hide h
  have HN := hide h.1
  have HZ := hide hz
  have HB1 := hide ((Below.refl w.heap.size w).alloc (Nat.le_refl _) (.cells #[.int .i64 k, .slice ea el ec, .slice pa pl pc, .slice la ll lc, .slice ha hl hc, .slice ta tl tc, .int .i64 x] 24))
  have HOP := hide (OpAt.new w k (.slice ea el ec) (.slice pa pl pc) (.slice la ll lc) (.slice ha hl hc) (.slice ta tl tc) x)
  obtain ⟨o0, o1, o2, o3, o4, o5, o6⟩ := HOP.out.cells
  obtain ⟨b, off, rfl, hc⟩ := h.at (by omega)
  obtain ⟨X0, m0, c0, hc0, hl0⟩ := hc 0 (by omega)
  have hc0' : w.cell? ⟨b, off, none⟩ = some (.slice X0 m0 c0) := hc0
  obtain ⟨ds, hds⟩ : ∃ ds, ds = xss[0]?.getD [] := ⟨_, rfl⟩
  rw [← hds] at hl0
  have HL0 := hide hl0
  have HC0 := hide hc0'
  have hzd : sizeE ds = 0 := by rw [hds]; exact hz _ (mem_getDL xss 0 (by rw [h.1]; omega))
  have HZD := hide hzd
  have h06 : m0 ≤ 6 := by have := (sizeE_ok hzd).1; have := hl0.1.1; omega
  have HD1 := hide (HL0.out.below HB1.out)
  have q0 := (HB1.out.cell (p := ⟨b, off, none⟩) (lt_of_cell hc0')).trans hc0'
  have i0 : (0 : Int) < (len : Int) := by omega
  clear h he hp hlo hhi hst hz hc0 hc0' hl0 hzd
  have H6 : Hid ((xss[0]?.getD []).length ≤ 6) := by rw [Hid, ← hds]; exact (sizeE_ok HZD.out).1
  have hk' : k = 3 ∨ k = 4 ∨ k = 5 ∨ k = 6 ∨ k = 7 ∨ k = 8 := by omega
  clear hk
  clear hc hds
  rcases hk' with rfl | rfl | rfl | rfl | rfl | rfl
  all_goals go_enter Tryz.func28, Tryz.ntmps28
  all_goals go_wp2_with (go_at_call 62; refine (sameDims_any _ _ _ xss _ (H.out.below HB1.out) hn H6.out).mono ?_; rintro e w1 ⟨⟨Z, nz, cz, rfl, hi1, hnc⟩, hb⟩; have HI1 := hide hi1; have HB2 := hide (Below.on HB1.out hb); clear hi1 hb)
  all_goals go_ret2
  all_goals exact ⟨⟨_, _, _, rfl, HI1.out, hnc⟩, HB2.out⟩

set_option maxRecDepth 100000 in
set_option maxHeartbeats 2000000 in
theorem ruled_same (k x : Int) (ea : Option Addr) (el ec : Nat) (es : List Int) (pa : Option Addr) (pl pc : Nat) (ps : List Int) (la : Option Addr) (ll lc : Nat) (lo : List Int) (ha : Option Addr) (hl hc : Nat) (hi : List Int) (ta : Option Addr) (tl tc : Nat) (st : List Int) (A : Option Addr) (len cap : Nat) (xss : List (List Int)) (w : World)
    (he : Lst w ea el ec es) (hp : Lst w pa pl pc ps) (hlo : Lst w la ll lc lo) (hhi : Lst w ha hl hc hi) (hst : Lst w ta tl tc st) (h : Lsts w A len xss) (hcap : len ≤ cap) (hz : ∀ d ∈ xss, sizeE d = 0) (hk : 3 ≤ k ∧ k ≤ 8) (hn : 1 ≤ len) (hlen : len ≤ 1048576) (b0 : el ≤ 1048576) (b1 : pl ≤ 1048576) (b2 : ll ≤ 1048576) (b3 : hl ≤ 1048576) (b4 : tl ≤ 1048576) :
    Calls Tryz.prog 38 #[.agg #[.int .i64 k, .slice ea el ec, .slice pa pl pc, .slice la ll lc, .slice ha hl hc, .slice ta tl tc, .int .i64 x], .slice A len cap] w fun e w' => OutP e w' (sameP xss) ∧ Below w.heap.size w w' := by
  have zz := And.intro hcap (And.intro hlen (And.intro hn (And.intro b0 (And.intro b1 (And.intro b2 (And.intro b3 b4))))))
  clear zz
  have HE := hide he
  have HP := hide hp
  have HLO := hide hlo
  have HHI := hide hhi
  have HST := hide hst
  have H := hide h
  have HN := hide h.1
  have HZ := hide hz
  have HB1 := hide ((Below.refl w.heap.size w).alloc (Nat.le_refl _) (.cells #[.int .i64 k, .slice ea el ec, .slice pa pl pc, .slice la ll lc, .slice ha hl hc, .slice ta tl tc, .int .i64 x] 24))
  have HOP := hide (OpAt.new w k (.slice ea el ec) (.slice pa pl pc) (.slice la ll lc) (.slice ha hl hc) (.slice ta tl tc) x)
  obtain ⟨o0, o1, o2, o3, o4, o5, o6⟩ := HOP.out.cells
  obtain ⟨b, off, rfl, hc⟩ := h.at (by omega)
  obtain ⟨X0, m0, c0, hc0, hl0⟩ := hc 0 (by omega)
  have hc0' : w.cell? ⟨b, off, none⟩ = some (.slice X0 m0 c0) := hc0
  obtain ⟨ds, hds⟩ : ∃ ds, ds = xss[0]?.getD [] := ⟨_, rfl⟩
  rw [← hds] at hl0
  have HL0 := hide hl0
  have HC0 := hide hc0'
  have hzd : sizeE ds = 0 := by rw [hds]; exact hz _ (mem_getDL xss 0 (by rw [h.1]; omega))
  have HZD := hide hzd
  have h06 : m0 ≤ 6 := by have := (sizeE_ok hzd).1; have := hl0.1.1; omega
  have HD1 := hide (HL0.out.below HB1.out)
  have q0 := (HB1.out.cell (p := ⟨b, off, none⟩) (lt_of_cell hc0')).trans hc0'
  have i0 : (0 : Int) < (len : Int) := by omega
  clear h he hp hlo hhi hst hz hc0 hc0' hl0 hzd
  have HC := hide hc
  have HDS := hide hds
  have hk' : k = 3 ∨ k = 4 ∨ k = 5 ∨ k = 6 ∨ k = 7 ∨ k = 8 := by omega
  clear hk
  clear hc hds
  rcases hk' with rfl | rfl | rfl | rfl | rfl | rfl
  all_goals go_enter Tryz.func38, Tryz.ntmps38
  all_goals go_wp2
  all_goals go_loopw [27] (fun i wr => ∃ j : Nat, j ≤ len ∧ i = .int .i64 j ∧ (∀ t, t < j → xss[t]?.getD [] = xss[0]?.getD []) ∧ Below w.heap.size w wr) (fun i _ => len - (intOf i).toNat)
  all_goals try (case atStart => exact ⟨0, Nat.zero_le _, rfl, fun j hj => by omega, HB1.out⟩)
  all_goals
    obtain ⟨j, hj, rfl, hsame, hB⟩ := hrel
    have HS := hide hsame
    have HB := hide hB
    clear hsame hB q0
    have k0 : wr.cell? ⟨b, off, none⟩ = some (.slice X0 m0 c0) := (HB.out.cell (p := ⟨b, off, none⟩) (lt_of_cell HC0.out)).trans HC0.out
    by_cases hlt : j < len
    · obtain ⟨X, m, c, hcj0, hlj⟩ := HC.out j hlt
      have hcj : wr.cell? ⟨b, off + j, none⟩ = some (.slice X m c) := (HB.out.cell (p := ⟨b, off + j, none⟩) (lt_of_cell hcj0)).trans hcj0
      have HLJ := hide hlj
      clear hlj hcj0
      by_cases q : xss[j]?.getD [] = ds
      · have Q : Hid (decide (xss[j]?.getD [] = ds) = true) := decide_eq_true q
        have Q' := hide q
        clear q
        go_wp2_with (go_at_call 13; refine (sameList_any _ _ _ (xss[j]?.getD []) _ _ _ ds _ (HLJ.out.1.below HB.out) (HL0.out.1.below HB.out)).mono ?_; rintro e w1 ⟨rfl, n1, hw1⟩; rw [Q.out]; have HB2 := hide (Below.on HB.out (hw1 ▸ below_drewN _ n1)); clear hw1)
        go_roundw
        case rel =>
          refine ⟨j + 1, by omega, by go_num, fun t ht => ?_, HB2.out⟩
          by_cases e : t = j
          · rw [e, ← HDS.out]; exact Q'.out
          · exact HS.out t (by omega)
        case measure => simp [intOf]; omega
      · have Q : Hid (decide (xss[j]?.getD [] = ds) = false) := decide_eq_false q
        have Q' := hide q
        clear q
        go_wp2_with (go_at_call 13; refine (sameList_any _ _ _ (xss[j]?.getD []) _ _ _ ds _ (HLJ.out.1.below HB.out) (HL0.out.1.below HB.out)).mono ?_; rintro e w1 ⟨rfl, n1, hw1⟩; rw [Q.out]; have HB2 := hide (Below.on HB.out (hw1 ▸ below_drewN _ n1)); clear hw1)
        go_ret2
        have hp : sameP xss = ([], 6) := by
          unfold sameP
          rw [if_neg]
          intro hs
          exact Q'.out (((sameB_iff xss).1 hs j (by rw [HN.out]; exact hlt)).trans HDS.out.symm)
        rw [hp]
        exact ⟨outP_none _ _, HB2.out⟩
    · obtain rfl : j = len := by omega
      go_wp2
      go_ret2
      have hp : sameP xss = (ds, 0) := by
        unfold sameP
        rw [if_pos, ← HDS.out]
        exact (sameB_iff xss).2 (fun t ht => HS.out t (by rw [HN.out] at ht; exact ht))
      rw [hp]
      exact ⟨outP_lst (HL0.out.below HB.out) 0, HB.out⟩
end Go.Proofs.YtoagnhppjlcpkaaGreat.V
