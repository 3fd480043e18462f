/-
  Contract: array.seen: the view that an operation makes an array of.
-/
import Derived.Test.YtoagnhppjlcpkaaGreatRGTurnNew
import Derived.Test.YtoagnhppjlcpkaaGreatRGArrTake
import Derived.Test.YtoagnhppjlcpkaaGreatRGPut
import Derived.Test.YtoagnhppjlcpkaaGreatRGRReads
import Derived.Test.YtoagnhppjlcpkaaGreatRGAgainMath
namespace Go.Proofs.YtoagnhppjlcpkaaGreat.V
set_option maxRecDepth 20000
open Go.RowKit

theorem far_or {N : Nat} {a d : Option Addr} (h : a = d ∨ Far N a) (hd : Far N d) : Far N a := by
  rcases h with e | h
  · rw [e]; exact hd
  · exact h
/-- It answers a View whose dimensions lie in memory of the call's own; or as they were handed in. -/
def GivesN (w0 : World) (e : Ending) (w : World) (s : Int) (ds ss : List Int) (E : Int) : Prop :=
  ∃ (da : Option Addr) (dl dc : Nat) (sa : Option Addr) (sl sc : Nat), e = .returned (.tuple #[.agg #[.int .i64 s, .slice da dl dc, .slice sa sl sc], .int .i64 E]) ∧ Ints w da dl ds ∧ Ints w sa sl ss ∧ dl ≤ dc ∧ sl ≤ sc ∧ Far w0.heap.size da
def GivesO (w0 : World) (ea : Option Addr) (e : Ending) (w : World) (s : Int) (ds ss : List Int) (E : Int) : Prop :=
  ∃ (da : Option Addr) (dl dc : Nat) (sa : Option Addr) (sl sc : Nat), e = .returned (.tuple #[.agg #[.int .i64 s, .slice da dl dc, .slice sa sl sc], .int .i64 E]) ∧ Ints w da dl ds ∧ Ints w sa sl ss ∧ dl ≤ dc ∧ sl ≤ sc ∧ (da = ea ∨ Far w0.heap.size da)
theorem far_mono {N M : Nat} {a : Option Addr} (h : Far N a) (hm : M ≤ N) : Far M a := fun b o e => Nat.le_trans hm (h b o e)

set_option maxRecDepth 100000 in
set_option maxHeartbeats 4000000 in
theorem seen_turn (k x : Int) (da : Option Addr) (dl dc : Nat) (ds : List Int) (ea : Option Addr) (el ec : Nat) (es : List Int) (pa : Option Addr) (pl pc : Nat) (ps : List Int) (la : Option Addr) (ll lc : Nat) (lo : List Int) (ha : Option Addr) (hl hc : Nat) (hi : List Int) (ta : Option Addr) (tl tc : Nat) (st : List Int) (w : World)
    (hd : Ints w da dl ds) (he : Ints w ea el es) (hp : Ints w pa pl ps) (hlo : Ints w la ll lo) (hhi : Ints w ha hl hi) (hst : Ints w ta tl st) (hz : sizeE ds = 0) (hk : k = 11) :
    Calls Tryz.prog 54 #[.agg #[.int .i64 k, .slice ea el ec, .slice pa pl pc, .slice la ll lc, .slice ha hl hc, .slice ta tl tc, .int .i64 x], .slice da dl dc] w fun e w' => GivesN w e w' (okS (turnE 0 ds (stepsV ds) ps) (0)) (okL (turnE 0 ds (stepsV ds) ps) (taken ds ps)) (okL (turnE 0 ds (stepsV ds) ps) (taken (stepsV ds) ps)) (turnE 0 ds (stepsV ds) ps) ∧ Below w.heap.size w w' := by
  obtain ⟨E, hEE⟩ : ∃ E, turnE 0 ds (stepsV ds) ps = E := ⟨_, rfl⟩
  rw [hEE]
  have HEE := hide hEE
  have HD := hide hd
  have HE := hide he
  have HP := hide hp
  have HLO := hide hlo
  have HHI := hide hhi
  have HST := hide hst
  have HZ := hide hz
  have c9 : (k == 9) = false := by simp; omega
  have c11 : (k == 11) = true := by simp; omega
  clear hd he hp hlo hhi hst hz hEE hk
  have hb2 : Below w.heap.size w ((w.alloc (.cells #[.int .i64 k, .slice ea el ec, .slice pa pl pc, .slice la ll lc, .slice ha hl hc, .slice ta tl tc, .int .i64 x] 24)).alloc (.cells #[.int .i64 0, .slice none 0 0, .slice none 0 0] 80)) := ((Below.refl _ _).alloc (Nat.le_refl _) _).alloc (by simp) _
  have HB2 := hide hb2
  have hR := ViewAt.new (w.alloc (.cells #[.int .i64 k, .slice ea el ec, .slice pa pl pc, .slice la ll lc, .slice ha hl hc, .slice ta tl tc, .int .i64 x] 24)) (.int .i64 0) (.slice none 0 0) (.slice none 0 0)
  simp only [World.size_alloc] at hR
  have HR := hide hR
  have HOP := hide ((OpAt.new w k (.slice ea el ec) (.slice pa pl pc) (.slice la ll lc) (.slice ha hl hc) (.slice ta tl tc) x).alloc (.cells #[.int .i64 0, .slice none 0 0, .slice none 0 0] 80))
  clear hb2 hR
  go_enter Tryz.func54, Tryz.ntmps54
  go_wp2_with fail
  refine (whole_any _ _ _ ds _ (HD.out.below HB2.out) none).mono ?_
  rintro e w1 ⟨hgv, hb⟩
  rw [HZ.out] at hgv
  obtain ⟨da1, dl1, dc1, sa1, sl1, sc1, rfl, hi1, hj1, _, hF, hG⟩ := hgv
  have e1 : ∀ l, okL 0 l = l := fun l => by unfold okL; rw [if_pos rfl]
  rw [e1] at hi1 hj1
  simp only [World.size_alloc] at hF hG
  have HF := hide (far_or hF (far_none _))
  have HG := hide hG
  have HI1 := hide hi1
  have HJ1 := hide hj1
  have HR1 := hide (HR.out.below hb)
  have HOP1 := hide ((HOP.out.below hb).alloc (.cells #[.int .i64 0, .slice da1 dl1 dc1, .slice sa1 sl1 sc1] 80))
  have HB1 := hide (Below.on HB2.out hb)
  have hs1 := hb.size
  simp only [World.size_alloc] at hs1
  obtain ⟨o0, o1, o2, o3, o4, o5, o6⟩ := (HOP.out.below hb).cells
  obtain ⟨o0', o1', o2', o3', o4', o5', o6'⟩ := HOP1.out.cells
  clear hi1 hj1 hF hG hb e1
  have HA1 := hide ((Below.refl w1.heap.size w1).alloc (Nat.le_refl _) (.cells #[.int .i64 0, .slice da1 dl1 dc1, .slice sa1 sl1 sc1] 80))
  have HB3 := hide (HB1.out.alloc HB1.out.size (.cells #[.int .i64 0, .slice da1 dl1 dc1, .slice sa1 sl1 sc1] 80))
  go_wp2_with (go_at_call 86; refine (turn_anyF _ _ _ _ ds _ _ _ (stepsV ds) _ _ _ ps _ (HI1.out.below HA1.out) (HJ1.out.below HA1.out) (HP.out.below HB3.out)).mono ?_; rintro e w2 ⟨hgv, hb⟩; rw [HEE.out] at hgv; obtain ⟨da2, dl2, dc2, sa2, sl2, sc2, rfl, hi2, hj2, ⟨hc1, hc2⟩, hF2, hG2⟩ := hgv; simp only [World.size_alloc] at hF2 hG2; have HI2 := hide hi2; have HJ2 := hide hj2; have HF2 := hide hF2; have HG2 := hide hG2; have HR2 := hide ((HR1.out.alloc _).below hb); have HB4 := hide (Below.on HB3.out hb); obtain ⟨⟨r0, r1, r2⟩, f0, f1, f2⟩ := HR2.out.cells; clear hb hi2 hj2 hF2 hG2)
  have q1 := view_put' (x := .int .i64 (okS E (0))) (y := .slice da2 dl2 dc2) (z := .slice sa2 sl2 sc2) HR2.out
  obtain ⟨⟨u0, u1, u2⟩, _⟩ := q1.cells
  exact bodyPost_ret (v := .tuple #[.agg #[.int .i64 (okS E (0)), .slice da2 dl2 dc2, .slice sa2 sl2 sc2], .int .i64 E]) (by simp [results, Tryz.results54, go_sem, u0, u1, u2]) rfl ⟨⟨_, _, _, _, _, _, rfl, ints_putF HI2.out (far_or (a := da2) (d := da1) (by rcases HF2.out with e | e; exact .inl e; exact .inr (far_mono e (show w.heap.size + 1 + 1 ≤ _ by omega))) HF.out) (by omega), ints_putF HJ2.out (far_mono HG2.out (show w.heap.size + 1 + 1 ≤ _ by omega)) (by omega), hc1, hc2, far_mono (far_or (a := da2) (d := da1) (by rcases HF2.out with e | e; exact .inl e; exact .inr (far_mono e (show w.heap.size + 1 + 1 ≤ _ by omega))) HF.out) (show w.heap.size ≤ _ by omega)⟩, below_put HB4.out (by omega)⟩

set_option maxRecDepth 100000 in
set_option maxHeartbeats 4000000 in
theorem seen_flip (k x : Int) (da : Option Addr) (dl dc : Nat) (ds : List Int) (ea : Option Addr) (el ec : Nat) (es : List Int) (pa : Option Addr) (pl pc : Nat) (ps : List Int) (la : Option Addr) (ll lc : Nat) (lo : List Int) (ha : Option Addr) (hl hc : Nat) (hi : List Int) (ta : Option Addr) (tl tc : Nat) (st : List Int) (w : World)
    (hd : Ints w da dl ds) (he : Ints w ea el es) (hp : Ints w pa pl ps) (hlo : Ints w la ll lo) (hhi : Ints w ha hl hi) (hst : Ints w ta tl st) (hz : sizeE ds = 0) (hk : k ≠ 9 ∧ k ≠ 11 ∧ k ≠ 13) :
    Calls Tryz.prog 54 #[.agg #[.int .i64 k, .slice ea el ec, .slice pa pl pc, .slice la ll lc, .slice ha hl hc, .slice ta tl tc, .int .i64 x], .slice da dl dc] w fun e w' => GivesN w e w' (okS (flipE 0 ds (stepsV ds) ps) (flipAcc 0 ds (stepsV ds) ps ps.length)) (okL (flipE 0 ds (stepsV ds) ps) (ds)) (okL (flipE 0 ds (stepsV ds) ps) (flipL (stepsV ds) ps)) (flipE 0 ds (stepsV ds) ps) ∧ Below w.heap.size w w' := by
  obtain ⟨E, hEE⟩ : ∃ E, flipE 0 ds (stepsV ds) ps = E := ⟨_, rfl⟩
  rw [hEE]
  have HEE := hide hEE
  have HD := hide hd
  have HE := hide he
  have HP := hide hp
  have HLO := hide hlo
  have HHI := hide hhi
  have HST := hide hst
  have HZ := hide hz
  have c9 : (k == 9) = false := by simp; omega
  have c11 : (k == 11) = false := by simp; omega
  have c13 : (k == 13) = false := by simp; omega
  clear hd he hp hlo hhi hst hz hEE hk
  have hb2 : Below w.heap.size w ((w.alloc (.cells #[.int .i64 k, .slice ea el ec, .slice pa pl pc, .slice la ll lc, .slice ha hl hc, .slice ta tl tc, .int .i64 x] 24)).alloc (.cells #[.int .i64 0, .slice none 0 0, .slice none 0 0] 80)) := ((Below.refl _ _).alloc (Nat.le_refl _) _).alloc (by simp) _
  have HB2 := hide hb2
  have hR := ViewAt.new (w.alloc (.cells #[.int .i64 k, .slice ea el ec, .slice pa pl pc, .slice la ll lc, .slice ha hl hc, .slice ta tl tc, .int .i64 x] 24)) (.int .i64 0) (.slice none 0 0) (.slice none 0 0)
  simp only [World.size_alloc] at hR
  have HR := hide hR
  have HOP := hide ((OpAt.new w k (.slice ea el ec) (.slice pa pl pc) (.slice la ll lc) (.slice ha hl hc) (.slice ta tl tc) x).alloc (.cells #[.int .i64 0, .slice none 0 0, .slice none 0 0] 80))
  clear hb2 hR
  go_enter Tryz.func54, Tryz.ntmps54
  go_wp2_with fail
  refine (whole_any _ _ _ ds _ (HD.out.below HB2.out) none).mono ?_
  rintro e w1 ⟨hgv, hb⟩
  rw [HZ.out] at hgv
  obtain ⟨da1, dl1, dc1, sa1, sl1, sc1, rfl, hi1, hj1, _, hF, hG⟩ := hgv
  have e1 : ∀ l, okL 0 l = l := fun l => by unfold okL; rw [if_pos rfl]
  rw [e1] at hi1 hj1
  simp only [World.size_alloc] at hF hG
  have HF := hide (far_or hF (far_none _))
  have HG := hide hG
  have HI1 := hide hi1
  have HJ1 := hide hj1
  have HR1 := hide (HR.out.below hb)
  have HOP1 := hide ((HOP.out.below hb).alloc (.cells #[.int .i64 0, .slice da1 dl1 dc1, .slice sa1 sl1 sc1] 80))
  have HB1 := hide (Below.on HB2.out hb)
  have hs1 := hb.size
  simp only [World.size_alloc] at hs1
  obtain ⟨o0, o1, o2, o3, o4, o5, o6⟩ := (HOP.out.below hb).cells
  obtain ⟨o0', o1', o2', o3', o4', o5', o6'⟩ := HOP1.out.cells
  clear hi1 hj1 hF hG hb e1
  have HA1 := hide ((Below.refl w1.heap.size w1).alloc (Nat.le_refl _) (.cells #[.int .i64 0, .slice da1 dl1 dc1, .slice sa1 sl1 sc1] 80))
  have HB3 := hide (HB1.out.alloc HB1.out.size (.cells #[.int .i64 0, .slice da1 dl1 dc1, .slice sa1 sl1 sc1] 80))
  go_wp2_with (go_at_call 87; refine (flip_any _ _ _ _ ds _ _ _ (stepsV ds) _ _ _ ps _ (HI1.out.below HA1.out) (HJ1.out.below HA1.out) (HP.out.below HB3.out)).mono ?_; rintro e w2 ⟨hgv, hb⟩; rw [HEE.out] at hgv; obtain ⟨da2, dl2, dc2, sa2, sl2, sc2, rfl, hi2, hj2, ⟨hc1, hc2⟩, hF2, hG2⟩ := hgv; simp only [World.size_alloc] at hF2 hG2; have HI2 := hide hi2; have HJ2 := hide hj2; have HF2 := hide hF2; have HG2 := hide hG2; have HR2 := hide ((HR1.out.alloc _).below hb); have HB4 := hide (Below.on HB3.out hb); obtain ⟨⟨r0, r1, r2⟩, f0, f1, f2⟩ := HR2.out.cells; clear hb hi2 hj2 hF2 hG2)
  have q1 := view_put' (x := .int .i64 (okS E (flipAcc 0 ds (stepsV ds) ps ps.length))) (y := .slice da2 dl2 dc2) (z := .slice sa2 sl2 sc2) HR2.out
  obtain ⟨⟨u0, u1, u2⟩, _⟩ := q1.cells
  exact bodyPost_ret (v := .tuple #[.agg #[.int .i64 (okS E (flipAcc 0 ds (stepsV ds) ps ps.length)), .slice da2 dl2 dc2, .slice sa2 sl2 sc2], .int .i64 E]) (by simp [results, Tryz.results54, go_sem, u0, u1, u2]) rfl ⟨⟨_, _, _, _, _, _, rfl, ints_putF HI2.out (far_or (a := da2) (d := da1) (by rcases HF2.out with e | e; exact .inl e; exact .inr (far_mono e (show w.heap.size + 1 + 1 ≤ _ by omega))) HF.out) (by omega), ints_putF HJ2.out (far_mono HG2.out (show w.heap.size + 1 + 1 ≤ _ by omega)) (by omega), hc1, hc2, far_mono (far_or (a := da2) (d := da1) (by rcases HF2.out with e | e; exact .inl e; exact .inr (far_mono e (show w.heap.size + 1 + 1 ≤ _ by omega))) HF.out) (show w.heap.size ≤ _ by omega)⟩, below_put HB4.out (by omega)⟩

set_option maxRecDepth 100000 in
set_option maxHeartbeats 4000000 in
theorem seen_cut (k x : Int) (da : Option Addr) (dl dc : Nat) (ds : List Int) (ea : Option Addr) (el ec : Nat) (es : List Int) (pa : Option Addr) (pl pc : Nat) (ps : List Int) (la : Option Addr) (ll lc : Nat) (lo : List Int) (ha : Option Addr) (hl hc : Nat) (hi : List Int) (ta : Option Addr) (tl tc : Nat) (st : List Int) (w : World)
    (hd : Ints w da dl ds) (he : Ints w ea el es) (hp : Ints w pa pl ps) (hlo : Ints w la ll lo) (hhi : Ints w ha hl hi) (hst : Ints w ta tl st) (hz : sizeE ds = 0) (hk : k = 13) :
    Calls Tryz.prog 54 #[.agg #[.int .i64 k, .slice ea el ec, .slice pa pl pc, .slice la ll lc, .slice ha hl hc, .slice ta tl tc, .int .i64 x], .slice da dl dc] w fun e w' => GivesN w e w' (okS (cutE 0 ds (stepsV ds) lo hi st) (cutAcc 0 (stepsV ds) lo ds.length)) (okL (cutE 0 ds (stepsV ds) lo hi st) (cutD ds lo hi st)) (okL (cutE 0 ds (stepsV ds) lo hi st) (cutS (stepsV ds) st)) (cutE 0 ds (stepsV ds) lo hi st) ∧ Below w.heap.size w w' := by
  obtain ⟨E, hEE⟩ : ∃ E, cutE 0 ds (stepsV ds) lo hi st = E := ⟨_, rfl⟩
  rw [hEE]
  have HEE := hide hEE
  have HD := hide hd
  have HE := hide he
  have HP := hide hp
  have HLO := hide hlo
  have HHI := hide hhi
  have HST := hide hst
  have HZ := hide hz
  have c9 : (k == 9) = false := by simp; omega
  have c11 : (k == 11) = false := by simp; omega
  have c13 : (k == 13) = true := by simp; omega
  clear hd he hp hlo hhi hst hz hEE hk
  have hb2 : Below w.heap.size w ((w.alloc (.cells #[.int .i64 k, .slice ea el ec, .slice pa pl pc, .slice la ll lc, .slice ha hl hc, .slice ta tl tc, .int .i64 x] 24)).alloc (.cells #[.int .i64 0, .slice none 0 0, .slice none 0 0] 80)) := ((Below.refl _ _).alloc (Nat.le_refl _) _).alloc (by simp) _
  have HB2 := hide hb2
  have hR := ViewAt.new (w.alloc (.cells #[.int .i64 k, .slice ea el ec, .slice pa pl pc, .slice la ll lc, .slice ha hl hc, .slice ta tl tc, .int .i64 x] 24)) (.int .i64 0) (.slice none 0 0) (.slice none 0 0)
  simp only [World.size_alloc] at hR
  have HR := hide hR
  have HOP := hide ((OpAt.new w k (.slice ea el ec) (.slice pa pl pc) (.slice la ll lc) (.slice ha hl hc) (.slice ta tl tc) x).alloc (.cells #[.int .i64 0, .slice none 0 0, .slice none 0 0] 80))
  clear hb2 hR
  go_enter Tryz.func54, Tryz.ntmps54
  go_wp2_with fail
  refine (whole_any _ _ _ ds _ (HD.out.below HB2.out) none).mono ?_
  rintro e w1 ⟨hgv, hb⟩
  rw [HZ.out] at hgv
  obtain ⟨da1, dl1, dc1, sa1, sl1, sc1, rfl, hi1, hj1, _, hF, hG⟩ := hgv
  have e1 : ∀ l, okL 0 l = l := fun l => by unfold okL; rw [if_pos rfl]
  rw [e1] at hi1 hj1
  simp only [World.size_alloc] at hF hG
  have HF := hide (far_or hF (far_none _))
  have HG := hide hG
  have HI1 := hide hi1
  have HJ1 := hide hj1
  have HR1 := hide (HR.out.below hb)
  have HOP1 := hide ((HOP.out.below hb).alloc (.cells #[.int .i64 0, .slice da1 dl1 dc1, .slice sa1 sl1 sc1] 80))
  have HB1 := hide (Below.on HB2.out hb)
  have hs1 := hb.size
  simp only [World.size_alloc] at hs1
  obtain ⟨o0, o1, o2, o3, o4, o5, o6⟩ := (HOP.out.below hb).cells
  obtain ⟨o0', o1', o2', o3', o4', o5', o6'⟩ := HOP1.out.cells
  clear hi1 hj1 hF hG hb e1
  have HA1 := hide ((Below.refl w1.heap.size w1).alloc (Nat.le_refl _) (.cells #[.int .i64 0, .slice da1 dl1 dc1, .slice sa1 sl1 sc1] 80))
  have HB3 := hide (HB1.out.alloc HB1.out.size (.cells #[.int .i64 0, .slice da1 dl1 dc1, .slice sa1 sl1 sc1] 80))
  go_wp2_with (go_at_call 66; refine (cut_any _ _ _ _ ds _ _ _ (stepsV ds) _ _ _ lo _ _ _ hi _ _ _ st _ (HI1.out.below HA1.out) (HJ1.out.below HA1.out) (HLO.out.below HB3.out) (HHI.out.below HB3.out) (HST.out.below HB3.out)).mono ?_; rintro e w2 ⟨hgv, hb⟩; rw [HEE.out] at hgv; obtain ⟨da2, dl2, dc2, sa2, sl2, sc2, rfl, hi2, hj2, ⟨hc1, hc2⟩, hF2, hG2⟩ := hgv; simp only [World.size_alloc] at hF2 hG2; have HI2 := hide hi2; have HJ2 := hide hj2; have HF2 := hide hF2; have HG2 := hide hG2; have HR2 := hide ((HR1.out.alloc _).below hb); have HB4 := hide (Below.on HB3.out hb); obtain ⟨⟨r0, r1, r2⟩, f0, f1, f2⟩ := HR2.out.cells; clear hb hi2 hj2 hF2 hG2)
  have q1 := view_put' (x := .int .i64 (okS E (cutAcc 0 (stepsV ds) lo ds.length))) (y := .slice da2 dl2 dc2) (z := .slice sa2 sl2 sc2) HR2.out
  obtain ⟨⟨u0, u1, u2⟩, _⟩ := q1.cells
  exact bodyPost_ret (v := .tuple #[.agg #[.int .i64 (okS E (cutAcc 0 (stepsV ds) lo ds.length)), .slice da2 dl2 dc2, .slice sa2 sl2 sc2], .int .i64 E]) (by simp [results, Tryz.results54, go_sem, u0, u1, u2]) rfl ⟨⟨_, _, _, _, _, _, rfl, ints_putF HI2.out (far_or (a := da2) (d := da1) (by rcases HF2.out with e | e; exact .inl e; exact .inr (far_mono e (show w.heap.size + 1 + 1 ≤ _ by omega))) HF.out) (by omega), ints_putF HJ2.out (far_mono HG2.out (show w.heap.size + 1 + 1 ≤ _ by omega)) (by omega), hc1, hc2, far_mono (far_or (a := da2) (d := da1) (by rcases HF2.out with e | e; exact .inl e; exact .inr (far_mono e (show w.heap.size + 1 + 1 ≤ _ by omega))) HF.out) (show w.heap.size ≤ _ by omega)⟩, below_put HB4.out (by omega)⟩

set_option maxRecDepth 100000 in
set_option maxHeartbeats 4000000 in
theorem seen_spread (k x : Int) (da : Option Addr) (dl dc : Nat) (ds : List Int) (ea : Option Addr) (el ec : Nat) (es : List Int) (pa : Option Addr) (pl pc : Nat) (ps : List Int) (la : Option Addr) (ll lc : Nat) (lo : List Int) (ha : Option Addr) (hl hc : Nat) (hi : List Int) (ta : Option Addr) (tl tc : Nat) (st : List Int) (w : World)
    (hd : Ints w da dl ds) (he : Ints w ea el es) (hp : Ints w pa pl ps) (hlo : Ints w la ll lo) (hhi : Ints w ha hl hi) (hst : Ints w ta tl st) (hz : sizeE ds = 0) (hk : k = 9) :
    Calls Tryz.prog 54 #[.agg #[.int .i64 k, .slice ea el ec, .slice pa pl pc, .slice la ll lc, .slice ha hl hc, .slice ta tl tc, .int .i64 x], .slice da dl dc] w fun e w' => GivesO w ea e w' (okS (sprE 0 ds (stepsV ds) es ps) (0)) (okL (sprE 0 ds (stepsV ds) es ps) (es)) (okL (sprE 0 ds (stepsV ds) es ps) (sprS es.length (stepsV ds) ps)) (sprE 0 ds (stepsV ds) es ps) ∧ Below w.heap.size w w' := by
  obtain ⟨E, hEE⟩ : ∃ E, sprE 0 ds (stepsV ds) es ps = E := ⟨_, rfl⟩
  rw [hEE]
  have HEE := hide hEE
  have HD := hide hd
  have HE := hide he
  have HP := hide hp
  have HLO := hide hlo
  have HHI := hide hhi
  have HST := hide hst
  have HZ := hide hz
  have c9 : (k == 9) = true := by simp; omega
  clear hd he hp hlo hhi hst hz hEE hk
  have hb2 : Below w.heap.size w ((w.alloc (.cells #[.int .i64 k, .slice ea el ec, .slice pa pl pc, .slice la ll lc, .slice ha hl hc, .slice ta tl tc, .int .i64 x] 24)).alloc (.cells #[.int .i64 0, .slice none 0 0, .slice none 0 0] 80)) := ((Below.refl _ _).alloc (Nat.le_refl _) _).alloc (by simp) _
  have HB2 := hide hb2
  have hR := ViewAt.new (w.alloc (.cells #[.int .i64 k, .slice ea el ec, .slice pa pl pc, .slice la ll lc, .slice ha hl hc, .slice ta tl tc, .int .i64 x] 24)) (.int .i64 0) (.slice none 0 0) (.slice none 0 0)
  simp only [World.size_alloc] at hR
  have HR := hide hR
  have HOP := hide ((OpAt.new w k (.slice ea el ec) (.slice pa pl pc) (.slice la ll lc) (.slice ha hl hc) (.slice ta tl tc) x).alloc (.cells #[.int .i64 0, .slice none 0 0, .slice none 0 0] 80))
  clear hb2 hR
  go_enter Tryz.func54, Tryz.ntmps54
  go_wp2_with fail
  refine (whole_any _ _ _ ds _ (HD.out.below HB2.out) none).mono ?_
  rintro e w1 ⟨hgv, hb⟩
  rw [HZ.out] at hgv
  obtain ⟨da1, dl1, dc1, sa1, sl1, sc1, rfl, hi1, hj1, _, hF, hG⟩ := hgv
  have e1 : ∀ l, okL 0 l = l := fun l => by unfold okL; rw [if_pos rfl]
  rw [e1] at hi1 hj1
  simp only [World.size_alloc] at hF hG
  have HF := hide (far_or hF (far_none _))
  have HG := hide hG
  have HI1 := hide hi1
  have HJ1 := hide hj1
  have HR1 := hide (HR.out.below hb)
  have HOP1 := hide ((HOP.out.below hb).alloc (.cells #[.int .i64 0, .slice da1 dl1 dc1, .slice sa1 sl1 sc1] 80))
  have HB1 := hide (Below.on HB2.out hb)
  have hs1 := hb.size
  simp only [World.size_alloc] at hs1
  obtain ⟨o0, o1, o2, o3, o4, o5, o6⟩ := (HOP.out.below hb).cells
  obtain ⟨o0', o1', o2', o3', o4', o5', o6'⟩ := HOP1.out.cells
  clear hi1 hj1 hF hG hb e1
  have HA1 := hide ((Below.refl w1.heap.size w1).alloc (Nat.le_refl _) (.cells #[.int .i64 0, .slice da1 dl1 dc1, .slice sa1 sl1 sc1] 80))
  have HB3 := hide (HB1.out.alloc HB1.out.size (.cells #[.int .i64 0, .slice da1 dl1 dc1, .slice sa1 sl1 sc1] 80))
  go_wp2_with (go_at_call 65; refine (spread_any _ _ _ _ ds _ _ _ (stepsV ds) _ _ _ es _ _ _ ps _ (HI1.out.below HA1.out) (HJ1.out.below HA1.out) (HE.out.below HB3.out) (HP.out.below HB3.out)).mono ?_; rintro e w2 ⟨hgv, hb⟩; rw [HEE.out] at hgv; obtain ⟨da2, dl2, dc2, sa2, sl2, sc2, rfl, hi2, hj2, ⟨hc1, hc2⟩, hF2, hG2⟩ := hgv; simp only [World.size_alloc] at hF2 hG2; have HI2 := hide hi2; have HJ2 := hide hj2; have HF2 := hide hF2; have HG2 := hide hG2; have HR2 := hide ((HR1.out.alloc _).below hb); have HB4 := hide (Below.on HB3.out hb); obtain ⟨⟨r0, r1, r2⟩, f0, f1, f2⟩ := HR2.out.cells; clear hb hi2 hj2 hF2 hG2)
  have q1 := view_put' (x := .int .i64 (okS E (0))) (y := .slice da2 dl2 dc2) (z := .slice sa2 sl2 sc2) HR2.out
  obtain ⟨⟨u0, u1, u2⟩, _⟩ := q1.cells
  exact bodyPost_ret (v := .tuple #[.agg #[.int .i64 (okS E (0)), .slice da2 dl2 dc2, .slice sa2 sl2 sc2], .int .i64 E]) (by simp [results, Tryz.results54, go_sem, u0, u1, u2]) rfl ⟨⟨_, _, _, _, _, _, rfl, ints_putL HI2.out (by rcases HF2.out with e | e; exact .inl e; exact .inr (far_mono e (show w.heap.size + 1 + 1 ≤ _ by omega))) HE.out (okL_len HI2.out (fun _ => HE.out.1)) (by omega) (by omega), ints_putF HJ2.out (far_mono HG2.out (show w.heap.size + 1 + 1 ≤ _ by omega)) (by omega), hc1, hc2, by rcases HF2.out with e | e; exact .inl e; exact .inr (far_mono e (show w.heap.size ≤ _ by omega))⟩, below_put HB4.out (by omega)⟩
end Go.Proofs.YtoagnhppjlcpkaaGreat.V

/-
  Contracts: array.sumDims, reformDims.
-/
namespace Go.Proofs.YtoagnhppjlcpkaaGreat.V
set_option maxRecDepth 20000
open Go.RowKit

theorem lsts_one {w : World} {X : Option Addr} {m c : Nat} {xs : List Int} (h : Lst w X m c xs) (t : TypeId) : Lsts (w.alloc (.cells #[.slice X m c] t)) (some ⟨w.heap.size, 0, none⟩) 1 [xs] := by
  have hb : Below w.heap.size w (w.alloc (.cells #[.slice X m c] t)) := (Below.refl _ _).alloc (Nat.le_refl _) _
  have hn := World.alloc_heap_new w (.cells #[.slice X m c] t)
  refine ⟨rfl, by omega, .inr ⟨_, _, rfl, fun j hj => ?_⟩⟩
  have e : j = 0 := by omega
  subst e
  exact ⟨X, m, c, by unfold World.cell?; rw [hn]; rfl, h.below hb⟩

theorem lsts_one' {w : World} {X : Option Addr} {m c B : Nat} {xs : List Int} (h : Lst w X m c xs) (t : TypeId) (hB : w.heap.size = B) : Lsts (w.alloc (.cells #[.slice X m c] t)) (some ⟨B, 0, none⟩) 1 [xs] := hB ▸ lsts_one h t

theorem count_ok {xs : List Int} (h : sizeE xs = 0) : ∀ k, k ≤ xs.length → 0 ≤ prod (xs.take k) ∧ prod (xs.take k) ≤ 9223372036854775807 := by
  obtain ⟨z1, z2, z3, z4⟩ := sizeE_ok h
  intro k hk
  have hm : ∀ x ∈ xs.take k, 0 ≤ x ∧ x ≤ 4096 := fun x hx => z2 x (List.mem_of_mem_take hx)
  by_cases h5 : k ≤ 5
  · have := prod_small5 (xs.take k) hm (by simp; omega)
    omega
  · have e : xs.take k = xs := List.take_of_length_le (by omega)
    rw [e]
    rcases dims_cases h with ⟨_, _, h1⟩ | ⟨_, _, h1, h2⟩ <;> omega
theorem size_prod {xs : List Int} (h : sizeE xs = 0) : sizeN xs = prod xs := by
  rcases dims_cases h with ⟨_, h1, h2⟩ | ⟨_, h1, _, _⟩ <;> omega

def reformP (ds es : List Int) : List Int × Int := if sizeE es ≠ 0 then ([], sizeE es) else if sizeN es = sizeN ds then (es, 0) else ([], 6)

set_option maxRecDepth 100000 in
set_option maxHeartbeats 1000000 in
theorem reformDims_any (k : Int) (va vl vh vs : Value) (x : Int) (ea : Option Addr) (el ec : Nat) (es : List Int) (a : Option Addr) (len cap : Nat) (ds : List Int) (w : World) (he : Ints w ea el es) (h : Ints w a len ds) (hz : sizeE ds = 0) :
    Calls Tryz.prog 56 #[.agg #[.int .i64 k, .slice ea el ec, va, vl, vh, vs, .int .i64 x], .slice a len cap] w fun e w' => OutP e w' (reformP ds es) ∧ Below w.heap.size w w' := by
  have HE := hide he
  have H := hide h
  have HZ := hide hz
  clear he h hz
  have HB1 := hide ((Below.refl w.heap.size w).alloc (Nat.le_refl _) (.cells #[.int .i64 k, .slice ea el ec, va, vl, vh, vs, .int .i64 x] 24))
  by_cases c1 : sizeE es = 0
  case neg =>
    have hp : reformP ds es = ([], sizeE es) := by unfold reformP; rw [if_pos c1]
    rw [hp]
    have q : (sizeE es != 0) = true := by simp [c1]
    clear hp c1
    go_enter Tryz.func56, Tryz.ntmps56
    go_wp2_with (go_at_call 27; refine (size_any _ _ _ es _ (HE.out.below HB1.out)).mono ?_; rintro e w' ⟨rfl, hw'⟩; obtain rfl := hw'.symm)
    go_ret2
    exact ⟨outP_none _ _, HB1.out⟩
  have HC := hide c1
  have hel : el ≤ 6 := by have := (sizeE_ok c1).1; have := HE.out.1; omega
  by_cases c2 : sizeN es = prod ds
  · have hp : reformP ds es = (es, 0) := by unfold reformP; rw [if_neg (by simp [c1]), if_pos (by rw [size_prod HZ.out]; exact c2)]
    rw [hp]
    have q : (sizeN es != prod ds) = false := by simp [c2]
    clear hp c1 c2
    go_enter Tryz.func56, Tryz.ntmps56
    go_wp2_with (first
      | (go_at_call 27; refine (size_any _ _ _ es _ (HE.out.below HB1.out)).mono ?_; rintro e w' ⟨rfl, hw'⟩; obtain rfl := hw'.symm; rw [HC.out])
      | (go_at_call 18; refine (count_any _ _ _ ds _ (H.out.below HB1.out) (count_ok HZ.out)).mono ?_; rintro e w' ⟨rfl, hw'⟩; obtain rfl := hw'.symm)
      | (go_at_call 53; refine (afresh_any _ _ _ es _ (HE.out.below HB1.out) (by omega)).mono ?_; rintro e w1 ⟨⟨g, rfl, hr, hg⟩, hb⟩; have HR := hide hr; have HB2 := hide (Below.on HB1.out hb); have hgg : w.heap.size ≤ g := Nat.le_trans HB1.out.size hg; clear hr hb hg))
    go_ret2
    exact ⟨outP_new (newAt_row HR.out hgg HE.out.1 (by omega) HE.out.2.2.1) 0, HB2.out⟩
  · have hp : reformP ds es = ([], 6) := by unfold reformP; rw [if_neg (by simp [c1]), if_neg (by rw [size_prod HZ.out]; exact c2)]
    rw [hp]
    have q : (sizeN es != prod ds) = true := by simp [c2]
    clear hp c1 c2
    go_enter Tryz.func56, Tryz.ntmps56
    go_wp2_with (first
      | (go_at_call 27; refine (size_any _ _ _ es _ (HE.out.below HB1.out)).mono ?_; rintro e w' ⟨rfl, hw'⟩; obtain rfl := hw'.symm; rw [HC.out])
      | (go_at_call 18; refine (count_any _ _ _ ds _ (H.out.below HB1.out) (count_ok HZ.out)).mono ?_; rintro e w' ⟨rfl, hw'⟩; obtain rfl := hw'.symm))
    go_ret2
    exact ⟨outP_none _ _, HB1.out⟩

/-- A rising list names none twice. -/
theorem once_of_rise {xs : List Int} {n : Nat} (h : RiseOk xs n) : Once xs n := fun i hi => ⟨(h i hi).1, (h i hi).2.1, fun j hj => by have := rise_lt h j i hj hi; omega⟩
/-- What may be flipped may be summed: an array as it lies does not go too far when it is flipped. -/
theorem flip_whole {ds : List Int} (ps : List Int) (h : sizeE ds = 0) : flipE 0 ds (stepsV ds) ps = if riseB ps ds.length = true then 0 else 6 := by
  unfold flipE
  rw [if_neg (by simp [wrong_whole h])]
  by_cases c : riseB ps ds.length = true
  · rw [if_pos c, if_pos c]
    have hpo := (riseB_iff _ _).1 c
    have hbw : beyondB (flipAcc 0 ds (stepsV ds) ps ps.length) (flipL (stepsV ds) ps) = false := by
      have ha := flipAcc_whole h ps ps.length
      have hl := rise_len hpo
      have h6 := (sizeE_ok h).1
      refine far_of (by omega) fun x hx => ?_
      simp only [flipL, List.mem_map, List.mem_range] at hx
      obtain ⟨k, _, rfl⟩ := hx
      have := steps_bd h k
      split <;> omega
    rw [hbw]; simp
  · rw [if_neg c, if_neg c]
def sumP (ds ps : List Int) : List Int × Int := if riseB ps ds.length = true then (taken ds (freeL ps ds.length), 0) else ([], 6)

theorem ints_nil (w : World) : Ints w none 0 [] := ⟨rfl, by omega, by simp, .inl rfl⟩

set_option maxRecDepth 100000 in
set_option maxHeartbeats 4000000 in
theorem sumDims_any (k : Int) (vd vl vh vs : Value) (x : Int) (pa : Option Addr) (pl pc : Nat) (ps : List Int) (a : Option Addr) (len cap : Nat) (ds : List Int) (w : World) (hp : Lst w pa pl pc ps) (h : Ints w a len ds) (hz : sizeE ds = 0) :
    Calls Tryz.prog 55 #[.agg #[.int .i64 k, vd, .slice pa pl pc, vl, vh, vs, .int .i64 x], .slice a len cap] w fun e w' => OutP e w' (sumP ds ps) ∧ Below w.heap.size w w' := by
  have HP := hide hp
  have H := hide h
  have HN := hide h.1
  have HZ := hide hz
  have h6 : len ≤ 6 := by have := (sizeE_ok hz).1; have := h.1; omega
  have HFW := hide (flip_whole ps hz)
  clear hp h hz
  have HB1 := hide ((Below.refl w.heap.size w).alloc (Nat.le_refl _) (.cells #[.int .i64 k, vd, .slice pa pl pc, vl, vh, vs, .int .i64 x] 24))
  have HOP := hide (OpAt.new w k vd (.slice pa pl pc) vl vh vs x)
  cases c : riseB ps ds.length with
  | false =>
    have hpp : sumP ds ps = ([], 6) := by unfold sumP; rw [if_neg (by simp [c])]
    rw [hpp]
    have HF6 : Hid (flipE 0 ds (stepsV ds) ps = 6) := by rw [Hid, HFW.out, if_neg (by simp [c])]
    clear hpp c
    go_enter Tryz.func55, Tryz.ntmps55
    go_wp2_with (go_at_call 54; refine (seen_flip 15 0 _ _ _ ds none 0 0 [] _ _ _ ps none 0 0 [] none 0 0 [] none 0 0 [] _ (H.out.below HB1.out) (ints_nil _) (HP.out.1.below HB1.out) (ints_nil _) (ints_nil _) (ints_nil _) HZ.out (by decide)).mono ?_; rintro e w1 ⟨hgv, hb⟩; rw [HF6.out] at hgv; obtain ⟨da1, dl1, dc1, sa1, sl1, sc1, rfl, _⟩ := hgv; have HB2 := hide (Below.on HB1.out hb); clear hb)
    go_ret2
    exact ⟨outP_none _ _, HB2.out.alloc HB2.out.size _⟩
  | true =>
    have hpp : sumP ds ps = (taken ds (freeL ps ds.length), 0) := by unfold sumP; rw [if_pos c]
    rw [hpp]
    have HF0 : Hid (flipE 0 ds (stepsV ds) ps = 0) := by rw [Hid, HFW.out, if_pos c]
    have HON : Hid (Once ps len) := by rw [Hid, ← HN.out]; exact once_of_rise ((riseB_iff _ _).1 c)
    clear hpp c
    go_enter Tryz.func55, Tryz.ntmps55
    go_wp2_with (first
      | (go_at_call 54; refine (seen_flip 15 0 _ _ _ ds none 0 0 [] _ _ _ ps none 0 0 [] none 0 0 [] none 0 0 [] _ (H.out.below HB1.out) (ints_nil _) (HP.out.1.below HB1.out) (ints_nil _) (ints_nil _) (ints_nil _) HZ.out (by decide)).mono ?_; rintro e w1 ⟨hgv, hb⟩; rw [HF0.out] at hgv; obtain ⟨da1, dl1, dc1, sa1, sl1, sc1, rfl, _⟩ := hgv; obtain ⟨S, hS⟩ : ∃ S, S = okS 0 (flipAcc 0 ds (stepsV ds) ps ps.length) := ⟨_, rfl⟩; rw [← hS]; clear hS; have HB2' := Below.on HB1.out hb; have HB2 := hide (HB2'.alloc HB2'.size (.cells #[.int .i64 S, .slice da1 dl1 dc1, .slice sa1 sl1 sc1] 80)); obtain ⟨o0, o1, o2, o3, o4, o5, o6⟩ := ((HOP.out.below hb).alloc (.cells #[.int .i64 S, .slice da1 dl1 dc1, .slice sa1 sl1 sc1] 80)).cells; clear hb HB2')
      | (go_at_call 64; refine (others_any _ _ _ _ [ps] _ (lsts_one' (HP.out.below HB2.out) _ (World.size_alloc _ _)) h6).mono ?_; rintro e w2 ⟨hop, hb⟩; rw [show [ps].flatten = ps by simp] at hop; obtain ⟨_, v, rfl, hv⟩ := hop.resolve_right (fun hh => hh.1 HON.out); obtain ⟨X, n, c, rfl, hl, _⟩ := hv; have HL := hide hl; have HB3 := hide (Below.on (HB2.out.alloc HB2.out.size _) hb); have hn6 : n ≤ 6 := by { have := hl.1.1; have := freeL_len ps len; omega }; clear hb hl hop)
      | (go_at_call 70; refine (these_any _ _ _ ds _ _ _ (freeL ps len) _ (H.out.below HB3.out) HL.out.1 (fun y hy => freeL_bd ps len y hy) hn6).mono ?_; rintro e w3 ⟨⟨v, rfl, hv⟩, hb⟩; have HV := hide hv; have HB4 := hide (Below.on HB3.out hb); clear hv hb))
    go_ret2
    rw [HN.out]
    exact ⟨outP_new HV.out 0, HB4.out⟩
end Go.Proofs.YtoagnhppjlcpkaaGreat.V
