/-
  Contract: array.seen: the view that an operation makes an array of.
-/
import Derived.Test.YtdhkglafpjcdhaaGTurnNew
import Derived.Test.YtdhkglafpjcdhaaHArrTake
import Derived.Test.YtdhkglafpjcdhaaHWhole
namespace Go.Proofs.Ytdhkglafpjcdhaa.V
open Go.RowKit

theorem far_or {N : Nat} {a d : Option Addr} (h : a = d ∨ Far N a) (hd : Far N d) : Far N a := by
  rcases h with e | h
  · rw [e]; exact hd
  · exact h
/-- It answers a View whose dimensions lie in memory of the call's own; or as they were handed in. -/
def GivesN (w0 : World) (e : Ending) (w : World) (s : Int) (ds ss : List Int) (E : Int) : Prop :=
  ∃ (da : Option Addr) (dl dc : Nat) (sa : Option Addr) (sl sc : Nat), e = .returned (.tuple #[.agg #[.int .i64 s, .slice da dl dc, .slice sa sl sc], .int .i64 E]) ∧ Ints w da dl ds ∧ Ints w sa sl ss ∧ dl ≤ dc ∧ sl ≤ sc ∧ Far w0.heap.size da
def GivesO (w0 : World) (ea : Option Addr) (e : Ending) (w : World) (s : Int) (ds ss : List Int) (E : Int) : Prop :=
  ∃ (da : Option Addr) (dl dc : Nat) (sa : Option Addr) (sl sc : Nat), e = .returned (.tuple #[.agg #[.int .i64 s, .slice da dl dc, .slice sa sl sc], .int .i64 E]) ∧ Ints w da dl ds ∧ Ints w sa sl ss ∧ dl ≤ dc ∧ sl ≤ sc ∧ (da = ea ∨ Far w0.heap.size da)
theorem far_mono {N M : Nat} {a : Option Addr} (h : Far N a) (hm : M ≤ N) : Far M a := fun b o e => Nat.le_trans hm (h b o e)

set_option maxRecDepth 100000 in
set_option maxHeartbeats 4000000 in
theorem seen_turn (k x : Int) (da : Option Addr) (dl dc : Nat) (ds : List Int) (ea : Option Addr) (el ec : Nat) (es : List Int) (pa : Option Addr) (pl pc : Nat) (ps : List Int) (la : Option Addr) (ll lc : Nat) (lo : List Int) (ha : Option Addr) (hl hc : Nat) (hi : List Int) (ta : Option Addr) (tl tc : Nat) (st : List Int) (w : World)
    (hd : Ints w da dl ds) (he : Ints w ea el es) (hp : Ints w pa pl ps) (hlo : Ints w la ll lo) (hhi : Ints w ha hl hi) (hst : Ints w ta tl st) (hz : sizeE ds = 0) (hk : k = 11) :
    Calls Try.prog 35 #[.agg #[.int .i64 k, .slice ea el ec, .slice pa pl pc, .slice la ll lc, .slice ha hl hc, .slice ta tl tc, .int .i64 x], .slice da dl dc] w fun e w' => GivesN w e w' (okS (turnE 0 ds (stepsV ds) ps) (0)) (okL (turnE 0 ds (stepsV ds) ps) (taken ds ps)) (okL (turnE 0 ds (stepsV ds) ps) (taken (stepsV ds) ps)) (turnE 0 ds (stepsV ds) ps) ∧ Below w.heap.size w w' := by
  obtain ⟨E, hEE⟩ : ∃ E, turnE 0 ds (stepsV ds) ps = E := ⟨_, rfl⟩
  rw [hEE]
  have HEE := hide hEE
  have HD := hide hd
  have HE := hide he
  have HP := hide hp
  have HLO := hide hlo
  have HHI := hide hhi
  have HST := hide hst
  have HZ := hide hz
  have c9 : (k == 9) = false := by simp; omega
  have c11 : (k == 11) = true := by simp; omega
  clear hd he hp hlo hhi hst hz hEE hk
  have hb2 : Below w.heap.size w ((w.alloc (.cells #[.int .i64 k, .slice ea el ec, .slice pa pl pc, .slice la ll lc, .slice ha hl hc, .slice ta tl tc, .int .i64 x] 33)).alloc (.cells #[.int .i64 0, .slice none 0 0, .slice none 0 0] 66)) := ((Below.refl _ _).alloc (Nat.le_refl _) _).alloc (by simp) _
  have HB2 := hide hb2
  have hR := ViewAt.new (w.alloc (.cells #[.int .i64 k, .slice ea el ec, .slice pa pl pc, .slice la ll lc, .slice ha hl hc, .slice ta tl tc, .int .i64 x] 33)) (.int .i64 0) (.slice none 0 0) (.slice none 0 0)
  simp only [World.size_alloc] at hR
  have HR := hide hR
  have HOP := hide ((OpAt.new w k (.slice ea el ec) (.slice pa pl pc) (.slice la ll lc) (.slice ha hl hc) (.slice ta tl tc) x).alloc (.cells #[.int .i64 0, .slice none 0 0, .slice none 0 0] 66))
  clear hb2 hR
  go_enter Try.func35, Try.ntmps35
  go_wp2_with fail
  refine (whole_any _ _ _ ds _ (HD.out.below HB2.out) none).mono ?_
  rintro e w1 ⟨hgv, hb⟩
  rw [HZ.out] at hgv
  obtain ⟨da1, dl1, dc1, sa1, sl1, sc1, rfl, hi1, hj1, _, hF, hG⟩ := hgv
  have e1 : ∀ l, okL 0 l = l := fun l => by unfold okL; rw [if_pos rfl]
  rw [e1] at hi1 hj1
  simp only [World.size_alloc] at hF hG
  have HF := hide (far_or hF (far_none _))
  have HG := hide hG
  have HI1 := hide hi1
  have HJ1 := hide hj1
  have HR1 := hide (HR.out.below hb)
  have HOP1 := hide ((HOP.out.below hb).alloc (.cells #[.int .i64 0, .slice da1 dl1 dc1, .slice sa1 sl1 sc1] 66))
  have HB1 := hide (Below.on HB2.out hb)
  have hs1 := hb.size
  simp only [World.size_alloc] at hs1
  obtain ⟨o0, o1, o2, o3, o4, o5, o6⟩ := (HOP.out.below hb).cells
  obtain ⟨o0', o1', o2', o3', o4', o5', o6'⟩ := HOP1.out.cells
  clear hi1 hj1 hF hG hb e1
  have HA1 := hide ((Below.refl w1.heap.size w1).alloc (Nat.le_refl _) (.cells #[.int .i64 0, .slice da1 dl1 dc1, .slice sa1 sl1 sc1] 66))
  have HB3 := hide (HB1.out.alloc HB1.out.size (.cells #[.int .i64 0, .slice da1 dl1 dc1, .slice sa1 sl1 sc1] 66))
  go_wp2_with (go_at_call 61; refine (turn_anyF _ _ _ _ ds _ _ _ (stepsV ds) _ _ _ ps _ (HI1.out.below HA1.out) (HJ1.out.below HA1.out) (HP.out.below HB3.out)).mono ?_; rintro e w2 ⟨hgv, hb⟩; rw [HEE.out] at hgv; obtain ⟨da2, dl2, dc2, sa2, sl2, sc2, rfl, hi2, hj2, ⟨hc1, hc2⟩, hF2, hG2⟩ := hgv; simp only [World.size_alloc] at hF2 hG2; have HI2 := hide hi2; have HJ2 := hide hj2; have HF2 := hide hF2; have HG2 := hide hG2; have HR2 := hide ((HR1.out.alloc _).below hb); have HB4 := hide (Below.on HB3.out hb); obtain ⟨⟨r0, r1, r2⟩, f0, f1, f2⟩ := HR2.out.cells; clear hb hi2 hj2 hF2 hG2)
  have q1 := view_put' (x := .int .i64 (okS E (0))) (y := .slice da2 dl2 dc2) (z := .slice sa2 sl2 sc2) HR2.out
  obtain ⟨⟨u0, u1, u2⟩, _⟩ := q1.cells
  exact bodyPost_ret (v := .tuple #[.agg #[.int .i64 (okS E (0)), .slice da2 dl2 dc2, .slice sa2 sl2 sc2], .int .i64 E]) (by simp [results, Try.results35, go_sem, u0, u1, u2]) rfl ⟨⟨_, _, _, _, _, _, rfl, ints_putF HI2.out (far_or (a := da2) (d := da1) (by rcases HF2.out with e | e; exact .inl e; exact .inr (far_mono e (show w.heap.size + 1 + 1 ≤ _ by omega))) HF.out) (by omega), ints_putF HJ2.out (far_mono HG2.out (show w.heap.size + 1 + 1 ≤ _ by omega)) (by omega), hc1, hc2, far_mono (far_or (a := da2) (d := da1) (by rcases HF2.out with e | e; exact .inl e; exact .inr (far_mono e (show w.heap.size + 1 + 1 ≤ _ by omega))) HF.out) (show w.heap.size ≤ _ by omega)⟩, below_put HB4.out (by omega)⟩

set_option maxRecDepth 100000 in
set_option maxHeartbeats 4000000 in
theorem seen_flip (k x : Int) (da : Option Addr) (dl dc : Nat) (ds : List Int) (ea : Option Addr) (el ec : Nat) (es : List Int) (pa : Option Addr) (pl pc : Nat) (ps : List Int) (la : Option Addr) (ll lc : Nat) (lo : List Int) (ha : Option Addr) (hl hc : Nat) (hi : List Int) (ta : Option Addr) (tl tc : Nat) (st : List Int) (w : World)
    (hd : Ints w da dl ds) (he : Ints w ea el es) (hp : Ints w pa pl ps) (hlo : Ints w la ll lo) (hhi : Ints w ha hl hi) (hst : Ints w ta tl st) (hz : sizeE ds = 0) (hk : k ≠ 9 ∧ k ≠ 11 ∧ k ≠ 13) :
    Calls Try.prog 35 #[.agg #[.int .i64 k, .slice ea el ec, .slice pa pl pc, .slice la ll lc, .slice ha hl hc, .slice ta tl tc, .int .i64 x], .slice da dl dc] w fun e w' => GivesN w e w' (okS (flipE 0 ds (stepsV ds) ps) (flipAcc 0 ds (stepsV ds) ps ps.length)) (okL (flipE 0 ds (stepsV ds) ps) (ds)) (okL (flipE 0 ds (stepsV ds) ps) (flipL (stepsV ds) ps)) (flipE 0 ds (stepsV ds) ps) ∧ Below w.heap.size w w' := by
  obtain ⟨E, hEE⟩ : ∃ E, flipE 0 ds (stepsV ds) ps = E := ⟨_, rfl⟩
  rw [hEE]
  have HEE := hide hEE
  have HD := hide hd
  have HE := hide he
  have HP := hide hp
  have HLO := hide hlo
  have HHI := hide hhi
  have HST := hide hst
  have HZ := hide hz
  have c9 : (k == 9) = false := by simp; omega
  have c11 : (k == 11) = false := by simp; omega
  have c13 : (k == 13) = false := by simp; omega
  clear hd he hp hlo hhi hst hz hEE hk
  have hb2 : Below w.heap.size w ((w.alloc (.cells #[.int .i64 k, .slice ea el ec, .slice pa pl pc, .slice la ll lc, .slice ha hl hc, .slice ta tl tc, .int .i64 x] 33)).alloc (.cells #[.int .i64 0, .slice none 0 0, .slice none 0 0] 66)) := ((Below.refl _ _).alloc (Nat.le_refl _) _).alloc (by simp) _
  have HB2 := hide hb2
  have hR := ViewAt.new (w.alloc (.cells #[.int .i64 k, .slice ea el ec, .slice pa pl pc, .slice la ll lc, .slice ha hl hc, .slice ta tl tc, .int .i64 x] 33)) (.int .i64 0) (.slice none 0 0) (.slice none 0 0)
  simp only [World.size_alloc] at hR
  have HR := hide hR
  have HOP := hide ((OpAt.new w k (.slice ea el ec) (.slice pa pl pc) (.slice la ll lc) (.slice ha hl hc) (.slice ta tl tc) x).alloc (.cells #[.int .i64 0, .slice none 0 0, .slice none 0 0] 66))
  clear hb2 hR
  go_enter Try.func35, Try.ntmps35
  go_wp2_with fail
  refine (whole_any _ _ _ ds _ (HD.out.below HB2.out) none).mono ?_
  rintro e w1 ⟨hgv, hb⟩
  rw [HZ.out] at hgv
  obtain ⟨da1, dl1, dc1, sa1, sl1, sc1, rfl, hi1, hj1, _, hF, hG⟩ := hgv
  have e1 : ∀ l, okL 0 l = l := fun l => by unfold okL; rw [if_pos rfl]
  rw [e1] at hi1 hj1
  simp only [World.size_alloc] at hF hG
  have HF := hide (far_or hF (far_none _))
  have HG := hide hG
  have HI1 := hide hi1
  have HJ1 := hide hj1
  have HR1 := hide (HR.out.below hb)
  have HOP1 := hide ((HOP.out.below hb).alloc (.cells #[.int .i64 0, .slice da1 dl1 dc1, .slice sa1 sl1 sc1] 66))
  have HB1 := hide (Below.on HB2.out hb)
  have hs1 := hb.size
  simp only [World.size_alloc] at hs1
  obtain ⟨o0, o1, o2, o3, o4, o5, o6⟩ := (HOP.out.below hb).cells
  obtain ⟨o0', o1', o2', o3', o4', o5', o6'⟩ := HOP1.out.cells
  clear hi1 hj1 hF hG hb e1
  have HA1 := hide ((Below.refl w1.heap.size w1).alloc (Nat.le_refl _) (.cells #[.int .i64 0, .slice da1 dl1 dc1, .slice sa1 sl1 sc1] 66))
  have HB3 := hide (HB1.out.alloc HB1.out.size (.cells #[.int .i64 0, .slice da1 dl1 dc1, .slice sa1 sl1 sc1] 66))
  go_wp2_with (go_at_call 62; refine (flip_any _ _ _ _ ds _ _ _ (stepsV ds) _ _ _ ps _ (HI1.out.below HA1.out) (HJ1.out.below HA1.out) (HP.out.below HB3.out)).mono ?_; rintro e w2 ⟨hgv, hb⟩; rw [HEE.out] at hgv; obtain ⟨da2, dl2, dc2, sa2, sl2, sc2, rfl, hi2, hj2, ⟨hc1, hc2⟩, hF2, hG2⟩ := hgv; simp only [World.size_alloc] at hF2 hG2; have HI2 := hide hi2; have HJ2 := hide hj2; have HF2 := hide hF2; have HG2 := hide hG2; have HR2 := hide ((HR1.out.alloc _).below hb); have HB4 := hide (Below.on HB3.out hb); obtain ⟨⟨r0, r1, r2⟩, f0, f1, f2⟩ := HR2.out.cells; clear hb hi2 hj2 hF2 hG2)
  have q1 := view_put' (x := .int .i64 (okS E (flipAcc 0 ds (stepsV ds) ps ps.length))) (y := .slice da2 dl2 dc2) (z := .slice sa2 sl2 sc2) HR2.out
  obtain ⟨⟨u0, u1, u2⟩, _⟩ := q1.cells
  exact bodyPost_ret (v := .tuple #[.agg #[.int .i64 (okS E (flipAcc 0 ds (stepsV ds) ps ps.length)), .slice da2 dl2 dc2, .slice sa2 sl2 sc2], .int .i64 E]) (by simp [results, Try.results35, go_sem, u0, u1, u2]) rfl ⟨⟨_, _, _, _, _, _, rfl, ints_putF HI2.out (far_or (a := da2) (d := da1) (by rcases HF2.out with e | e; exact .inl e; exact .inr (far_mono e (show w.heap.size + 1 + 1 ≤ _ by omega))) HF.out) (by omega), ints_putF HJ2.out (far_mono HG2.out (show w.heap.size + 1 + 1 ≤ _ by omega)) (by omega), hc1, hc2, far_mono (far_or (a := da2) (d := da1) (by rcases HF2.out with e | e; exact .inl e; exact .inr (far_mono e (show w.heap.size + 1 + 1 ≤ _ by omega))) HF.out) (show w.heap.size ≤ _ by omega)⟩, below_put HB4.out (by omega)⟩

set_option maxRecDepth 100000 in
set_option maxHeartbeats 4000000 in
theorem seen_cut (k x : Int) (da : Option Addr) (dl dc : Nat) (ds : List Int) (ea : Option Addr) (el ec : Nat) (es : List Int) (pa : Option Addr) (pl pc : Nat) (ps : List Int) (la : Option Addr) (ll lc : Nat) (lo : List Int) (ha : Option Addr) (hl hc : Nat) (hi : List Int) (ta : Option Addr) (tl tc : Nat) (st : List Int) (w : World)
    (hd : Ints w da dl ds) (he : Ints w ea el es) (hp : Ints w pa pl ps) (hlo : Ints w la ll lo) (hhi : Ints w ha hl hi) (hst : Ints w ta tl st) (hz : sizeE ds = 0) (hk : k = 13) :
    Calls Try.prog 35 #[.agg #[.int .i64 k, .slice ea el ec, .slice pa pl pc, .slice la ll lc, .slice ha hl hc, .slice ta tl tc, .int .i64 x], .slice da dl dc] w fun e w' => GivesN w e w' (okS (cutE 0 ds (stepsV ds) lo hi st) (cutAcc 0 (stepsV ds) lo ds.length)) (okL (cutE 0 ds (stepsV ds) lo hi st) (cutD ds lo hi st)) (okL (cutE 0 ds (stepsV ds) lo hi st) (cutS (stepsV ds) st)) (cutE 0 ds (stepsV ds) lo hi st) ∧ Below w.heap.size w w' := by
  obtain ⟨E, hEE⟩ : ∃ E, cutE 0 ds (stepsV ds) lo hi st = E := ⟨_, rfl⟩
  rw [hEE]
  have HEE := hide hEE
  have HD := hide hd
  have HE := hide he
  have HP := hide hp
  have HLO := hide hlo
  have HHI := hide hhi
  have HST := hide hst
  have HZ := hide hz
  have c9 : (k == 9) = false := by simp; omega
  have c11 : (k == 11) = false := by simp; omega
  have c13 : (k == 13) = true := by simp; omega
  clear hd he hp hlo hhi hst hz hEE hk
  have hb2 : Below w.heap.size w ((w.alloc (.cells #[.int .i64 k, .slice ea el ec, .slice pa pl pc, .slice la ll lc, .slice ha hl hc, .slice ta tl tc, .int .i64 x] 33)).alloc (.cells #[.int .i64 0, .slice none 0 0, .slice none 0 0] 66)) := ((Below.refl _ _).alloc (Nat.le_refl _) _).alloc (by simp) _
  have HB2 := hide hb2
  have hR := ViewAt.new (w.alloc (.cells #[.int .i64 k, .slice ea el ec, .slice pa pl pc, .slice la ll lc, .slice ha hl hc, .slice ta tl tc, .int .i64 x] 33)) (.int .i64 0) (.slice none 0 0) (.slice none 0 0)
  simp only [World.size_alloc] at hR
  have HR := hide hR
  have HOP := hide ((OpAt.new w k (.slice ea el ec) (.slice pa pl pc) (.slice la ll lc) (.slice ha hl hc) (.slice ta tl tc) x).alloc (.cells #[.int .i64 0, .slice none 0 0, .slice none 0 0] 66))
  clear hb2 hR
  go_enter Try.func35, Try.ntmps35
  go_wp2_with fail
  refine (whole_any _ _ _ ds _ (HD.out.below HB2.out) none).mono ?_
  rintro e w1 ⟨hgv, hb⟩
  rw [HZ.out] at hgv
  obtain ⟨da1, dl1, dc1, sa1, sl1, sc1, rfl, hi1, hj1, _, hF, hG⟩ := hgv
  have e1 : ∀ l, okL 0 l = l := fun l => by unfold okL; rw [if_pos rfl]
  rw [e1] at hi1 hj1
  simp only [World.size_alloc] at hF hG
  have HF := hide (far_or hF (far_none _))
  have HG := hide hG
  have HI1 := hide hi1
  have HJ1 := hide hj1
  have HR1 := hide (HR.out.below hb)
  have HOP1 := hide ((HOP.out.below hb).alloc (.cells #[.int .i64 0, .slice da1 dl1 dc1, .slice sa1 sl1 sc1] 66))
  have HB1 := hide (Below.on HB2.out hb)
  have hs1 := hb.size
  simp only [World.size_alloc] at hs1
  obtain ⟨o0, o1, o2, o3, o4, o5, o6⟩ := (HOP.out.below hb).cells
  obtain ⟨o0', o1', o2', o3', o4', o5', o6'⟩ := HOP1.out.cells
  clear hi1 hj1 hF hG hb e1
  have HA1 := hide ((Below.refl w1.heap.size w1).alloc (Nat.le_refl _) (.cells #[.int .i64 0, .slice da1 dl1 dc1, .slice sa1 sl1 sc1] 66))
  have HB3 := hide (HB1.out.alloc HB1.out.size (.cells #[.int .i64 0, .slice da1 dl1 dc1, .slice sa1 sl1 sc1] 66))
  go_wp2_with (go_at_call 47; refine (cut_any _ _ _ _ ds _ _ _ (stepsV ds) _ _ _ lo _ _ _ hi _ _ _ st _ (HI1.out.below HA1.out) (HJ1.out.below HA1.out) (HLO.out.below HB3.out) (HHI.out.below HB3.out) (HST.out.below HB3.out)).mono ?_; rintro e w2 ⟨hgv, hb⟩; rw [HEE.out] at hgv; obtain ⟨da2, dl2, dc2, sa2, sl2, sc2, rfl, hi2, hj2, ⟨hc1, hc2⟩, hF2, hG2⟩ := hgv; simp only [World.size_alloc] at hF2 hG2; have HI2 := hide hi2; have HJ2 := hide hj2; have HF2 := hide hF2; have HG2 := hide hG2; have HR2 := hide ((HR1.out.alloc _).below hb); have HB4 := hide (Below.on HB3.out hb); obtain ⟨⟨r0, r1, r2⟩, f0, f1, f2⟩ := HR2.out.cells; clear hb hi2 hj2 hF2 hG2)
  have q1 := view_put' (x := .int .i64 (okS E (cutAcc 0 (stepsV ds) lo ds.length))) (y := .slice da2 dl2 dc2) (z := .slice sa2 sl2 sc2) HR2.out
  obtain ⟨⟨u0, u1, u2⟩, _⟩ := q1.cells
  exact bodyPost_ret (v := .tuple #[.agg #[.int .i64 (okS E (cutAcc 0 (stepsV ds) lo ds.length)), .slice da2 dl2 dc2, .slice sa2 sl2 sc2], .int .i64 E]) (by simp [results, Try.results35, go_sem, u0, u1, u2]) rfl ⟨⟨_, _, _, _, _, _, rfl, ints_putF HI2.out (far_or (a := da2) (d := da1) (by rcases HF2.out with e | e; exact .inl e; exact .inr (far_mono e (show w.heap.size + 1 + 1 ≤ _ by omega))) HF.out) (by omega), ints_putF HJ2.out (far_mono HG2.out (show w.heap.size + 1 + 1 ≤ _ by omega)) (by omega), hc1, hc2, far_mono (far_or (a := da2) (d := da1) (by rcases HF2.out with e | e; exact .inl e; exact .inr (far_mono e (show w.heap.size + 1 + 1 ≤ _ by omega))) HF.out) (show w.heap.size ≤ _ by omega)⟩, below_put HB4.out (by omega)⟩

set_option maxRecDepth 100000 in
set_option maxHeartbeats 4000000 in
theorem seen_spread (k x : Int) (da : Option Addr) (dl dc : Nat) (ds : List Int) (ea : Option Addr) (el ec : Nat) (es : List Int) (pa : Option Addr) (pl pc : Nat) (ps : List Int) (la : Option Addr) (ll lc : Nat) (lo : List Int) (ha : Option Addr) (hl hc : Nat) (hi : List Int) (ta : Option Addr) (tl tc : Nat) (st : List Int) (w : World)
    (hd : Ints w da dl ds) (he : Ints w ea el es) (hp : Ints w pa pl ps) (hlo : Ints w la ll lo) (hhi : Ints w ha hl hi) (hst : Ints w ta tl st) (hz : sizeE ds = 0) (hk : k = 9) :
    Calls Try.prog 35 #[.agg #[.int .i64 k, .slice ea el ec, .slice pa pl pc, .slice la ll lc, .slice ha hl hc, .slice ta tl tc, .int .i64 x], .slice da dl dc] w fun e w' => GivesO w ea e w' (okS (sprE 0 ds (stepsV ds) es ps) (0)) (okL (sprE 0 ds (stepsV ds) es ps) (es)) (okL (sprE 0 ds (stepsV ds) es ps) (sprS es.length (stepsV ds) ps)) (sprE 0 ds (stepsV ds) es ps) ∧ Below w.heap.size w w' := by
  obtain ⟨E, hEE⟩ : ∃ E, sprE 0 ds (stepsV ds) es ps = E := ⟨_, rfl⟩
  rw [hEE]
  have HEE := hide hEE
  have HD := hide hd
  have HE := hide he
  have HP := hide hp
  have HLO := hide hlo
  have HHI := hide hhi
  have HST := hide hst
  have HZ := hide hz
  have c9 : (k == 9) = true := by simp; omega
  clear hd he hp hlo hhi hst hz hEE hk
  have hb2 : Below w.heap.size w ((w.alloc (.cells #[.int .i64 k, .slice ea el ec, .slice pa pl pc, .slice la ll lc, .slice ha hl hc, .slice ta tl tc, .int .i64 x] 33)).alloc (.cells #[.int .i64 0, .slice none 0 0, .slice none 0 0] 66)) := ((Below.refl _ _).alloc (Nat.le_refl _) _).alloc (by simp) _
  have HB2 := hide hb2
  have hR := ViewAt.new (w.alloc (.cells #[.int .i64 k, .slice ea el ec, .slice pa pl pc, .slice la ll lc, .slice ha hl hc, .slice ta tl tc, .int .i64 x] 33)) (.int .i64 0) (.slice none 0 0) (.slice none 0 0)
  simp only [World.size_alloc] at hR
  have HR := hide hR
  have HOP := hide ((OpAt.new w k (.slice ea el ec) (.slice pa pl pc) (.slice la ll lc) (.slice ha hl hc) (.slice ta tl tc) x).alloc (.cells #[.int .i64 0, .slice none 0 0, .slice none 0 0] 66))
  clear hb2 hR
  go_enter Try.func35, Try.ntmps35
  go_wp2_with fail
  refine (whole_any _ _ _ ds _ (HD.out.below HB2.out) none).mono ?_
  rintro e w1 ⟨hgv, hb⟩
  rw [HZ.out] at hgv
  obtain ⟨da1, dl1, dc1, sa1, sl1, sc1, rfl, hi1, hj1, _, hF, hG⟩ := hgv
  have e1 : ∀ l, okL 0 l = l := fun l => by unfold okL; rw [if_pos rfl]
  rw [e1] at hi1 hj1
  simp only [World.size_alloc] at hF hG
  have HF := hide (far_or hF (far_none _))
  have HG := hide hG
  have HI1 := hide hi1
  have HJ1 := hide hj1
  have HR1 := hide (HR.out.below hb)
  have HOP1 := hide ((HOP.out.below hb).alloc (.cells #[.int .i64 0, .slice da1 dl1 dc1, .slice sa1 sl1 sc1] 66))
  have HB1 := hide (Below.on HB2.out hb)
  have hs1 := hb.size
  simp only [World.size_alloc] at hs1
  obtain ⟨o0, o1, o2, o3, o4, o5, o6⟩ := (HOP.out.below hb).cells
  obtain ⟨o0', o1', o2', o3', o4', o5', o6'⟩ := HOP1.out.cells
  clear hi1 hj1 hF hG hb e1
  have HA1 := hide ((Below.refl w1.heap.size w1).alloc (Nat.le_refl _) (.cells #[.int .i64 0, .slice da1 dl1 dc1, .slice sa1 sl1 sc1] 66))
  have HB3 := hide (HB1.out.alloc HB1.out.size (.cells #[.int .i64 0, .slice da1 dl1 dc1, .slice sa1 sl1 sc1] 66))
  go_wp2_with (go_at_call 46; refine (spread_any _ _ _ _ ds _ _ _ (stepsV ds) _ _ _ es _ _ _ ps _ (HI1.out.below HA1.out) (HJ1.out.below HA1.out) (HE.out.below HB3.out) (HP.out.below HB3.out)).mono ?_; rintro e w2 ⟨hgv, hb⟩; rw [HEE.out] at hgv; obtain ⟨da2, dl2, dc2, sa2, sl2, sc2, rfl, hi2, hj2, ⟨hc1, hc2⟩, hF2, hG2⟩ := hgv; simp only [World.size_alloc] at hF2 hG2; have HI2 := hide hi2; have HJ2 := hide hj2; have HF2 := hide hF2; have HG2 := hide hG2; have HR2 := hide ((HR1.out.alloc _).below hb); have HB4 := hide (Below.on HB3.out hb); obtain ⟨⟨r0, r1, r2⟩, f0, f1, f2⟩ := HR2.out.cells; clear hb hi2 hj2 hF2 hG2)
  have q1 := view_put' (x := .int .i64 (okS E (0))) (y := .slice da2 dl2 dc2) (z := .slice sa2 sl2 sc2) HR2.out
  obtain ⟨⟨u0, u1, u2⟩, _⟩ := q1.cells
  exact bodyPost_ret (v := .tuple #[.agg #[.int .i64 (okS E (0)), .slice da2 dl2 dc2, .slice sa2 sl2 sc2], .int .i64 E]) (by simp [results, Try.results35, go_sem, u0, u1, u2]) rfl ⟨⟨_, _, _, _, _, _, rfl, ints_putL HI2.out (by rcases HF2.out with e | e; exact .inl e; exact .inr (far_mono e (show w.heap.size + 1 + 1 ≤ _ by omega))) HE.out (okL_len HI2.out (fun _ => HE.out.1)) (by omega) (by omega), ints_putF HJ2.out (far_mono HG2.out (show w.heap.size + 1 + 1 ≤ _ by omega)) (by omega), hc1, hc2, by rcases HF2.out with e | e; exact .inl e; exact .inr (far_mono e (show w.heap.size ≤ _ by omega))⟩, below_put HB4.out (by omega)⟩
end Go.Proofs.Ytdhkglafpjcdhaa.V
