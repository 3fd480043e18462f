/-
  Contract: array.seen: the view that an operation makes an array of. Contracts: array.sumDims, reformDims. Contracts: array.Dims, of Add, Sub and Mul, of two lists of dimensions that are the same. Contract: array.Do, of Add, Sub and Mul, of right arrays with the same dimensions. Contract: adjointlaw2.two, of right arrays with the same dimensions.
-/
import Derived.Test.YteoobeldmicjhaaGreatPRKArrayRows27
import Derived.Test.YteoobeldmicjhaaGreatPRKArrayRows18
import Derived.Test.YteoobeldmicjhaaGreatPRKArrayRows24
import Derived.Test.YteoobeldmicjhaaGreatPRKArrayRows14
import Derived.Test.YteoobeldmicjhaaGreatPRKArrayRows9
namespace Go.Proofs.YteoobeldmicjhaaGreat.V
set_option maxRecDepth 20000
open Go.RowKit

theorem far_or {N : Nat} {a d : Option Addr} (h : a = d ∨ Far N a) (hd : Far N d) : Far N a := by
  rcases h with e | h
  · rw [e]; exact hd
  · exact h
/-- It answers a View whose dimensions lie in memory of the call's own; or as they were handed in. -/
def GivesN (w0 : World) (e : Ending) (w : World) (s : Int) (ds ss : List Int) (E : Int) : Prop :=
  ∃ (da : Option Addr) (dl dc : Nat) (sa : Option Addr) (sl sc : Nat), e = .returned (.tuple #[.agg #[.int .i64 s, .slice da dl dc, .slice sa sl sc], .int .i64 E]) ∧ Ints w da dl ds ∧ Ints w sa sl ss ∧ dl ≤ dc ∧ sl ≤ sc ∧ Far w0.heap.size da
def GivesO (w0 : World) (ea : Option Addr) (e : Ending) (w : World) (s : Int) (ds ss : List Int) (E : Int) : Prop :=
  ∃ (da : Option Addr) (dl dc : Nat) (sa : Option Addr) (sl sc : Nat), e = .returned (.tuple #[.agg #[.int .i64 s, .slice da dl dc, .slice sa sl sc], .int .i64 E]) ∧ Ints w da dl ds ∧ Ints w sa sl ss ∧ dl ≤ dc ∧ sl ≤ sc ∧ (da = ea ∨ Far w0.heap.size da)
theorem far_mono {N M : Nat} {a : Option Addr} (h : Far N a) (hm : M ≤ N) : Far M a := fun b o e => Nat.le_trans hm (h b o e)

set_option maxRecDepth 100000 in
set_option maxHeartbeats 4000000 in
theorem seen_turn (k x : Int) (da : Option Addr) (dl dc : Nat) (ds : List Int) (ea : Option Addr) (el ec : Nat) (es : List Int) (pa : Option Addr) (pl pc : Nat) (ps : List Int) (la : Option Addr) (ll lc : Nat) (lo : List Int) (ha : Option Addr) (hl hc : Nat) (hi : List Int) (ta : Option Addr) (tl tc : Nat) (st : List Int) (w : World)
    (hd : Ints w da dl ds) (he : Ints w ea el es) (hp : Ints w pa pl ps) (hlo : Ints w la ll lo) (hhi : Ints w ha hl hi) (hst : Ints w ta tl st) (hz : sizeE ds = 0) (hk : k = 11) :
    Calls Tryz.prog 61 #[.agg #[.int .i64 k, .slice ea el ec, .slice pa pl pc, .slice la ll lc, .slice ha hl hc, .slice ta tl tc, .int .i64 x], .slice da dl dc] w fun e w' => GivesN w e w' (okS (turnE 0 ds (stepsV ds) ps) (0)) (okL (turnE 0 ds (stepsV ds) ps) (taken ds ps)) (okL (turnE 0 ds (stepsV ds) ps) (taken (stepsV ds) ps)) (turnE 0 ds (stepsV ds) ps) ∧ Below w.heap.size w w' := by
  obtain ⟨E, hEE⟩ : ∃ E, turnE 0 ds (stepsV ds) ps = E := ⟨_, rfl⟩
  rw [hEE]
  have HEE := hide hEE
  have HD := hide hd
  have HE := hide he
  have HP := hide hp
  have HLO := hide hlo
  have HHI := hide hhi
  have HST := hide hst
  have HZ := hide hz
  have c9 : (k == 9) = false := by simp; omega
  have c11 : (k == 11) = true := by simp; omega
  clear hd he hp hlo hhi hst hz hEE hk
  have hb2 : Below w.heap.size w ((w.alloc (.cells #[.int .i64 k, .slice ea el ec, .slice pa pl pc, .slice la ll lc, .slice ha hl hc, .slice ta tl tc, .int .i64 x] 31)).alloc (.cells #[.int .i64 0, .slice none 0 0, .slice none 0 0] 68)) := ((Below.refl _ _).alloc (Nat.le_refl _) _).alloc (by simp) _
  have HB2 := hide hb2
  have hR := ViewAt.new (w.alloc (.cells #[.int .i64 k, .slice ea el ec, .slice pa pl pc, .slice la ll lc, .slice ha hl hc, .slice ta tl tc, .int .i64 x] 31)) (.int .i64 0) (.slice none 0 0) (.slice none 0 0)
  simp only [World.size_alloc] at hR
  have HR := hide hR
  have HOP := hide ((OpAt.new w k (.slice ea el ec) (.slice pa pl pc) (.slice la ll lc) (.slice ha hl hc) (.slice ta tl tc) x).alloc (.cells #[.int .i64 0, .slice none 0 0, .slice none 0 0] 68))
  clear hb2 hR
  go_enter Tryz.func61, Tryz.ntmps61
  go_wp2_with fail
  refine (whole_any _ _ _ ds _ (HD.out.below HB2.out) none).mono ?_
  rintro e w1 ⟨hgv, hb⟩
  rw [HZ.out] at hgv
  obtain ⟨da1, dl1, dc1, sa1, sl1, sc1, rfl, hi1, hj1, _, hF, hG⟩ := hgv
  have e1 : ∀ l, okL 0 l = l := fun l => by unfold okL; rw [if_pos rfl]
  rw [e1] at hi1 hj1
  simp only [World.size_alloc] at hF hG
  have HF := hide (far_or hF (far_none _))
  have HG := hide hG
  have HI1 := hide hi1
  have HJ1 := hide hj1
  have HR1 := hide (HR.out.below hb)
  have HOP1 := hide ((HOP.out.below hb).alloc (.cells #[.int .i64 0, .slice da1 dl1 dc1, .slice sa1 sl1 sc1] 68))
  have HB1 := hide (Below.on HB2.out hb)
  have hs1 := hb.size
  simp only [World.size_alloc] at hs1
  obtain ⟨o0, o1, o2, o3, o4, o5, o6⟩ := (HOP.out.below hb).cells
  obtain ⟨o0', o1', o2', o3', o4', o5', o6'⟩ := HOP1.out.cells
  clear hi1 hj1 hF hG hb e1
  have HA1 := hide ((Below.refl w1.heap.size w1).alloc (Nat.le_refl _) (.cells #[.int .i64 0, .slice da1 dl1 dc1, .slice sa1 sl1 sc1] 68))
  have HB3 := hide (HB1.out.alloc HB1.out.size (.cells #[.int .i64 0, .slice da1 dl1 dc1, .slice sa1 sl1 sc1] 68))
  go_wp2_with (go_at_call 94; refine (turn_anyF _ _ _ _ ds _ _ _ (stepsV ds) _ _ _ ps _ (HI1.out.below HA1.out) (HJ1.out.below HA1.out) (HP.out.below HB3.out)).mono ?_; rintro e w2 ⟨hgv, hb⟩; rw [HEE.out] at hgv; obtain ⟨da2, dl2, dc2, sa2, sl2, sc2, rfl, hi2, hj2, ⟨hc1, hc2⟩, hF2, hG2⟩ := hgv; simp only [World.size_alloc] at hF2 hG2; have HI2 := hide hi2; have HJ2 := hide hj2; have HF2 := hide hF2; have HG2 := hide hG2; have HR2 := hide ((HR1.out.alloc _).below hb); have HB4 := hide (Below.on HB3.out hb); obtain ⟨⟨r0, r1, r2⟩, f0, f1, f2⟩ := HR2.out.cells; clear hb hi2 hj2 hF2 hG2)
  have q1 := view_put' (x := .int .i64 (okS E (0))) (y := .slice da2 dl2 dc2) (z := .slice sa2 sl2 sc2) HR2.out
  obtain ⟨⟨u0, u1, u2⟩, _⟩ := q1.cells
  exact bodyPost_ret (v := .tuple #[.agg #[.int .i64 (okS E (0)), .slice da2 dl2 dc2, .slice sa2 sl2 sc2], .int .i64 E]) (by simp [results, Tryz.results61, go_sem, u0, u1, u2]) rfl ⟨⟨_, _, _, _, _, _, rfl, ints_putF HI2.out (far_or (a := da2) (d := da1) (by rcases HF2.out with e | e; exact .inl e; exact .inr (far_mono e (show w.heap.size + 1 + 1 ≤ _ by omega))) HF.out) (by omega), ints_putF HJ2.out (far_mono HG2.out (show w.heap.size + 1 + 1 ≤ _ by omega)) (by omega), hc1, hc2, far_mono (far_or (a := da2) (d := da1) (by rcases HF2.out with e | e; exact .inl e; exact .inr (far_mono e (show w.heap.size + 1 + 1 ≤ _ by omega))) HF.out) (show w.heap.size ≤ _ by omega)⟩, below_put HB4.out (by omega)⟩

set_option maxRecDepth 100000 in
set_option maxHeartbeats 4000000 in
theorem seen_flip (k x : Int) (da : Option Addr) (dl dc : Nat) (ds : List Int) (ea : Option Addr) (el ec : Nat) (es : List Int) (pa : Option Addr) (pl pc : Nat) (ps : List Int) (la : Option Addr) (ll lc : Nat) (lo : List Int) (ha : Option Addr) (hl hc : Nat) (hi : List Int) (ta : Option Addr) (tl tc : Nat) (st : List Int) (w : World)
    (hd : Ints w da dl ds) (he : Ints w ea el es) (hp : Ints w pa pl ps) (hlo : Ints w la ll lo) (hhi : Ints w ha hl hi) (hst : Ints w ta tl st) (hz : sizeE ds = 0) (hk : k ≠ 9 ∧ k ≠ 11 ∧ k ≠ 13) :
    Calls Tryz.prog 61 #[.agg #[.int .i64 k, .slice ea el ec, .slice pa pl pc, .slice la ll lc, .slice ha hl hc, .slice ta tl tc, .int .i64 x], .slice da dl dc] w fun e w' => GivesN w e w' (okS (flipE 0 ds (stepsV ds) ps) (flipAcc 0 ds (stepsV ds) ps ps.length)) (okL (flipE 0 ds (stepsV ds) ps) (ds)) (okL (flipE 0 ds (stepsV ds) ps) (flipL (stepsV ds) ps)) (flipE 0 ds (stepsV ds) ps) ∧ Below w.heap.size w w' := by
  obtain ⟨E, hEE⟩ : ∃ E, flipE 0 ds (stepsV ds) ps = E := ⟨_, rfl⟩
  rw [hEE]
  have HEE := hide hEE
  have HD := hide hd
  have HE := hide he
  have HP := hide hp
  have HLO := hide hlo
  have HHI := hide hhi
  have HST := hide hst
  have HZ := hide hz
  have c9 : (k == 9) = false := by simp; omega
  have c11 : (k == 11) = false := by simp; omega
  have c13 : (k == 13) = false := by simp; omega
  clear hd he hp hlo hhi hst hz hEE hk
  have hb2 : Below w.heap.size w ((w.alloc (.cells #[.int .i64 k, .slice ea el ec, .slice pa pl pc, .slice la ll lc, .slice ha hl hc, .slice ta tl tc, .int .i64 x] 31)).alloc (.cells #[.int .i64 0, .slice none 0 0, .slice none 0 0] 68)) := ((Below.refl _ _).alloc (Nat.le_refl _) _).alloc (by simp) _
  have HB2 := hide hb2
  have hR := ViewAt.new (w.alloc (.cells #[.int .i64 k, .slice ea el ec, .slice pa pl pc, .slice la ll lc, .slice ha hl hc, .slice ta tl tc, .int .i64 x] 31)) (.int .i64 0) (.slice none 0 0) (.slice none 0 0)
  simp only [World.size_alloc] at hR
  have HR := hide hR
  have HOP := hide ((OpAt.new w k (.slice ea el ec) (.slice pa pl pc) (.slice la ll lc) (.slice ha hl hc) (.slice ta tl tc) x).alloc (.cells #[.int .i64 0, .slice none 0 0, .slice none 0 0] 68))
  clear hb2 hR
  go_enter Tryz.func61, Tryz.ntmps61
  go_wp2_with fail
  refine (whole_any _ _ _ ds _ (HD.out.below HB2.out) none).mono ?_
  rintro e w1 ⟨hgv, hb⟩
  rw [HZ.out] at hgv
  obtain ⟨da1, dl1, dc1, sa1, sl1, sc1, rfl, hi1, hj1, _, hF, hG⟩ := hgv
  have e1 : ∀ l, okL 0 l = l := fun l => by unfold okL; rw [if_pos rfl]
  rw [e1] at hi1 hj1
  simp only [World.size_alloc] at hF hG
  have HF := hide (far_or hF (far_none _))
  have HG := hide hG
  have HI1 := hide hi1
  have HJ1 := hide hj1
  have HR1 := hide (HR.out.below hb)
  have HOP1 := hide ((HOP.out.below hb).alloc (.cells #[.int .i64 0, .slice da1 dl1 dc1, .slice sa1 sl1 sc1] 68))
  have HB1 := hide (Below.on HB2.out hb)
  have hs1 := hb.size
  simp only [World.size_alloc] at hs1
  obtain ⟨o0, o1, o2, o3, o4, o5, o6⟩ := (HOP.out.below hb).cells
  obtain ⟨o0', o1', o2', o3', o4', o5', o6'⟩ := HOP1.out.cells
  clear hi1 hj1 hF hG hb e1
  have HA1 := hide ((Below.refl w1.heap.size w1).alloc (Nat.le_refl _) (.cells #[.int .i64 0, .slice da1 dl1 dc1, .slice sa1 sl1 sc1] 68))
  have HB3 := hide (HB1.out.alloc HB1.out.size (.cells #[.int .i64 0, .slice da1 dl1 dc1, .slice sa1 sl1 sc1] 68))
  go_wp2_with (go_at_call 95; refine (flip_any _ _ _ _ ds _ _ _ (stepsV ds) _ _ _ ps _ (HI1.out.below HA1.out) (HJ1.out.below HA1.out) (HP.out.below HB3.out)).mono ?_; rintro e w2 ⟨hgv, hb⟩; rw [HEE.out] at hgv; obtain ⟨da2, dl2, dc2, sa2, sl2, sc2, rfl, hi2, hj2, ⟨hc1, hc2⟩, hF2, hG2⟩ := hgv; simp only [World.size_alloc] at hF2 hG2; have HI2 := hide hi2; have HJ2 := hide hj2; have HF2 := hide hF2; have HG2 := hide hG2; have HR2 := hide ((HR1.out.alloc _).below hb); have HB4 := hide (Below.on HB3.out hb); obtain ⟨⟨r0, r1, r2⟩, f0, f1, f2⟩ := HR2.out.cells; clear hb hi2 hj2 hF2 hG2)
  have q1 := view_put' (x := .int .i64 (okS E (flipAcc 0 ds (stepsV ds) ps ps.length))) (y := .slice da2 dl2 dc2) (z := .slice sa2 sl2 sc2) HR2.out
  obtain ⟨⟨u0, u1, u2⟩, _⟩ := q1.cells
  exact bodyPost_ret (v := .tuple #[.agg #[.int .i64 (okS E (flipAcc 0 ds (stepsV ds) ps ps.length)), .slice da2 dl2 dc2, .slice sa2 sl2 sc2], .int .i64 E]) (by simp [results, Tryz.results61, go_sem, u0, u1, u2]) rfl ⟨⟨_, _, _, _, _, _, rfl, ints_putF HI2.out (far_or (a := da2) (d := da1) (by rcases HF2.out with e | e; exact .inl e; exact .inr (far_mono e (show w.heap.size + 1 + 1 ≤ _ by omega))) HF.out) (by omega), ints_putF HJ2.out (far_mono HG2.out (show w.heap.size + 1 + 1 ≤ _ by omega)) (by omega), hc1, hc2, far_mono (far_or (a := da2) (d := da1) (by rcases HF2.out with e | e; exact .inl e; exact .inr (far_mono e (show w.heap.size + 1 + 1 ≤ _ by omega))) HF.out) (show w.heap.size ≤ _ by omega)⟩, below_put HB4.out (by omega)⟩

set_option maxRecDepth 100000 in
set_option maxHeartbeats 4000000 in
theorem seen_cut (k x : Int) (da : Option Addr) (dl dc : Nat) (ds : List Int) (ea : Option Addr) (el ec : Nat) (es : List Int) (pa : Option Addr) (pl pc : Nat) (ps : List Int) (la : Option Addr) (ll lc : Nat) (lo : List Int) (ha : Option Addr) (hl hc : Nat) (hi : List Int) (ta : Option Addr) (tl tc : Nat) (st : List Int) (w : World)
    (hd : Ints w da dl ds) (he : Ints w ea el es) (hp : Ints w pa pl ps) (hlo : Ints w la ll lo) (hhi : Ints w ha hl hi) (hst : Ints w ta tl st) (hz : sizeE ds = 0) (hk : k = 13) :
    Calls Tryz.prog 61 #[.agg #[.int .i64 k, .slice ea el ec, .slice pa pl pc, .slice la ll lc, .slice ha hl hc, .slice ta tl tc, .int .i64 x], .slice da dl dc] w fun e w' => GivesN w e w' (okS (cutE 0 ds (stepsV ds) lo hi st) (cutAcc 0 (stepsV ds) lo ds.length)) (okL (cutE 0 ds (stepsV ds) lo hi st) (cutD ds lo hi st)) (okL (cutE 0 ds (stepsV ds) lo hi st) (cutS (stepsV ds) st)) (cutE 0 ds (stepsV ds) lo hi st) ∧ Below w.heap.size w w' := by
  obtain ⟨E, hEE⟩ : ∃ E, cutE 0 ds (stepsV ds) lo hi st = E := ⟨_, rfl⟩
  rw [hEE]
  have HEE := hide hEE
  have HD := hide hd
  have HE := hide he
  have HP := hide hp
  have HLO := hide hlo
  have HHI := hide hhi
  have HST := hide hst
  have HZ := hide hz
  have c9 : (k == 9) = false := by simp; omega
  have c11 : (k == 11) = false := by simp; omega
  have c13 : (k == 13) = true := by simp; omega
  clear hd he hp hlo hhi hst hz hEE hk
  have hb2 : Below w.heap.size w ((w.alloc (.cells #[.int .i64 k, .slice ea el ec, .slice pa pl pc, .slice la ll lc, .slice ha hl hc, .slice ta tl tc, .int .i64 x] 31)).alloc (.cells #[.int .i64 0, .slice none 0 0, .slice none 0 0] 68)) := ((Below.refl _ _).alloc (Nat.le_refl _) _).alloc (by simp) _
  have HB2 := hide hb2
  have hR := ViewAt.new (w.alloc (.cells #[.int .i64 k, .slice ea el ec, .slice pa pl pc, .slice la ll lc, .slice ha hl hc, .slice ta tl tc, .int .i64 x] 31)) (.int .i64 0) (.slice none 0 0) (.slice none 0 0)
  simp only [World.size_alloc] at hR
  have HR := hide hR
  have HOP := hide ((OpAt.new w k (.slice ea el ec) (.slice pa pl pc) (.slice la ll lc) (.slice ha hl hc) (.slice ta tl tc) x).alloc (.cells #[.int .i64 0, .slice none 0 0, .slice none 0 0] 68))
  clear hb2 hR
  go_enter Tryz.func61, Tryz.ntmps61
  go_wp2_with fail
  refine (whole_any _ _ _ ds _ (HD.out.below HB2.out) none).mono ?_
  rintro e w1 ⟨hgv, hb⟩
  rw [HZ.out] at hgv
  obtain ⟨da1, dl1, dc1, sa1, sl1, sc1, rfl, hi1, hj1, _, hF, hG⟩ := hgv
  have e1 : ∀ l, okL 0 l = l := fun l => by unfold okL; rw [if_pos rfl]
  rw [e1] at hi1 hj1
  simp only [World.size_alloc] at hF hG
  have HF := hide (far_or hF (far_none _))
  have HG := hide hG
  have HI1 := hide hi1
  have HJ1 := hide hj1
  have HR1 := hide (HR.out.below hb)
  have HOP1 := hide ((HOP.out.below hb).alloc (.cells #[.int .i64 0, .slice da1 dl1 dc1, .slice sa1 sl1 sc1] 68))
  have HB1 := hide (Below.on HB2.out hb)
  have hs1 := hb.size
  simp only [World.size_alloc] at hs1
  obtain ⟨o0, o1, o2, o3, o4, o5, o6⟩ := (HOP.out.below hb).cells
  obtain ⟨o0', o1', o2', o3', o4', o5', o6'⟩ := HOP1.out.cells
  clear hi1 hj1 hF hG hb e1
  have HA1 := hide ((Below.refl w1.heap.size w1).alloc (Nat.le_refl _) (.cells #[.int .i64 0, .slice da1 dl1 dc1, .slice sa1 sl1 sc1] 68))
  have HB3 := hide (HB1.out.alloc HB1.out.size (.cells #[.int .i64 0, .slice da1 dl1 dc1, .slice sa1 sl1 sc1] 68))
  go_wp2_with (go_at_call 74; refine (cut_any _ _ _ _ ds _ _ _ (stepsV ds) _ _ _ lo _ _ _ hi _ _ _ st _ (HI1.out.below HA1.out) (HJ1.out.below HA1.out) (HLO.out.below HB3.out) (HHI.out.below HB3.out) (HST.out.below HB3.out)).mono ?_; rintro e w2 ⟨hgv, hb⟩; rw [HEE.out] at hgv; obtain ⟨da2, dl2, dc2, sa2, sl2, sc2, rfl, hi2, hj2, ⟨hc1, hc2⟩, hF2, hG2⟩ := hgv; simp only [World.size_alloc] at hF2 hG2; have HI2 := hide hi2; have HJ2 := hide hj2; have HF2 := hide hF2; have HG2 := hide hG2; have HR2 := hide ((HR1.out.alloc _).below hb); have HB4 := hide (Below.on HB3.out hb); obtain ⟨⟨r0, r1, r2⟩, f0, f1, f2⟩ := HR2.out.cells; clear hb hi2 hj2 hF2 hG2)
  have q1 := view_put' (x := .int .i64 (okS E (cutAcc 0 (stepsV ds) lo ds.length))) (y := .slice da2 dl2 dc2) (z := .slice sa2 sl2 sc2) HR2.out
  obtain ⟨⟨u0, u1, u2⟩, _⟩ := q1.cells
  exact bodyPost_ret (v := .tuple #[.agg #[.int .i64 (okS E (cutAcc 0 (stepsV ds) lo ds.length)), .slice da2 dl2 dc2, .slice sa2 sl2 sc2], .int .i64 E]) (by simp [results, Tryz.results61, go_sem, u0, u1, u2]) rfl ⟨⟨_, _, _, _, _, _, rfl, ints_putF HI2.out (far_or (a := da2) (d := da1) (by rcases HF2.out with e | e; exact .inl e; exact .inr (far_mono e (show w.heap.size + 1 + 1 ≤ _ by omega))) HF.out) (by omega), ints_putF HJ2.out (far_mono HG2.out (show w.heap.size + 1 + 1 ≤ _ by omega)) (by omega), hc1, hc2, far_mono (far_or (a := da2) (d := da1) (by rcases HF2.out with e | e; exact .inl e; exact .inr (far_mono e (show w.heap.size + 1 + 1 ≤ _ by omega))) HF.out) (show w.heap.size ≤ _ by omega)⟩, below_put HB4.out (by omega)⟩

set_option maxRecDepth 100000 in
set_option maxHeartbeats 4000000 in
theorem seen_spread (k x : Int) (da : Option Addr) (dl dc : Nat) (ds : List Int) (ea : Option Addr) (el ec : Nat) (es : List Int) (pa : Option Addr) (pl pc : Nat) (ps : List Int) (la : Option Addr) (ll lc : Nat) (lo : List Int) (ha : Option Addr) (hl hc : Nat) (hi : List Int) (ta : Option Addr) (tl tc : Nat) (st : List Int) (w : World)
    (hd : Ints w da dl ds) (he : Ints w ea el es) (hp : Ints w pa pl ps) (hlo : Ints w la ll lo) (hhi : Ints w ha hl hi) (hst : Ints w ta tl st) (hz : sizeE ds = 0) (hk : k = 9) :
    Calls Tryz.prog 61 #[.agg #[.int .i64 k, .slice ea el ec, .slice pa pl pc, .slice la ll lc, .slice ha hl hc, .slice ta tl tc, .int .i64 x], .slice da dl dc] w fun e w' => GivesO w ea e w' (okS (sprE 0 ds (stepsV ds) es ps) (0)) (okL (sprE 0 ds (stepsV ds) es ps) (es)) (okL (sprE 0 ds (stepsV ds) es ps) (sprS es.length (stepsV ds) ps)) (sprE 0 ds (stepsV ds) es ps) ∧ Below w.heap.size w w' := by
  obtain ⟨E, hEE⟩ : ∃ E, sprE 0 ds (stepsV ds) es ps = E := ⟨_, rfl⟩
  rw [hEE]
  have HEE := hide hEE
  have HD := hide hd
  have HE := hide he
  have HP := hide hp
  have HLO := hide hlo
  have HHI := hide hhi
  have HST := hide hst
  have HZ := hide hz
  have c9 : (k == 9) = true := by simp; omega
  clear hd he hp hlo hhi hst hz hEE hk
  have hb2 : Below w.heap.size w ((w.alloc (.cells #[.int .i64 k, .slice ea el ec, .slice pa pl pc, .slice la ll lc, .slice ha hl hc, .slice ta tl tc, .int .i64 x] 31)).alloc (.cells #[.int .i64 0, .slice none 0 0, .slice none 0 0] 68)) := ((Below.refl _ _).alloc (Nat.le_refl _) _).alloc (by simp) _
  have HB2 := hide hb2
  have hR := ViewAt.new (w.alloc (.cells #[.int .i64 k, .slice ea el ec, .slice pa pl pc, .slice la ll lc, .slice ha hl hc, .slice ta tl tc, .int .i64 x] 31)) (.int .i64 0) (.slice none 0 0) (.slice none 0 0)
  simp only [World.size_alloc] at hR
  have HR := hide hR
  have HOP := hide ((OpAt.new w k (.slice ea el ec) (.slice pa pl pc) (.slice la ll lc) (.slice ha hl hc) (.slice ta tl tc) x).alloc (.cells #[.int .i64 0, .slice none 0 0, .slice none 0 0] 68))
  clear hb2 hR
  go_enter Tryz.func61, Tryz.ntmps61
  go_wp2_with fail
  refine (whole_any _ _ _ ds _ (HD.out.below HB2.out) none).mono ?_
  rintro e w1 ⟨hgv, hb⟩
  rw [HZ.out] at hgv
  obtain ⟨da1, dl1, dc1, sa1, sl1, sc1, rfl, hi1, hj1, _, hF, hG⟩ := hgv
  have e1 : ∀ l, okL 0 l = l := fun l => by unfold okL; rw [if_pos rfl]
  rw [e1] at hi1 hj1
  simp only [World.size_alloc] at hF hG
  have HF := hide (far_or hF (far_none _))
  have HG := hide hG
  have HI1 := hide hi1
  have HJ1 := hide hj1
  have HR1 := hide (HR.out.below hb)
  have HOP1 := hide ((HOP.out.below hb).alloc (.cells #[.int .i64 0, .slice da1 dl1 dc1, .slice sa1 sl1 sc1] 68))
  have HB1 := hide (Below.on HB2.out hb)
  have hs1 := hb.size
  simp only [World.size_alloc] at hs1
  obtain ⟨o0, o1, o2, o3, o4, o5, o6⟩ := (HOP.out.below hb).cells
  obtain ⟨o0', o1', o2', o3', o4', o5', o6'⟩ := HOP1.out.cells
  clear hi1 hj1 hF hG hb e1
  have HA1 := hide ((Below.refl w1.heap.size w1).alloc (Nat.le_refl _) (.cells #[.int .i64 0, .slice da1 dl1 dc1, .slice sa1 sl1 sc1] 68))
  have HB3 := hide (HB1.out.alloc HB1.out.size (.cells #[.int .i64 0, .slice da1 dl1 dc1, .slice sa1 sl1 sc1] 68))
  go_wp2_with (go_at_call 72; refine (spread_any _ _ _ _ ds _ _ _ (stepsV ds) _ _ _ es _ _ _ ps _ (HI1.out.below HA1.out) (HJ1.out.below HA1.out) (HE.out.below HB3.out) (HP.out.below HB3.out)).mono ?_; rintro e w2 ⟨hgv, hb⟩; rw [HEE.out] at hgv; obtain ⟨da2, dl2, dc2, sa2, sl2, sc2, rfl, hi2, hj2, ⟨hc1, hc2⟩, hF2, hG2⟩ := hgv; simp only [World.size_alloc] at hF2 hG2; have HI2 := hide hi2; have HJ2 := hide hj2; have HF2 := hide hF2; have HG2 := hide hG2; have HR2 := hide ((HR1.out.alloc _).below hb); have HB4 := hide (Below.on HB3.out hb); obtain ⟨⟨r0, r1, r2⟩, f0, f1, f2⟩ := HR2.out.cells; clear hb hi2 hj2 hF2 hG2)
  have q1 := view_put' (x := .int .i64 (okS E (0))) (y := .slice da2 dl2 dc2) (z := .slice sa2 sl2 sc2) HR2.out
  obtain ⟨⟨u0, u1, u2⟩, _⟩ := q1.cells
  exact bodyPost_ret (v := .tuple #[.agg #[.int .i64 (okS E (0)), .slice da2 dl2 dc2, .slice sa2 sl2 sc2], .int .i64 E]) (by simp [results, Tryz.results61, go_sem, u0, u1, u2]) rfl ⟨⟨_, _, _, _, _, _, rfl, ints_putL HI2.out (by rcases HF2.out with e | e; exact .inl e; exact .inr (far_mono e (show w.heap.size + 1 + 1 ≤ _ by omega))) HE.out (okL_len HI2.out (fun _ => HE.out.1)) (by omega) (by omega), ints_putF HJ2.out (far_mono HG2.out (show w.heap.size + 1 + 1 ≤ _ by omega)) (by omega), hc1, hc2, by rcases HF2.out with e | e; exact .inl e; exact .inr (far_mono e (show w.heap.size ≤ _ by omega))⟩, below_put HB4.out (by omega)⟩
end Go.Proofs.YteoobeldmicjhaaGreat.V
namespace Go.Proofs.YteoobeldmicjhaaGreat.V
set_option maxRecDepth 20000
open Go.RowKit

theorem lsts_one {w : World} {X : Option Addr} {m c : Nat} {xs : List Int} (h : Lst w X m c xs) (t : TypeId) : Lsts (w.alloc (.cells #[.slice X m c] t)) (some ⟨w.heap.size, 0, none⟩) 1 [xs] := by
  have hb : Below w.heap.size w (w.alloc (.cells #[.slice X m c] t)) := (Below.refl _ _).alloc (Nat.le_refl _) _
  have hn := World.alloc_heap_new w (.cells #[.slice X m c] t)
  refine ⟨rfl, by omega, .inr ⟨_, _, rfl, fun j hj => ?_⟩⟩
  have e : j = 0 := by omega
  subst e
  exact ⟨X, m, c, by unfold World.cell?; rw [hn]; rfl, h.below hb⟩

theorem lsts_one' {w : World} {X : Option Addr} {m c B : Nat} {xs : List Int} (h : Lst w X m c xs) (t : TypeId) (hB : w.heap.size = B) : Lsts (w.alloc (.cells #[.slice X m c] t)) (some ⟨B, 0, none⟩) 1 [xs] := hB ▸ lsts_one h t

theorem count_ok {xs : List Int} (h : sizeE xs = 0) : ∀ k, k ≤ xs.length → 0 ≤ prod (xs.take k) ∧ prod (xs.take k) ≤ 9223372036854775807 := by
  obtain ⟨z1, z2, z3, z4⟩ := sizeE_ok h
  intro k hk
  have hm : ∀ x ∈ xs.take k, 0 ≤ x ∧ x ≤ 4096 := fun x hx => z2 x (List.mem_of_mem_take hx)
  by_cases h5 : k ≤ 5
  · have := prod_small5 (xs.take k) hm (by simp; omega)
    omega
  · have e : xs.take k = xs := List.take_of_length_le (by omega)
    rw [e]
    rcases dims_cases h with ⟨_, _, h1⟩ | ⟨_, _, h1, h2⟩ <;> omega
theorem size_prod {xs : List Int} (h : sizeE xs = 0) : sizeN xs = prod xs := by
  rcases dims_cases h with ⟨_, h1, h2⟩ | ⟨_, h1, _, _⟩ <;> omega

def reformP (ds es : List Int) : List Int × Int := if sizeE es ≠ 0 then ([], sizeE es) else if sizeN es = sizeN ds then (es, 0) else ([], 6)

set_option maxRecDepth 100000 in
set_option maxHeartbeats 1000000 in
theorem reformDims_any (k : Int) (va vl vh vs : Value) (x : Int) (ea : Option Addr) (el ec : Nat) (es : List Int) (a : Option Addr) (len cap : Nat) (ds : List Int) (w : World) (he : Ints w ea el es) (h : Ints w a len ds) (hz : sizeE ds = 0) :
    Calls Tryz.prog 63 #[.agg #[.int .i64 k, .slice ea el ec, va, vl, vh, vs, .int .i64 x], .slice a len cap] w fun e w' => OutP e w' (reformP ds es) ∧ Below w.heap.size w w' := by
  have HE := hide he
  have H := hide h
  have HZ := hide hz
  clear he h hz
  have HB1 := hide ((Below.refl w.heap.size w).alloc (Nat.le_refl _) (.cells #[.int .i64 k, .slice ea el ec, va, vl, vh, vs, .int .i64 x] 31))
  by_cases c1 : sizeE es = 0
  case neg =>
    have hp : reformP ds es = ([], sizeE es) := by unfold reformP; rw [if_pos c1]
    rw [hp]
    have q : (sizeE es != 0) = true := by simp [c1]
    clear hp c1
    go_enter Tryz.func63, Tryz.ntmps63
    go_wp2_with (go_at_call 40; refine (size_any _ _ _ es _ (HE.out.below HB1.out)).mono ?_; rintro e w' ⟨rfl, hw'⟩; obtain rfl := hw'.symm)
    go_ret2
    exact ⟨outP_none _ _, HB1.out⟩
  have HC := hide c1
  have hel : el ≤ 6 := by have := (sizeE_ok c1).1; have := HE.out.1; omega
  by_cases c2 : sizeN es = prod ds
  · have hp : reformP ds es = (es, 0) := by unfold reformP; rw [if_neg (by simp [c1]), if_pos (by rw [size_prod HZ.out]; exact c2)]
    rw [hp]
    have q : (sizeN es != prod ds) = false := by simp [c2]
    clear hp c1 c2
    go_enter Tryz.func63, Tryz.ntmps63
    go_wp2_with (first
      | (go_at_call 40; refine (size_any _ _ _ es _ (HE.out.below HB1.out)).mono ?_; rintro e w' ⟨rfl, hw'⟩; obtain rfl := hw'.symm; rw [HC.out])
      | (go_at_call 23; refine (count_any _ _ _ ds _ (H.out.below HB1.out) (count_ok HZ.out)).mono ?_; rintro e w' ⟨rfl, hw'⟩; obtain rfl := hw'.symm)
      | (go_at_call 60; refine (afresh_any _ _ _ es _ (HE.out.below HB1.out) (by omega)).mono ?_; rintro e w1 ⟨⟨g, rfl, hr, hg⟩, hb⟩; have HR := hide hr; have HB2 := hide (Below.on HB1.out hb); have hgg : w.heap.size ≤ g := Nat.le_trans HB1.out.size hg; clear hr hb hg))
    go_ret2
    exact ⟨outP_new (newAt_row HR.out hgg HE.out.1 (by omega) HE.out.2.2.1) 0, HB2.out⟩
  · have hp : reformP ds es = ([], 6) := by unfold reformP; rw [if_neg (by simp [c1]), if_neg (by rw [size_prod HZ.out]; exact c2)]
    rw [hp]
    have q : (sizeN es != prod ds) = true := by simp [c2]
    clear hp c1 c2
    go_enter Tryz.func63, Tryz.ntmps63
    go_wp2_with (first
      | (go_at_call 40; refine (size_any _ _ _ es _ (HE.out.below HB1.out)).mono ?_; rintro e w' ⟨rfl, hw'⟩; obtain rfl := hw'.symm; rw [HC.out])
      | (go_at_call 23; refine (count_any _ _ _ ds _ (H.out.below HB1.out) (count_ok HZ.out)).mono ?_; rintro e w' ⟨rfl, hw'⟩; obtain rfl := hw'.symm))
    go_ret2
    exact ⟨outP_none _ _, HB1.out⟩

/-- A rising list names none twice. -/
theorem once_of_rise {xs : List Int} {n : Nat} (h : RiseOk xs n) : Once xs n := fun i hi => ⟨(h i hi).1, (h i hi).2.1, fun j hj => by have := rise_lt h j i hj hi; omega⟩
/-- What may be flipped may be summed: an array as it lies does not go too far when it is flipped. -/
theorem flip_whole {ds : List Int} (ps : List Int) (h : sizeE ds = 0) : flipE 0 ds (stepsV ds) ps = if riseB ps ds.length = true then 0 else 6 := by
  unfold flipE
  rw [if_neg (by simp [wrong_whole h])]
  by_cases c : riseB ps ds.length = true
  · rw [if_pos c, if_pos c]
    have hpo := (riseB_iff _ _).1 c
    have hbw : beyondB (flipAcc 0 ds (stepsV ds) ps ps.length) (flipL (stepsV ds) ps) = false := by
      have ha := flipAcc_whole h ps ps.length
      have hl := rise_len hpo
      have h6 := (sizeE_ok h).1
      refine far_of (by omega) fun x hx => ?_
      simp only [flipL, List.mem_map, List.mem_range] at hx
      obtain ⟨k, _, rfl⟩ := hx
      have := steps_bd h k
      split <;> omega
    rw [hbw]; simp
  · rw [if_neg c, if_neg c]
def sumP (ds ps : List Int) : List Int × Int := if riseB ps ds.length = true then (taken ds (freeL ps ds.length), 0) else ([], 6)

theorem ints_nil (w : World) : Ints w none 0 [] := ⟨rfl, by omega, by simp, .inl rfl⟩

set_option maxRecDepth 100000 in
set_option maxHeartbeats 4000000 in
theorem sumDims_any (k : Int) (vd vl vh vs : Value) (x : Int) (pa : Option Addr) (pl pc : Nat) (ps : List Int) (a : Option Addr) (len cap : Nat) (ds : List Int) (w : World) (hp : Lst w pa pl pc ps) (h : Ints w a len ds) (hz : sizeE ds = 0) :
    Calls Tryz.prog 62 #[.agg #[.int .i64 k, vd, .slice pa pl pc, vl, vh, vs, .int .i64 x], .slice a len cap] w fun e w' => OutP e w' (sumP ds ps) ∧ Below w.heap.size w w' := by
  have HP := hide hp
  have H := hide h
  have HN := hide h.1
  have HZ := hide hz
  have h6 : len ≤ 6 := by have := (sizeE_ok hz).1; have := h.1; omega
  have HFW := hide (flip_whole ps hz)
  clear hp h hz
  have HB1 := hide ((Below.refl w.heap.size w).alloc (Nat.le_refl _) (.cells #[.int .i64 k, vd, .slice pa pl pc, vl, vh, vs, .int .i64 x] 31))
  have HOP := hide (OpAt.new w k vd (.slice pa pl pc) vl vh vs x)
  cases c : riseB ps ds.length with
  | false =>
    have hpp : sumP ds ps = ([], 6) := by unfold sumP; rw [if_neg (by simp [c])]
    rw [hpp]
    have HF6 : Hid (flipE 0 ds (stepsV ds) ps = 6) := by rw [Hid, HFW.out, if_neg (by simp [c])]
    clear hpp c
    go_enter Tryz.func62, Tryz.ntmps62
    go_wp2_with (go_at_call 61; refine (seen_flip 15 0 _ _ _ ds none 0 0 [] _ _ _ ps none 0 0 [] none 0 0 [] none 0 0 [] _ (H.out.below HB1.out) (ints_nil _) (HP.out.1.below HB1.out) (ints_nil _) (ints_nil _) (ints_nil _) HZ.out (by decide)).mono ?_; rintro e w1 ⟨hgv, hb⟩; rw [HF6.out] at hgv; obtain ⟨da1, dl1, dc1, sa1, sl1, sc1, rfl, _⟩ := hgv; have HB2 := hide (Below.on HB1.out hb); clear hb)
    go_ret2
    exact ⟨outP_none _ _, HB2.out.alloc HB2.out.size _⟩
  | true =>
    have hpp : sumP ds ps = (taken ds (freeL ps ds.length), 0) := by unfold sumP; rw [if_pos c]
    rw [hpp]
    have HF0 : Hid (flipE 0 ds (stepsV ds) ps = 0) := by rw [Hid, HFW.out, if_pos c]
    have HON : Hid (Once ps len) := by rw [Hid, ← HN.out]; exact once_of_rise ((riseB_iff _ _).1 c)
    clear hpp c
    go_enter Tryz.func62, Tryz.ntmps62
    go_wp2_with (first
      | (go_at_call 61; refine (seen_flip 15 0 _ _ _ ds none 0 0 [] _ _ _ ps none 0 0 [] none 0 0 [] none 0 0 [] _ (H.out.below HB1.out) (ints_nil _) (HP.out.1.below HB1.out) (ints_nil _) (ints_nil _) (ints_nil _) HZ.out (by decide)).mono ?_; rintro e w1 ⟨hgv, hb⟩; rw [HF0.out] at hgv; obtain ⟨da1, dl1, dc1, sa1, sl1, sc1, rfl, _⟩ := hgv; obtain ⟨S, hS⟩ : ∃ S, S = okS 0 (flipAcc 0 ds (stepsV ds) ps ps.length) := ⟨_, rfl⟩; rw [← hS]; clear hS; have HB2' := Below.on HB1.out hb; have HB2 := hide (HB2'.alloc HB2'.size (.cells #[.int .i64 S, .slice da1 dl1 dc1, .slice sa1 sl1 sc1] 68)); obtain ⟨o0, o1, o2, o3, o4, o5, o6⟩ := ((HOP.out.below hb).alloc (.cells #[.int .i64 S, .slice da1 dl1 dc1, .slice sa1 sl1 sc1] 68)).cells; clear hb HB2')
      | (go_at_call 96; refine (others_any _ _ _ _ [ps] _ (lsts_one' (HP.out.below HB2.out) _ (World.size_alloc _ _)) h6).mono ?_; rintro e w2 ⟨hop, hb⟩; rw [show [ps].flatten = ps by simp] at hop; obtain ⟨_, v, rfl, hv⟩ := hop.resolve_right (fun hh => hh.1 HON.out); obtain ⟨X, n, c, rfl, hl, _⟩ := hv; have HL := hide hl; have HB3 := hide (Below.on (HB2.out.alloc HB2.out.size _) hb); have hn6 : n ≤ 6 := by { have := hl.1.1; have := freeL_len ps len; omega }; clear hb hl hop)
      | (go_at_call 77; refine (these_any _ _ _ ds _ _ _ (freeL ps len) _ (H.out.below HB3.out) HL.out.1 (fun y hy => freeL_bd ps len y hy) hn6).mono ?_; rintro e w3 ⟨⟨v, rfl, hv⟩, hb⟩; have HV := hide hv; have HB4 := hide (Below.on HB3.out hb); clear hv hb))
    go_ret2
    rw [HN.out]
    exact ⟨outP_new HV.out 0, HB4.out⟩
end Go.Proofs.YteoobeldmicjhaaGreat.V
namespace Go.Proofs.YteoobeldmicjhaaGreat.V
set_option maxRecDepth 20000
open Go.RowKit

set_option maxRecDepth 100000 in
set_option maxHeartbeats 1000000 in
theorem sameDims2 (R : Nat) (da : Option Addr) (dl dc : Nat) (ea : Option Addr) (el ec : Nat) (ds : List Int) (w : World)
    (q0 : w.cell? ⟨R, 0, none⟩ = some (.slice da dl dc)) (q1 : w.cell? ⟨R, 1, none⟩ = some (.slice ea el ec)) (hd : Ints w da dl ds) (he : Ints w ea el ds) (hz : sizeE ds = 0) :
    Calls Tryz.prog 69 #[.slice (some ⟨R, 0, none⟩) 2 2] w fun e w' => (∃ g, e = .returned (.tuple #[.slice (some ⟨g, 0, none⟩) dl dl, .int .i64 0]) ∧ RowI w' g dl ds ∧ w.heap.size ≤ g) ∧ Below w.heap.size w w' := by
  have h6 : dl ≤ 6 := by have := (sizeE_ok hz).1; have := hd.1; omega
  have HD := hide hd
  have HE := hide he
  have HQ0 := hide q0
  have HQ1 := hide q1
  have hR : R < w.heap.size := lt_of_cell q0
  clear hd he q0 q1 hz
  go_enter Tryz.func69, Tryz.ntmps69
  go_wp2
  go_loopw [8] (fun i wr => ∃ k : Nat, k ≤ 2 ∧ i = .int .i64 k ∧ Below w.heap.size w wr) (fun i _ => 2 - (intOf i).toNat)
  case atStart => exact ⟨0, by omega, rfl, Below.refl _ _⟩
  case round =>
    obtain ⟨k, hk, rfl, hB⟩ := hrel
    have HB := hide hB
    clear hB
    have k0 : wr.cell? ⟨R, 0, none⟩ = some (.slice da dl dc) := (HB.out.cell (p := ⟨R, 0, none⟩) hR).trans HQ0.out
    have k1 : wr.cell? ⟨R, 1, none⟩ = some (.slice ea el ec) := (HB.out.cell (p := ⟨R, 1, none⟩) hR).trans HQ1.out
    have hcases : k = 0 ∨ k = 1 ∨ k = 2 := by omega
    rcases hcases with rfl | rfl | rfl
    · go_wp2_with (go_at_call 25; refine (equal_any _ _ _ ds _ _ _ ds _ (HD.out.below HB.out) (HD.out.below HB.out)).mono ?_; rintro e w1 ⟨rfl, n1, hw1⟩; rw [decide_eq_true (rfl : ds = ds)]; have HB1 := hide (Below.on HB.out (hw1 ▸ below_drewN _ n1)); clear hw1)
      go_roundw
      case rel => exact ⟨1, by omega, by go_num, HB1.out⟩
      case measure => simp [intOf]
    · go_wp2_with (go_at_call 25; refine (equal_any _ _ _ ds _ _ _ ds _ (HE.out.below HB.out) (HD.out.below HB.out)).mono ?_; rintro e w1 ⟨rfl, n1, hw1⟩; rw [decide_eq_true (rfl : ds = ds)]; have HB1 := hide (Below.on HB.out (hw1 ▸ below_drewN _ n1)); clear hw1)
      go_roundw
      case rel => exact ⟨2, by omega, by go_num, HB1.out⟩
      case measure => simp [intOf]
    · go_wp2_with (go_at_call 60; refine (afresh_any _ _ _ ds _ (HD.out.below HB.out) (by omega)).mono ?_; rintro e w1 ⟨⟨g, rfl, hr, hg⟩, hb⟩; have HR := hide hr; have HB1 := hide (Below.on HB.out hb); have hgg : w.heap.size ≤ g := Nat.le_trans HB.out.size hg; clear hr hb hg)
      go_ret2
      exact ⟨⟨g, rfl, HR.out, hgg⟩, HB1.out⟩

set_option maxRecDepth 100000 in
set_option maxHeartbeats 2000000 in
theorem shape2 (k : Int) (hk : k = 3 ∨ k = 4 ∨ k = 5) (R : Nat) (da : Option Addr) (dl dc : Nat) (ea : Option Addr) (el ec : Nat) (ds : List Int) (w : World)
    (q0 : w.cell? ⟨R, 0, none⟩ = some (.slice da dl dc)) (q1 : w.cell? ⟨R, 1, none⟩ = some (.slice ea el ec)) (hd : Ints w da dl ds) (he : Ints w ea el ds) (hz : sizeE ds = 0) :
    Calls Tryz.prog 41 #[.agg #[.int .i64 k, .slice none 0 0, .slice none 0 0, .slice none 0 0, .slice none 0 0, .slice none 0 0, .int .i64 0], .slice (some ⟨R, 0, none⟩) 2 2] w fun e w' => (∃ g, e = .returned (.tuple #[.slice (some ⟨g, 0, none⟩) dl dl, .int .i64 0]) ∧ RowI w' g dl ds ∧ w.heap.size ≤ g) ∧ Below w.heap.size w w' := by
  have HB1 := hide ((Below.refl w.heap.size w).alloc (Nat.le_refl _) (.cells #[.int .i64 k, .slice none 0 0, .slice none 0 0, .slice none 0 0, .slice none 0 0, .slice none 0 0, .int .i64 0] 31))
  have HOP := hide (OpAt.new w k (.slice none 0 0) (.slice none 0 0) (.slice none 0 0) (.slice none 0 0) (.slice none 0 0) 0)
  obtain ⟨o0, o1, o2, o3, o4, o5, o6⟩ := HOP.out.cells
  have HS := hide (sameDims2 R da dl dc ea el ec ds (w.alloc (.cells #[.int .i64 k, .slice none 0 0, .slice none 0 0, .slice none 0 0, .slice none 0 0, .slice none 0 0, .int .i64 0] 31)) (alloc_cell q0) (alloc_cell q1) (hd.below HB1.out) (he.below HB1.out) hz)
  clear q0 q1 hd he hz
  rcases hk with rfl | rfl | rfl
  all_goals go_enter Tryz.func41, Tryz.ntmps41
  all_goals go_wp2_with (go_at_call 69; refine HS.out.mono ?_; rintro e w1 ⟨⟨g, rfl, hr, hg⟩, hb⟩; have HR := hide hr; have HB2 := hide (Below.on HB1.out hb); have hgg : w.heap.size ≤ g := Nat.le_trans HB1.out.size hg; clear hr hb hg)
  all_goals go_ret2
  all_goals exact ⟨⟨g, rfl, HR.out, hgg⟩, HB2.out⟩

theorem takes_two {k : Int} (hk : k = 3 ∨ k = 4 ∨ k = 5) : takesE k 2 = 0 := by rcases hk with rfl | rfl | rfl <;> decide

set_option maxRecDepth 100000 in
set_option maxHeartbeats 2000000 in
theorem Dims2 (k : Int) (hk : k = 3 ∨ k = 4 ∨ k = 5) (R : Nat) (da : Option Addr) (dl dc : Nat) (ea : Option Addr) (el ec : Nat) (ds : List Int) (w : World)
    (q0 : w.cell? ⟨R, 0, none⟩ = some (.slice da dl dc)) (q1 : w.cell? ⟨R, 1, none⟩ = some (.slice ea el ec)) (hd : Ints w da dl ds) (he : Ints w ea el ds) (hz : sizeE ds = 0) :
    Calls Tryz.prog 22 #[.agg #[.int .i64 k, .slice none 0 0, .slice none 0 0, .slice none 0 0, .slice none 0 0, .slice none 0 0, .int .i64 0], .slice (some ⟨R, 0, none⟩) 2 2] w fun e w' => (∃ g, e = .returned (.tuple #[.slice (some ⟨g, 0, none⟩) dl dl, .int .i64 0]) ∧ RowI w' g dl ds ∧ w.heap.size ≤ g) ∧ Below w.heap.size w w' := by
  have HB1 := hide ((Below.refl w.heap.size w).alloc (Nat.le_refl _) (.cells #[.int .i64 k, .slice none 0 0, .slice none 0 0, .slice none 0 0, .slice none 0 0, .slice none 0 0, .int .i64 0] 31))
  have HOP := hide (OpAt.new w k (.slice none 0 0) (.slice none 0 0) (.slice none 0 0) (.slice none 0 0) (.slice none 0 0) 0)
  obtain ⟨o0, o1, o2, o3, o4, o5, o6⟩ := HOP.out.cells
  have h6 : dl ≤ 6 := by have := (sizeE_ok hz).1; have := hd.1; omega
  have HD := hide hd
  have HE := hide he
  have HZ := hide hz
  have HQ0 := hide q0
  have HQ1 := hide q1
  have hR : R < w.heap.size := lt_of_cell q0
  have HTT := hide (takes_two hk)
  have HK := hide hk
  clear q0 q1 hd he hz hk
  go_enter Tryz.func22, Tryz.ntmps22
  go_wp2_with (go_at_call 20; refine (takes_any _ _ _).mono ?_; rintro e w' ⟨rfl, hw'⟩; obtain rfl := hw'.symm; rw [HTT.out])
  go_loopw [25] (fun i wr => ∃ j : Nat, j ≤ 2 ∧ i = .int .i64 j ∧ OpAt wr w.heap.size k (.slice none 0 0) (.slice none 0 0) (.slice none 0 0) (.slice none 0 0) (.slice none 0 0) 0 ∧ Below w.heap.size w wr) (fun i _ => 2 - (intOf i).toNat)
  case atStart => exact ⟨0, by omega, rfl, HOP.out, HB1.out⟩
  case round =>
    obtain ⟨j, hj, rfl, ho, hB⟩ := hrel
    have HO := hide ho
    have HB := hide hB
    clear ho hB o0 o1 o2 o3 o4 o5 o6
    have k0 : wr.cell? ⟨R, 0, none⟩ = some (.slice da dl dc) := (HB.out.cell (p := ⟨R, 0, none⟩) hR).trans HQ0.out
    have k1 : wr.cell? ⟨R, 1, none⟩ = some (.slice ea el ec) := (HB.out.cell (p := ⟨R, 1, none⟩) hR).trans HQ1.out
    have hcases : j = 0 ∨ j = 1 ∨ j = 2 := by omega
    rcases hcases with rfl | rfl | rfl
    · go_wp2_with (go_at_call 40; refine (size_any _ _ _ ds _ (HD.out.below HB.out)).mono ?_; rintro e w' ⟨rfl, hw'⟩; obtain rfl := hw'.symm; rw [HZ.out])
      go_roundw
      case rel => exact ⟨1, by omega, by go_num, HO.out, HB.out⟩
      case measure => simp [intOf]
    · go_wp2_with (go_at_call 40; refine (size_any _ _ _ ds _ (HE.out.below HB.out)).mono ?_; rintro e w' ⟨rfl, hw'⟩; obtain rfl := hw'.symm; rw [HZ.out])
      go_roundw
      case rel => exact ⟨2, by omega, by go_num, HO.out, HB.out⟩
      case measure => simp [intOf]
    · have HS := hide (shape2 k HK.out R da dl dc ea el ec ds wr k0 k1 (HD.out.below HB.out) (HE.out.below HB.out) HZ.out)
      obtain ⟨o0, o1, o2, o3, o4, o5, o6⟩ := HO.out.cells
      have HLD := hide HD.out.1
      have HBD := hide HD.out.2.2.1
      go_wp2_with (first
        | (go_at_call 41; refine HS.out.mono ?_; rintro e w1 ⟨⟨g, rfl, hr, hg⟩, hb⟩; have HR := hide hr; have HB2 := hide (Below.on HB.out hb); have hgg : w.heap.size ≤ g := Nat.le_trans HB.out.size hg; clear hr hb hg)
        | (go_at_call 40; refine (size_any _ _ _ ds _ (ints_of_rowI HR.out HLD.out (by omega) HBD.out)).mono ?_; rintro e w' ⟨rfl, hw'⟩; obtain rfl := hw'.symm; rw [HZ.out]))
      go_ret2
      exact ⟨⟨g, rfl, HR.out, hgg⟩, HB2.out⟩
end Go.Proofs.YteoobeldmicjhaaGreat.V
namespace Go.Proofs.YteoobeldmicjhaaGreat.V
set_option maxRecDepth 20000
open Go.RowKit

theorem info_int64 : (Tryz.prog.info? 2).map (fun i => (i.zero, i.size, i.bytes)) = some (some (.int .i64 0), 1, 8) := by kernel_rfl
theorem twoV_bd (k a b : Int) : -9223372036854775808 ≤ twoV k a b ∧ twoV k a b ≤ 9223372036854775807 := by
  unfold twoV wrap64
  omega
theorem twoL_bd (k : Int) (xs ys : List Int) (n : Nat) : ∀ x ∈ twoL k xs ys n, -9223372036854775808 ≤ x ∧ x ≤ 9223372036854775807 := by
  intro x hx
  simp only [twoL, List.mem_map] at hx
  obtain ⟨i, _, rfl⟩ := hx
  exact twoV_bd _ _ _
theorem arrE_ok {ds : List Int} {n : Nat} (h : arrE ds n = 0) : sizeE ds = 0 ∧ (n : Int) = prod ds ∧ n ≤ 65536 := by
  unfold arrE at h
  by_cases c : sizeE ds ≠ 0
  · rw [if_pos c] at h; exact absurd h c
  rw [if_neg c] at h
  have c' : sizeE ds = 0 := Decidable.not_not.1 c
  by_cases d : (n : Int) ≠ sizeN ds
  · rw [if_pos d] at h; simp at h
  have d' : (n : Int) = sizeN ds := Decidable.not_not.1 d
  rw [size_prod c'] at d'
  have := sizeE_ok c'
  refine ⟨c', d', ?_⟩
  by_cases p : ∀ x ∈ ds, 1 ≤ x
  · have := (this.2.2.1 p).1; omega
  · have hz : (0 : Int) ∈ ds := by
      simp only [Classical.not_forall] at p
      obtain ⟨x, hx, hn⟩ := p
      have := this.2.1 x hx
      obtain rfl : x = 0 := by omega
      exact hx
    have e := this.2.2.2 hz
    rw [size_prod c'] at e
    omega
theorem ArrAt.set {w : World} {b : Nat} {c0 c1 : Value} (h : ArrAt w b c0 c1) {p : Addr} (hne : b ≠ p.block) (u : Value) : ArrAt (w.setCell p u) b c0 c1 := (Below.heap_setCell _ _ _ _ hne).trans h
theorem ArrAt.put {w : World} {b : Nat} {c0 c1 : Value} (h : ArrAt w b c0 c1) (d0 d1 : Value) : ArrAt ((w.setCell ⟨b, 0, none⟩ d0).setCell ⟨b, 1, none⟩ d1) b d0 d1 := by
  unfold ArrAt at *
  simp [World.setCell, Array.getElem?_modify, h]
/-- The row of the arguments' dimensions, as far as it has come. -/
def rowD (u v : Value) (j t : Nat) : Value := if t < j then (if t = 0 then u else v) else .slice none 0 0

set_option maxRecDepth 100000 in
set_option maxHeartbeats 4000000 in
theorem Do_two (k : Int) (hk : k = 3 ∨ k = 4 ∨ k = 5) (b off cap : Nat) (da : Option Addr) (dl dc : Nat) (ea : Option Addr) (el ec : Nat) (ds : List Int) (n : Nat) (xa : Option Addr) (xc : Nat) (xs : List Int) (ya : Option Addr) (yc : Nat) (ys : List Int) (w : World)
    (c0 : w.cell? ⟨b, off, none⟩ = some (.slice da dl dc)) (c1 : w.cell? ⟨b, off + 1, none⟩ = some (.slice xa n xc)) (c2 : w.cell? ⟨b, off + 2, none⟩ = some (.slice ea el ec)) (c3 : w.cell? ⟨b, off + 3, none⟩ = some (.slice ya n yc))
    (hd : Ints w da dl ds) (he : Ints w ea el ds) (ix : Ints w xa n xs) (iy : Ints w ya n ys) (hE : arrE ds n = 0) :
    Calls Tryz.prog 9 #[.agg #[.int .i64 k, .slice none 0 0, .slice none 0 0, .slice none 0 0, .slice none 0 0, .slice none 0 0, .int .i64 0], .slice (some ⟨b, off, none⟩) 2 cap] w fun e w' =>
      (∃ g G : Nat, e = .returned (.tuple #[.agg #[.slice (some ⟨g, 0, none⟩) dl dl, .slice (some ⟨G, 0, none⟩) n n], .int .i64 0]) ∧ Ints w' (some ⟨g, 0, none⟩) dl ds ∧ Ints w' (some ⟨G, 0, none⟩) n (twoL k xs ys n) ∧ w.heap.size ≤ g ∧ w.heap.size ≤ G) ∧ Below w.heap.size w w' := by
  obtain ⟨z1, z2, z3⟩ := arrE_ok hE
  have HZ := hide z1
  have HN := hide z2
  have HE := hide hE
  have HD := hide hd
  have HE2 := hide he
  have HIX := hide ix
  have HIY := hide iy
  have HK := hide hk
  have HTT := hide (takes_two hk)
  have hbl : b < w.heap.size := lt_of_cell c0
  have HC0 := hide c0
  have HC1 := hide c1
  have HC2 := hide c2
  have HC3 := hide c3
  have HB1 := hide ((Below.refl w.heap.size w).alloc (Nat.le_refl _) (.cells #[.int .i64 k, .slice none 0 0, .slice none 0 0, .slice none 0 0, .slice none 0 0, .slice none 0 0, .int .i64 0] 31))
  have HB2 := hide (HB1.out.alloc HB1.out.size (.cells #[.slice none 0 0, .slice none 0 0] 25))
  have HOP := hide ((OpAt.new w k (.slice none 0 0) (.slice none 0 0) (.slice none 0 0) (.slice none 0 0) (.slice none 0 0) 0).alloc (.cells #[.slice none 0 0, .slice none 0 0] 25))
  have har := ArrAt.new (w.alloc (.cells #[.int .i64 k, .slice none 0 0, .slice none 0 0, .slice none 0 0, .slice none 0 0, .slice none 0 0, .int .i64 0] 31)) (.slice none 0 0) (.slice none 0 0)
  simp only [World.size_alloc] at har
  have HAR := hide har
  obtain ⟨o0, o1, o2, o3, o4, o5, o6⟩ := HOP.out.cells
  have hmk : ∀ w : World, (Instr.makeSlice 45 (.int .i64 2) (.int .i64 2)).run Tryz.prog w = .ok (.slice (some ⟨w.heap.size, 0, none⟩) 2 2) (w.alloc (.cells (madeCells #[.slice none 0 0] 2) 22)) := run_make_row' (P := Tryz.prog) 45 22 (.slice none 0 0) 24 Tryz.underlying45 info_ints rfl .i64 .i64 2 (by omega) (by omega)
  have hmk2 := run_make_row' (P := Tryz.prog) 23 2 (.int .i64 0) 8 Tryz.underlying23 info_int64 rfl .i64 .i64 n (by omega) (by omega)
  clear hk hd he ix iy hE z1 z2 har c0 c1 c2 c3
  go_enter Tryz.func9, Tryz.ntmps9
  go_wp2_with (go_at_call 20; refine (takes_any _ _ _).mono ?_; rintro e w' ⟨rfl, hw'⟩; obtain rfl := hw'.symm; rw [HTT.out])
  go_loopw [28] (fun i wr => ∃ j : Nat, j ≤ 2 ∧ i = .int .i64 j ∧ wr.rowIs (w.heap.size + 1 + 1) 22 2 (rowD (.slice da dl dc) (.slice ea el ec) j) ∧ OpAt wr w.heap.size k (.slice none 0 0) (.slice none 0 0) (.slice none 0 0) (.slice none 0 0) (.slice none 0 0) 0 ∧ ArrAt wr (w.heap.size + 1) (.slice none 0 0) (.slice none 0 0) ∧ Below w.heap.size w wr) (fun i _ => 2 - (intOf i).toNat)
  case atStart =>
    refine ⟨0, by omega, rfl, ?_, HOP.out.alloc _, HAR.out.alloc _, HB2.out.alloc HB2.out.size _⟩
    have := World.rowIs_made ((w.alloc (.cells #[.int .i64 k, .slice none 0 0, .slice none 0 0, .slice none 0 0, .slice none 0 0, .slice none 0 0, .int .i64 0] 31)).alloc (.cells #[.slice none 0 0, .slice none 0 0] 25)) (.slice none 0 0) 2 22
    simp only [World.size_alloc] at this
    exact this.congr (fun t _ => by simp [rowD])
  case round =>
    obtain ⟨j, hj, rfl, hrow, hop, har, hB⟩ := hrel
    have HR := hide hrow
    have HO := hide hop
    have HA := hide har
    have HB := hide hB
    clear hrow hop har hB o0 o1 o2 o3 o4 o5 o6
    have hcases : j = 0 ∨ j = 1 ∨ j = 2 := by omega
    rcases hcases with rfl | rfl | rfl
    · have s0 : wr.cell? ⟨b, off, none⟩ = some (.slice da dl dc) := (HB.out.cell (p := ⟨b, off, none⟩) hbl).trans HC0.out
      have s1 : wr.cell? ⟨b, off + 1, none⟩ = some (.slice xa n xc) := (HB.out.cell (p := ⟨b, off + 1, none⟩) hbl).trans HC1.out
      have HAN := hide (ArrAt.new wr (.slice da dl dc) (.slice xa n xc))
      have HBN := hide (HB.out.alloc HB.out.size (.cells #[.slice da dl dc, .slice xa n xc] 25))
      obtain ⟨⟨a0, a1⟩, _⟩ := HAN.out.cells
      go_wp2_with (go_at_call 21; refine (awrong_any da dl dc ds xa n xc _ (HD.out.below HBN.out)).mono ?_; rintro e w1 ⟨rfl, hb⟩; rw [HE.out]; have HB3 := hide (Below.on HBN.out hb); have HA3 := hide ((HA.out.alloc _).below hb); have HO3 := hide ((HO.out.alloc _).below hb); have HR3 := hide ((HR.out.of_block (Below.heap_alloc _ (.cells #[.slice da dl dc, .slice xa n xc] 25) _ HR.out.lt)).of_block (hb.block _ (by have := HR.out.lt; simp; omega))); have HAN3 := hide (HAN.out.below hb); clear a0 a1 hb; obtain ⟨⟨a0, a1⟩, _⟩ := HAN3.out.cells; have hr := HR3.out.cell (i := 0) (by omega); have hf := HR3.out.frozen 0)
      go_roundw
      case rel =>
        refine ⟨1, by omega, by go_num, (HR3.out.set 0 (.slice da dl dc)).congr (fun t ht => ?_), HO3.out.set (p := ⟨w.heap.size + 1 + 1, 0, none⟩) (by simp; omega) _, HA3.out.set (p := ⟨w.heap.size + 1 + 1, 0, none⟩) (by simp) _, HB3.out.setCell (p := ⟨w.heap.size + 1 + 1, 0, none⟩) (by simp; omega) _⟩
        have : t = 0 ∨ t = 1 := by omega
        rcases this with rfl | rfl <;> simp [rowD]
      case measure => simp [intOf]
    · have s0 : wr.cell? ⟨b, off + 2, none⟩ = some (.slice ea el ec) := (HB.out.cell (p := ⟨b, off + 2, none⟩) hbl).trans HC2.out
      have s1 : wr.cell? ⟨b, off + 3, none⟩ = some (.slice ya n yc) := (HB.out.cell (p := ⟨b, off + 3, none⟩) hbl).trans HC3.out
      have HAN := hide (ArrAt.new wr (.slice ea el ec) (.slice ya n yc))
      have HBN := hide (HB.out.alloc HB.out.size (.cells #[.slice ea el ec, .slice ya n yc] 25))
      obtain ⟨⟨a0, a1⟩, _⟩ := HAN.out.cells
      go_wp2_with (go_at_call 21; refine (awrong_any ea el ec ds ya n yc _ (HE2.out.below HBN.out)).mono ?_; rintro e w1 ⟨rfl, hb⟩; rw [HE.out]; have HB3 := hide (Below.on HBN.out hb); have HA3 := hide ((HA.out.alloc _).below hb); have HO3 := hide ((HO.out.alloc _).below hb); have HR3 := hide ((HR.out.of_block (Below.heap_alloc _ (.cells #[.slice ea el ec, .slice ya n yc] 25) _ HR.out.lt)).of_block (hb.block _ (by have := HR.out.lt; simp; omega))); have HAN3 := hide (HAN.out.below hb); clear a0 a1 hb; obtain ⟨⟨a0, a1⟩, _⟩ := HAN3.out.cells; have hr := HR3.out.cell (i := 1) (by omega); have hf := HR3.out.frozen 1)
      go_roundw
      case rel =>
        refine ⟨2, by omega, by go_num, (HR3.out.set 1 (.slice ea el ec)).congr (fun t ht => ?_), HO3.out.set (p := ⟨w.heap.size + 1 + 1, 1, none⟩) (by simp; omega) _, HA3.out.set (p := ⟨w.heap.size + 1 + 1, 1, none⟩) (by simp) _, HB3.out.setCell (p := ⟨w.heap.size + 1 + 1, 1, none⟩) (by simp; omega) _⟩
        have : t = 0 ∨ t = 1 := by omega
        rcases this with rfl | rfl <;> simp [rowD]
      case measure => simp [intOf]
    · have q0 : wr.cell? ⟨w.heap.size + 1 + 1, 0, none⟩ = some (.slice da dl dc) := HR.out.cell (i := 0) (by omega)
      have q1 : wr.cell? ⟨w.heap.size + 1 + 1, 1, none⟩ = some (.slice ea el ec) := HR.out.cell (i := 1) (by omega)
      have HS := hide (Dims2 k HK.out (w.heap.size + 1 + 1) da dl dc ea el ec ds wr q0 q1 (HD.out.below HB.out) (HE2.out.below HB.out) HZ.out)
      obtain ⟨o0, o1, o2, o3, o4, o5, o6⟩ := HO.out.cells
      have HLD := hide HD.out.1
      have HBD := hide HD.out.2.2.1
      have h6 : dl ≤ 6 := by have := (sizeE_ok HZ.out).1; have := HLD.out; omega
      clear q0 q1
      by_cases hn0 : (0 : Int) < (n : Int)
      case neg =>
        have hn2 : decide ((0 : Int) < (n : Int)) = false := decide_eq_false hn0
        have hn3 : n = 0 := by omega
        have hn4 : decide (0 < n) = false := decide_eq_false (by omega)
        have hn5 : ¬ 0 < n := by omega
        have HN3 := hide hn3
        clear hn3 hn0
        go_wp2_with (first
          | (go_at_call 22; refine HS.out.mono ?_; rintro e w1 ⟨⟨g, rfl, hr, hg⟩, hb⟩; have HRD := hide hr; have HB2 := hide (Below.on HB.out hb); have hgg : wr.heap.size ≤ g := hg; have hna := HA.out.lt; have HO2 := hide (HO.out.below hb); have HA2 := hide (HA.out.below hb); have hgl : g < w1.heap.size := hr.lt; clear hr hb hg o0 o1 o2 o3 o4 o5 o6; obtain ⟨o0, o1, o2, o3, o4, o5, o6⟩ := HO2.out.cells)
          | (go_at_call 23; refine (count_any _ _ _ ds _ (ints_of_rowI HRD.out HLD.out (by omega) HBD.out) (count_ok HZ.out)).mono ?_; rintro e w' ⟨rfl, hw'⟩; obtain rfl := hw'.symm; rw [← HN.out]; have HO5 := hide ((HO2.out.alloc (.cells (madeCells #[.int .i64 0] n) 2)).alloc (.cells #[.slice (some ⟨g, 0, none⟩) dl dl, .slice (some ⟨w1.heap.size, 0, none⟩) n n] 25)); have HA5 := hide ((HA2.out.alloc (.cells (madeCells #[.int .i64 0] n) 2)).alloc (.cells #[.slice (some ⟨g, 0, none⟩) dl dl, .slice (some ⟨w1.heap.size, 0, none⟩) n n] 25)); have HB5 := hide ((HB2.out.alloc HB2.out.size (.cells (madeCells #[.int .i64 0] n) 2)).alloc (HB2.out.alloc HB2.out.size (.cells (madeCells #[.int .i64 0] n) 2)).size (.cells #[.slice (some ⟨g, 0, none⟩) dl dl, .slice (some ⟨w1.heap.size, 0, none⟩) n n] 25)); have hx5 := ArrAt.new (w1.alloc (.cells (madeCells #[.int .i64 0] n) 2)) (.slice (some ⟨g, 0, none⟩) dl dl) (.slice (some ⟨w1.heap.size, 0, none⟩) n n); simp only [World.size_alloc] at hx5; have HX5 := hide hx5; clear o0 o1 o2 o3 o4 o5 o6 hx5; obtain ⟨o0, o1, o2, o3, o4, o5, o6⟩ := HO5.out.cells; obtain ⟨⟨x0, x1⟩, _⟩ := HX5.out.cells; obtain ⟨⟨a0, a1⟩, fa0, fa1⟩ := HA5.out.cells))
        obtain ⟨⟨u0, u1⟩, _⟩ := (HA5.out.put (.slice (some ⟨g, 0, none⟩) dl dl) (.slice (some ⟨w1.heap.size, 0, none⟩) n n)).cells
        have hs1 := HB2.out.size
        have ha1 := HA2.out.lt
        refine bodyPost_ret (v := .tuple #[.agg #[.slice (some ⟨g, 0, none⟩) dl dl, .slice (some ⟨w1.heap.size, 0, none⟩) n n], .int .i64 0]) (by simp [results, Tryz.results9, go_sem, u0, u1]) rfl ⟨⟨g, w1.heap.size, rfl, ?_, ?_, by have := HB.out.size; omega, hs1⟩, ?_⟩
        · exact ints_of_rowI ((((HRD.out.of_block (Below.heap_alloc _ (.cells (madeCells #[.int .i64 0] n) 2) _ hgl)).of_block (Below.heap_alloc _ (.cells #[.slice (some ⟨g, 0, none⟩) dl dl, .slice (some ⟨w1.heap.size, 0, none⟩) n n] 25) _ (by simp; omega))).setOther (a := ⟨w.heap.size + 1, 0, none⟩) (by simp; omega) _).setOther (a := ⟨w.heap.size + 1, 1, none⟩) (by simp; omega) _) HLD.out (by omega) HBD.out
        · exact ⟨twoL_length _ _ _ _, by omega, twoL_bd _ _ _ _, .inl HN3.out⟩
        · exact (HB5.out.setCell (p := ⟨w.heap.size + 1, 0, none⟩) (by simp) _).setCell (p := ⟨w.heap.size + 1, 1, none⟩) (by simp) _
      have hxl : ∀ b' o', xa = some ⟨b', o', none⟩ → b' < w.heap.size := fun b' o' e' => by
        obtain ⟨bb, oo, e2, hbb, _⟩ := HIX.out.at (by omega)
        rw [e'] at e2; cases e2; exact hbb
      have hyl : ∀ b' o', ya = some ⟨b', o', none⟩ → b' < w.heap.size := fun b' o' e' => by
        obtain ⟨bb, oo, e2, hbb, _⟩ := HIY.out.at (by omega)
        rw [e'] at e2; cases e2; exact hbb
      have HXL := hide hxl
      have HYL := hide hyl
      clear hxl hyl
      go_wp2_with (first
        | (go_at_call 22; refine HS.out.mono ?_; rintro e w1 ⟨⟨g, rfl, hr, hg⟩, hb⟩; have HRD := hide hr; have HB2 := hide (Below.on HB.out hb); have hgg : wr.heap.size ≤ g := hg; have hna := HA.out.lt; have HO2 := hide (HO.out.below hb); have HA2 := hide (HA.out.below hb); have hgl : g < w1.heap.size := hr.lt; clear hr hb hg o0 o1 o2 o3 o4 o5 o6; obtain ⟨o0, o1, o2, o3, o4, o5, o6⟩ := HO2.out.cells)
        | (go_at_call 23; refine (count_any _ _ _ ds _ (ints_of_rowI HRD.out HLD.out (by omega) HBD.out) (count_ok HZ.out)).mono ?_; rintro e w' ⟨rfl, hw'⟩; obtain rfl := hw'.symm; rw [← HN.out]; have HO5 := hide ((HO2.out.alloc (.cells (madeCells #[.int .i64 0] n) 2)).alloc (.cells #[.slice (some ⟨g, 0, none⟩) dl dl, .slice (some ⟨w1.heap.size, 0, none⟩) n n] 25)); have HA5 := hide ((HA2.out.alloc (.cells (madeCells #[.int .i64 0] n) 2)).alloc (.cells #[.slice (some ⟨g, 0, none⟩) dl dl, .slice (some ⟨w1.heap.size, 0, none⟩) n n] 25)); have HB5 := hide ((HB2.out.alloc HB2.out.size (.cells (madeCells #[.int .i64 0] n) 2)).alloc (HB2.out.alloc HB2.out.size (.cells (madeCells #[.int .i64 0] n) 2)).size (.cells #[.slice (some ⟨g, 0, none⟩) dl dl, .slice (some ⟨w1.heap.size, 0, none⟩) n n] 25)); have hx5 := ArrAt.new (w1.alloc (.cells (madeCells #[.int .i64 0] n) 2)) (.slice (some ⟨g, 0, none⟩) dl dl) (.slice (some ⟨w1.heap.size, 0, none⟩) n n); simp only [World.size_alloc] at hx5; have HX5 := hide hx5; clear o0 o1 o2 o3 o4 o5 o6 hx5; obtain ⟨o0, o1, o2, o3, o4, o5, o6⟩ := HO5.out.cells; obtain ⟨⟨x0, x1⟩, _⟩ := HX5.out.cells)
        | (go_at_call 24; refine (work_two k 0 HK.out (.slice none 0 0) (.slice none 0 0) (.slice none 0 0) (.slice none 0 0) (.slice none 0 0) (.slice (some ⟨g, 0, none⟩) dl dl) w1.heap.size n b off cap xa xc xs ya yc ys [] _ ((HB5.out.cell (p := ⟨b, off + 1, none⟩) hbl).trans HC1.out) ((HB5.out.cell (p := ⟨b, off + 3, none⟩) hbl).trans HC3.out) (HIX.out.below HB5.out) (HIY.out.below HB5.out) (fun b' o' e' => by { have := HXL.out b' o' e'; have := HB2.out.size; omega }) (fun b' o' e' => by { have := HYL.out b' o' e'; have := HB2.out.size; omega }) ((World.rowIs_made w1 (.int .i64 0) n 2).of_block (Below.heap_alloc _ _ _ (by simp)) |>.congr (fun j _ => by simp [onWay]))).mono ?_; rintro e w6 ⟨rfl, hr6, hsv⟩; have hs1 := HB2.out.size; have ha1 := HA2.out.lt; have HR6 := hide hr6; have HX6 : Hid (ArrAt w6 (w1.heap.size + 1) _ _) := (hsv.1 (w1.heap.size + 1) (by simp) (by omega)).trans HX5.out; have HA6 : Hid (ArrAt w6 (w.heap.size + 1) _ _) := (hsv.1 (w.heap.size + 1) (by simp; omega) (by omega)).trans HA5.out; have HD6 : Hid (RowI w6 g dl ds) := ((HRD.out.of_block (Below.heap_alloc _ (.cells (madeCells #[.int .i64 0] n) 2) _ hgl)).of_block (Below.heap_alloc _ (.cells #[.slice (some ⟨g, 0, none⟩) dl dl, .slice (some ⟨w1.heap.size, 0, none⟩) n n] 25) _ (by simp; omega))).of_block (hsv.1 g (by simp; omega) (by omega)); have HB6 := hide (Save.below HB5.out hsv (by omega) (Nat.le_refl _)); clear hsv hr6 x0 x1 o0 o1 o2 o3 o4 o5 o6; obtain ⟨⟨x0, x1⟩, _⟩ := HX6.out.cells; obtain ⟨⟨a0, a1⟩, fa0, fa1⟩ := HA6.out.cells))
      obtain ⟨⟨u0, u1⟩, _⟩ := (HA6.out.put (.slice (some ⟨g, 0, none⟩) dl dl) (.slice (some ⟨w1.heap.size, 0, none⟩) n n)).cells
      have hs1 := HB2.out.size
      have ha1 := HA2.out.lt
      refine bodyPost_ret (v := .tuple #[.agg #[.slice (some ⟨g, 0, none⟩) dl dl, .slice (some ⟨w1.heap.size, 0, none⟩) n n], .int .i64 0]) (by simp [results, Tryz.results9, go_sem, u0, u1]) rfl ⟨⟨g, w1.heap.size, rfl, ?_, ?_, by have := HB.out.size; omega, hs1⟩, ?_⟩
      · exact ints_of_rowI ((HD6.out.setOther (a := ⟨w.heap.size + 1, 0, none⟩) (by simp; omega) _).setOther (a := ⟨w.heap.size + 1, 1, none⟩) (by simp; omega) _) HLD.out (by omega) HBD.out
      · have hr7 := (onWay_all HR6.out); have hr8 := ((hr7.setOther (a := ⟨w.heap.size + 1, 0, none⟩) (by simp; omega) (.slice (some ⟨g, 0, none⟩) dl dl)).setOther (a := ⟨w.heap.size + 1, 1, none⟩) (by simp; omega) (.slice (some ⟨w1.heap.size, 0, none⟩) n n)); exact ⟨twoL_length _ _ _ _, by omega, twoL_bd _ _ _ _, .inr ⟨_, _, rfl, fun j hj => by rw [Nat.zero_add]; exact hr8.cell hj⟩⟩
      · exact (HB6.out.setCell (p := ⟨w.heap.size + 1, 0, none⟩) (by simp) _).setCell (p := ⟨w.heap.size + 1, 1, none⟩) (by simp) _
end Go.Proofs.YteoobeldmicjhaaGreat.V
namespace Go.Proofs.YteoobeldmicjhaaGreat.V
set_option maxRecDepth 20000
open Go.RowKit

/-- A block of four values. -/
def FourAt (w : World) (b : Nat) (c0 c1 c2 c3 : Value) : Prop := w.heap[b]? = some (.cells #[c0, c1, c2, c3] 25 (0, 0))
theorem FourAt.new {w : World} {B : Nat} (c0 c1 c2 c3 : Value) (h : w.heap.size = B) : FourAt (w.alloc (.cells #[c0, c1, c2, c3] 25)) B c0 c1 c2 c3 := h ▸ World.alloc_heap_new w _
theorem FourAt.cells {w : World} {b : Nat} {c0 c1 c2 c3 : Value} (h : FourAt w b c0 c1 c2 c3) : w.cell? ⟨b, 0, none⟩ = some c0 ∧ w.cell? ⟨b, 1, none⟩ = some c1 ∧ w.cell? ⟨b, 2, none⟩ = some c2 ∧ w.cell? ⟨b, 3, none⟩ = some c3 := by
  unfold FourAt at h
  refine ⟨?_, ?_, ?_, ?_⟩ <;> simp [World.cell?, h]

end Go.Proofs.YteoobeldmicjhaaGreat.V
