/-
  Contract: adjointref2.Equal.
-/
import Derived.Test.YtcidhbkdaleomaaK20
import Derived.Test.YtcidhbkdaleomaaK3
namespace Go.Proofs.Ytcidhbkdaleomaa.V
set_option maxRecDepth 20000
open Go.RowKit

def opEq (k k' x x' : Int) (es es' ps ps' lo lo' hi hi' st st' : List Int) : Bool := decide (k = k') && (decide (x = x') && (decide (es = es') && (decide (ps = ps') && (decide (lo = lo') && (decide (hi = hi') && decide (st = st'))))))
theorem opEq_no {k k' x x' : Int} {es es' ps ps' lo lo' hi hi' st st' : List Int} (h : ¬ (k = k' ∧ x = x' ∧ es = es' ∧ ps = ps' ∧ lo = lo' ∧ hi = hi' ∧ st = st')) : opEq k k' x x' es es' ps ps' lo lo' hi hi' st st' = false := by
  rw [← Bool.not_eq_true]
  intro e
  simp only [opEq, Bool.and_eq_true, decide_eq_true_eq] at e
  exact h e

set_option maxRecDepth 100000 in
set_option maxHeartbeats 4000000 in
theorem requal_any (k k' x x' : Int) (ea : Option Addr) (el ec : Nat) (es : List Int) (pa : Option Addr) (pl pc : Nat) (ps : List Int) (la : Option Addr) (ll lc : Nat) (lo : List Int) (ha : Option Addr) (hl hc : Nat) (hi : List Int) (ta : Option Addr) (tl tc : Nat) (st : List Int) (ea' : Option Addr) (el' ec' : Nat) (es' : List Int) (pa' : Option Addr) (pl' pc' : Nat) (ps' : List Int) (la' : Option Addr) (ll' lc' : Nat) (lo' : List Int) (ha' : Option Addr) (hl' hc' : Nat) (hi' : List Int) (ta' : Option Addr) (tl' tc' : Nat) (st' : List Int) (w : World)
    (he : Ints w ea el es) (hp : Ints w pa pl ps) (hlo : Ints w la ll lo) (hhi : Ints w ha hl hi) (hst : Ints w ta tl st) (he' : Ints w ea' el' es') (hp' : Ints w pa' pl' ps') (hlo' : Ints w la' ll' lo') (hhi' : Ints w ha' hl' hi') (hst' : Ints w ta' tl' st') :
    Calls Try.prog 14 #[.agg #[.int .i64 k, .slice ea el ec, .slice pa pl pc, .slice la ll lc, .slice ha hl hc, .slice ta tl tc, .int .i64 x], .agg #[.int .i64 k', .slice ea' el' ec', .slice pa' pl' pc', .slice la' ll' lc', .slice ha' hl' hc', .slice ta' tl' tc', .int .i64 x']] w fun e w' => e = .returned (.bool (opEq k k' x x' es es' ps ps' lo lo' hi hi' st st')) ∧ Below w.heap.size w w' := by
  have HE0 := hide he
  have HE1 := hide he'
  have HP0 := hide hp
  have HP1 := hide hp'
  have HLO0 := hide hlo
  have HLO1 := hide hlo'
  have HHI0 := hide hhi
  have HHI1 := hide hhi'
  have HST0 := hide hst
  have HST1 := hide hst'
  have HB1 := hide ((Below.refl w.heap.size w).alloc (Nat.le_refl _) (.cells #[.int .i64 k, .slice ea el ec, .slice pa pl pc, .slice la ll lc, .slice ha hl hc, .slice ta tl tc, .int .i64 x] 24))
  have HB2 := hide (HB1.out.alloc HB1.out.size (.cells #[.int .i64 k', .slice ea' el' ec', .slice pa' pl' pc', .slice la' ll' lc', .slice ha' hl' hc', .slice ta' tl' tc', .int .i64 x'] 24))
  have HOP := hide ((OpAt.new w k (.slice ea el ec) (.slice pa pl pc) (.slice la ll lc) (.slice ha hl hc) (.slice ta tl tc) x).alloc (.cells #[.int .i64 k', .slice ea' el' ec', .slice pa' pl' pc', .slice la' ll' lc', .slice ha' hl' hc', .slice ta' tl' tc', .int .i64 x'] 24))
  have hop' := OpAt.new (w.alloc (.cells #[.int .i64 k, .slice ea el ec, .slice pa pl pc, .slice la ll lc, .slice ha hl hc, .slice ta tl tc, .int .i64 x] 24)) k' (.slice ea' el' ec') (.slice pa' pl' pc') (.slice la' ll' lc') (.slice ha' hl' hc') (.slice ta' tl' tc') x'
  simp only [World.size_alloc] at hop'
  have HOP' := hide hop'
  obtain ⟨o0, o1, o2, o3, o4, o5, o6⟩ := HOP.out.cells
  obtain ⟨r0, r1, r2, r3, r4, r5, r6⟩ := HOP'.out.cells
  clear hop' he he' hp hp' hlo hlo' hhi hhi' hst hst'
  by_cases c0 : k = k'
  case neg =>
    rw [opEq_no (fun h => c0 h.1)]
    have g0 : (k == k') = false := by simp [c0]
    clear c0
    go_enter Try.func14, Try.ntmps14
    go_wp2
    go_ret
    exact ⟨rfl, HB2.out⟩
  subst c0
  have g0 : (k == k) = true := by simp
  by_cases c1 : x = x'
  case neg =>
    rw [opEq_no (fun h => c1 h.2.1)]
    have g1 : (x == x') = false := by simp [c1]
    clear c1
    go_enter Try.func14, Try.ntmps14
    go_wp2
    go_ret
    exact ⟨rfl, HB2.out⟩
  subst c1
  have g1 : (x == x) = true := by simp
  by_cases c2 : es = es'
  case neg =>
    rw [opEq_no (fun h => c2 h.2.2.1)]
    have Q0 : Hid (decide (es = es') = false) := decide_eq_false c2
    clear c2
    go_enter Try.func14, Try.ntmps14
    go_wp2_with (first
      | (go_at_call_of 9 (Value.slice ea el ec); refine (sameList_any _ _ _ es _ _ _ es' _ (HE0.out.below (HB2.out)) (HE1.out.below (HB2.out))).mono ?_; rintro e w1 ⟨rfl, m1, hw⟩; rw [Q0.out]; have hb : Below ((w.alloc (.cells #[.int .i64 k, .slice ea el ec, .slice pa pl pc, .slice la ll lc, .slice ha hl hc, .slice ta tl tc, .int .i64 x] 24)).alloc (.cells #[.int .i64 k, .slice ea' el' ec', .slice pa' pl' pc', .slice la' ll' lc', .slice ha' hl' hc', .slice ta' tl' tc', .int .i64 x] 24)).heap.size ((w.alloc (.cells #[.int .i64 k, .slice ea el ec, .slice pa pl pc, .slice la ll lc, .slice ha hl hc, .slice ta tl tc, .int .i64 x] 24)).alloc (.cells #[.int .i64 k, .slice ea' el' ec', .slice pa' pl' pc', .slice la' ll' lc', .slice ha' hl' hc', .slice ta' tl' tc', .int .i64 x] 24)) w1 := (hw ▸ below_drewN _ m1); have HBX1 := hide (Below.on (HB2.out) hb); have HOPX1 := hide (HOP.out.below hb); have HOPY1 := hide (HOP'.out.below hb); obtain ⟨y10, y11, y12, y13, y14, y15, y16⟩ := HOPX1.out.cells; obtain ⟨z10, z11, z12, z13, z14, z15, z16⟩ := HOPY1.out.cells; clear hw hb))
    go_ret
    exact ⟨rfl, HBX1.out⟩
  have Q0 : Hid (decide (es = es') = true) := decide_eq_true c2
  have HC2 := hide c2
  clear c2
  by_cases c3 : ps = ps'
  case neg =>
    rw [opEq_no (fun h => c3 h.2.2.2.1)]
    have Q1 : Hid (decide (ps = ps') = false) := decide_eq_false c3
    clear c3
    go_enter Try.func14, Try.ntmps14
    go_wp2_with (first
      | (go_at_call_of 9 (Value.slice ea el ec); refine (sameList_any _ _ _ es _ _ _ es' _ (HE0.out.below (HB2.out)) (HE1.out.below (HB2.out))).mono ?_; rintro e w1 ⟨rfl, m1, hw⟩; rw [Q0.out]; have hb : Below ((w.alloc (.cells #[.int .i64 k, .slice ea el ec, .slice pa pl pc, .slice la ll lc, .slice ha hl hc, .slice ta tl tc, .int .i64 x] 24)).alloc (.cells #[.int .i64 k, .slice ea' el' ec', .slice pa' pl' pc', .slice la' ll' lc', .slice ha' hl' hc', .slice ta' tl' tc', .int .i64 x] 24)).heap.size ((w.alloc (.cells #[.int .i64 k, .slice ea el ec, .slice pa pl pc, .slice la ll lc, .slice ha hl hc, .slice ta tl tc, .int .i64 x] 24)).alloc (.cells #[.int .i64 k, .slice ea' el' ec', .slice pa' pl' pc', .slice la' ll' lc', .slice ha' hl' hc', .slice ta' tl' tc', .int .i64 x] 24)) w1 := (hw ▸ below_drewN _ m1); have HBX1 := hide (Below.on (HB2.out) hb); have HOPX1 := hide (HOP.out.below hb); have HOPY1 := hide (HOP'.out.below hb); obtain ⟨y10, y11, y12, y13, y14, y15, y16⟩ := HOPX1.out.cells; obtain ⟨z10, z11, z12, z13, z14, z15, z16⟩ := HOPY1.out.cells; clear hw hb)
      | (go_at_call_of 9 (Value.slice pa pl pc); refine (sameList_any _ _ _ ps _ _ _ ps' _ (HP0.out.below (HBX1.out)) (HP1.out.below (HBX1.out))).mono ?_; rintro e w2 ⟨rfl, m2, hw⟩; rw [Q1.out]; have hb : Below w1.heap.size w1 w2 := (hw ▸ below_drewN _ m2); have HBX2 := hide (Below.on (HBX1.out) hb); have HOPX2 := hide (HOPX1.out.below hb); have HOPY2 := hide (HOPY1.out.below hb); obtain ⟨y20, y21, y22, y23, y24, y25, y26⟩ := HOPX2.out.cells; obtain ⟨z20, z21, z22, z23, z24, z25, z26⟩ := HOPY2.out.cells; clear hw hb))
    go_ret
    exact ⟨rfl, HBX2.out⟩
  have Q1 : Hid (decide (ps = ps') = true) := decide_eq_true c3
  have HC3 := hide c3
  clear c3
  by_cases c4 : lo = lo'
  case neg =>
    rw [opEq_no (fun h => c4 h.2.2.2.2.1)]
    have Q2 : Hid (decide (lo = lo') = false) := decide_eq_false c4
    clear c4
    go_enter Try.func14, Try.ntmps14
    go_wp2_with (first
      | (go_at_call_of 9 (Value.slice ea el ec); refine (sameList_any _ _ _ es _ _ _ es' _ (HE0.out.below (HB2.out)) (HE1.out.below (HB2.out))).mono ?_; rintro e w1 ⟨rfl, m1, hw⟩; rw [Q0.out]; have hb : Below ((w.alloc (.cells #[.int .i64 k, .slice ea el ec, .slice pa pl pc, .slice la ll lc, .slice ha hl hc, .slice ta tl tc, .int .i64 x] 24)).alloc (.cells #[.int .i64 k, .slice ea' el' ec', .slice pa' pl' pc', .slice la' ll' lc', .slice ha' hl' hc', .slice ta' tl' tc', .int .i64 x] 24)).heap.size ((w.alloc (.cells #[.int .i64 k, .slice ea el ec, .slice pa pl pc, .slice la ll lc, .slice ha hl hc, .slice ta tl tc, .int .i64 x] 24)).alloc (.cells #[.int .i64 k, .slice ea' el' ec', .slice pa' pl' pc', .slice la' ll' lc', .slice ha' hl' hc', .slice ta' tl' tc', .int .i64 x] 24)) w1 := (hw ▸ below_drewN _ m1); have HBX1 := hide (Below.on (HB2.out) hb); have HOPX1 := hide (HOP.out.below hb); have HOPY1 := hide (HOP'.out.below hb); obtain ⟨y10, y11, y12, y13, y14, y15, y16⟩ := HOPX1.out.cells; obtain ⟨z10, z11, z12, z13, z14, z15, z16⟩ := HOPY1.out.cells; clear hw hb)
      | (go_at_call_of 9 (Value.slice pa pl pc); refine (sameList_any _ _ _ ps _ _ _ ps' _ (HP0.out.below (HBX1.out)) (HP1.out.below (HBX1.out))).mono ?_; rintro e w2 ⟨rfl, m2, hw⟩; rw [Q1.out]; have hb : Below w1.heap.size w1 w2 := (hw ▸ below_drewN _ m2); have HBX2 := hide (Below.on (HBX1.out) hb); have HOPX2 := hide (HOPX1.out.below hb); have HOPY2 := hide (HOPY1.out.below hb); obtain ⟨y20, y21, y22, y23, y24, y25, y26⟩ := HOPX2.out.cells; obtain ⟨z20, z21, z22, z23, z24, z25, z26⟩ := HOPY2.out.cells; clear hw hb)
      | (go_at_call_of 9 (Value.slice la ll lc); refine (sameList_any _ _ _ lo _ _ _ lo' _ (HLO0.out.below (HBX2.out)) (HLO1.out.below (HBX2.out))).mono ?_; rintro e w3 ⟨rfl, m3, hw⟩; rw [Q2.out]; have hb : Below w2.heap.size w2 w3 := (hw ▸ below_drewN _ m3); have HBX3 := hide (Below.on (HBX2.out) hb); have HOPX3 := hide (HOPX2.out.below hb); have HOPY3 := hide (HOPY2.out.below hb); obtain ⟨y30, y31, y32, y33, y34, y35, y36⟩ := HOPX3.out.cells; obtain ⟨z30, z31, z32, z33, z34, z35, z36⟩ := HOPY3.out.cells; clear hw hb))
    go_ret
    exact ⟨rfl, HBX3.out⟩
  have Q2 : Hid (decide (lo = lo') = true) := decide_eq_true c4
  have HC4 := hide c4
  clear c4
  by_cases c5 : hi = hi'
  case neg =>
    rw [opEq_no (fun h => c5 h.2.2.2.2.2.1)]
    have Q3 : Hid (decide (hi = hi') = false) := decide_eq_false c5
    clear c5
    go_enter Try.func14, Try.ntmps14
    go_wp2_with (first
      | (go_at_call_of 9 (Value.slice ea el ec); refine (sameList_any _ _ _ es _ _ _ es' _ (HE0.out.below (HB2.out)) (HE1.out.below (HB2.out))).mono ?_; rintro e w1 ⟨rfl, m1, hw⟩; rw [Q0.out]; have hb : Below ((w.alloc (.cells #[.int .i64 k, .slice ea el ec, .slice pa pl pc, .slice la ll lc, .slice ha hl hc, .slice ta tl tc, .int .i64 x] 24)).alloc (.cells #[.int .i64 k, .slice ea' el' ec', .slice pa' pl' pc', .slice la' ll' lc', .slice ha' hl' hc', .slice ta' tl' tc', .int .i64 x] 24)).heap.size ((w.alloc (.cells #[.int .i64 k, .slice ea el ec, .slice pa pl pc, .slice la ll lc, .slice ha hl hc, .slice ta tl tc, .int .i64 x] 24)).alloc (.cells #[.int .i64 k, .slice ea' el' ec', .slice pa' pl' pc', .slice la' ll' lc', .slice ha' hl' hc', .slice ta' tl' tc', .int .i64 x] 24)) w1 := (hw ▸ below_drewN _ m1); have HBX1 := hide (Below.on (HB2.out) hb); have HOPX1 := hide (HOP.out.below hb); have HOPY1 := hide (HOP'.out.below hb); obtain ⟨y10, y11, y12, y13, y14, y15, y16⟩ := HOPX1.out.cells; obtain ⟨z10, z11, z12, z13, z14, z15, z16⟩ := HOPY1.out.cells; clear hw hb)
      | (go_at_call_of 9 (Value.slice pa pl pc); refine (sameList_any _ _ _ ps _ _ _ ps' _ (HP0.out.below (HBX1.out)) (HP1.out.below (HBX1.out))).mono ?_; rintro e w2 ⟨rfl, m2, hw⟩; rw [Q1.out]; have hb : Below w1.heap.size w1 w2 := (hw ▸ below_drewN _ m2); have HBX2 := hide (Below.on (HBX1.out) hb); have HOPX2 := hide (HOPX1.out.below hb); have HOPY2 := hide (HOPY1.out.below hb); obtain ⟨y20, y21, y22, y23, y24, y25, y26⟩ := HOPX2.out.cells; obtain ⟨z20, z21, z22, z23, z24, z25, z26⟩ := HOPY2.out.cells; clear hw hb)
      | (go_at_call_of 9 (Value.slice la ll lc); refine (sameList_any _ _ _ lo _ _ _ lo' _ (HLO0.out.below (HBX2.out)) (HLO1.out.below (HBX2.out))).mono ?_; rintro e w3 ⟨rfl, m3, hw⟩; rw [Q2.out]; have hb : Below w2.heap.size w2 w3 := (hw ▸ below_drewN _ m3); have HBX3 := hide (Below.on (HBX2.out) hb); have HOPX3 := hide (HOPX2.out.below hb); have HOPY3 := hide (HOPY2.out.below hb); obtain ⟨y30, y31, y32, y33, y34, y35, y36⟩ := HOPX3.out.cells; obtain ⟨z30, z31, z32, z33, z34, z35, z36⟩ := HOPY3.out.cells; clear hw hb)
      | (go_at_call_of 9 (Value.slice ha hl hc); refine (sameList_any _ _ _ hi _ _ _ hi' _ (HHI0.out.below (HBX3.out)) (HHI1.out.below (HBX3.out))).mono ?_; rintro e w4 ⟨rfl, m4, hw⟩; rw [Q3.out]; have hb : Below w3.heap.size w3 w4 := (hw ▸ below_drewN _ m4); have HBX4 := hide (Below.on (HBX3.out) hb); have HOPX4 := hide (HOPX3.out.below hb); have HOPY4 := hide (HOPY3.out.below hb); obtain ⟨y40, y41, y42, y43, y44, y45, y46⟩ := HOPX4.out.cells; obtain ⟨z40, z41, z42, z43, z44, z45, z46⟩ := HOPY4.out.cells; clear hw hb))
    go_ret
    exact ⟨rfl, HBX4.out⟩
  have Q3 : Hid (decide (hi = hi') = true) := decide_eq_true c5
  have HC5 := hide c5
  clear c5
  by_cases c6 : st = st'
  case neg =>
    rw [opEq_no (fun h => c6 h.2.2.2.2.2.2)]
    have Q4 : Hid (decide (st = st') = false) := decide_eq_false c6
    clear c6
    go_enter Try.func14, Try.ntmps14
    go_wp2_with (first
      | (go_at_call_of 9 (Value.slice ea el ec); refine (sameList_any _ _ _ es _ _ _ es' _ (HE0.out.below (HB2.out)) (HE1.out.below (HB2.out))).mono ?_; rintro e w1 ⟨rfl, m1, hw⟩; rw [Q0.out]; have hb : Below ((w.alloc (.cells #[.int .i64 k, .slice ea el ec, .slice pa pl pc, .slice la ll lc, .slice ha hl hc, .slice ta tl tc, .int .i64 x] 24)).alloc (.cells #[.int .i64 k, .slice ea' el' ec', .slice pa' pl' pc', .slice la' ll' lc', .slice ha' hl' hc', .slice ta' tl' tc', .int .i64 x] 24)).heap.size ((w.alloc (.cells #[.int .i64 k, .slice ea el ec, .slice pa pl pc, .slice la ll lc, .slice ha hl hc, .slice ta tl tc, .int .i64 x] 24)).alloc (.cells #[.int .i64 k, .slice ea' el' ec', .slice pa' pl' pc', .slice la' ll' lc', .slice ha' hl' hc', .slice ta' tl' tc', .int .i64 x] 24)) w1 := (hw ▸ below_drewN _ m1); have HBX1 := hide (Below.on (HB2.out) hb); have HOPX1 := hide (HOP.out.below hb); have HOPY1 := hide (HOP'.out.below hb); obtain ⟨y10, y11, y12, y13, y14, y15, y16⟩ := HOPX1.out.cells; obtain ⟨z10, z11, z12, z13, z14, z15, z16⟩ := HOPY1.out.cells; clear hw hb)
      | (go_at_call_of 9 (Value.slice pa pl pc); refine (sameList_any _ _ _ ps _ _ _ ps' _ (HP0.out.below (HBX1.out)) (HP1.out.below (HBX1.out))).mono ?_; rintro e w2 ⟨rfl, m2, hw⟩; rw [Q1.out]; have hb : Below w1.heap.size w1 w2 := (hw ▸ below_drewN _ m2); have HBX2 := hide (Below.on (HBX1.out) hb); have HOPX2 := hide (HOPX1.out.below hb); have HOPY2 := hide (HOPY1.out.below hb); obtain ⟨y20, y21, y22, y23, y24, y25, y26⟩ := HOPX2.out.cells; obtain ⟨z20, z21, z22, z23, z24, z25, z26⟩ := HOPY2.out.cells; clear hw hb)
      | (go_at_call_of 9 (Value.slice la ll lc); refine (sameList_any _ _ _ lo _ _ _ lo' _ (HLO0.out.below (HBX2.out)) (HLO1.out.below (HBX2.out))).mono ?_; rintro e w3 ⟨rfl, m3, hw⟩; rw [Q2.out]; have hb : Below w2.heap.size w2 w3 := (hw ▸ below_drewN _ m3); have HBX3 := hide (Below.on (HBX2.out) hb); have HOPX3 := hide (HOPX2.out.below hb); have HOPY3 := hide (HOPY2.out.below hb); obtain ⟨y30, y31, y32, y33, y34, y35, y36⟩ := HOPX3.out.cells; obtain ⟨z30, z31, z32, z33, z34, z35, z36⟩ := HOPY3.out.cells; clear hw hb)
      | (go_at_call_of 9 (Value.slice ha hl hc); refine (sameList_any _ _ _ hi _ _ _ hi' _ (HHI0.out.below (HBX3.out)) (HHI1.out.below (HBX3.out))).mono ?_; rintro e w4 ⟨rfl, m4, hw⟩; rw [Q3.out]; have hb : Below w3.heap.size w3 w4 := (hw ▸ below_drewN _ m4); have HBX4 := hide (Below.on (HBX3.out) hb); have HOPX4 := hide (HOPX3.out.below hb); have HOPY4 := hide (HOPY3.out.below hb); obtain ⟨y40, y41, y42, y43, y44, y45, y46⟩ := HOPX4.out.cells; obtain ⟨z40, z41, z42, z43, z44, z45, z46⟩ := HOPY4.out.cells; clear hw hb)
      | (go_at_call_of 9 (Value.slice ta tl tc); refine (sameList_any _ _ _ st _ _ _ st' _ (HST0.out.below (HBX4.out)) (HST1.out.below (HBX4.out))).mono ?_; rintro e w5 ⟨rfl, m5, hw⟩; rw [Q4.out]; have hb : Below w4.heap.size w4 w5 := (hw ▸ below_drewN _ m5); have HBX5 := hide (Below.on (HBX4.out) hb); have HOPX5 := hide (HOPX4.out.below hb); have HOPY5 := hide (HOPY4.out.below hb); obtain ⟨y50, y51, y52, y53, y54, y55, y56⟩ := HOPX5.out.cells; obtain ⟨z50, z51, z52, z53, z54, z55, z56⟩ := HOPY5.out.cells; clear hw hb))
    go_ret
    exact ⟨rfl, HBX5.out⟩
  have Q4 : Hid (decide (st = st') = true) := decide_eq_true c6
  have HC6 := hide c6
  clear c6
  have hB : opEq k k x x es es' ps ps' lo lo' hi hi' st st' = true := by
    unfold opEq
    rw [HC2.out, HC3.out, HC4.out, HC5.out, HC6.out]
    simp
  rw [hB]
  clear hB
  go_enter Try.func14, Try.ntmps14
  go_wp2_with (first
    | (go_at_call_of 9 (Value.slice ea el ec); refine (sameList_any _ _ _ es _ _ _ es' _ (HE0.out.below (HB2.out)) (HE1.out.below (HB2.out))).mono ?_; rintro e w1 ⟨rfl, m1, hw⟩; rw [Q0.out]; have hb : Below ((w.alloc (.cells #[.int .i64 k, .slice ea el ec, .slice pa pl pc, .slice la ll lc, .slice ha hl hc, .slice ta tl tc, .int .i64 x] 24)).alloc (.cells #[.int .i64 k, .slice ea' el' ec', .slice pa' pl' pc', .slice la' ll' lc', .slice ha' hl' hc', .slice ta' tl' tc', .int .i64 x] 24)).heap.size ((w.alloc (.cells #[.int .i64 k, .slice ea el ec, .slice pa pl pc, .slice la ll lc, .slice ha hl hc, .slice ta tl tc, .int .i64 x] 24)).alloc (.cells #[.int .i64 k, .slice ea' el' ec', .slice pa' pl' pc', .slice la' ll' lc', .slice ha' hl' hc', .slice ta' tl' tc', .int .i64 x] 24)) w1 := (hw ▸ below_drewN _ m1); have HBX1 := hide (Below.on (HB2.out) hb); have HOPX1 := hide (HOP.out.below hb); have HOPY1 := hide (HOP'.out.below hb); obtain ⟨y10, y11, y12, y13, y14, y15, y16⟩ := HOPX1.out.cells; obtain ⟨z10, z11, z12, z13, z14, z15, z16⟩ := HOPY1.out.cells; clear hw hb)
    | (go_at_call_of 9 (Value.slice pa pl pc); refine (sameList_any _ _ _ ps _ _ _ ps' _ (HP0.out.below (HBX1.out)) (HP1.out.below (HBX1.out))).mono ?_; rintro e w2 ⟨rfl, m2, hw⟩; rw [Q1.out]; have hb : Below w1.heap.size w1 w2 := (hw ▸ below_drewN _ m2); have HBX2 := hide (Below.on (HBX1.out) hb); have HOPX2 := hide (HOPX1.out.below hb); have HOPY2 := hide (HOPY1.out.below hb); obtain ⟨y20, y21, y22, y23, y24, y25, y26⟩ := HOPX2.out.cells; obtain ⟨z20, z21, z22, z23, z24, z25, z26⟩ := HOPY2.out.cells; clear hw hb)
    | (go_at_call_of 9 (Value.slice la ll lc); refine (sameList_any _ _ _ lo _ _ _ lo' _ (HLO0.out.below (HBX2.out)) (HLO1.out.below (HBX2.out))).mono ?_; rintro e w3 ⟨rfl, m3, hw⟩; rw [Q2.out]; have hb : Below w2.heap.size w2 w3 := (hw ▸ below_drewN _ m3); have HBX3 := hide (Below.on (HBX2.out) hb); have HOPX3 := hide (HOPX2.out.below hb); have HOPY3 := hide (HOPY2.out.below hb); obtain ⟨y30, y31, y32, y33, y34, y35, y36⟩ := HOPX3.out.cells; obtain ⟨z30, z31, z32, z33, z34, z35, z36⟩ := HOPY3.out.cells; clear hw hb)
    | (go_at_call_of 9 (Value.slice ha hl hc); refine (sameList_any _ _ _ hi _ _ _ hi' _ (HHI0.out.below (HBX3.out)) (HHI1.out.below (HBX3.out))).mono ?_; rintro e w4 ⟨rfl, m4, hw⟩; rw [Q3.out]; have hb : Below w3.heap.size w3 w4 := (hw ▸ below_drewN _ m4); have HBX4 := hide (Below.on (HBX3.out) hb); have HOPX4 := hide (HOPX3.out.below hb); have HOPY4 := hide (HOPY3.out.below hb); obtain ⟨y40, y41, y42, y43, y44, y45, y46⟩ := HOPX4.out.cells; obtain ⟨z40, z41, z42, z43, z44, z45, z46⟩ := HOPY4.out.cells; clear hw hb)
    | (go_at_call_of 9 (Value.slice ta tl tc); refine (sameList_any _ _ _ st _ _ _ st' _ (HST0.out.below (HBX4.out)) (HST1.out.below (HBX4.out))).mono ?_; rintro e w5 ⟨rfl, m5, hw⟩; rw [Q4.out]; have hb : Below w4.heap.size w4 w5 := (hw ▸ below_drewN _ m5); have HBX5 := hide (Below.on (HBX4.out) hb); have HOPX5 := hide (HOPX4.out.below hb); have HOPY5 := hide (HOPY4.out.below hb); obtain ⟨y50, y51, y52, y53, y54, y55, y56⟩ := HOPX5.out.cells; obtain ⟨z50, z51, z52, z53, z54, z55, z56⟩ := HOPY5.out.cells; clear hw hb))
  go_ret
  exact ⟨rfl, HBX5.out⟩
end Go.Proofs.Ytcidhbkdaleomaa.V
