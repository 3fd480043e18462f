/-
  Contracts: adjointref2.SameArray of arrays that are the same; adjointlaw2.alike. Contract: adjointlaw2.alike. Contract: array.shape, by kind. Contract: array.shape, by kind. Contract: array.shape, by kind. Contract: array.shape, by kind. Contract: array.shape, by kind. Contract: adjointref2.Get. Sums and products that wrap round; array.count of anything.
-/
import Derived.Test.YteoobeldmicjhaaGreatPRKArrayRows28
import Derived.Test.YteoobeldmicjhaaGreatPRKArrayRows18
import Derived.Test.YteoobeldmicjhaaGreatPRKArrayRows20
import Derived.Test.YteoobeldmicjhaaGreatPRKArrayRows9
import Derived.Test.YteoobeldmicjhaaGreatPRKArrayRows7
import Derived.Test.YteoobeldmicjhaaGreatPRKArrayRows24
namespace Go.Proofs.YteoobeldmicjhaaGreat.V
set_option maxRecDepth 20000
open Go.RowKit

end Go.Proofs.YteoobeldmicjhaaGreat.V
namespace Go.Proofs.YteoobeldmicjhaaGreat.V
set_option maxRecDepth 20000
open Go.RowKit

/-- What is told of the j-th array. -/
structure ArrV where
  da : Option Addr
  dl : Nat
  dc : Nat
  ds : List Int
  xa : Option Addr
  xl : Nat
  xc : Nat
def ArrV.d (v : ArrV) : Value := .slice v.da v.dl v.dc
def ArrV.x (v : ArrV) : Value := .slice v.xa v.xl v.xc
end Go.Proofs.YteoobeldmicjhaaGreat.V
namespace Go.Proofs.YteoobeldmicjhaaGreat.V
set_option maxRecDepth 20000
open Go.RowKit

set_option maxRecDepth 100000 in
set_option maxHeartbeats 2000000 in
theorem shape_2 (x : Int) (ea : Option Addr) (el ec : Nat) (es : List Int) (pa : Option Addr) (pl pc : Nat) (ps : List Int) (la : Option Addr) (ll lc : Nat) (lo : List Int) (ha : Option Addr) (hl hc : Nat) (hi : List Int) (ta : Option Addr) (tl tc : Nat) (st : List Int) (A : Option Addr) (len cap : Nat) (xss : List (List Int)) (w : World)
    (he : Lst w ea el ec es) (hp : Lst w pa pl pc ps) (hlo : Lst w la ll lc lo) (hhi : Lst w ha hl hc hi) (hst : Lst w ta tl tc st) (h : Lsts w A len xss) (hcap : len ≤ cap) (hz : ∀ d ∈ xss, sizeE d = 0) (hn : len = 0) (hlen : len ≤ 1048576) (b0 : el ≤ 1048576) (b1 : pl ≤ 1048576) (b2 : ll ≤ 1048576) (b3 : hl ≤ 1048576) (b4 : tl ≤ 1048576) :
    Calls Tryz.prog 41 #[.agg #[.int .i64 2, .slice ea el ec, .slice pa pl pc, .slice la ll lc, .slice ha hl hc, .slice ta tl tc, .int .i64 x], .slice A len cap] w fun e w' => OutP e w' ((es, 0)) ∧ Below w.heap.size w w' := by
  have zz := And.intro hcap (And.intro hlen (And.intro hn (And.intro b0 (And.intro b1 (And.intro b2 (And.intro b3 b4))))))
  clear zz
  have HE := hide he
  have HP := hide hp
  have HLO := hide hlo
  have HHI := hide hhi
  have HST := hide hst
  have H := hide h
  have HN := hide h.1
  have HZ := hide hz
  have HB1 := hide ((Below.refl w.heap.size w).alloc (Nat.le_refl _) (.cells #[.int .i64 2, .slice ea el ec, .slice pa pl pc, .slice la ll lc, .slice ha hl hc, .slice ta tl tc, .int .i64 x] 31))
  have HOP := hide (OpAt.new w 2 (.slice ea el ec) (.slice pa pl pc) (.slice la ll lc) (.slice ha hl hc) (.slice ta tl tc) x)
  obtain ⟨o0, o1, o2, o3, o4, o5, o6⟩ := HOP.out.cells
  clear h he hp hlo hhi hst hz
  go_enter Tryz.func41, Tryz.ntmps41
  go_wp2_with (go_at_call 60; refine (afresh_any _ _ _ es _ (HE.out.below HB1.out).1 (by omega)).mono ?_; rintro e w1 ⟨⟨g, rfl, hr, hg⟩, hb⟩; have HR := hide hr; have HB2 := hide (Below.on HB1.out hb); have hgg : w.heap.size ≤ g := Nat.le_trans HB1.out.size hg; clear hr hb hg)
  go_ret2
  exact ⟨outP_new (newAt_row HR.out hgg HE.out.1.1 (by omega) HE.out.1.2.2.1) 0, HB2.out⟩

set_option maxRecDepth 100000 in
set_option maxHeartbeats 2000000 in
theorem shape_9 (x : Int) (ea : Option Addr) (el ec : Nat) (es : List Int) (pa : Option Addr) (pl pc : Nat) (ps : List Int) (la : Option Addr) (ll lc : Nat) (lo : List Int) (ha : Option Addr) (hl hc : Nat) (hi : List Int) (ta : Option Addr) (tl tc : Nat) (st : List Int) (A : Option Addr) (len cap : Nat) (xss : List (List Int)) (w : World)
    (he : Lst w ea el ec es) (hp : Lst w pa pl pc ps) (hlo : Lst w la ll lc lo) (hhi : Lst w ha hl hc hi) (hst : Lst w ta tl tc st) (h : Lsts w A len xss) (hcap : len ≤ cap) (hz : ∀ d ∈ xss, sizeE d = 0) (hn : len = 1) (hlen : len ≤ 1048576) (b0 : el ≤ 1048576) (b1 : pl ≤ 1048576) (b2 : ll ≤ 1048576) (b3 : hl ≤ 1048576) (b4 : tl ≤ 1048576) :
    Calls Tryz.prog 41 #[.agg #[.int .i64 9, .slice ea el ec, .slice pa pl pc, .slice la ll lc, .slice ha hl hc, .slice ta tl tc, .int .i64 x], .slice A len cap] w fun e w' => OutP e w' ((okL (sprE 0 (xss[0]?.getD []) (stepsV (xss[0]?.getD [])) es ps) es, sprE 0 (xss[0]?.getD []) (stepsV (xss[0]?.getD [])) es ps)) ∧ Below w.heap.size w w' := by
  have zz := And.intro hcap (And.intro hlen (And.intro hn (And.intro b0 (And.intro b1 (And.intro b2 (And.intro b3 b4))))))
  clear zz
  have HE := hide he
  have HP := hide hp
  have HLO := hide hlo
  have HHI := hide hhi
  have HST := hide hst
  have H := hide h
  have HN := hide h.1
  have HZ := hide hz
  have HB1 := hide ((Below.refl w.heap.size w).alloc (Nat.le_refl _) (.cells #[.int .i64 9, .slice ea el ec, .slice pa pl pc, .slice la ll lc, .slice ha hl hc, .slice ta tl tc, .int .i64 x] 31))
  have HOP := hide (OpAt.new w 9 (.slice ea el ec) (.slice pa pl pc) (.slice la ll lc) (.slice ha hl hc) (.slice ta tl tc) x)
  obtain ⟨o0, o1, o2, o3, o4, o5, o6⟩ := HOP.out.cells
  obtain ⟨b, off, rfl, hc⟩ := h.at (by omega)
  obtain ⟨X0, m0, c0, hc0, hl0⟩ := hc 0 (by omega)
  have hc0' : w.cell? ⟨b, off, none⟩ = some (.slice X0 m0 c0) := hc0
  obtain ⟨ds, hds⟩ : ∃ ds, ds = xss[0]?.getD [] := ⟨_, rfl⟩
  rw [← hds] at hl0 ⊢
  have HL0 := hide hl0
  have HC0 := hide hc0'
  have hzd : sizeE ds = 0 := by rw [hds]; exact hz _ (mem_getDL xss 0 (by rw [h.1]; omega))
  have HZD := hide hzd
  have h06 : m0 ≤ 6 := by have := (sizeE_ok hzd).1; have := hl0.1.1; omega
  have HD1 := hide (HL0.out.below HB1.out)
  have q0 := (HB1.out.cell (p := ⟨b, off, none⟩) (lt_of_cell hc0')).trans hc0'
  have i0 : (0 : Int) < (len : Int) := by omega
  have q0b := ((HB1.out.alloc HB1.out.size (.cells #[.int .i64 0, .slice none 0 0, .slice none 0 0] 68)).cell (p := ⟨b, off, none⟩) (lt_of_cell hc0')).trans hc0'
  obtain ⟨p0, p1, p2, p3, p4, p5, p6⟩ := (HOP.out.alloc (.cells #[.int .i64 0, .slice none 0 0, .slice none 0 0] 68)).cells
  clear h he hp hlo hhi hst hz hc hc0 hc0' hl0 hds hzd
  go_enter Tryz.func41, Tryz.ntmps41
  go_wp2_with fail
  go_region_with (first | (go_at_call 61; refine (seen_spread 9 x _ _ _ ds _ _ _ es _ _ _ ps _ _ _ lo _ _ _ hi _ _ _ st _ (HL0.out.below (HB1.out.drew)).1 (HE.out.below (HB1.out.drew)).1 (HP.out.below (HB1.out.drew)).1 (HLO.out.below (HB1.out.drew)).1 (HHI.out.below (HB1.out.drew)).1 (HST.out.below (HB1.out.drew)).1 HZD.out rfl).mono ?_; rintro e w1 ⟨⟨da1, dl1, dc1, sa1, sl1, sc1, rfl, hi1, _, hc1, _, hF⟩, hb⟩; have HI1 := hide hi1; have HB2 := hide (Below.on (HB1.out.drew) hb);  clear hi1 hb hF) | (go_at_call 61; refine (seen_spread 9 x _ _ _ ds _ _ _ es _ _ _ ps _ _ _ lo _ _ _ hi _ _ _ st _ (HL0.out.below ((HB1.out.alloc HB1.out.size (.cells #[.int .i64 0, .slice none 0 0, .slice none 0 0] 68)).drew)).1 (HE.out.below ((HB1.out.alloc HB1.out.size (.cells #[.int .i64 0, .slice none 0 0, .slice none 0 0] 68)).drew)).1 (HP.out.below ((HB1.out.alloc HB1.out.size (.cells #[.int .i64 0, .slice none 0 0, .slice none 0 0] 68)).drew)).1 (HLO.out.below ((HB1.out.alloc HB1.out.size (.cells #[.int .i64 0, .slice none 0 0, .slice none 0 0] 68)).drew)).1 (HHI.out.below ((HB1.out.alloc HB1.out.size (.cells #[.int .i64 0, .slice none 0 0, .slice none 0 0] 68)).drew)).1 (HST.out.below ((HB1.out.alloc HB1.out.size (.cells #[.int .i64 0, .slice none 0 0, .slice none 0 0] 68)).drew)).1 HZD.out rfl).mono ?_; rintro e w1 ⟨⟨da1, dl1, dc1, sa1, sl1, sc1, rfl, hi1, _, hc1, _, hF⟩, hb⟩; have HI1 := hide hi1; have HB2 := hide (Below.on ((HB1.out.alloc HB1.out.size (.cells #[.int .i64 0, .slice none 0 0, .slice none 0 0] 68)).drew) hb); have HF1 : Hid (da1 = ea ∨ Far (w.heap.size + 2) da1) := (by { rcases hF with e | e; exact .inl e; exact .inr (far_mono e (by { simp })) }); have hv0 := (ViewAt.new (w.alloc (.cells #[.int .i64 9, .slice ea el ec, .slice pa pl pc, .slice la ll lc, .slice ha hl hc, .slice ta tl tc, .int .i64 x] 31)) (.int .i64 0) (.slice none 0 0) (.slice none 0 0)).below (Below.on ((Below.refl _ _).drew) hb); simp only [World.size_alloc] at hv0; obtain ⟨⟨u0, u1, u2⟩, f0, f1, f2⟩ := hv0.cells; clear hv0; clear hi1 hb hF))
  all_goals go_wp2
  all_goals go_ret2
  all_goals first | exact ⟨⟨_, _, _, rfl, HI1.out.below ((Below.refl _ _).alloc (Nat.le_refl _) _), hc1⟩, HB2.out.alloc HB2.out.size _⟩ | exact ⟨⟨_, _, _, rfl, ints_putL HI1.out HF1.out HE.out.1 (okL_len HI1.out (fun _ => HE.out.1.1)) (by omega) (by omega), hc1⟩, below_put HB2.out (by omega)⟩

set_option maxRecDepth 100000 in
set_option maxHeartbeats 2000000 in
theorem shape_10 (x : Int) (ea : Option Addr) (el ec : Nat) (es : List Int) (pa : Option Addr) (pl pc : Nat) (ps : List Int) (la : Option Addr) (ll lc : Nat) (lo : List Int) (ha : Option Addr) (hl hc : Nat) (hi : List Int) (ta : Option Addr) (tl tc : Nat) (st : List Int) (A : Option Addr) (len cap : Nat) (xss : List (List Int)) (w : World)
    (he : Lst w ea el ec es) (hp : Lst w pa pl pc ps) (hlo : Lst w la ll lc lo) (hhi : Lst w ha hl hc hi) (hst : Lst w ta tl tc st) (h : Lsts w A len xss) (hcap : len ≤ cap) (hz : ∀ d ∈ xss, sizeE d = 0) (hn : len = 1) (hlen : len ≤ 1048576) (b0 : el ≤ 1048576) (b1 : pl ≤ 1048576) (b2 : ll ≤ 1048576) (b3 : hl ≤ 1048576) (b4 : tl ≤ 1048576) :
    Calls Tryz.prog 41 #[.agg #[.int .i64 10, .slice ea el ec, .slice pa pl pc, .slice la ll lc, .slice ha hl hc, .slice ta tl tc, .int .i64 x], .slice A len cap] w fun e w' => OutP e w' (sumP (xss[0]?.getD []) ps) ∧ Below w.heap.size w w' := by
  have zz := And.intro hcap (And.intro hlen (And.intro hn (And.intro b0 (And.intro b1 (And.intro b2 (And.intro b3 b4))))))
  clear zz
  have HE := hide he
  have HP := hide hp
  have HLO := hide hlo
  have HHI := hide hhi
  have HST := hide hst
  have H := hide h
  have HN := hide h.1
  have HZ := hide hz
  have HB1 := hide ((Below.refl w.heap.size w).alloc (Nat.le_refl _) (.cells #[.int .i64 10, .slice ea el ec, .slice pa pl pc, .slice la ll lc, .slice ha hl hc, .slice ta tl tc, .int .i64 x] 31))
  have HOP := hide (OpAt.new w 10 (.slice ea el ec) (.slice pa pl pc) (.slice la ll lc) (.slice ha hl hc) (.slice ta tl tc) x)
  obtain ⟨o0, o1, o2, o3, o4, o5, o6⟩ := HOP.out.cells
  obtain ⟨b, off, rfl, hc⟩ := h.at (by omega)
  obtain ⟨X0, m0, c0, hc0, hl0⟩ := hc 0 (by omega)
  have hc0' : w.cell? ⟨b, off, none⟩ = some (.slice X0 m0 c0) := hc0
  obtain ⟨ds, hds⟩ : ∃ ds, ds = xss[0]?.getD [] := ⟨_, rfl⟩
  rw [← hds] at hl0 ⊢
  have HL0 := hide hl0
  have HC0 := hide hc0'
  have hzd : sizeE ds = 0 := by rw [hds]; exact hz _ (mem_getDL xss 0 (by rw [h.1]; omega))
  have HZD := hide hzd
  have h06 : m0 ≤ 6 := by have := (sizeE_ok hzd).1; have := hl0.1.1; omega
  have HD1 := hide (HL0.out.below HB1.out)
  have q0 := (HB1.out.cell (p := ⟨b, off, none⟩) (lt_of_cell hc0')).trans hc0'
  have i0 : (0 : Int) < (len : Int) := by omega
  clear h he hp hlo hhi hst hz hc hc0 hc0' hl0 hds hzd
  go_enter Tryz.func41, Tryz.ntmps41
  go_wp2_with fail
  go_region_with (go_at_call 62; refine (sumDims_any _ _ _ _ _ _ _ _ _ ps _ _ _ ds _ (HP.out.below (HB1.out.drew)) (HL0.out.below (HB1.out.drew)).1 HZD.out).mono ?_; rintro e w1 ⟨⟨Z, nz, cz, rfl, hi1, hnc⟩, hb⟩; have HI1 := hide hi1; have HB2 := hide (Below.on (HB1.out.drew) hb); clear hi1 hb)
  all_goals go_wp2
  all_goals go_ret2
  all_goals exact ⟨⟨_, _, _, rfl, HI1.out, hnc⟩, HB2.out⟩
end Go.Proofs.YteoobeldmicjhaaGreat.V
namespace Go.Proofs.YteoobeldmicjhaaGreat.V
set_option maxRecDepth 20000
open Go.RowKit

set_option maxRecDepth 100000 in
set_option maxHeartbeats 2000000 in
theorem shape_12 (x : Int) (ea : Option Addr) (el ec : Nat) (es : List Int) (pa : Option Addr) (pl pc : Nat) (ps : List Int) (la : Option Addr) (ll lc : Nat) (lo : List Int) (ha : Option Addr) (hl hc : Nat) (hi : List Int) (ta : Option Addr) (tl tc : Nat) (st : List Int) (A : Option Addr) (len cap : Nat) (xss : List (List Int)) (w : World)
    (he : Lst w ea el ec es) (hp : Lst w pa pl pc ps) (hlo : Lst w la ll lc lo) (hhi : Lst w ha hl hc hi) (hst : Lst w ta tl tc st) (h : Lsts w A len xss) (hcap : len ≤ cap) (hz : ∀ d ∈ xss, sizeE d = 0) (hn : len = 1) (hlen : len ≤ 1048576) (b0 : el ≤ 1048576) (b1 : pl ≤ 1048576) (b2 : ll ≤ 1048576) (b3 : hl ≤ 1048576) (b4 : tl ≤ 1048576) :
    Calls Tryz.prog 41 #[.agg #[.int .i64 12, .slice ea el ec, .slice pa pl pc, .slice la ll lc, .slice ha hl hc, .slice ta tl tc, .int .i64 x], .slice A len cap] w fun e w' => OutP e w' (reformP (xss[0]?.getD []) es) ∧ Below w.heap.size w w' := by
  have zz := And.intro hcap (And.intro hlen (And.intro hn (And.intro b0 (And.intro b1 (And.intro b2 (And.intro b3 b4))))))
  clear zz
  have HE := hide he
  have HP := hide hp
  have HLO := hide hlo
  have HHI := hide hhi
  have HST := hide hst
  have H := hide h
  have HN := hide h.1
  have HZ := hide hz
  have HB1 := hide ((Below.refl w.heap.size w).alloc (Nat.le_refl _) (.cells #[.int .i64 12, .slice ea el ec, .slice pa pl pc, .slice la ll lc, .slice ha hl hc, .slice ta tl tc, .int .i64 x] 31))
  have HOP := hide (OpAt.new w 12 (.slice ea el ec) (.slice pa pl pc) (.slice la ll lc) (.slice ha hl hc) (.slice ta tl tc) x)
  obtain ⟨o0, o1, o2, o3, o4, o5, o6⟩ := HOP.out.cells
  obtain ⟨b, off, rfl, hc⟩ := h.at (by omega)
  obtain ⟨X0, m0, c0, hc0, hl0⟩ := hc 0 (by omega)
  have hc0' : w.cell? ⟨b, off, none⟩ = some (.slice X0 m0 c0) := hc0
  obtain ⟨ds, hds⟩ : ∃ ds, ds = xss[0]?.getD [] := ⟨_, rfl⟩
  rw [← hds] at hl0 ⊢
  have HL0 := hide hl0
  have HC0 := hide hc0'
  have hzd : sizeE ds = 0 := by rw [hds]; exact hz _ (mem_getDL xss 0 (by rw [h.1]; omega))
  have HZD := hide hzd
  have h06 : m0 ≤ 6 := by have := (sizeE_ok hzd).1; have := hl0.1.1; omega
  have HD1 := hide (HL0.out.below HB1.out)
  have q0 := (HB1.out.cell (p := ⟨b, off, none⟩) (lt_of_cell hc0')).trans hc0'
  have i0 : (0 : Int) < (len : Int) := by omega
  clear h he hp hlo hhi hst hz hc hc0 hc0' hl0 hds hzd
  go_enter Tryz.func41, Tryz.ntmps41
  go_wp2_with fail
  go_region_with (go_at_call 63; refine (reformDims_any _ _ _ _ _ _ _ _ _ es _ _ _ ds _ (HE.out.below (HB1.out.drew)).1 (HL0.out.below (HB1.out.drew)).1 HZD.out).mono ?_; rintro e w1 ⟨⟨Z, nz, cz, rfl, hi1, hnc⟩, hb⟩; have HI1 := hide hi1; have HB2 := hide (Below.on (HB1.out.drew) hb); clear hi1 hb)
  all_goals go_wp2
  all_goals go_ret2
  all_goals exact ⟨⟨_, _, _, rfl, HI1.out, hnc⟩, HB2.out⟩

set_option maxRecDepth 100000 in
set_option maxHeartbeats 2000000 in
theorem shape_13 (x : Int) (ea : Option Addr) (el ec : Nat) (es : List Int) (pa : Option Addr) (pl pc : Nat) (ps : List Int) (la : Option Addr) (ll lc : Nat) (lo : List Int) (ha : Option Addr) (hl hc : Nat) (hi : List Int) (ta : Option Addr) (tl tc : Nat) (st : List Int) (A : Option Addr) (len cap : Nat) (xss : List (List Int)) (w : World)
    (he : Lst w ea el ec es) (hp : Lst w pa pl pc ps) (hlo : Lst w la ll lc lo) (hhi : Lst w ha hl hc hi) (hst : Lst w ta tl tc st) (h : Lsts w A len xss) (hcap : len ≤ cap) (hz : ∀ d ∈ xss, sizeE d = 0) (hn : len = 1) (hlen : len ≤ 1048576) (b0 : el ≤ 1048576) (b1 : pl ≤ 1048576) (b2 : ll ≤ 1048576) (b3 : hl ≤ 1048576) (b4 : tl ≤ 1048576) :
    Calls Tryz.prog 41 #[.agg #[.int .i64 13, .slice ea el ec, .slice pa pl pc, .slice la ll lc, .slice ha hl hc, .slice ta tl tc, .int .i64 x], .slice A len cap] w fun e w' => OutP e w' ((okL (cutE 0 (xss[0]?.getD []) (stepsV (xss[0]?.getD [])) lo hi st) (cutD (xss[0]?.getD []) lo hi st), cutE 0 (xss[0]?.getD []) (stepsV (xss[0]?.getD [])) lo hi st)) ∧ Below w.heap.size w w' := by
  have zz := And.intro hcap (And.intro hlen (And.intro hn (And.intro b0 (And.intro b1 (And.intro b2 (And.intro b3 b4))))))
  clear zz
  have HE := hide he
  have HP := hide hp
  have HLO := hide hlo
  have HHI := hide hhi
  have HST := hide hst
  have H := hide h
  have HN := hide h.1
  have HZ := hide hz
  have HB1 := hide ((Below.refl w.heap.size w).alloc (Nat.le_refl _) (.cells #[.int .i64 13, .slice ea el ec, .slice pa pl pc, .slice la ll lc, .slice ha hl hc, .slice ta tl tc, .int .i64 x] 31))
  have HOP := hide (OpAt.new w 13 (.slice ea el ec) (.slice pa pl pc) (.slice la ll lc) (.slice ha hl hc) (.slice ta tl tc) x)
  obtain ⟨o0, o1, o2, o3, o4, o5, o6⟩ := HOP.out.cells
  obtain ⟨b, off, rfl, hc⟩ := h.at (by omega)
  obtain ⟨X0, m0, c0, hc0, hl0⟩ := hc 0 (by omega)
  have hc0' : w.cell? ⟨b, off, none⟩ = some (.slice X0 m0 c0) := hc0
  obtain ⟨ds, hds⟩ : ∃ ds, ds = xss[0]?.getD [] := ⟨_, rfl⟩
  rw [← hds] at hl0 ⊢
  have HL0 := hide hl0
  have HC0 := hide hc0'
  have hzd : sizeE ds = 0 := by rw [hds]; exact hz _ (mem_getDL xss 0 (by rw [h.1]; omega))
  have HZD := hide hzd
  have h06 : m0 ≤ 6 := by have := (sizeE_ok hzd).1; have := hl0.1.1; omega
  have HD1 := hide (HL0.out.below HB1.out)
  have q0 := (HB1.out.cell (p := ⟨b, off, none⟩) (lt_of_cell hc0')).trans hc0'
  have i0 : (0 : Int) < (len : Int) := by omega
  have q0b := ((HB1.out.alloc HB1.out.size (.cells #[.int .i64 0, .slice none 0 0, .slice none 0 0] 68)).cell (p := ⟨b, off, none⟩) (lt_of_cell hc0')).trans hc0'
  obtain ⟨p0, p1, p2, p3, p4, p5, p6⟩ := (HOP.out.alloc (.cells #[.int .i64 0, .slice none 0 0, .slice none 0 0] 68)).cells
  clear h he hp hlo hhi hst hz hc hc0 hc0' hl0 hds hzd
  go_enter Tryz.func41, Tryz.ntmps41
  go_wp2_with fail
  go_region_with (first | (go_at_call 61; refine (seen_cut 13 x _ _ _ ds _ _ _ es _ _ _ ps _ _ _ lo _ _ _ hi _ _ _ st _ (HL0.out.below (HB1.out.drew)).1 (HE.out.below (HB1.out.drew)).1 (HP.out.below (HB1.out.drew)).1 (HLO.out.below (HB1.out.drew)).1 (HHI.out.below (HB1.out.drew)).1 (HST.out.below (HB1.out.drew)).1 HZD.out rfl).mono ?_; rintro e w1 ⟨⟨da1, dl1, dc1, sa1, sl1, sc1, rfl, hi1, _, hc1, _, hF⟩, hb⟩; have HI1 := hide hi1; have HB2 := hide (Below.on (HB1.out.drew) hb);  clear hi1 hb hF) | (go_at_call 61; refine (seen_cut 13 x _ _ _ ds _ _ _ es _ _ _ ps _ _ _ lo _ _ _ hi _ _ _ st _ (HL0.out.below ((HB1.out.alloc HB1.out.size (.cells #[.int .i64 0, .slice none 0 0, .slice none 0 0] 68)).drew)).1 (HE.out.below ((HB1.out.alloc HB1.out.size (.cells #[.int .i64 0, .slice none 0 0, .slice none 0 0] 68)).drew)).1 (HP.out.below ((HB1.out.alloc HB1.out.size (.cells #[.int .i64 0, .slice none 0 0, .slice none 0 0] 68)).drew)).1 (HLO.out.below ((HB1.out.alloc HB1.out.size (.cells #[.int .i64 0, .slice none 0 0, .slice none 0 0] 68)).drew)).1 (HHI.out.below ((HB1.out.alloc HB1.out.size (.cells #[.int .i64 0, .slice none 0 0, .slice none 0 0] 68)).drew)).1 (HST.out.below ((HB1.out.alloc HB1.out.size (.cells #[.int .i64 0, .slice none 0 0, .slice none 0 0] 68)).drew)).1 HZD.out rfl).mono ?_; rintro e w1 ⟨⟨da1, dl1, dc1, sa1, sl1, sc1, rfl, hi1, _, hc1, _, hF⟩, hb⟩; have HI1 := hide hi1; have HB2 := hide (Below.on ((HB1.out.alloc HB1.out.size (.cells #[.int .i64 0, .slice none 0 0, .slice none 0 0] 68)).drew) hb); have HF1 : Hid (Far (w.heap.size + 2) da1) := (far_mono hF (by { simp })); have hv0 := (ViewAt.new (w.alloc (.cells #[.int .i64 13, .slice ea el ec, .slice pa pl pc, .slice la ll lc, .slice ha hl hc, .slice ta tl tc, .int .i64 x] 31)) (.int .i64 0) (.slice none 0 0) (.slice none 0 0)).below (Below.on ((Below.refl _ _).drew) hb); simp only [World.size_alloc] at hv0; obtain ⟨⟨u0, u1, u2⟩, f0, f1, f2⟩ := hv0.cells; clear hv0; clear hi1 hb hF))
  all_goals go_wp2
  all_goals go_ret2
  all_goals first | exact ⟨⟨_, _, _, rfl, HI1.out.below ((Below.refl _ _).alloc (Nat.le_refl _) _), hc1⟩, HB2.out.alloc HB2.out.size _⟩ | exact ⟨⟨_, _, _, rfl, ints_putF HI1.out HF1.out (by omega), hc1⟩, below_put HB2.out (by omega)⟩
end Go.Proofs.YteoobeldmicjhaaGreat.V
namespace Go.Proofs.YteoobeldmicjhaaGreat.V
set_option maxRecDepth 20000
open Go.RowKit

set_option maxRecDepth 100000 in
set_option maxHeartbeats 2000000 in
theorem shape_14 (x : Int) (ea : Option Addr) (el ec : Nat) (es : List Int) (pa : Option Addr) (pl pc : Nat) (ps : List Int) (la : Option Addr) (ll lc : Nat) (lo : List Int) (ha : Option Addr) (hl hc : Nat) (hi : List Int) (ta : Option Addr) (tl tc : Nat) (st : List Int) (A : Option Addr) (len cap : Nat) (xss : List (List Int)) (w : World)
    (he : Lst w ea el ec es) (hp : Lst w pa pl pc ps) (hlo : Lst w la ll lc lo) (hhi : Lst w ha hl hc hi) (hst : Lst w ta tl tc st) (h : Lsts w A len xss) (hcap : len ≤ cap) (hz : ∀ d ∈ xss, sizeE d = 0) (hn : len = 1) (hlen : len ≤ 1048576) (b0 : el ≤ 1048576) (b1 : pl ≤ 1048576) (b2 : ll ≤ 1048576) (b3 : hl ≤ 1048576) (b4 : tl ≤ 1048576) :
    Calls Tryz.prog 41 #[.agg #[.int .i64 14, .slice ea el ec, .slice pa pl pc, .slice la ll lc, .slice ha hl hc, .slice ta tl tc, .int .i64 x], .slice A len cap] w fun e w' => OutP e w' (padP (xss[0]?.getD []) lo hi st) ∧ Below w.heap.size w w' := by
  have zz := And.intro hcap (And.intro hlen (And.intro hn (And.intro b0 (And.intro b1 (And.intro b2 (And.intro b3 b4))))))
  clear zz
  have HE := hide he
  have HP := hide hp
  have HLO := hide hlo
  have HHI := hide hhi
  have HST := hide hst
  have H := hide h
  have HN := hide h.1
  have HZ := hide hz
  have HB1 := hide ((Below.refl w.heap.size w).alloc (Nat.le_refl _) (.cells #[.int .i64 14, .slice ea el ec, .slice pa pl pc, .slice la ll lc, .slice ha hl hc, .slice ta tl tc, .int .i64 x] 31))
  have HOP := hide (OpAt.new w 14 (.slice ea el ec) (.slice pa pl pc) (.slice la ll lc) (.slice ha hl hc) (.slice ta tl tc) x)
  obtain ⟨o0, o1, o2, o3, o4, o5, o6⟩ := HOP.out.cells
  obtain ⟨b, off, rfl, hc⟩ := h.at (by omega)
  obtain ⟨X0, m0, c0, hc0, hl0⟩ := hc 0 (by omega)
  have hc0' : w.cell? ⟨b, off, none⟩ = some (.slice X0 m0 c0) := hc0
  obtain ⟨ds, hds⟩ : ∃ ds, ds = xss[0]?.getD [] := ⟨_, rfl⟩
  rw [← hds] at hl0 ⊢
  have HL0 := hide hl0
  have HC0 := hide hc0'
  have hzd : sizeE ds = 0 := by rw [hds]; exact hz _ (mem_getDL xss 0 (by rw [h.1]; omega))
  have HZD := hide hzd
  have h06 : m0 ≤ 6 := by have := (sizeE_ok hzd).1; have := hl0.1.1; omega
  have HD1 := hide (HL0.out.below HB1.out)
  have q0 := (HB1.out.cell (p := ⟨b, off, none⟩) (lt_of_cell hc0')).trans hc0'
  have i0 : (0 : Int) < (len : Int) := by omega
  clear h he hp hlo hhi hst hz hc hc0 hc0' hl0 hds hzd
  go_enter Tryz.func41, Tryz.ntmps41
  go_wp2_with fail
  go_region_with (go_at_call 64; refine (padDims_any _ _ _ _ _ _ _ lo _ _ _ hi _ _ _ st _ _ _ ds _ (HLO.out.below (HB1.out.drew)).1 (HHI.out.below (HB1.out.drew)).1 (HST.out.below (HB1.out.drew)).1 (HL0.out.below (HB1.out.drew)).1 HZD.out).mono ?_; rintro e w1 ⟨⟨Z, nz, cz, rfl, hi1, hnc⟩, hb⟩; have HI1 := hide hi1; have HB2 := hide (Below.on (HB1.out.drew) hb); clear hi1 hb)
  all_goals go_wp2
  all_goals go_ret2
  all_goals exact ⟨⟨_, _, _, rfl, HI1.out, hnc⟩, HB2.out⟩

set_option maxRecDepth 100000 in
set_option maxHeartbeats 2000000 in
theorem shape_15 (x : Int) (ea : Option Addr) (el ec : Nat) (es : List Int) (pa : Option Addr) (pl pc : Nat) (ps : List Int) (la : Option Addr) (ll lc : Nat) (lo : List Int) (ha : Option Addr) (hl hc : Nat) (hi : List Int) (ta : Option Addr) (tl tc : Nat) (st : List Int) (A : Option Addr) (len cap : Nat) (xss : List (List Int)) (w : World)
    (he : Lst w ea el ec es) (hp : Lst w pa pl pc ps) (hlo : Lst w la ll lc lo) (hhi : Lst w ha hl hc hi) (hst : Lst w ta tl tc st) (h : Lsts w A len xss) (hcap : len ≤ cap) (hz : ∀ d ∈ xss, sizeE d = 0) (hn : len = 1) (hlen : len ≤ 1048576) (b0 : el ≤ 1048576) (b1 : pl ≤ 1048576) (b2 : ll ≤ 1048576) (b3 : hl ≤ 1048576) (b4 : tl ≤ 1048576) :
    Calls Tryz.prog 41 #[.agg #[.int .i64 15, .slice ea el ec, .slice pa pl pc, .slice la ll lc, .slice ha hl hc, .slice ta tl tc, .int .i64 x], .slice A len cap] w fun e w' => OutP e w' ((okL (flipE 0 (xss[0]?.getD []) (stepsV (xss[0]?.getD [])) ps) (xss[0]?.getD []), flipE 0 (xss[0]?.getD []) (stepsV (xss[0]?.getD [])) ps)) ∧ Below w.heap.size w w' := by
  have zz := And.intro hcap (And.intro hlen (And.intro hn (And.intro b0 (And.intro b1 (And.intro b2 (And.intro b3 b4))))))
  clear zz
  have HE := hide he
  have HP := hide hp
  have HLO := hide hlo
  have HHI := hide hhi
  have HST := hide hst
  have H := hide h
  have HN := hide h.1
  have HZ := hide hz
  have HB1 := hide ((Below.refl w.heap.size w).alloc (Nat.le_refl _) (.cells #[.int .i64 15, .slice ea el ec, .slice pa pl pc, .slice la ll lc, .slice ha hl hc, .slice ta tl tc, .int .i64 x] 31))
  have HOP := hide (OpAt.new w 15 (.slice ea el ec) (.slice pa pl pc) (.slice la ll lc) (.slice ha hl hc) (.slice ta tl tc) x)
  obtain ⟨o0, o1, o2, o3, o4, o5, o6⟩ := HOP.out.cells
  obtain ⟨b, off, rfl, hc⟩ := h.at (by omega)
  obtain ⟨X0, m0, c0, hc0, hl0⟩ := hc 0 (by omega)
  have hc0' : w.cell? ⟨b, off, none⟩ = some (.slice X0 m0 c0) := hc0
  obtain ⟨ds, hds⟩ : ∃ ds, ds = xss[0]?.getD [] := ⟨_, rfl⟩
  rw [← hds] at hl0 ⊢
  have HL0 := hide hl0
  have HC0 := hide hc0'
  have hzd : sizeE ds = 0 := by rw [hds]; exact hz _ (mem_getDL xss 0 (by rw [h.1]; omega))
  have HZD := hide hzd
  have h06 : m0 ≤ 6 := by have := (sizeE_ok hzd).1; have := hl0.1.1; omega
  have HD1 := hide (HL0.out.below HB1.out)
  have q0 := (HB1.out.cell (p := ⟨b, off, none⟩) (lt_of_cell hc0')).trans hc0'
  have i0 : (0 : Int) < (len : Int) := by omega
  have q0b := ((HB1.out.alloc HB1.out.size (.cells #[.int .i64 0, .slice none 0 0, .slice none 0 0] 68)).cell (p := ⟨b, off, none⟩) (lt_of_cell hc0')).trans hc0'
  obtain ⟨p0, p1, p2, p3, p4, p5, p6⟩ := (HOP.out.alloc (.cells #[.int .i64 0, .slice none 0 0, .slice none 0 0] 68)).cells
  clear h he hp hlo hhi hst hz hc hc0 hc0' hl0 hds hzd
  go_enter Tryz.func41, Tryz.ntmps41
  go_wp2_with fail
  go_region_with (first | (go_at_call 61; refine (seen_flip 15 x _ _ _ ds _ _ _ es _ _ _ ps _ _ _ lo _ _ _ hi _ _ _ st _ (HL0.out.below (HB1.out.drew)).1 (HE.out.below (HB1.out.drew)).1 (HP.out.below (HB1.out.drew)).1 (HLO.out.below (HB1.out.drew)).1 (HHI.out.below (HB1.out.drew)).1 (HST.out.below (HB1.out.drew)).1 HZD.out (by decide)).mono ?_; rintro e w1 ⟨⟨da1, dl1, dc1, sa1, sl1, sc1, rfl, hi1, _, hc1, _, hF⟩, hb⟩; have HI1 := hide hi1; have HB2 := hide (Below.on (HB1.out.drew) hb);  clear hi1 hb hF) | (go_at_call 61; refine (seen_flip 15 x _ _ _ ds _ _ _ es _ _ _ ps _ _ _ lo _ _ _ hi _ _ _ st _ (HL0.out.below ((HB1.out.alloc HB1.out.size (.cells #[.int .i64 0, .slice none 0 0, .slice none 0 0] 68)).drew)).1 (HE.out.below ((HB1.out.alloc HB1.out.size (.cells #[.int .i64 0, .slice none 0 0, .slice none 0 0] 68)).drew)).1 (HP.out.below ((HB1.out.alloc HB1.out.size (.cells #[.int .i64 0, .slice none 0 0, .slice none 0 0] 68)).drew)).1 (HLO.out.below ((HB1.out.alloc HB1.out.size (.cells #[.int .i64 0, .slice none 0 0, .slice none 0 0] 68)).drew)).1 (HHI.out.below ((HB1.out.alloc HB1.out.size (.cells #[.int .i64 0, .slice none 0 0, .slice none 0 0] 68)).drew)).1 (HST.out.below ((HB1.out.alloc HB1.out.size (.cells #[.int .i64 0, .slice none 0 0, .slice none 0 0] 68)).drew)).1 HZD.out (by decide)).mono ?_; rintro e w1 ⟨⟨da1, dl1, dc1, sa1, sl1, sc1, rfl, hi1, _, hc1, _, hF⟩, hb⟩; have HI1 := hide hi1; have HB2 := hide (Below.on ((HB1.out.alloc HB1.out.size (.cells #[.int .i64 0, .slice none 0 0, .slice none 0 0] 68)).drew) hb); have HF1 : Hid (Far (w.heap.size + 2) da1) := (far_mono hF (by { simp })); have hv0 := (ViewAt.new (w.alloc (.cells #[.int .i64 15, .slice ea el ec, .slice pa pl pc, .slice la ll lc, .slice ha hl hc, .slice ta tl tc, .int .i64 x] 31)) (.int .i64 0) (.slice none 0 0) (.slice none 0 0)).below (Below.on ((Below.refl _ _).drew) hb); simp only [World.size_alloc] at hv0; obtain ⟨⟨u0, u1, u2⟩, f0, f1, f2⟩ := hv0.cells; clear hv0; clear hi1 hb hF))
  all_goals go_wp2
  all_goals go_ret2
  all_goals first | exact ⟨⟨_, _, _, rfl, HI1.out.below ((Below.refl _ _).alloc (Nat.le_refl _) _), hc1⟩, HB2.out.alloc HB2.out.size _⟩ | exact ⟨⟨_, _, _, rfl, ints_putF HI1.out HF1.out (by omega), hc1⟩, below_put HB2.out (by omega)⟩

set_option maxRecDepth 100000 in
set_option maxHeartbeats 2000000 in
theorem shape_16 (x : Int) (ea : Option Addr) (el ec : Nat) (es : List Int) (pa : Option Addr) (pl pc : Nat) (ps : List Int) (la : Option Addr) (ll lc : Nat) (lo : List Int) (ha : Option Addr) (hl hc : Nat) (hi : List Int) (ta : Option Addr) (tl tc : Nat) (st : List Int) (A : Option Addr) (len cap : Nat) (xss : List (List Int)) (w : World)
    (he : Lst w ea el ec es) (hp : Lst w pa pl pc ps) (hlo : Lst w la ll lc lo) (hhi : Lst w ha hl hc hi) (hst : Lst w ta tl tc st) (h : Lsts w A len xss) (hcap : len ≤ cap) (hz : ∀ d ∈ xss, sizeE d = 0) (hn : len = 2) (hlen : len ≤ 1048576) (b0 : el ≤ 1048576) (b1 : pl ≤ 1048576) (b2 : ll ≤ 1048576) (b3 : hl ≤ 1048576) (b4 : tl ≤ 1048576) :
    Calls Tryz.prog 41 #[.agg #[.int .i64 16, .slice ea el ec, .slice pa pl pc, .slice la ll lc, .slice ha hl hc, .slice ta tl tc, .int .i64 x], .slice A len cap] w fun e w' => OutP e w' (dotP ps st lo hi (xss[0]?.getD []) (xss[1]?.getD [])) ∧ Below w.heap.size w w' := by
  have zz := And.intro hcap (And.intro hlen (And.intro hn (And.intro b0 (And.intro b1 (And.intro b2 (And.intro b3 b4))))))
  clear zz
  have HE := hide he
  have HP := hide hp
  have HLO := hide hlo
  have HHI := hide hhi
  have HST := hide hst
  have H := hide h
  have HN := hide h.1
  have HZ := hide hz
  have HB1 := hide ((Below.refl w.heap.size w).alloc (Nat.le_refl _) (.cells #[.int .i64 16, .slice ea el ec, .slice pa pl pc, .slice la ll lc, .slice ha hl hc, .slice ta tl tc, .int .i64 x] 31))
  have HOP := hide (OpAt.new w 16 (.slice ea el ec) (.slice pa pl pc) (.slice la ll lc) (.slice ha hl hc) (.slice ta tl tc) x)
  obtain ⟨o0, o1, o2, o3, o4, o5, o6⟩ := HOP.out.cells
  obtain ⟨b, off, rfl, hc⟩ := h.at (by omega)
  obtain ⟨X0, m0, c0, hc0, hl0⟩ := hc 0 (by omega)
  have hc0' : w.cell? ⟨b, off, none⟩ = some (.slice X0 m0 c0) := hc0
  obtain ⟨ds, hds⟩ : ∃ ds, ds = xss[0]?.getD [] := ⟨_, rfl⟩
  rw [← hds] at hl0 ⊢
  have HL0 := hide hl0
  have HC0 := hide hc0'
  have hzd : sizeE ds = 0 := by rw [hds]; exact hz _ (mem_getDL xss 0 (by rw [h.1]; omega))
  have HZD := hide hzd
  have h06 : m0 ≤ 6 := by have := (sizeE_ok hzd).1; have := hl0.1.1; omega
  have HD1 := hide (HL0.out.below HB1.out)
  have q0 := (HB1.out.cell (p := ⟨b, off, none⟩) (lt_of_cell hc0')).trans hc0'
  have i0 : (0 : Int) < (len : Int) := by omega
  obtain ⟨X1, m1, c1, hc1, hl1⟩ := hc 1 (by omega)
  obtain ⟨ds1, hds1⟩ : ∃ ds1, ds1 = xss[1]?.getD [] := ⟨_, rfl⟩
  rw [← hds1] at hl1 ⊢
  have HL1 := hide hl1
  have hzd1 : sizeE ds1 = 0 := by rw [hds1]; exact hz _ (mem_getDL xss 1 (by rw [h.1]; omega))
  have h16 : m1 ≤ 6 := by have := (sizeE_ok hzd1).1; have := hl1.1.1; omega
  have q1 := (HB1.out.cell (p := ⟨b, off + 1, none⟩) (lt_of_cell hc1)).trans hc1
  have i1 : (1 : Int) < (len : Int) := by omega
  clear h he hp hlo hhi hst hz hc hc0 hc0' hl0 hds hzd hc1 hl1 hds1 hzd1
  go_enter Tryz.func41, Tryz.ntmps41
  go_wp2_with fail
  go_region_with (go_at_call 65; refine (dotDims_any _ _ _ _ _ _ ps _ _ _ lo _ _ _ hi _ _ _ st _ _ _ ds _ _ _ ds1 _ (HP.out.below (HB1.out.drew)) (HLO.out.below (HB1.out.drew)) (HHI.out.below (HB1.out.drew)) (HST.out.below (HB1.out.drew)) (HL0.out.below (HB1.out.drew)).1 (HL1.out.below (HB1.out.drew)).1 h06 h16).mono ?_; rintro e w1 ⟨⟨Z, nz, cz, rfl, hi1, hnc⟩, hb⟩; have HI1 := hide hi1; have HB2 := hide (Below.on (HB1.out.drew) hb); clear hi1 hb)
  all_goals go_wp2
  all_goals go_ret2
  all_goals exact ⟨⟨_, _, _, rfl, HI1.out, hnc⟩, HB2.out⟩
end Go.Proofs.YteoobeldmicjhaaGreat.V
namespace Go.Proofs.YteoobeldmicjhaaGreat.V
set_option maxRecDepth 20000
open Go.RowKit

set_option maxRecDepth 100000 in
set_option maxHeartbeats 2000000 in
theorem shape_17 (x : Int) (ea : Option Addr) (el ec : Nat) (es : List Int) (pa : Option Addr) (pl pc : Nat) (ps : List Int) (la : Option Addr) (ll lc : Nat) (lo : List Int) (ha : Option Addr) (hl hc : Nat) (hi : List Int) (ta : Option Addr) (tl tc : Nat) (st : List Int) (A : Option Addr) (len cap : Nat) (xss : List (List Int)) (w : World)
    (he : Lst w ea el ec es) (hp : Lst w pa pl pc ps) (hlo : Lst w la ll lc lo) (hhi : Lst w ha hl hc hi) (hst : Lst w ta tl tc st) (h : Lsts w A len xss) (hcap : len ≤ cap) (hz : ∀ d ∈ xss, sizeE d = 0) (hn : 1 ≤ len) (hlen : len ≤ 1048576) (b0 : el ≤ 1048576) (b1 : pl ≤ 1048576) (b2 : ll ≤ 1048576) (b3 : hl ≤ 1048576) (b4 : tl ≤ 1048576) :
    Calls Tryz.prog 41 #[.agg #[.int .i64 17, .slice ea el ec, .slice pa pl pc, .slice la ll lc, .slice ha hl hc, .slice ta tl tc, .int .i64 x], .slice A len cap] w fun e w' => OutP e w' (joinP ps xss) ∧ Below w.heap.size w w' := by
  have zz := And.intro hcap (And.intro hlen (And.intro hn (And.intro b0 (And.intro b1 (And.intro b2 (And.intro b3 b4))))))
  clear zz
  have HE := hide he
  have HP := hide hp
  have HLO := hide hlo
  have HHI := hide hhi
  have HST := hide hst
  have H := hide h
  have HN := hide h.1
  have HZ := hide hz
  have HB1 := hide ((Below.refl w.heap.size w).alloc (Nat.le_refl _) (.cells #[.int .i64 17, .slice ea el ec, .slice pa pl pc, .slice la ll lc, .slice ha hl hc, .slice ta tl tc, .int .i64 x] 31))
  have HOP := hide (OpAt.new w 17 (.slice ea el ec) (.slice pa pl pc) (.slice la ll lc) (.slice ha hl hc) (.slice ta tl tc) x)
  obtain ⟨o0, o1, o2, o3, o4, o5, o6⟩ := HOP.out.cells
  obtain ⟨b, off, rfl, hc⟩ := h.at (by omega)
  obtain ⟨X0, m0, c0, hc0, hl0⟩ := hc 0 (by omega)
  have hc0' : w.cell? ⟨b, off, none⟩ = some (.slice X0 m0 c0) := hc0
  obtain ⟨ds, hds⟩ : ∃ ds, ds = xss[0]?.getD [] := ⟨_, rfl⟩
  rw [← hds] at hl0
  have HL0 := hide hl0
  have HC0 := hide hc0'
  have hzd : sizeE ds = 0 := by rw [hds]; exact hz _ (mem_getDL xss 0 (by rw [h.1]; omega))
  have HZD := hide hzd
  have h06 : m0 ≤ 6 := by have := (sizeE_ok hzd).1; have := hl0.1.1; omega
  have HD1 := hide (HL0.out.below HB1.out)
  have q0 := (HB1.out.cell (p := ⟨b, off, none⟩) (lt_of_cell hc0')).trans hc0'
  have i0 : (0 : Int) < (len : Int) := by omega
  clear h he hp hlo hhi hst hz hc hc0 hc0' hl0 hds hzd
  go_enter Tryz.func41, Tryz.ntmps41
  go_wp2_with (go_at_call 66; refine (joinDims_any _ _ _ _ _ _ _ _ _ ps _ _ _ xss _ (HP.out.below (HB1.out)) (H.out.below (HB1.out)) hcap hn hlen HZ.out).mono ?_; rintro e w1 ⟨⟨Z, nz, cz, rfl, hi1, hnc⟩, hb⟩; have HI1 := hide hi1; have HB2 := hide (Below.on (HB1.out) hb); clear hi1 hb)
  go_ret2
  all_goals exact ⟨⟨_, _, _, rfl, HI1.out, hnc⟩, HB2.out⟩

set_option maxRecDepth 100000 in
set_option maxHeartbeats 2000000 in
theorem shape_18 (x : Int) (ea : Option Addr) (el ec : Nat) (es : List Int) (pa : Option Addr) (pl pc : Nat) (ps : List Int) (la : Option Addr) (ll lc : Nat) (lo : List Int) (ha : Option Addr) (hl hc : Nat) (hi : List Int) (ta : Option Addr) (tl tc : Nat) (st : List Int) (A : Option Addr) (len cap : Nat) (xss : List (List Int)) (w : World)
    (he : Lst w ea el ec es) (hp : Lst w pa pl pc ps) (hlo : Lst w la ll lc lo) (hhi : Lst w ha hl hc hi) (hst : Lst w ta tl tc st) (h : Lsts w A len xss) (hcap : len ≤ cap) (hz : ∀ d ∈ xss, sizeE d = 0) (hn : len = 2) (hlen : len ≤ 1048576) (b0 : el ≤ 1048576) (b1 : pl ≤ 1048576) (b2 : ll ≤ 1048576) (b3 : hl ≤ 1048576) (b4 : tl ≤ 1048576) :
    Calls Tryz.prog 41 #[.agg #[.int .i64 18, .slice ea el ec, .slice pa pl pc, .slice la ll lc, .slice ha hl hc, .slice ta tl tc, .int .i64 x], .slice A len cap] w fun e w' => OutP e w' (takeP (xss[0]?.getD []) (xss[1]?.getD [])) ∧ Below w.heap.size w w' := by
  have zz := And.intro hcap (And.intro hlen (And.intro hn (And.intro b0 (And.intro b1 (And.intro b2 (And.intro b3 b4))))))
  clear zz
  have HE := hide he
  have HP := hide hp
  have HLO := hide hlo
  have HHI := hide hhi
  have HST := hide hst
  have H := hide h
  have HN := hide h.1
  have HZ := hide hz
  have HB1 := hide ((Below.refl w.heap.size w).alloc (Nat.le_refl _) (.cells #[.int .i64 18, .slice ea el ec, .slice pa pl pc, .slice la ll lc, .slice ha hl hc, .slice ta tl tc, .int .i64 x] 31))
  have HOP := hide (OpAt.new w 18 (.slice ea el ec) (.slice pa pl pc) (.slice la ll lc) (.slice ha hl hc) (.slice ta tl tc) x)
  obtain ⟨o0, o1, o2, o3, o4, o5, o6⟩ := HOP.out.cells
  obtain ⟨b, off, rfl, hc⟩ := h.at (by omega)
  obtain ⟨X0, m0, c0, hc0, hl0⟩ := hc 0 (by omega)
  have hc0' : w.cell? ⟨b, off, none⟩ = some (.slice X0 m0 c0) := hc0
  obtain ⟨ds, hds⟩ : ∃ ds, ds = xss[0]?.getD [] := ⟨_, rfl⟩
  rw [← hds] at hl0 ⊢
  have HL0 := hide hl0
  have HC0 := hide hc0'
  have hzd : sizeE ds = 0 := by rw [hds]; exact hz _ (mem_getDL xss 0 (by rw [h.1]; omega))
  have HZD := hide hzd
  have h06 : m0 ≤ 6 := by have := (sizeE_ok hzd).1; have := hl0.1.1; omega
  have HD1 := hide (HL0.out.below HB1.out)
  have q0 := (HB1.out.cell (p := ⟨b, off, none⟩) (lt_of_cell hc0')).trans hc0'
  have i0 : (0 : Int) < (len : Int) := by omega
  obtain ⟨X1, m1, c1, hc1, hl1⟩ := hc 1 (by omega)
  obtain ⟨ds1, hds1⟩ : ∃ ds1, ds1 = xss[1]?.getD [] := ⟨_, rfl⟩
  rw [← hds1] at hl1 ⊢
  have HL1 := hide hl1
  have hzd1 : sizeE ds1 = 0 := by rw [hds1]; exact hz _ (mem_getDL xss 1 (by rw [h.1]; omega))
  have h16 : m1 ≤ 6 := by have := (sizeE_ok hzd1).1; have := hl1.1.1; omega
  have q1 := (HB1.out.cell (p := ⟨b, off + 1, none⟩) (lt_of_cell hc1)).trans hc1
  have i1 : (1 : Int) < (len : Int) := by omega
  clear h he hp hlo hhi hst hz hc hc0 hc0' hl0 hds hzd hc1 hl1 hds1 hzd1
  go_enter Tryz.func41, Tryz.ntmps41
  go_wp2_with fail
  go_region_with (go_at_call 67; refine (takeDims_any _ _ _ ds _ _ _ ds1 _ (HL0.out.below (HB1.out.drew)) (HL1.out.below (HB1.out.drew)) h06 h16).mono ?_; rintro e w1 ⟨⟨Z, nz, cz, rfl, hi1, hnc⟩, hb⟩; have HI1 := hide hi1; have HB2 := hide (Below.on (HB1.out.drew) hb); clear hi1 hb)
  all_goals go_wp2
  all_goals go_ret2
  all_goals exact ⟨⟨_, _, _, rfl, HI1.out, hnc⟩, HB2.out⟩

set_option maxRecDepth 100000 in
set_option maxHeartbeats 2000000 in
theorem shape_19 (x : Int) (ea : Option Addr) (el ec : Nat) (es : List Int) (pa : Option Addr) (pl pc : Nat) (ps : List Int) (la : Option Addr) (ll lc : Nat) (lo : List Int) (ha : Option Addr) (hl hc : Nat) (hi : List Int) (ta : Option Addr) (tl tc : Nat) (st : List Int) (A : Option Addr) (len cap : Nat) (xss : List (List Int)) (w : World)
    (he : Lst w ea el ec es) (hp : Lst w pa pl pc ps) (hlo : Lst w la ll lc lo) (hhi : Lst w ha hl hc hi) (hst : Lst w ta tl tc st) (h : Lsts w A len xss) (hcap : len ≤ cap) (hz : ∀ d ∈ xss, sizeE d = 0) (hn : len = 2) (hlen : len ≤ 1048576) (b0 : el ≤ 1048576) (b1 : pl ≤ 1048576) (b2 : ll ≤ 1048576) (b3 : hl ≤ 1048576) (b4 : tl ≤ 1048576) :
    Calls Tryz.prog 41 #[.agg #[.int .i64 19, .slice ea el ec, .slice pa pl pc, .slice la ll lc, .slice ha hl hc, .slice ta tl tc, .int .i64 x], .slice A len cap] w fun e w' => OutP e w' (putP es (xss[0]?.getD []) (xss[1]?.getD [])) ∧ Below w.heap.size w w' := by
  have zz := And.intro hcap (And.intro hlen (And.intro hn (And.intro b0 (And.intro b1 (And.intro b2 (And.intro b3 b4))))))
  clear zz
  have HE := hide he
  have HP := hide hp
  have HLO := hide hlo
  have HHI := hide hhi
  have HST := hide hst
  have H := hide h
  have HN := hide h.1
  have HZ := hide hz
  have HB1 := hide ((Below.refl w.heap.size w).alloc (Nat.le_refl _) (.cells #[.int .i64 19, .slice ea el ec, .slice pa pl pc, .slice la ll lc, .slice ha hl hc, .slice ta tl tc, .int .i64 x] 31))
  have HOP := hide (OpAt.new w 19 (.slice ea el ec) (.slice pa pl pc) (.slice la ll lc) (.slice ha hl hc) (.slice ta tl tc) x)
  obtain ⟨o0, o1, o2, o3, o4, o5, o6⟩ := HOP.out.cells
  obtain ⟨b, off, rfl, hc⟩ := h.at (by omega)
  obtain ⟨X0, m0, c0, hc0, hl0⟩ := hc 0 (by omega)
  have hc0' : w.cell? ⟨b, off, none⟩ = some (.slice X0 m0 c0) := hc0
  obtain ⟨ds, hds⟩ : ∃ ds, ds = xss[0]?.getD [] := ⟨_, rfl⟩
  rw [← hds] at hl0 ⊢
  have HL0 := hide hl0
  have HC0 := hide hc0'
  have hzd : sizeE ds = 0 := by rw [hds]; exact hz _ (mem_getDL xss 0 (by rw [h.1]; omega))
  have HZD := hide hzd
  have h06 : m0 ≤ 6 := by have := (sizeE_ok hzd).1; have := hl0.1.1; omega
  have HD1 := hide (HL0.out.below HB1.out)
  have q0 := (HB1.out.cell (p := ⟨b, off, none⟩) (lt_of_cell hc0')).trans hc0'
  have i0 : (0 : Int) < (len : Int) := by omega
  obtain ⟨X1, m1, c1, hc1, hl1⟩ := hc 1 (by omega)
  obtain ⟨ds1, hds1⟩ : ∃ ds1, ds1 = xss[1]?.getD [] := ⟨_, rfl⟩
  rw [← hds1] at hl1 ⊢
  have HL1 := hide hl1
  have hzd1 : sizeE ds1 = 0 := by rw [hds1]; exact hz _ (mem_getDL xss 1 (by rw [h.1]; omega))
  have h16 : m1 ≤ 6 := by have := (sizeE_ok hzd1).1; have := hl1.1.1; omega
  have q1 := (HB1.out.cell (p := ⟨b, off + 1, none⟩) (lt_of_cell hc1)).trans hc1
  have i1 : (1 : Int) < (len : Int) := by omega
  clear h he hp hlo hhi hst hz hc hc0 hc0' hl0 hds hzd hc1 hl1 hds1 hzd1
  go_enter Tryz.func41, Tryz.ntmps41
  go_wp2_with fail
  go_region_with (go_at_call 68; refine (putDims_any _ _ _ _ _ _ _ _ _ es _ _ _ ds _ _ _ ds1 _ (HE.out.below (HB1.out.drew)) (HL0.out.below (HB1.out.drew)) (HL1.out.below (HB1.out.drew)) h06 h16).mono ?_; rintro e w1 ⟨⟨Z, nz, cz, rfl, hi1, hnc⟩, hb⟩; have HI1 := hide hi1; have HB2 := hide (Below.on (HB1.out.drew) hb); clear hi1 hb)
  all_goals go_wp2
  all_goals go_ret2
  all_goals exact ⟨⟨_, _, _, rfl, HI1.out, hnc⟩, HB2.out⟩
end Go.Proofs.YteoobeldmicjhaaGreat.V
namespace Go.Proofs.YteoobeldmicjhaaGreat.V
set_option maxRecDepth 20000
open Go.RowKit

set_option maxRecDepth 100000 in
set_option maxHeartbeats 2000000 in
theorem shape_11 (x : Int) (ea : Option Addr) (el ec : Nat) (es : List Int) (pa : Option Addr) (pl pc : Nat) (ps : List Int) (la : Option Addr) (ll lc : Nat) (lo : List Int) (ha : Option Addr) (hl hc : Nat) (hi : List Int) (ta : Option Addr) (tl tc : Nat) (st : List Int) (A : Option Addr) (len cap : Nat) (xss : List (List Int)) (w : World)
    (he : Lst w ea el ec es) (hp : Lst w pa pl pc ps) (hlo : Lst w la ll lc lo) (hhi : Lst w ha hl hc hi) (hst : Lst w ta tl tc st) (h : Lsts w A len xss) (hcap : len ≤ cap) (hz : ∀ d ∈ xss, sizeE d = 0) (hn : len = 1) (hlen : len ≤ 1048576) (b0 : el ≤ 1048576) (b1 : pl ≤ 1048576) (b2 : ll ≤ 1048576) (b3 : hl ≤ 1048576) (b4 : tl ≤ 1048576) :
    Calls Tryz.prog 41 #[.agg #[.int .i64 11, .slice ea el ec, .slice pa pl pc, .slice la ll lc, .slice ha hl hc, .slice ta tl tc, .int .i64 x], .slice A len cap] w fun e w' => OutP e w' ((okL (turnE 0 (xss[0]?.getD []) (stepsV (xss[0]?.getD [])) ps) (taken (xss[0]?.getD []) ps), turnE 0 (xss[0]?.getD []) (stepsV (xss[0]?.getD [])) ps)) ∧ Below w.heap.size w w' := by
  have zz := And.intro hcap (And.intro hlen (And.intro hn (And.intro b0 (And.intro b1 (And.intro b2 (And.intro b3 b4))))))
  clear zz
  have HE := hide he
  have HP := hide hp
  have HLO := hide hlo
  have HHI := hide hhi
  have HST := hide hst
  have H := hide h
  have HN := hide h.1
  have HZ := hide hz
  have HB1 := hide ((Below.refl w.heap.size w).alloc (Nat.le_refl _) (.cells #[.int .i64 11, .slice ea el ec, .slice pa pl pc, .slice la ll lc, .slice ha hl hc, .slice ta tl tc, .int .i64 x] 31))
  have HOP := hide (OpAt.new w 11 (.slice ea el ec) (.slice pa pl pc) (.slice la ll lc) (.slice ha hl hc) (.slice ta tl tc) x)
  obtain ⟨o0, o1, o2, o3, o4, o5, o6⟩ := HOP.out.cells
  obtain ⟨b, off, rfl, hc⟩ := h.at (by omega)
  obtain ⟨X0, m0, c0, hc0, hl0⟩ := hc 0 (by omega)
  have hc0' : w.cell? ⟨b, off, none⟩ = some (.slice X0 m0 c0) := hc0
  obtain ⟨ds, hds⟩ : ∃ ds, ds = xss[0]?.getD [] := ⟨_, rfl⟩
  rw [← hds] at hl0 ⊢
  have HL0 := hide hl0
  have HC0 := hide hc0'
  have hzd : sizeE ds = 0 := by rw [hds]; exact hz _ (mem_getDL xss 0 (by rw [h.1]; omega))
  have HZD := hide hzd
  have h06 : m0 ≤ 6 := by have := (sizeE_ok hzd).1; have := hl0.1.1; omega
  have HD1 := hide (HL0.out.below HB1.out)
  have q0 := (HB1.out.cell (p := ⟨b, off, none⟩) (lt_of_cell hc0')).trans hc0'
  have i0 : (0 : Int) < (len : Int) := by omega
  have q0b := ((HB1.out.alloc HB1.out.size (.cells #[.int .i64 0, .slice none 0 0, .slice none 0 0] 68)).cell (p := ⟨b, off, none⟩) (lt_of_cell hc0')).trans hc0'
  obtain ⟨p0, p1, p2, p3, p4, p5, p6⟩ := (HOP.out.alloc (.cells #[.int .i64 0, .slice none 0 0, .slice none 0 0] 68)).cells
  clear h he hp hlo hhi hst hz hc hc0 hc0' hl0 hds hzd
  go_enter Tryz.func41, Tryz.ntmps41
  go_wp2_with fail
  go_region_with (first | (go_at_call 61; refine (seen_turn 11 x _ _ _ ds _ _ _ es _ _ _ ps _ _ _ lo _ _ _ hi _ _ _ st _ (HL0.out.below (HB1.out.drew)).1 (HE.out.below (HB1.out.drew)).1 (HP.out.below (HB1.out.drew)).1 (HLO.out.below (HB1.out.drew)).1 (HHI.out.below (HB1.out.drew)).1 (HST.out.below (HB1.out.drew)).1 HZD.out rfl).mono ?_; rintro e w1 ⟨⟨da1, dl1, dc1, sa1, sl1, sc1, rfl, hi1, _, hc1, _, hF⟩, hb⟩; have HI1 := hide hi1; have HB2 := hide (Below.on (HB1.out.drew) hb);  clear hi1 hb hF) | (go_at_call 61; refine (seen_turn 11 x _ _ _ ds _ _ _ es _ _ _ ps _ _ _ lo _ _ _ hi _ _ _ st _ (HL0.out.below ((HB1.out.alloc HB1.out.size (.cells #[.int .i64 0, .slice none 0 0, .slice none 0 0] 68)).drew)).1 (HE.out.below ((HB1.out.alloc HB1.out.size (.cells #[.int .i64 0, .slice none 0 0, .slice none 0 0] 68)).drew)).1 (HP.out.below ((HB1.out.alloc HB1.out.size (.cells #[.int .i64 0, .slice none 0 0, .slice none 0 0] 68)).drew)).1 (HLO.out.below ((HB1.out.alloc HB1.out.size (.cells #[.int .i64 0, .slice none 0 0, .slice none 0 0] 68)).drew)).1 (HHI.out.below ((HB1.out.alloc HB1.out.size (.cells #[.int .i64 0, .slice none 0 0, .slice none 0 0] 68)).drew)).1 (HST.out.below ((HB1.out.alloc HB1.out.size (.cells #[.int .i64 0, .slice none 0 0, .slice none 0 0] 68)).drew)).1 HZD.out rfl).mono ?_; rintro e w1 ⟨⟨da1, dl1, dc1, sa1, sl1, sc1, rfl, hi1, _, hc1, _, hF⟩, hb⟩; have HI1 := hide hi1; have HB2 := hide (Below.on ((HB1.out.alloc HB1.out.size (.cells #[.int .i64 0, .slice none 0 0, .slice none 0 0] 68)).drew) hb); have HF1 : Hid (Far (w.heap.size + 2) da1) := (far_mono hF (by { simp })); have hv0 := (ViewAt.new (w.alloc (.cells #[.int .i64 11, .slice ea el ec, .slice pa pl pc, .slice la ll lc, .slice ha hl hc, .slice ta tl tc, .int .i64 x] 31)) (.int .i64 0) (.slice none 0 0) (.slice none 0 0)).below (Below.on ((Below.refl _ _).drew) hb); simp only [World.size_alloc] at hv0; obtain ⟨⟨u0, u1, u2⟩, f0, f1, f2⟩ := hv0.cells; clear hv0; clear hi1 hb hF))
  all_goals go_wp2
  all_goals go_ret2
  all_goals first | exact ⟨⟨_, _, _, rfl, HI1.out.below ((Below.refl _ _).alloc (Nat.le_refl _) _), hc1⟩, HB2.out.alloc HB2.out.size _⟩ | exact ⟨⟨_, _, _, rfl, ints_putF HI1.out HF1.out (by omega), hc1⟩, below_put HB2.out (by omega)⟩
end Go.Proofs.YteoobeldmicjhaaGreat.V
namespace Go.Proofs.YteoobeldmicjhaaGreat.V
set_option maxRecDepth 20000
open Go.RowKit

set_option maxHeartbeats 1000000 in
theorem rget_any (da : Option Addr) (dl dc : Nat) (ds : List Int) (xa : Option Addr) (n xc : Nat) (xs : List Int) (a' : Option Addr) (len' cap' : Nat) (ys : List Int) (w : World) (p : Nat)
    (hd : Ints w da dl ds) (hdc : dl ≤ dc) (hx : Ints w xa n xs) (hy : Ints w a' len' ys) (hp : placeN ds ys = p) (hpn : p < n) :
    Calls Tryz.prog 32 #[.agg #[.slice da dl dc, .slice xa n xc], .slice a' len' cap'] w fun e w' => e = .returned (.int .i64 (xs[p]?.getD 0)) ∧ Below w.heap.size w w' := by
  have HD := hide hd
  have HY := hide hy
  have HX := hide hx
  have HP := hide hp
  have hm := hx.2.1
  obtain ⟨b, off, rfl, hc⟩ := hx.2.2.2.resolve_left (by omega)
  have hcp := hc p hpn
  have hbl : b < w.heap.size := lt_of_cell hcp
  have HC := hide hcp
  have HB1 := hide ((Below.refl w.heap.size w).alloc (Nat.le_refl _) (.cells #[.slice da dl dc, .slice (some ⟨b, off, none⟩) n xc] 25))
  have HAR := hide (ArrAt.new w (.slice da dl dc) (.slice (some ⟨b, off, none⟩) n xc))
  obtain ⟨⟨r0, r1⟩, _⟩ := HAR.out.cells
  clear hd hy hx hp hc hcp
  go_enter Tryz.func32, Tryz.ntmps32
  go_wp2_with (go_at_call 56; refine (rplace_any _ _ _ ds _ _ _ ys _ (HD.out.below HB1.out) (HY.out.below HB1.out) hdc).mono ?_; rintro e w1 ⟨rfl, hb⟩; rw [HP.out]; have HB2 := hide (Below.on HB1.out hb); have HAR2 := hide (HAR.out.below hb); clear r0 r1; obtain ⟨⟨r0, r1⟩, _⟩ := HAR2.out.cells; have g0 := (HB2.out.cell (p := ⟨b, off + p, none⟩) hbl).trans HC.out; clear hb)
  go_ret
  exact ⟨rfl, HB2.out⟩
end Go.Proofs.YteoobeldmicjhaaGreat.V
namespace Go.Proofs.YteoobeldmicjhaaGreat.V
set_option maxRecDepth 20000
open Go.RowKit

theorem w64 (n : Int) : wrap64 n = IntKind.i64.wrap n := by
  simp only [wrap64, IntKind.wrap, IntKind.bits, IntKind.signed]
  simp
  split <;> omega
theorem wrap_bd (n : Int) : -9223372036854775808 ≤ IntKind.i64.wrap n ∧ IntKind.i64.wrap n ≤ 9223372036854775807 := by
  simp only [IntKind.wrap, IntKind.bits, IntKind.signed]
  simp
  split <;> omega
theorem wrap_off (n : Int) : ∃ q : Int, IntKind.i64.wrap n = n + q * 18446744073709551616 := by
  simp only [IntKind.wrap, IntKind.bits, IntKind.signed]
  simp
  split
  · exact ⟨-(n / 18446744073709551616) - 1, by omega⟩
  · exact ⟨-(n / 18446744073709551616), by omega⟩
theorem wrap_plus (n q : Int) : IntKind.i64.wrap (n + q * 18446744073709551616) = IntKind.i64.wrap n := by
  simp only [IntKind.wrap, IntKind.bits, IntKind.signed]
  simp only [show ((2 : Int) ^ (64 : Nat)) = 18446744073709551616 from rfl, Int.add_mul_emod_self_right]
theorem wrap_addl (a b : Int) : IntKind.i64.wrap (IntKind.i64.wrap a + b) = IntKind.i64.wrap (a + b) := by
  obtain ⟨q, hq⟩ := wrap_off a
  rw [hq, show a + q * 18446744073709551616 + b = a + b + q * 18446744073709551616 by omega, wrap_plus]
theorem wrap_addr (a b : Int) : IntKind.i64.wrap (a + IntKind.i64.wrap b) = IntKind.i64.wrap (a + b) := by
  rw [Int.add_comm, wrap_addl, Int.add_comm]
theorem wrap_mull (a b : Int) : IntKind.i64.wrap (IntKind.i64.wrap a * b) = IntKind.i64.wrap (a * b) := by
  obtain ⟨q, hq⟩ := wrap_off a
  rw [hq, Int.add_mul, show q * 18446744073709551616 * b = (q * b) * 18446744073709551616 by rw [Int.mul_assoc, Int.mul_comm _ b, ← Int.mul_assoc], wrap_plus]
theorem wrap_mulr (a b : Int) : IntKind.i64.wrap (a * IntKind.i64.wrap b) = IntKind.i64.wrap (a * b) := by
  rw [Int.mul_comm, wrap_mull, Int.mul_comm]
end Go.Proofs.YteoobeldmicjhaaGreat.V
