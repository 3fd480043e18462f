/-
  Contracts: array.shape, of lists of dimensions that may be any. Contracts: array.shape, of lists of dimensions that may be any. Contracts: array.shape, of lists of dimensions that may be any. Contracts: adjointref2.ruled, without bounds on the lists of the operation. Contracts: adjointref2.ruled, without bounds on the lists of the operation. Contracts: adjointref2.ruled, without bounds on the lists of the operation.
-/
import Derived.Test.YteoobeldmicjhaaGreatPAKArrayAdjoint22
import Derived.Test.YteoobeldmicjhaaGreatPAKArrayAdjoint23
import Derived.Test.YteoobeldmicjhaaGreatPAKArrayAdjoint25
import Derived.Test.YteoobeldmicjhaaGreatPAKArrayAdjoint33
import Derived.Test.YteoobeldmicjhaaGreatPAKArrayAdjoint32
import Derived.Test.YteoobeldmicjhaaGreatPAKArrayAdjoint26
import Derived.Test.YteoobeldmicjhaaGreatPAKArrayAdjoint27
namespace Go.Proofs.YteoobeldmicjhaaGreat.V
set_option maxRecDepth 20000
open Go.RowKit

/-- A list of dimensions. -/
def LstQ (w : World) (X : Option Addr) (n c : Nat) (xs : List Int) : Prop := Ints w X n xs ∧ n ≤ c
theorem LstQ.below {w w' : World} {X : Option Addr} {n c : Nat} {xs : List Int} (h : LstQ w X n c xs) (hb : Below w.heap.size w w') : LstQ w' X n c xs := ⟨h.1.below hb, h.2⟩
theorem Lst.q {w : World} {X : Option Addr} {n c : Nat} {xs : List Int} (h : Lst w X n c xs) : LstQ w X n c xs := ⟨h.1, h.2.1⟩
/-- Lists of dimensions. -/
def LstsQ (w : World) (A : Option Addr) (n : Nat) (xss : List (List Int)) : Prop :=
  xss.length = n ∧ n ≤ 9223372036854775807 ∧ (n = 0 ∨ ∃ b off, A = some ⟨b, off, none⟩ ∧ ∀ j, j < n → ∃ X m c, w.cell? ⟨b, off + j, none⟩ = some (.slice X m c) ∧ LstQ w X m c (xss[j]?.getD []))
theorem LstsQ.below {w w' : World} {A : Option Addr} {n : Nat} {xss : List (List Int)} (h : LstsQ w A n xss) (hb : Below w.heap.size w w') : LstsQ w' A n xss := by
  obtain ⟨h1, h2, h3⟩ := h
  refine ⟨h1, h2, ?_⟩
  rcases h3 with h3 | ⟨b, off, e, h3⟩
  · exact .inl h3
  · refine .inr ⟨b, off, e, fun j hj => ?_⟩
    obtain ⟨X, m, c, g1, g2⟩ := h3 j hj
    exact ⟨X, m, c, (hb.cell (p := ⟨b, off + j, none⟩) (lt_of_cell g1)).trans g1, g2.below hb⟩
theorem LstsQ.at {w : World} {A : Option Addr} {n : Nat} {xss : List (List Int)} (h : LstsQ w A n xss) (h0 : 0 < n) : ∃ b off, A = some ⟨b, off, none⟩ ∧ ∀ j, j < n → ∃ X m c, w.cell? ⟨b, off + j, none⟩ = some (.slice X m c) ∧ LstQ w X m c (xss[j]?.getD []) := by
  rcases h.2.2 with e | h3
  · omega
  · exact h3
/-- Arrays. -/
def ArrsQ (w : World) (A : Option Addr) (m : Nat) (v : Nat → ArrV) : Prop :=
  m = 0 ∨ ∃ b off, A = some ⟨b, off, none⟩ ∧ ∀ j, j < m → w.cell? ⟨b, off + j * 2, none⟩ = some (v j).d ∧ w.cell? ⟨b, off + j * 2 + 1, none⟩ = some (v j).x ∧ LstQ w (v j).da (v j).dl (v j).dc (v j).ds
theorem ArrsQ.below {w w' : World} {A : Option Addr} {m : Nat} {v : Nat → ArrV} (h : ArrsQ w A m v) (hb : Below w.heap.size w w') : ArrsQ w' A m v := by
  rcases h with h | ⟨b, off, e, h⟩
  · exact .inl h
  · exact .inr ⟨b, off, e, fun j hj => ⟨(hb.cell (p := ⟨b, off + j * 2, none⟩) (lt_of_cell (h j hj).1)).trans (h j hj).1, (hb.cell (p := ⟨b, off + j * 2 + 1, none⟩) (lt_of_cell (h j hj).2.1)).trans (h j hj).2.1, (h j hj).2.2.below hb⟩⟩

set_option maxRecDepth 100000 in
set_option maxHeartbeats 2000000 in
theorem shape_9Q (x : Int) (ea : Option Addr) (el ec : Nat) (es : List Int) (pa : Option Addr) (pl pc : Nat) (ps : List Int) (la : Option Addr) (ll lc : Nat) (lo : List Int) (ha : Option Addr) (hl hc : Nat) (hi : List Int) (ta : Option Addr) (tl tc : Nat) (st : List Int) (A : Option Addr) (len cap : Nat) (xss : List (List Int)) (w : World)
    (he : Lst w ea el ec es) (hp : Lst w pa pl pc ps) (hlo : Lst w la ll lc lo) (hhi : Lst w ha hl hc hi) (hst : Lst w ta tl tc st) (h : LstsQ w A len xss) (hcap : len ≤ cap) (hz : ∀ d ∈ xss, sizeE d = 0) (hn : len = 1) (hlen : len ≤ 1048576) :
    Calls Tryz.prog 41 #[.agg #[.int .i64 9, .slice ea el ec, .slice pa pl pc, .slice la ll lc, .slice ha hl hc, .slice ta tl tc, .int .i64 x], .slice A len cap] w fun e w' => OutP e w' ((okL (sprE 0 (xss[0]?.getD []) (stepsV (xss[0]?.getD [])) es ps) es, sprE 0 (xss[0]?.getD []) (stepsV (xss[0]?.getD [])) es ps)) ∧ Below w.heap.size w w' := by
  have zz := And.intro hcap (And.intro hlen hn)
  clear zz
  have HE := hide he
  have HP := hide hp
  have HLO := hide hlo
  have HHI := hide hhi
  have HST := hide hst
  have H := hide h
  have HN := hide h.1
  have HZ := hide hz
  have HB1 := hide ((Below.refl w.heap.size w).alloc (Nat.le_refl _) (.cells #[.int .i64 9, .slice ea el ec, .slice pa pl pc, .slice la ll lc, .slice ha hl hc, .slice ta tl tc, .int .i64 x] 31))
  have HOP := hide (OpAt.new w 9 (.slice ea el ec) (.slice pa pl pc) (.slice la ll lc) (.slice ha hl hc) (.slice ta tl tc) x)
  obtain ⟨o0, o1, o2, o3, o4, o5, o6⟩ := HOP.out.cells
  obtain ⟨b, off, rfl, hc⟩ := h.at (by omega)
  obtain ⟨X0, m0, c0, hc0, hl0⟩ := hc 0 (by omega)
  have hc0' : w.cell? ⟨b, off, none⟩ = some (.slice X0 m0 c0) := hc0
  obtain ⟨ds, hds⟩ : ∃ ds, ds = xss[0]?.getD [] := ⟨_, rfl⟩
  rw [← hds] at hl0 ⊢
  have HL0 := hide hl0
  have HC0 := hide hc0'
  have hzd : sizeE ds = 0 := by rw [hds]; exact hz _ (mem_getDL xss 0 (by rw [h.1]; omega))
  have HZD := hide hzd
  have h06 : m0 ≤ 6 := by have := (sizeE_ok hzd).1; have := hl0.1.1; omega
  have HD1 := hide (HL0.out.below HB1.out)
  have q0 := (HB1.out.cell (p := ⟨b, off, none⟩) (lt_of_cell hc0')).trans hc0'
  have i0 : (0 : Int) < (len : Int) := by omega
  have q0b := ((HB1.out.alloc HB1.out.size (.cells #[.int .i64 0, .slice none 0 0, .slice none 0 0] 68)).cell (p := ⟨b, off, none⟩) (lt_of_cell hc0')).trans hc0'
  obtain ⟨p0, p1, p2, p3, p4, p5, p6⟩ := (HOP.out.alloc (.cells #[.int .i64 0, .slice none 0 0, .slice none 0 0] 68)).cells
  clear h he hp hlo hhi hst hz hc hc0 hc0' hl0 hds hzd
  go_enter Tryz.func41, Tryz.ntmps41
  go_wp2_with fail
  go_region_with (first | (go_at_call 61; refine (seen_spread 9 x _ _ _ ds _ _ _ es _ _ _ ps _ _ _ lo _ _ _ hi _ _ _ st _ (HL0.out.below (HB1.out.drew)).1 (HE.out.below (HB1.out.drew)).1 (HP.out.below (HB1.out.drew)).1 (HLO.out.below (HB1.out.drew)).1 (HHI.out.below (HB1.out.drew)).1 (HST.out.below (HB1.out.drew)).1 HZD.out rfl).mono ?_; rintro e w1 ⟨⟨da1, dl1, dc1, sa1, sl1, sc1, rfl, hi1, _, hc1, _, hF⟩, hb⟩; have HI1 := hide hi1; have HB2 := hide (Below.on (HB1.out.drew) hb);  clear hi1 hb hF) | (go_at_call 61; refine (seen_spread 9 x _ _ _ ds _ _ _ es _ _ _ ps _ _ _ lo _ _ _ hi _ _ _ st _ (HL0.out.below ((HB1.out.alloc HB1.out.size (.cells #[.int .i64 0, .slice none 0 0, .slice none 0 0] 68)).drew)).1 (HE.out.below ((HB1.out.alloc HB1.out.size (.cells #[.int .i64 0, .slice none 0 0, .slice none 0 0] 68)).drew)).1 (HP.out.below ((HB1.out.alloc HB1.out.size (.cells #[.int .i64 0, .slice none 0 0, .slice none 0 0] 68)).drew)).1 (HLO.out.below ((HB1.out.alloc HB1.out.size (.cells #[.int .i64 0, .slice none 0 0, .slice none 0 0] 68)).drew)).1 (HHI.out.below ((HB1.out.alloc HB1.out.size (.cells #[.int .i64 0, .slice none 0 0, .slice none 0 0] 68)).drew)).1 (HST.out.below ((HB1.out.alloc HB1.out.size (.cells #[.int .i64 0, .slice none 0 0, .slice none 0 0] 68)).drew)).1 HZD.out rfl).mono ?_; rintro e w1 ⟨⟨da1, dl1, dc1, sa1, sl1, sc1, rfl, hi1, _, hc1, _, hF⟩, hb⟩; have HI1 := hide hi1; have HB2 := hide (Below.on ((HB1.out.alloc HB1.out.size (.cells #[.int .i64 0, .slice none 0 0, .slice none 0 0] 68)).drew) hb); have HF1 : Hid (da1 = ea ∨ Far (w.heap.size + 2) da1) := (by { rcases hF with e | e; exact .inl e; exact .inr (far_mono e (by { simp })) }); have hv0 := (ViewAt.new (w.alloc (.cells #[.int .i64 9, .slice ea el ec, .slice pa pl pc, .slice la ll lc, .slice ha hl hc, .slice ta tl tc, .int .i64 x] 31)) (.int .i64 0) (.slice none 0 0) (.slice none 0 0)).below (Below.on ((Below.refl _ _).drew) hb); simp only [World.size_alloc] at hv0; obtain ⟨⟨u0, u1, u2⟩, f0, f1, f2⟩ := hv0.cells; clear hv0; clear hi1 hb hF))
  all_goals go_wp2
  all_goals go_ret2
  all_goals first | exact ⟨⟨_, _, _, rfl, HI1.out.below ((Below.refl _ _).alloc (Nat.le_refl _) _), hc1⟩, HB2.out.alloc HB2.out.size _⟩ | exact ⟨⟨_, _, _, rfl, ints_putL HI1.out HF1.out HE.out.1 (okL_len HI1.out (fun _ => HE.out.1.1)) (by omega) (by omega), hc1⟩, below_put HB2.out (by omega)⟩


set_option maxRecDepth 100000 in
set_option maxHeartbeats 2000000 in
theorem shape_10Q (x : Int) (ea : Option Addr) (el ec : Nat) (es : List Int) (pa : Option Addr) (pl pc : Nat) (ps : List Int) (la : Option Addr) (ll lc : Nat) (lo : List Int) (ha : Option Addr) (hl hc : Nat) (hi : List Int) (ta : Option Addr) (tl tc : Nat) (st : List Int) (A : Option Addr) (len cap : Nat) (xss : List (List Int)) (w : World)
    (he : Lst w ea el ec es) (hp : Lst w pa pl pc ps) (hlo : Lst w la ll lc lo) (hhi : Lst w ha hl hc hi) (hst : Lst w ta tl tc st) (h : LstsQ w A len xss) (hcap : len ≤ cap) (hz : ∀ d ∈ xss, sizeE d = 0) (hn : len = 1) (hlen : len ≤ 1048576) :
    Calls Tryz.prog 41 #[.agg #[.int .i64 10, .slice ea el ec, .slice pa pl pc, .slice la ll lc, .slice ha hl hc, .slice ta tl tc, .int .i64 x], .slice A len cap] w fun e w' => OutP e w' (sumP (xss[0]?.getD []) ps) ∧ Below w.heap.size w w' := by
  have zz := And.intro hcap (And.intro hlen hn)
  clear zz
  have HE := hide he
  have HP := hide hp
  have HLO := hide hlo
  have HHI := hide hhi
  have HST := hide hst
  have H := hide h
  have HN := hide h.1
  have HZ := hide hz
  have HB1 := hide ((Below.refl w.heap.size w).alloc (Nat.le_refl _) (.cells #[.int .i64 10, .slice ea el ec, .slice pa pl pc, .slice la ll lc, .slice ha hl hc, .slice ta tl tc, .int .i64 x] 31))
  have HOP := hide (OpAt.new w 10 (.slice ea el ec) (.slice pa pl pc) (.slice la ll lc) (.slice ha hl hc) (.slice ta tl tc) x)
  obtain ⟨o0, o1, o2, o3, o4, o5, o6⟩ := HOP.out.cells
  obtain ⟨b, off, rfl, hc⟩ := h.at (by omega)
  obtain ⟨X0, m0, c0, hc0, hl0⟩ := hc 0 (by omega)
  have hc0' : w.cell? ⟨b, off, none⟩ = some (.slice X0 m0 c0) := hc0
  obtain ⟨ds, hds⟩ : ∃ ds, ds = xss[0]?.getD [] := ⟨_, rfl⟩
  rw [← hds] at hl0 ⊢
  have HL0 := hide hl0
  have HC0 := hide hc0'
  have hzd : sizeE ds = 0 := by rw [hds]; exact hz _ (mem_getDL xss 0 (by rw [h.1]; omega))
  have HZD := hide hzd
  have h06 : m0 ≤ 6 := by have := (sizeE_ok hzd).1; have := hl0.1.1; omega
  have HD1 := hide (HL0.out.below HB1.out)
  have q0 := (HB1.out.cell (p := ⟨b, off, none⟩) (lt_of_cell hc0')).trans hc0'
  have i0 : (0 : Int) < (len : Int) := by omega
  clear h he hp hlo hhi hst hz hc hc0 hc0' hl0 hds hzd
  go_enter Tryz.func41, Tryz.ntmps41
  go_wp2_with fail
  go_region_with (go_at_call 62; refine (sumDims_any _ _ _ _ _ _ _ _ _ ps _ _ _ ds _ (HP.out.below (HB1.out.drew)) (HL0.out.below (HB1.out.drew)).1 HZD.out).mono ?_; rintro e w1 ⟨⟨Z, nz, cz, rfl, hi1, hnc⟩, hb⟩; have HI1 := hide hi1; have HB2 := hide (Below.on (HB1.out.drew) hb); clear hi1 hb)
  all_goals go_wp2
  all_goals go_ret2
  all_goals exact ⟨⟨_, _, _, rfl, HI1.out, hnc⟩, HB2.out⟩

set_option maxRecDepth 100000 in
set_option maxHeartbeats 2000000 in
theorem shape_12Q (x : Int) (ea : Option Addr) (el ec : Nat) (es : List Int) (pa : Option Addr) (pl pc : Nat) (ps : List Int) (la : Option Addr) (ll lc : Nat) (lo : List Int) (ha : Option Addr) (hl hc : Nat) (hi : List Int) (ta : Option Addr) (tl tc : Nat) (st : List Int) (A : Option Addr) (len cap : Nat) (xss : List (List Int)) (w : World)
    (he : Lst w ea el ec es) (hp : Lst w pa pl pc ps) (hlo : Lst w la ll lc lo) (hhi : Lst w ha hl hc hi) (hst : Lst w ta tl tc st) (h : LstsQ w A len xss) (hcap : len ≤ cap) (hz : ∀ d ∈ xss, sizeE d = 0) (hn : len = 1) (hlen : len ≤ 1048576) :
    Calls Tryz.prog 41 #[.agg #[.int .i64 12, .slice ea el ec, .slice pa pl pc, .slice la ll lc, .slice ha hl hc, .slice ta tl tc, .int .i64 x], .slice A len cap] w fun e w' => OutP e w' (reformP (xss[0]?.getD []) es) ∧ Below w.heap.size w w' := by
  have zz := And.intro hcap (And.intro hlen hn)
  clear zz
  have HE := hide he
  have HP := hide hp
  have HLO := hide hlo
  have HHI := hide hhi
  have HST := hide hst
  have H := hide h
  have HN := hide h.1
  have HZ := hide hz
  have HB1 := hide ((Below.refl w.heap.size w).alloc (Nat.le_refl _) (.cells #[.int .i64 12, .slice ea el ec, .slice pa pl pc, .slice la ll lc, .slice ha hl hc, .slice ta tl tc, .int .i64 x] 31))
  have HOP := hide (OpAt.new w 12 (.slice ea el ec) (.slice pa pl pc) (.slice la ll lc) (.slice ha hl hc) (.slice ta tl tc) x)
  obtain ⟨o0, o1, o2, o3, o4, o5, o6⟩ := HOP.out.cells
  obtain ⟨b, off, rfl, hc⟩ := h.at (by omega)
  obtain ⟨X0, m0, c0, hc0, hl0⟩ := hc 0 (by omega)
  have hc0' : w.cell? ⟨b, off, none⟩ = some (.slice X0 m0 c0) := hc0
  obtain ⟨ds, hds⟩ : ∃ ds, ds = xss[0]?.getD [] := ⟨_, rfl⟩
  rw [← hds] at hl0 ⊢
  have HL0 := hide hl0
  have HC0 := hide hc0'
  have hzd : sizeE ds = 0 := by rw [hds]; exact hz _ (mem_getDL xss 0 (by rw [h.1]; omega))
  have HZD := hide hzd
  have h06 : m0 ≤ 6 := by have := (sizeE_ok hzd).1; have := hl0.1.1; omega
  have HD1 := hide (HL0.out.below HB1.out)
  have q0 := (HB1.out.cell (p := ⟨b, off, none⟩) (lt_of_cell hc0')).trans hc0'
  have i0 : (0 : Int) < (len : Int) := by omega
  clear h he hp hlo hhi hst hz hc hc0 hc0' hl0 hds hzd
  go_enter Tryz.func41, Tryz.ntmps41
  go_wp2_with fail
  go_region_with (go_at_call 63; refine (reformDims_any _ _ _ _ _ _ _ _ _ es _ _ _ ds _ (HE.out.below (HB1.out.drew)).1 (HL0.out.below (HB1.out.drew)).1 HZD.out).mono ?_; rintro e w1 ⟨⟨Z, nz, cz, rfl, hi1, hnc⟩, hb⟩; have HI1 := hide hi1; have HB2 := hide (Below.on (HB1.out.drew) hb); clear hi1 hb)
  all_goals go_wp2
  all_goals go_ret2
  all_goals exact ⟨⟨_, _, _, rfl, HI1.out, hnc⟩, HB2.out⟩


end Go.Proofs.YteoobeldmicjhaaGreat.V
namespace Go.Proofs.YteoobeldmicjhaaGreat.V
set_option maxRecDepth 20000
open Go.RowKit

set_option maxRecDepth 100000 in
set_option maxHeartbeats 2000000 in
theorem shape_11Q (x : Int) (ea : Option Addr) (el ec : Nat) (es : List Int) (pa : Option Addr) (pl pc : Nat) (ps : List Int) (la : Option Addr) (ll lc : Nat) (lo : List Int) (ha : Option Addr) (hl hc : Nat) (hi : List Int) (ta : Option Addr) (tl tc : Nat) (st : List Int) (A : Option Addr) (len cap : Nat) (xss : List (List Int)) (w : World)
    (he : Lst w ea el ec es) (hp : Lst w pa pl pc ps) (hlo : Lst w la ll lc lo) (hhi : Lst w ha hl hc hi) (hst : Lst w ta tl tc st) (h : LstsQ w A len xss) (hcap : len ≤ cap) (hz : ∀ d ∈ xss, sizeE d = 0) (hn : len = 1) (hlen : len ≤ 1048576) :
    Calls Tryz.prog 41 #[.agg #[.int .i64 11, .slice ea el ec, .slice pa pl pc, .slice la ll lc, .slice ha hl hc, .slice ta tl tc, .int .i64 x], .slice A len cap] w fun e w' => OutP e w' ((okL (turnE 0 (xss[0]?.getD []) (stepsV (xss[0]?.getD [])) ps) (taken (xss[0]?.getD []) ps), turnE 0 (xss[0]?.getD []) (stepsV (xss[0]?.getD [])) ps)) ∧ Below w.heap.size w w' := by
  have zz := And.intro hcap (And.intro hlen hn)
  clear zz
  have HE := hide he
  have HP := hide hp
  have HLO := hide hlo
  have HHI := hide hhi
  have HST := hide hst
  have H := hide h
  have HN := hide h.1
  have HZ := hide hz
  have HB1 := hide ((Below.refl w.heap.size w).alloc (Nat.le_refl _) (.cells #[.int .i64 11, .slice ea el ec, .slice pa pl pc, .slice la ll lc, .slice ha hl hc, .slice ta tl tc, .int .i64 x] 31))
  have HOP := hide (OpAt.new w 11 (.slice ea el ec) (.slice pa pl pc) (.slice la ll lc) (.slice ha hl hc) (.slice ta tl tc) x)
  obtain ⟨o0, o1, o2, o3, o4, o5, o6⟩ := HOP.out.cells
  obtain ⟨b, off, rfl, hc⟩ := h.at (by omega)
  obtain ⟨X0, m0, c0, hc0, hl0⟩ := hc 0 (by omega)
  have hc0' : w.cell? ⟨b, off, none⟩ = some (.slice X0 m0 c0) := hc0
  obtain ⟨ds, hds⟩ : ∃ ds, ds = xss[0]?.getD [] := ⟨_, rfl⟩
  rw [← hds] at hl0 ⊢
  have HL0 := hide hl0
  have HC0 := hide hc0'
  have hzd : sizeE ds = 0 := by rw [hds]; exact hz _ (mem_getDL xss 0 (by rw [h.1]; omega))
  have HZD := hide hzd
  have h06 : m0 ≤ 6 := by have := (sizeE_ok hzd).1; have := hl0.1.1; omega
  have HD1 := hide (HL0.out.below HB1.out)
  have q0 := (HB1.out.cell (p := ⟨b, off, none⟩) (lt_of_cell hc0')).trans hc0'
  have i0 : (0 : Int) < (len : Int) := by omega
  have q0b := ((HB1.out.alloc HB1.out.size (.cells #[.int .i64 0, .slice none 0 0, .slice none 0 0] 68)).cell (p := ⟨b, off, none⟩) (lt_of_cell hc0')).trans hc0'
  obtain ⟨p0, p1, p2, p3, p4, p5, p6⟩ := (HOP.out.alloc (.cells #[.int .i64 0, .slice none 0 0, .slice none 0 0] 68)).cells
  clear h he hp hlo hhi hst hz hc hc0 hc0' hl0 hds hzd
  go_enter Tryz.func41, Tryz.ntmps41
  go_wp2_with fail
  go_region_with (first | (go_at_call 61; refine (seen_turn 11 x _ _ _ ds _ _ _ es _ _ _ ps _ _ _ lo _ _ _ hi _ _ _ st _ (HL0.out.below (HB1.out.drew)).1 (HE.out.below (HB1.out.drew)).1 (HP.out.below (HB1.out.drew)).1 (HLO.out.below (HB1.out.drew)).1 (HHI.out.below (HB1.out.drew)).1 (HST.out.below (HB1.out.drew)).1 HZD.out rfl).mono ?_; rintro e w1 ⟨⟨da1, dl1, dc1, sa1, sl1, sc1, rfl, hi1, _, hc1, _, hF⟩, hb⟩; have HI1 := hide hi1; have HB2 := hide (Below.on (HB1.out.drew) hb);  clear hi1 hb hF) | (go_at_call 61; refine (seen_turn 11 x _ _ _ ds _ _ _ es _ _ _ ps _ _ _ lo _ _ _ hi _ _ _ st _ (HL0.out.below ((HB1.out.alloc HB1.out.size (.cells #[.int .i64 0, .slice none 0 0, .slice none 0 0] 68)).drew)).1 (HE.out.below ((HB1.out.alloc HB1.out.size (.cells #[.int .i64 0, .slice none 0 0, .slice none 0 0] 68)).drew)).1 (HP.out.below ((HB1.out.alloc HB1.out.size (.cells #[.int .i64 0, .slice none 0 0, .slice none 0 0] 68)).drew)).1 (HLO.out.below ((HB1.out.alloc HB1.out.size (.cells #[.int .i64 0, .slice none 0 0, .slice none 0 0] 68)).drew)).1 (HHI.out.below ((HB1.out.alloc HB1.out.size (.cells #[.int .i64 0, .slice none 0 0, .slice none 0 0] 68)).drew)).1 (HST.out.below ((HB1.out.alloc HB1.out.size (.cells #[.int .i64 0, .slice none 0 0, .slice none 0 0] 68)).drew)).1 HZD.out rfl).mono ?_; rintro e w1 ⟨⟨da1, dl1, dc1, sa1, sl1, sc1, rfl, hi1, _, hc1, _, hF⟩, hb⟩; have HI1 := hide hi1; have HB2 := hide (Below.on ((HB1.out.alloc HB1.out.size (.cells #[.int .i64 0, .slice none 0 0, .slice none 0 0] 68)).drew) hb); have HF1 : Hid (Far (w.heap.size + 2) da1) := (far_mono hF (by { simp })); have hv0 := (ViewAt.new (w.alloc (.cells #[.int .i64 11, .slice ea el ec, .slice pa pl pc, .slice la ll lc, .slice ha hl hc, .slice ta tl tc, .int .i64 x] 31)) (.int .i64 0) (.slice none 0 0) (.slice none 0 0)).below (Below.on ((Below.refl _ _).drew) hb); simp only [World.size_alloc] at hv0; obtain ⟨⟨u0, u1, u2⟩, f0, f1, f2⟩ := hv0.cells; clear hv0; clear hi1 hb hF))
  all_goals go_wp2
  all_goals go_ret2
  all_goals first | exact ⟨⟨_, _, _, rfl, HI1.out.below ((Below.refl _ _).alloc (Nat.le_refl _) _), hc1⟩, HB2.out.alloc HB2.out.size _⟩ | exact ⟨⟨_, _, _, rfl, ints_putF HI1.out HF1.out (by omega), hc1⟩, below_put HB2.out (by omega)⟩

end Go.Proofs.YteoobeldmicjhaaGreat.V
namespace Go.Proofs.YteoobeldmicjhaaGreat.V
set_option maxRecDepth 20000
open Go.RowKit

set_option maxRecDepth 100000 in
set_option maxHeartbeats 2000000 in
theorem shape_13Q (x : Int) (ea : Option Addr) (el ec : Nat) (es : List Int) (pa : Option Addr) (pl pc : Nat) (ps : List Int) (la : Option Addr) (ll lc : Nat) (lo : List Int) (ha : Option Addr) (hl hc : Nat) (hi : List Int) (ta : Option Addr) (tl tc : Nat) (st : List Int) (A : Option Addr) (len cap : Nat) (xss : List (List Int)) (w : World)
    (he : Lst w ea el ec es) (hp : Lst w pa pl pc ps) (hlo : Lst w la ll lc lo) (hhi : Lst w ha hl hc hi) (hst : Lst w ta tl tc st) (h : LstsQ w A len xss) (hcap : len ≤ cap) (hz : ∀ d ∈ xss, sizeE d = 0) (hn : len = 1) (hlen : len ≤ 1048576) :
    Calls Tryz.prog 41 #[.agg #[.int .i64 13, .slice ea el ec, .slice pa pl pc, .slice la ll lc, .slice ha hl hc, .slice ta tl tc, .int .i64 x], .slice A len cap] w fun e w' => OutP e w' ((okL (cutE 0 (xss[0]?.getD []) (stepsV (xss[0]?.getD [])) lo hi st) (cutD (xss[0]?.getD []) lo hi st), cutE 0 (xss[0]?.getD []) (stepsV (xss[0]?.getD [])) lo hi st)) ∧ Below w.heap.size w w' := by
  have zz := And.intro hcap (And.intro hlen hn)
  clear zz
  have HE := hide he
  have HP := hide hp
  have HLO := hide hlo
  have HHI := hide hhi
  have HST := hide hst
  have H := hide h
  have HN := hide h.1
  have HZ := hide hz
  have HB1 := hide ((Below.refl w.heap.size w).alloc (Nat.le_refl _) (.cells #[.int .i64 13, .slice ea el ec, .slice pa pl pc, .slice la ll lc, .slice ha hl hc, .slice ta tl tc, .int .i64 x] 31))
  have HOP := hide (OpAt.new w 13 (.slice ea el ec) (.slice pa pl pc) (.slice la ll lc) (.slice ha hl hc) (.slice ta tl tc) x)
  obtain ⟨o0, o1, o2, o3, o4, o5, o6⟩ := HOP.out.cells
  obtain ⟨b, off, rfl, hc⟩ := h.at (by omega)
  obtain ⟨X0, m0, c0, hc0, hl0⟩ := hc 0 (by omega)
  have hc0' : w.cell? ⟨b, off, none⟩ = some (.slice X0 m0 c0) := hc0
  obtain ⟨ds, hds⟩ : ∃ ds, ds = xss[0]?.getD [] := ⟨_, rfl⟩
  rw [← hds] at hl0 ⊢
  have HL0 := hide hl0
  have HC0 := hide hc0'
  have hzd : sizeE ds = 0 := by rw [hds]; exact hz _ (mem_getDL xss 0 (by rw [h.1]; omega))
  have HZD := hide hzd
  have h06 : m0 ≤ 6 := by have := (sizeE_ok hzd).1; have := hl0.1.1; omega
  have HD1 := hide (HL0.out.below HB1.out)
  have q0 := (HB1.out.cell (p := ⟨b, off, none⟩) (lt_of_cell hc0')).trans hc0'
  have i0 : (0 : Int) < (len : Int) := by omega
  have q0b := ((HB1.out.alloc HB1.out.size (.cells #[.int .i64 0, .slice none 0 0, .slice none 0 0] 68)).cell (p := ⟨b, off, none⟩) (lt_of_cell hc0')).trans hc0'
  obtain ⟨p0, p1, p2, p3, p4, p5, p6⟩ := (HOP.out.alloc (.cells #[.int .i64 0, .slice none 0 0, .slice none 0 0] 68)).cells
  clear h he hp hlo hhi hst hz hc hc0 hc0' hl0 hds hzd
  go_enter Tryz.func41, Tryz.ntmps41
  go_wp2_with fail
  go_region_with (first | (go_at_call 61; refine (seen_cut 13 x _ _ _ ds _ _ _ es _ _ _ ps _ _ _ lo _ _ _ hi _ _ _ st _ (HL0.out.below (HB1.out.drew)).1 (HE.out.below (HB1.out.drew)).1 (HP.out.below (HB1.out.drew)).1 (HLO.out.below (HB1.out.drew)).1 (HHI.out.below (HB1.out.drew)).1 (HST.out.below (HB1.out.drew)).1 HZD.out rfl).mono ?_; rintro e w1 ⟨⟨da1, dl1, dc1, sa1, sl1, sc1, rfl, hi1, _, hc1, _, hF⟩, hb⟩; have HI1 := hide hi1; have HB2 := hide (Below.on (HB1.out.drew) hb);  clear hi1 hb hF) | (go_at_call 61; refine (seen_cut 13 x _ _ _ ds _ _ _ es _ _ _ ps _ _ _ lo _ _ _ hi _ _ _ st _ (HL0.out.below ((HB1.out.alloc HB1.out.size (.cells #[.int .i64 0, .slice none 0 0, .slice none 0 0] 68)).drew)).1 (HE.out.below ((HB1.out.alloc HB1.out.size (.cells #[.int .i64 0, .slice none 0 0, .slice none 0 0] 68)).drew)).1 (HP.out.below ((HB1.out.alloc HB1.out.size (.cells #[.int .i64 0, .slice none 0 0, .slice none 0 0] 68)).drew)).1 (HLO.out.below ((HB1.out.alloc HB1.out.size (.cells #[.int .i64 0, .slice none 0 0, .slice none 0 0] 68)).drew)).1 (HHI.out.below ((HB1.out.alloc HB1.out.size (.cells #[.int .i64 0, .slice none 0 0, .slice none 0 0] 68)).drew)).1 (HST.out.below ((HB1.out.alloc HB1.out.size (.cells #[.int .i64 0, .slice none 0 0, .slice none 0 0] 68)).drew)).1 HZD.out rfl).mono ?_; rintro e w1 ⟨⟨da1, dl1, dc1, sa1, sl1, sc1, rfl, hi1, _, hc1, _, hF⟩, hb⟩; have HI1 := hide hi1; have HB2 := hide (Below.on ((HB1.out.alloc HB1.out.size (.cells #[.int .i64 0, .slice none 0 0, .slice none 0 0] 68)).drew) hb); have HF1 : Hid (Far (w.heap.size + 2) da1) := (far_mono hF (by { simp })); have hv0 := (ViewAt.new (w.alloc (.cells #[.int .i64 13, .slice ea el ec, .slice pa pl pc, .slice la ll lc, .slice ha hl hc, .slice ta tl tc, .int .i64 x] 31)) (.int .i64 0) (.slice none 0 0) (.slice none 0 0)).below (Below.on ((Below.refl _ _).drew) hb); simp only [World.size_alloc] at hv0; obtain ⟨⟨u0, u1, u2⟩, f0, f1, f2⟩ := hv0.cells; clear hv0; clear hi1 hb hF))
  all_goals go_wp2
  all_goals go_ret2
  all_goals first | exact ⟨⟨_, _, _, rfl, HI1.out.below ((Below.refl _ _).alloc (Nat.le_refl _) _), hc1⟩, HB2.out.alloc HB2.out.size _⟩ | exact ⟨⟨_, _, _, rfl, ints_putF HI1.out HF1.out (by omega), hc1⟩, below_put HB2.out (by omega)⟩

set_option maxRecDepth 100000 in
set_option maxHeartbeats 2000000 in
theorem shape_14Q (x : Int) (ea : Option Addr) (el ec : Nat) (es : List Int) (pa : Option Addr) (pl pc : Nat) (ps : List Int) (la : Option Addr) (ll lc : Nat) (lo : List Int) (ha : Option Addr) (hl hc : Nat) (hi : List Int) (ta : Option Addr) (tl tc : Nat) (st : List Int) (A : Option Addr) (len cap : Nat) (xss : List (List Int)) (w : World)
    (he : Lst w ea el ec es) (hp : Lst w pa pl pc ps) (hlo : Lst w la ll lc lo) (hhi : Lst w ha hl hc hi) (hst : Lst w ta tl tc st) (h : LstsQ w A len xss) (hcap : len ≤ cap) (hz : ∀ d ∈ xss, sizeE d = 0) (hn : len = 1) (hlen : len ≤ 1048576) :
    Calls Tryz.prog 41 #[.agg #[.int .i64 14, .slice ea el ec, .slice pa pl pc, .slice la ll lc, .slice ha hl hc, .slice ta tl tc, .int .i64 x], .slice A len cap] w fun e w' => OutP e w' (padP (xss[0]?.getD []) lo hi st) ∧ Below w.heap.size w w' := by
  have zz := And.intro hcap (And.intro hlen hn)
  clear zz
  have HE := hide he
  have HP := hide hp
  have HLO := hide hlo
  have HHI := hide hhi
  have HST := hide hst
  have H := hide h
  have HN := hide h.1
  have HZ := hide hz
  have HB1 := hide ((Below.refl w.heap.size w).alloc (Nat.le_refl _) (.cells #[.int .i64 14, .slice ea el ec, .slice pa pl pc, .slice la ll lc, .slice ha hl hc, .slice ta tl tc, .int .i64 x] 31))
  have HOP := hide (OpAt.new w 14 (.slice ea el ec) (.slice pa pl pc) (.slice la ll lc) (.slice ha hl hc) (.slice ta tl tc) x)
  obtain ⟨o0, o1, o2, o3, o4, o5, o6⟩ := HOP.out.cells
  obtain ⟨b, off, rfl, hc⟩ := h.at (by omega)
  obtain ⟨X0, m0, c0, hc0, hl0⟩ := hc 0 (by omega)
  have hc0' : w.cell? ⟨b, off, none⟩ = some (.slice X0 m0 c0) := hc0
  obtain ⟨ds, hds⟩ : ∃ ds, ds = xss[0]?.getD [] := ⟨_, rfl⟩
  rw [← hds] at hl0 ⊢
  have HL0 := hide hl0
  have HC0 := hide hc0'
  have hzd : sizeE ds = 0 := by rw [hds]; exact hz _ (mem_getDL xss 0 (by rw [h.1]; omega))
  have HZD := hide hzd
  have h06 : m0 ≤ 6 := by have := (sizeE_ok hzd).1; have := hl0.1.1; omega
  have HD1 := hide (HL0.out.below HB1.out)
  have q0 := (HB1.out.cell (p := ⟨b, off, none⟩) (lt_of_cell hc0')).trans hc0'
  have i0 : (0 : Int) < (len : Int) := by omega
  clear h he hp hlo hhi hst hz hc hc0 hc0' hl0 hds hzd
  go_enter Tryz.func41, Tryz.ntmps41
  go_wp2_with fail
  go_region_with (go_at_call 64; refine (padDims_any _ _ _ _ _ _ _ lo _ _ _ hi _ _ _ st _ _ _ ds _ (HLO.out.below (HB1.out.drew)).1 (HHI.out.below (HB1.out.drew)).1 (HST.out.below (HB1.out.drew)).1 (HL0.out.below (HB1.out.drew)).1 HZD.out).mono ?_; rintro e w1 ⟨⟨Z, nz, cz, rfl, hi1, hnc⟩, hb⟩; have HI1 := hide hi1; have HB2 := hide (Below.on (HB1.out.drew) hb); clear hi1 hb)
  all_goals go_wp2
  all_goals go_ret2
  all_goals exact ⟨⟨_, _, _, rfl, HI1.out, hnc⟩, HB2.out⟩


set_option maxRecDepth 100000 in
set_option maxHeartbeats 2000000 in
theorem shape_15Q (x : Int) (ea : Option Addr) (el ec : Nat) (es : List Int) (pa : Option Addr) (pl pc : Nat) (ps : List Int) (la : Option Addr) (ll lc : Nat) (lo : List Int) (ha : Option Addr) (hl hc : Nat) (hi : List Int) (ta : Option Addr) (tl tc : Nat) (st : List Int) (A : Option Addr) (len cap : Nat) (xss : List (List Int)) (w : World)
    (he : Lst w ea el ec es) (hp : Lst w pa pl pc ps) (hlo : Lst w la ll lc lo) (hhi : Lst w ha hl hc hi) (hst : Lst w ta tl tc st) (h : LstsQ w A len xss) (hcap : len ≤ cap) (hz : ∀ d ∈ xss, sizeE d = 0) (hn : len = 1) (hlen : len ≤ 1048576) :
    Calls Tryz.prog 41 #[.agg #[.int .i64 15, .slice ea el ec, .slice pa pl pc, .slice la ll lc, .slice ha hl hc, .slice ta tl tc, .int .i64 x], .slice A len cap] w fun e w' => OutP e w' ((okL (flipE 0 (xss[0]?.getD []) (stepsV (xss[0]?.getD [])) ps) (xss[0]?.getD []), flipE 0 (xss[0]?.getD []) (stepsV (xss[0]?.getD [])) ps)) ∧ Below w.heap.size w w' := by
  have zz := And.intro hcap (And.intro hlen hn)
  clear zz
  have HE := hide he
  have HP := hide hp
  have HLO := hide hlo
  have HHI := hide hhi
  have HST := hide hst
  have H := hide h
  have HN := hide h.1
  have HZ := hide hz
  have HB1 := hide ((Below.refl w.heap.size w).alloc (Nat.le_refl _) (.cells #[.int .i64 15, .slice ea el ec, .slice pa pl pc, .slice la ll lc, .slice ha hl hc, .slice ta tl tc, .int .i64 x] 31))
  have HOP := hide (OpAt.new w 15 (.slice ea el ec) (.slice pa pl pc) (.slice la ll lc) (.slice ha hl hc) (.slice ta tl tc) x)
  obtain ⟨o0, o1, o2, o3, o4, o5, o6⟩ := HOP.out.cells
  obtain ⟨b, off, rfl, hc⟩ := h.at (by omega)
  obtain ⟨X0, m0, c0, hc0, hl0⟩ := hc 0 (by omega)
  have hc0' : w.cell? ⟨b, off, none⟩ = some (.slice X0 m0 c0) := hc0
  obtain ⟨ds, hds⟩ : ∃ ds, ds = xss[0]?.getD [] := ⟨_, rfl⟩
  rw [← hds] at hl0 ⊢
  have HL0 := hide hl0
  have HC0 := hide hc0'
  have hzd : sizeE ds = 0 := by rw [hds]; exact hz _ (mem_getDL xss 0 (by rw [h.1]; omega))
  have HZD := hide hzd
  have h06 : m0 ≤ 6 := by have := (sizeE_ok hzd).1; have := hl0.1.1; omega
  have HD1 := hide (HL0.out.below HB1.out)
  have q0 := (HB1.out.cell (p := ⟨b, off, none⟩) (lt_of_cell hc0')).trans hc0'
  have i0 : (0 : Int) < (len : Int) := by omega
  have q0b := ((HB1.out.alloc HB1.out.size (.cells #[.int .i64 0, .slice none 0 0, .slice none 0 0] 68)).cell (p := ⟨b, off, none⟩) (lt_of_cell hc0')).trans hc0'
  obtain ⟨p0, p1, p2, p3, p4, p5, p6⟩ := (HOP.out.alloc (.cells #[.int .i64 0, .slice none 0 0, .slice none 0 0] 68)).cells
  clear h he hp hlo hhi hst hz hc hc0 hc0' hl0 hds hzd
  go_enter Tryz.func41, Tryz.ntmps41
  go_wp2_with fail
  go_region_with (first | (go_at_call 61; refine (seen_flip 15 x _ _ _ ds _ _ _ es _ _ _ ps _ _ _ lo _ _ _ hi _ _ _ st _ (HL0.out.below (HB1.out.drew)).1 (HE.out.below (HB1.out.drew)).1 (HP.out.below (HB1.out.drew)).1 (HLO.out.below (HB1.out.drew)).1 (HHI.out.below (HB1.out.drew)).1 (HST.out.below (HB1.out.drew)).1 HZD.out (by decide)).mono ?_; rintro e w1 ⟨⟨da1, dl1, dc1, sa1, sl1, sc1, rfl, hi1, _, hc1, _, hF⟩, hb⟩; have HI1 := hide hi1; have HB2 := hide (Below.on (HB1.out.drew) hb);  clear hi1 hb hF) | (go_at_call 61; refine (seen_flip 15 x _ _ _ ds _ _ _ es _ _ _ ps _ _ _ lo _ _ _ hi _ _ _ st _ (HL0.out.below ((HB1.out.alloc HB1.out.size (.cells #[.int .i64 0, .slice none 0 0, .slice none 0 0] 68)).drew)).1 (HE.out.below ((HB1.out.alloc HB1.out.size (.cells #[.int .i64 0, .slice none 0 0, .slice none 0 0] 68)).drew)).1 (HP.out.below ((HB1.out.alloc HB1.out.size (.cells #[.int .i64 0, .slice none 0 0, .slice none 0 0] 68)).drew)).1 (HLO.out.below ((HB1.out.alloc HB1.out.size (.cells #[.int .i64 0, .slice none 0 0, .slice none 0 0] 68)).drew)).1 (HHI.out.below ((HB1.out.alloc HB1.out.size (.cells #[.int .i64 0, .slice none 0 0, .slice none 0 0] 68)).drew)).1 (HST.out.below ((HB1.out.alloc HB1.out.size (.cells #[.int .i64 0, .slice none 0 0, .slice none 0 0] 68)).drew)).1 HZD.out (by decide)).mono ?_; rintro e w1 ⟨⟨da1, dl1, dc1, sa1, sl1, sc1, rfl, hi1, _, hc1, _, hF⟩, hb⟩; have HI1 := hide hi1; have HB2 := hide (Below.on ((HB1.out.alloc HB1.out.size (.cells #[.int .i64 0, .slice none 0 0, .slice none 0 0] 68)).drew) hb); have HF1 : Hid (Far (w.heap.size + 2) da1) := (far_mono hF (by { simp })); have hv0 := (ViewAt.new (w.alloc (.cells #[.int .i64 15, .slice ea el ec, .slice pa pl pc, .slice la ll lc, .slice ha hl hc, .slice ta tl tc, .int .i64 x] 31)) (.int .i64 0) (.slice none 0 0) (.slice none 0 0)).below (Below.on ((Below.refl _ _).drew) hb); simp only [World.size_alloc] at hv0; obtain ⟨⟨u0, u1, u2⟩, f0, f1, f2⟩ := hv0.cells; clear hv0; clear hi1 hb hF))
  all_goals go_wp2
  all_goals go_ret2
  all_goals first | exact ⟨⟨_, _, _, rfl, HI1.out.below ((Below.refl _ _).alloc (Nat.le_refl _) _), hc1⟩, HB2.out.alloc HB2.out.size _⟩ | exact ⟨⟨_, _, _, rfl, ints_putF HI1.out HF1.out (by omega), hc1⟩, below_put HB2.out (by omega)⟩


end Go.Proofs.YteoobeldmicjhaaGreat.V
namespace Go.Proofs.YteoobeldmicjhaaGreat.V
set_option maxRecDepth 20000
open Go.RowKit

set_option maxRecDepth 100000 in
set_option maxHeartbeats 2000000 in
theorem ruled_9R (x : Int) (ea : Option Addr) (el ec : Nat) (es : List Int) (pa : Option Addr) (pl pc : Nat) (ps : List Int) (la : Option Addr) (ll lc : Nat) (lo : List Int) (ha : Option Addr) (hl hc : Nat) (hi : List Int) (ta : Option Addr) (tl tc : Nat) (st : List Int) (A : Option Addr) (len cap : Nat) (xss : List (List Int)) (w : World)
    (he : Lst w ea el ec es) (hp : Lst w pa pl pc ps) (hlo : Lst w la ll lc lo) (hhi : Lst w ha hl hc hi) (hst : Lst w ta tl tc st) (h : Lsts w A len xss) (hcap : len ≤ cap) (hz : ∀ d ∈ xss, sizeE d = 0) (hn : len = 1) (hlen : len ≤ 1048576) :
    Calls Tryz.prog 28 #[.agg #[.int .i64 9, .slice ea el ec, .slice pa pl pc, .slice la ll lc, .slice ha hl hc, .slice ta tl tc, .int .i64 x], .slice A len cap] w fun e w' => OutP e w' ((okL (sprE 0 (xss[0]?.getD []) (stepsV (xss[0]?.getD [])) es ps) es, sprE 0 (xss[0]?.getD []) (stepsV (xss[0]?.getD [])) es ps)) ∧ Below w.heap.size w w' := by
  have zz := And.intro hcap (And.intro hlen hn)
  clear zz
  have HE := hide he
  have HP := hide hp
  have HLO := hide hlo
  have HHI := hide hhi
  have HST := hide hst
  have H := hide h
  have HN := hide h.1
  have HZ := hide hz
  have HB1 := hide ((Below.refl w.heap.size w).alloc (Nat.le_refl _) (.cells #[.int .i64 9, .slice ea el ec, .slice pa pl pc, .slice la ll lc, .slice ha hl hc, .slice ta tl tc, .int .i64 x] 31))
  have HOP := hide (OpAt.new w 9 (.slice ea el ec) (.slice pa pl pc) (.slice la ll lc) (.slice ha hl hc) (.slice ta tl tc) x)
  obtain ⟨o0, o1, o2, o3, o4, o5, o6⟩ := HOP.out.cells
  obtain ⟨b, off, rfl, hc⟩ := h.at (by omega)
  obtain ⟨X0, m0, c0, hc0, hl0⟩ := hc 0 (by omega)
  have hc0' : w.cell? ⟨b, off, none⟩ = some (.slice X0 m0 c0) := hc0
  obtain ⟨ds, hds⟩ : ∃ ds, ds = xss[0]?.getD [] := ⟨_, rfl⟩
  rw [← hds] at hl0 ⊢
  have HL0 := hide hl0
  have HC0 := hide hc0'
  have hzd : sizeE ds = 0 := by rw [hds]; exact hz _ (mem_getDL xss 0 (by rw [h.1]; omega))
  have HZD := hide hzd
  have h06 : m0 ≤ 6 := by have := (sizeE_ok hzd).1; have := hl0.1.1; omega
  have HD1 := hide (HL0.out.below HB1.out)
  have q0 := (HB1.out.cell (p := ⟨b, off, none⟩) (lt_of_cell hc0')).trans hc0'
  have i0 : (0 : Int) < (len : Int) := by omega
  clear h he hp hlo hhi hst hz hc hc0 hc0' hl0 hds hzd
  go_enter Tryz.func28, Tryz.ntmps28
  go_wp2_with fail
  go_region_with (go_at_call 54; refine (viewDims_spread 9 x _ _ _ ds _ _ _ es _ _ _ ps _ _ _ lo _ _ _ hi _ _ _ st _ (HL0.out.below (HB1.out.drew)).1 (HE.out.below (HB1.out.drew)).1 (HP.out.below (HB1.out.drew)).1 (HLO.out.below (HB1.out.drew)).1 (HHI.out.below (HB1.out.drew)).1 (HST.out.below (HB1.out.drew)).1 HZD.out HL0.out.2.1 HE.out.2.1 rfl).mono ?_; rintro e w1 ⟨⟨Z, nz, cz, rfl, hi1, hnc⟩, hb⟩; have HI1 := hide hi1; have HB2 := hide (Below.on (HB1.out.drew) hb); clear hi1 hb)
  all_goals go_wp2
  all_goals go_ret2
  all_goals exact ⟨⟨_, _, _, rfl, HI1.out, hnc⟩, HB2.out⟩


set_option maxRecDepth 100000 in
set_option maxHeartbeats 2000000 in
theorem ruled_11R (x : Int) (ea : Option Addr) (el ec : Nat) (es : List Int) (pa : Option Addr) (pl pc : Nat) (ps : List Int) (la : Option Addr) (ll lc : Nat) (lo : List Int) (ha : Option Addr) (hl hc : Nat) (hi : List Int) (ta : Option Addr) (tl tc : Nat) (st : List Int) (A : Option Addr) (len cap : Nat) (xss : List (List Int)) (w : World)
    (he : Lst w ea el ec es) (hp : Lst w pa pl pc ps) (hlo : Lst w la ll lc lo) (hhi : Lst w ha hl hc hi) (hst : Lst w ta tl tc st) (h : Lsts w A len xss) (hcap : len ≤ cap) (hz : ∀ d ∈ xss, sizeE d = 0) (hn : len = 1) (hlen : len ≤ 1048576) :
    Calls Tryz.prog 28 #[.agg #[.int .i64 11, .slice ea el ec, .slice pa pl pc, .slice la ll lc, .slice ha hl hc, .slice ta tl tc, .int .i64 x], .slice A len cap] w fun e w' => OutP e w' ((okL (turnE 0 (xss[0]?.getD []) (stepsV (xss[0]?.getD [])) ps) (taken (xss[0]?.getD []) ps), turnE 0 (xss[0]?.getD []) (stepsV (xss[0]?.getD [])) ps)) ∧ Below w.heap.size w w' := by
  have zz := And.intro hcap (And.intro hlen hn)
  clear zz
  have HE := hide he
  have HP := hide hp
  have HLO := hide hlo
  have HHI := hide hhi
  have HST := hide hst
  have H := hide h
  have HN := hide h.1
  have HZ := hide hz
  have HB1 := hide ((Below.refl w.heap.size w).alloc (Nat.le_refl _) (.cells #[.int .i64 11, .slice ea el ec, .slice pa pl pc, .slice la ll lc, .slice ha hl hc, .slice ta tl tc, .int .i64 x] 31))
  have HOP := hide (OpAt.new w 11 (.slice ea el ec) (.slice pa pl pc) (.slice la ll lc) (.slice ha hl hc) (.slice ta tl tc) x)
  obtain ⟨o0, o1, o2, o3, o4, o5, o6⟩ := HOP.out.cells
  obtain ⟨b, off, rfl, hc⟩ := h.at (by omega)
  obtain ⟨X0, m0, c0, hc0, hl0⟩ := hc 0 (by omega)
  have hc0' : w.cell? ⟨b, off, none⟩ = some (.slice X0 m0 c0) := hc0
  obtain ⟨ds, hds⟩ : ∃ ds, ds = xss[0]?.getD [] := ⟨_, rfl⟩
  rw [← hds] at hl0 ⊢
  have HL0 := hide hl0
  have HC0 := hide hc0'
  have hzd : sizeE ds = 0 := by rw [hds]; exact hz _ (mem_getDL xss 0 (by rw [h.1]; omega))
  have HZD := hide hzd
  have h06 : m0 ≤ 6 := by have := (sizeE_ok hzd).1; have := hl0.1.1; omega
  have HD1 := hide (HL0.out.below HB1.out)
  have q0 := (HB1.out.cell (p := ⟨b, off, none⟩) (lt_of_cell hc0')).trans hc0'
  have i0 : (0 : Int) < (len : Int) := by omega
  clear h he hp hlo hhi hst hz hc hc0 hc0' hl0 hds hzd
  go_enter Tryz.func28, Tryz.ntmps28
  go_wp2_with fail
  go_region_with (go_at_call 54; refine (viewDims_turn 11 x _ _ _ ds _ _ _ es _ _ _ ps _ _ _ lo _ _ _ hi _ _ _ st _ (HL0.out.below (HB1.out.drew)).1 (HE.out.below (HB1.out.drew)).1 (HP.out.below (HB1.out.drew)).1 (HLO.out.below (HB1.out.drew)).1 (HHI.out.below (HB1.out.drew)).1 (HST.out.below (HB1.out.drew)).1 HZD.out HL0.out.2.1 HE.out.2.1 rfl).mono ?_; rintro e w1 ⟨⟨Z, nz, cz, rfl, hi1, hnc⟩, hb⟩; have HI1 := hide hi1; have HB2 := hide (Below.on (HB1.out.drew) hb); clear hi1 hb)
  all_goals go_wp2
  all_goals go_ret2
  all_goals exact ⟨⟨_, _, _, rfl, HI1.out, hnc⟩, HB2.out⟩

set_option maxRecDepth 100000 in
set_option maxHeartbeats 2000000 in
theorem ruled_13R (x : Int) (ea : Option Addr) (el ec : Nat) (es : List Int) (pa : Option Addr) (pl pc : Nat) (ps : List Int) (la : Option Addr) (ll lc : Nat) (lo : List Int) (ha : Option Addr) (hl hc : Nat) (hi : List Int) (ta : Option Addr) (tl tc : Nat) (st : List Int) (A : Option Addr) (len cap : Nat) (xss : List (List Int)) (w : World)
    (he : Lst w ea el ec es) (hp : Lst w pa pl pc ps) (hlo : Lst w la ll lc lo) (hhi : Lst w ha hl hc hi) (hst : Lst w ta tl tc st) (h : Lsts w A len xss) (hcap : len ≤ cap) (hz : ∀ d ∈ xss, sizeE d = 0) (hn : len = 1) (hlen : len ≤ 1048576) :
    Calls Tryz.prog 28 #[.agg #[.int .i64 13, .slice ea el ec, .slice pa pl pc, .slice la ll lc, .slice ha hl hc, .slice ta tl tc, .int .i64 x], .slice A len cap] w fun e w' => OutP e w' ((okL (cutE 0 (xss[0]?.getD []) (stepsV (xss[0]?.getD [])) lo hi st) (cutD (xss[0]?.getD []) lo hi st), cutE 0 (xss[0]?.getD []) (stepsV (xss[0]?.getD [])) lo hi st)) ∧ Below w.heap.size w w' := by
  have zz := And.intro hcap (And.intro hlen hn)
  clear zz
  have HE := hide he
  have HP := hide hp
  have HLO := hide hlo
  have HHI := hide hhi
  have HST := hide hst
  have H := hide h
  have HN := hide h.1
  have HZ := hide hz
  have HB1 := hide ((Below.refl w.heap.size w).alloc (Nat.le_refl _) (.cells #[.int .i64 13, .slice ea el ec, .slice pa pl pc, .slice la ll lc, .slice ha hl hc, .slice ta tl tc, .int .i64 x] 31))
  have HOP := hide (OpAt.new w 13 (.slice ea el ec) (.slice pa pl pc) (.slice la ll lc) (.slice ha hl hc) (.slice ta tl tc) x)
  obtain ⟨o0, o1, o2, o3, o4, o5, o6⟩ := HOP.out.cells
  obtain ⟨b, off, rfl, hc⟩ := h.at (by omega)
  obtain ⟨X0, m0, c0, hc0, hl0⟩ := hc 0 (by omega)
  have hc0' : w.cell? ⟨b, off, none⟩ = some (.slice X0 m0 c0) := hc0
  obtain ⟨ds, hds⟩ : ∃ ds, ds = xss[0]?.getD [] := ⟨_, rfl⟩
  rw [← hds] at hl0 ⊢
  have HL0 := hide hl0
  have HC0 := hide hc0'
  have hzd : sizeE ds = 0 := by rw [hds]; exact hz _ (mem_getDL xss 0 (by rw [h.1]; omega))
  have HZD := hide hzd
  have h06 : m0 ≤ 6 := by have := (sizeE_ok hzd).1; have := hl0.1.1; omega
  have HD1 := hide (HL0.out.below HB1.out)
  have q0 := (HB1.out.cell (p := ⟨b, off, none⟩) (lt_of_cell hc0')).trans hc0'
  have i0 : (0 : Int) < (len : Int) := by omega
  clear h he hp hlo hhi hst hz hc hc0 hc0' hl0 hds hzd
  go_enter Tryz.func28, Tryz.ntmps28
  go_wp2_with fail
  go_region_with (go_at_call 54; refine (viewDims_cut 13 x _ _ _ ds _ _ _ es _ _ _ ps _ _ _ lo _ _ _ hi _ _ _ st _ (HL0.out.below (HB1.out.drew)).1 (HE.out.below (HB1.out.drew)).1 (HP.out.below (HB1.out.drew)).1 (HLO.out.below (HB1.out.drew)).1 (HHI.out.below (HB1.out.drew)).1 (HST.out.below (HB1.out.drew)).1 HZD.out HL0.out.2.1 HE.out.2.1 rfl).mono ?_; rintro e w1 ⟨⟨Z, nz, cz, rfl, hi1, hnc⟩, hb⟩; have HI1 := hide hi1; have HB2 := hide (Below.on (HB1.out.drew) hb); clear hi1 hb)
  all_goals go_wp2
  all_goals go_ret2
  all_goals exact ⟨⟨_, _, _, rfl, HI1.out, hnc⟩, HB2.out⟩


end Go.Proofs.YteoobeldmicjhaaGreat.V
namespace Go.Proofs.YteoobeldmicjhaaGreat.V
set_option maxRecDepth 20000
open Go.RowKit

set_option maxRecDepth 100000 in
set_option maxHeartbeats 2000000 in
theorem ruled_15R (x : Int) (ea : Option Addr) (el ec : Nat) (es : List Int) (pa : Option Addr) (pl pc : Nat) (ps : List Int) (la : Option Addr) (ll lc : Nat) (lo : List Int) (ha : Option Addr) (hl hc : Nat) (hi : List Int) (ta : Option Addr) (tl tc : Nat) (st : List Int) (A : Option Addr) (len cap : Nat) (xss : List (List Int)) (w : World)
    (he : Lst w ea el ec es) (hp : Lst w pa pl pc ps) (hlo : Lst w la ll lc lo) (hhi : Lst w ha hl hc hi) (hst : Lst w ta tl tc st) (h : Lsts w A len xss) (hcap : len ≤ cap) (hz : ∀ d ∈ xss, sizeE d = 0) (hn : len = 1) (hlen : len ≤ 1048576) :
    Calls Tryz.prog 28 #[.agg #[.int .i64 15, .slice ea el ec, .slice pa pl pc, .slice la ll lc, .slice ha hl hc, .slice ta tl tc, .int .i64 x], .slice A len cap] w fun e w' => OutP e w' ((okL (flipE 0 (xss[0]?.getD []) (stepsV (xss[0]?.getD [])) ps) (xss[0]?.getD []), flipE 0 (xss[0]?.getD []) (stepsV (xss[0]?.getD [])) ps)) ∧ Below w.heap.size w w' := by
  have zz := And.intro hcap (And.intro hlen hn)
  clear zz
  have HE := hide he
  have HP := hide hp
  have HLO := hide hlo
  have HHI := hide hhi
  have HST := hide hst
  have H := hide h
  have HN := hide h.1
  have HZ := hide hz
  have HB1 := hide ((Below.refl w.heap.size w).alloc (Nat.le_refl _) (.cells #[.int .i64 15, .slice ea el ec, .slice pa pl pc, .slice la ll lc, .slice ha hl hc, .slice ta tl tc, .int .i64 x] 31))
  have HOP := hide (OpAt.new w 15 (.slice ea el ec) (.slice pa pl pc) (.slice la ll lc) (.slice ha hl hc) (.slice ta tl tc) x)
  obtain ⟨o0, o1, o2, o3, o4, o5, o6⟩ := HOP.out.cells
  obtain ⟨b, off, rfl, hc⟩ := h.at (by omega)
  obtain ⟨X0, m0, c0, hc0, hl0⟩ := hc 0 (by omega)
  have hc0' : w.cell? ⟨b, off, none⟩ = some (.slice X0 m0 c0) := hc0
  obtain ⟨ds, hds⟩ : ∃ ds, ds = xss[0]?.getD [] := ⟨_, rfl⟩
  rw [← hds] at hl0 ⊢
  have HL0 := hide hl0
  have HC0 := hide hc0'
  have hzd : sizeE ds = 0 := by rw [hds]; exact hz _ (mem_getDL xss 0 (by rw [h.1]; omega))
  have HZD := hide hzd
  have h06 : m0 ≤ 6 := by have := (sizeE_ok hzd).1; have := hl0.1.1; omega
  have HD1 := hide (HL0.out.below HB1.out)
  have q0 := (HB1.out.cell (p := ⟨b, off, none⟩) (lt_of_cell hc0')).trans hc0'
  have i0 : (0 : Int) < (len : Int) := by omega
  clear h he hp hlo hhi hst hz hc hc0 hc0' hl0 hds hzd
  go_enter Tryz.func28, Tryz.ntmps28
  go_wp2_with fail
  go_region_with (go_at_call 54; refine (viewDims_flip 15 x _ _ _ ds _ _ _ es _ _ _ ps _ _ _ lo _ _ _ hi _ _ _ st _ (HL0.out.below (HB1.out.drew)).1 (HE.out.below (HB1.out.drew)).1 (HP.out.below (HB1.out.drew)).1 (HLO.out.below (HB1.out.drew)).1 (HHI.out.below (HB1.out.drew)).1 (HST.out.below (HB1.out.drew)).1 HZD.out HL0.out.2.1 HE.out.2.1 (by decide)).mono ?_; rintro e w1 ⟨⟨Z, nz, cz, rfl, hi1, hnc⟩, hb⟩; have HI1 := hide hi1; have HB2 := hide (Below.on (HB1.out.drew) hb); clear hi1 hb)
  all_goals go_wp2
  all_goals go_ret2
  all_goals exact ⟨⟨_, _, _, rfl, HI1.out, hnc⟩, HB2.out⟩


set_option maxRecDepth 100000 in
set_option maxHeartbeats 2000000 in
theorem ruled_14R (x : Int) (ea : Option Addr) (el ec : Nat) (es : List Int) (pa : Option Addr) (pl pc : Nat) (ps : List Int) (la : Option Addr) (ll lc : Nat) (lo : List Int) (ha : Option Addr) (hl hc : Nat) (hi : List Int) (ta : Option Addr) (tl tc : Nat) (st : List Int) (A : Option Addr) (len cap : Nat) (xss : List (List Int)) (w : World)
    (he : Lst w ea el ec es) (hp : Lst w pa pl pc ps) (hlo : Lst w la ll lc lo) (hhi : Lst w ha hl hc hi) (hst : Lst w ta tl tc st) (h : Lsts w A len xss) (hcap : len ≤ cap) (hz : ∀ d ∈ xss, sizeE d = 0) (hn : len = 1) (hlen : len ≤ 1048576) :
    Calls Tryz.prog 28 #[.agg #[.int .i64 14, .slice ea el ec, .slice pa pl pc, .slice la ll lc, .slice ha hl hc, .slice ta tl tc, .int .i64 x], .slice A len cap] w fun e w' => OutP e w' (padP (xss[0]?.getD []) lo hi st) ∧ Below w.heap.size w w' := by
  have zz := And.intro hcap (And.intro hlen hn)
  clear zz
  have HE := hide he
  have HP := hide hp
  have HLO := hide hlo
  have HHI := hide hhi
  have HST := hide hst
  have H := hide h
  have HN := hide h.1
  have HZ := hide hz
  have HB1 := hide ((Below.refl w.heap.size w).alloc (Nat.le_refl _) (.cells #[.int .i64 14, .slice ea el ec, .slice pa pl pc, .slice la ll lc, .slice ha hl hc, .slice ta tl tc, .int .i64 x] 31))
  have HOP := hide (OpAt.new w 14 (.slice ea el ec) (.slice pa pl pc) (.slice la ll lc) (.slice ha hl hc) (.slice ta tl tc) x)
  obtain ⟨o0, o1, o2, o3, o4, o5, o6⟩ := HOP.out.cells
  obtain ⟨b, off, rfl, hc⟩ := h.at (by omega)
  obtain ⟨X0, m0, c0, hc0, hl0⟩ := hc 0 (by omega)
  have hc0' : w.cell? ⟨b, off, none⟩ = some (.slice X0 m0 c0) := hc0
  obtain ⟨ds, hds⟩ : ∃ ds, ds = xss[0]?.getD [] := ⟨_, rfl⟩
  rw [← hds] at hl0 ⊢
  have HL0 := hide hl0
  have HC0 := hide hc0'
  have hzd : sizeE ds = 0 := by rw [hds]; exact hz _ (mem_getDL xss 0 (by rw [h.1]; omega))
  have HZD := hide hzd
  have h06 : m0 ≤ 6 := by have := (sizeE_ok hzd).1; have := hl0.1.1; omega
  have HD1 := hide (HL0.out.below HB1.out)
  have q0 := (HB1.out.cell (p := ⟨b, off, none⟩) (lt_of_cell hc0')).trans hc0'
  have i0 : (0 : Int) < (len : Int) := by omega
  clear h he hp hlo hhi hst hz hc hc0 hc0' hl0 hds hzd
  go_enter Tryz.func28, Tryz.ntmps28
  go_wp2_with fail
  go_region_with (go_at_call 51; refine (rpadDims_any _ _ _ _ _ _ _ lo _ _ _ hi _ _ _ st _ _ _ ds _ (HLO.out.below (HB1.out.drew)).1 (HHI.out.below (HB1.out.drew)).1 (HST.out.below (HB1.out.drew)).1 (HL0.out.below (HB1.out.drew)).1 HZD.out).mono ?_; rintro e w1 ⟨⟨Z, nz, cz, rfl, hi1, hnc⟩, hb⟩; have HI1 := hide hi1; have HB2 := hide (Below.on (HB1.out.drew) hb); clear hi1 hb)
  all_goals go_wp2
  all_goals go_ret2
  all_goals exact ⟨⟨_, _, _, rfl, HI1.out, hnc⟩, HB2.out⟩


set_option maxRecDepth 100000 in
set_option maxHeartbeats 2000000 in
theorem ruled_12R (x : Int) (ea : Option Addr) (el ec : Nat) (es : List Int) (pa : Option Addr) (pl pc : Nat) (ps : List Int) (la : Option Addr) (ll lc : Nat) (lo : List Int) (ha : Option Addr) (hl hc : Nat) (hi : List Int) (ta : Option Addr) (tl tc : Nat) (st : List Int) (A : Option Addr) (len cap : Nat) (xss : List (List Int)) (w : World)
    (he : Lst w ea el ec es) (hp : Lst w pa pl pc ps) (hlo : Lst w la ll lc lo) (hhi : Lst w ha hl hc hi) (hst : Lst w ta tl tc st) (h : Lsts w A len xss) (hcap : len ≤ cap) (hz : ∀ d ∈ xss, sizeE d = 0) (hn : len = 1) (hlen : len ≤ 1048576) :
    Calls Tryz.prog 28 #[.agg #[.int .i64 12, .slice ea el ec, .slice pa pl pc, .slice la ll lc, .slice ha hl hc, .slice ta tl tc, .int .i64 x], .slice A len cap] w fun e w' => OutP e w' (reformP (xss[0]?.getD []) es) ∧ Below w.heap.size w w' := by
  have zz := And.intro hcap (And.intro hlen hn)
  clear zz
  have HE := hide he
  have HP := hide hp
  have HLO := hide hlo
  have HHI := hide hhi
  have HST := hide hst
  have H := hide h
  have HN := hide h.1
  have HZ := hide hz
  have HB1 := hide ((Below.refl w.heap.size w).alloc (Nat.le_refl _) (.cells #[.int .i64 12, .slice ea el ec, .slice pa pl pc, .slice la ll lc, .slice ha hl hc, .slice ta tl tc, .int .i64 x] 31))
  have HOP := hide (OpAt.new w 12 (.slice ea el ec) (.slice pa pl pc) (.slice la ll lc) (.slice ha hl hc) (.slice ta tl tc) x)
  obtain ⟨o0, o1, o2, o3, o4, o5, o6⟩ := HOP.out.cells
  obtain ⟨b, off, rfl, hc⟩ := h.at (by omega)
  obtain ⟨X0, m0, c0, hc0, hl0⟩ := hc 0 (by omega)
  have hc0' : w.cell? ⟨b, off, none⟩ = some (.slice X0 m0 c0) := hc0
  obtain ⟨ds, hds⟩ : ∃ ds, ds = xss[0]?.getD [] := ⟨_, rfl⟩
  rw [← hds] at hl0 ⊢
  have HL0 := hide hl0
  have HC0 := hide hc0'
  have hzd : sizeE ds = 0 := by rw [hds]; exact hz _ (mem_getDL xss 0 (by rw [h.1]; omega))
  have HZD := hide hzd
  have h06 : m0 ≤ 6 := by have := (sizeE_ok hzd).1; have := hl0.1.1; omega
  have HD1 := hide (HL0.out.below HB1.out)
  have q0 := (HB1.out.cell (p := ⟨b, off, none⟩) (lt_of_cell hc0')).trans hc0'
  have i0 : (0 : Int) < (len : Int) := by omega
  clear h he hp hlo hhi hst hz hc hc0 hc0' hl0 hds hzd
  have HRP := hide (show reformP ds es = if sizeE es ≠ 0 then ([], sizeE es) else if sizeN es = sizeN ds then (es, 0) else ([], 6) from rfl)
  obtain ⟨E, hE⟩ : ∃ E, E = sizeE es := ⟨_, rfl⟩
  obtain ⟨N, hN⟩ : ∃ N, N = sizeN es := ⟨_, rfl⟩
  obtain ⟨M, hM⟩ : ∃ M, M = sizeN ds := ⟨_, rfl⟩
  have HEE := hide hE
  have HNN := hide hN
  have HMM := hide hM
  by_cases c1 : E = 0
  case neg =>
    have q : (E != 0) = true := by simp [c1]
    have hp : reformP ds es = ([], E) := by rw [HRP.out, ← hE, if_pos c1]
    rw [hp]
    clear hp hE hN hM c1
    go_enter Tryz.func28, Tryz.ntmps28
    go_wp2_with (go_at_call 27; refine (rsize_any _ _ _ es _ (HE.out.below HB1.out).1).mono ?_; rintro e w' ⟨rfl, hw'⟩; obtain rfl := hw'.symm; rw [← HEE.out, ← HNN.out])
    go_ret2
    exact ⟨outP_none _ _, HB1.out⟩
  subst c1
  by_cases c2 : N = M
  · have hp : reformP ds es = (es, 0) := by rw [HRP.out, ← hE, if_neg (by simp), if_pos (by rw [← hN, ← hM]; exact c2)]
    rw [hp]
    subst c2
    clear hp hE hN hM
    go_enter Tryz.func28, Tryz.ntmps28
    go_wp2_with (first
      | (go_at_call_of 27 (Value.slice ea el ec); refine (rsize_any _ _ _ es _ (HE.out.below HB1.out).1).mono ?_; rintro e w' ⟨rfl, hw'⟩; obtain rfl := hw'.symm; rw [← HEE.out, ← HNN.out])
      | (go_at_call 27; refine (rsize_any _ _ _ ds _ (HL0.out.below HB1.out).1).mono ?_; rintro e w' ⟨rfl, hw'⟩; obtain rfl := hw'.symm; rw [← HMM.out]))
    go_ret2
    exact ⟨outP_lst (HE.out.below HB1.out) 0, HB1.out⟩
  · have hp : reformP ds es = ([], 6) := by rw [HRP.out, ← hE, if_neg (by simp), if_neg (by rw [← hN, ← hM]; exact c2)]
    rw [hp]
    have q : (M != N) = true := by simp; exact fun h => c2 h.symm
    clear hp hE hN hM c2
    go_enter Tryz.func28, Tryz.ntmps28
    go_wp2_with (first
      | (go_at_call_of 27 (Value.slice ea el ec); refine (rsize_any _ _ _ es _ (HE.out.below HB1.out).1).mono ?_; rintro e w' ⟨rfl, hw'⟩; obtain rfl := hw'.symm; rw [← HEE.out, ← HNN.out])
      | (go_at_call 27; refine (rsize_any _ _ _ ds _ (HL0.out.below HB1.out).1).mono ?_; rintro e w' ⟨rfl, hw'⟩; obtain rfl := hw'.symm; rw [← HMM.out]))
    go_ret2
    exact ⟨outP_none _ _, HB1.out⟩

end Go.Proofs.YteoobeldmicjhaaGreat.V
namespace Go.Proofs.YteoobeldmicjhaaGreat.V
set_option maxRecDepth 20000
open Go.RowKit

set_option maxRecDepth 100000 in
set_option maxHeartbeats 2000000 in
theorem ruled_10R (x : Int) (ea : Option Addr) (el ec : Nat) (es : List Int) (pa : Option Addr) (pl pc : Nat) (ps : List Int) (la : Option Addr) (ll lc : Nat) (lo : List Int) (ha : Option Addr) (hl hc : Nat) (hi : List Int) (ta : Option Addr) (tl tc : Nat) (st : List Int) (A : Option Addr) (len cap : Nat) (xss : List (List Int)) (w : World)
    (he : Lst w ea el ec es) (hp : Lst w pa pl pc ps) (hlo : Lst w la ll lc lo) (hhi : Lst w ha hl hc hi) (hst : Lst w ta tl tc st) (h : Lsts w A len xss) (hcap : len ≤ cap) (hz : ∀ d ∈ xss, sizeE d = 0) (hn : len = 1) (hlen : len ≤ 1048576) :
    Calls Tryz.prog 28 #[.agg #[.int .i64 10, .slice ea el ec, .slice pa pl pc, .slice la ll lc, .slice ha hl hc, .slice ta tl tc, .int .i64 x], .slice A len cap] w fun e w' => OutP e w' (sumP (xss[0]?.getD []) ps) ∧ Below w.heap.size w w' := by
  have zz := And.intro hcap (And.intro hlen hn)
  clear zz
  have HE := hide he
  have HP := hide hp
  have HLO := hide hlo
  have HHI := hide hhi
  have HST := hide hst
  have H := hide h
  have HN := hide h.1
  have HZ := hide hz
  have HB1 := hide ((Below.refl w.heap.size w).alloc (Nat.le_refl _) (.cells #[.int .i64 10, .slice ea el ec, .slice pa pl pc, .slice la ll lc, .slice ha hl hc, .slice ta tl tc, .int .i64 x] 31))
  have HOP := hide (OpAt.new w 10 (.slice ea el ec) (.slice pa pl pc) (.slice la ll lc) (.slice ha hl hc) (.slice ta tl tc) x)
  obtain ⟨o0, o1, o2, o3, o4, o5, o6⟩ := HOP.out.cells
  obtain ⟨b, off, rfl, hc⟩ := h.at (by omega)
  obtain ⟨X0, m0, c0, hc0, hl0⟩ := hc 0 (by omega)
  have hc0' : w.cell? ⟨b, off, none⟩ = some (.slice X0 m0 c0) := hc0
  obtain ⟨ds, hds⟩ : ∃ ds, ds = xss[0]?.getD [] := ⟨_, rfl⟩
  rw [← hds] at hl0 ⊢
  have HL0 := hide hl0
  have HC0 := hide hc0'
  have hzd : sizeE ds = 0 := by rw [hds]; exact hz _ (mem_getDL xss 0 (by rw [h.1]; omega))
  have HZD := hide hzd
  have h06 : m0 ≤ 6 := by have := (sizeE_ok hzd).1; have := hl0.1.1; omega
  have HD1 := hide (HL0.out.below HB1.out)
  have q0 := (HB1.out.cell (p := ⟨b, off, none⟩) (lt_of_cell hc0')).trans hc0'
  have i0 : (0 : Int) < (len : Int) := by omega
  clear h he hp hlo hhi hst hz hc hc0 hc0' hl0 hds hzd
  have HLN := hide HL0.out.1.1
  have HRQ : Hid (∀ (B : Bool), (B = true ↔ RiseOk ps m0) → ∀ W, Below w.heap.size w W → Calls Tryz.prog 50 #[.slice pa pl pc, .int .i64 m0] W fun e w' => e = .returned (.bool B) ∧ w' = W) := fun B hB W hW => by
    refine (rrising_any pa pl pc ps m0 W (HP.out.below hW).1 h06).mono ?_
    rintro e w' ⟨⟨r, rfl, hr⟩, rfl⟩
    have : r = B := by
      cases r <;> cases B <;> simp_all
    rw [this]; exact ⟨rfl, rfl⟩
  cases c : riseB ps ds.length with
  | false =>
    have hp : sumP ds ps = ([], 6) := by unfold sumP; rw [if_neg (by simp [c])]
    rw [hp]
    have hbf : (false = true) ↔ RiseOk ps m0 := by rw [← HLN.out, ← riseB_iff, c]
    have HRC := hide (HRQ.out false hbf)
    clear hbf HRQ
    clear hp c
    go_enter Tryz.func28, Tryz.ntmps28
    go_wp2_with fail
    go_quiet ((go_at_call 50; exact Calls.quiet_of_same (HRC.out _ (Below.on HB1.out (below_drewN _ _)))))
    go_wp2
    go_ret2
    exact ⟨outP_none _ _, Below.on HB1.out (below_drewN _ _)⟩
  | true =>
    have hp : sumP ds ps = (taken ds (freeL ps m0), 0) := by unfold sumP; rw [if_pos c, HLN.out]
    rw [hp]
    have hbt : (true = true) ↔ RiseOk ps m0 := by rw [← HLN.out, ← riseB_iff, c]
    have HRC := hide (HRQ.out true hbt)
    clear hbt HRQ
    clear hp c
    go_enter Tryz.func28, Tryz.ntmps28
    go_wp2_with fail
    go_quiet ((go_at_call 50; exact Calls.quiet_of_same (HRC.out _ (Below.on HB1.out (below_drewN _ _)))))
    go_wp2_with fail
    have HBN := hide (Below.on HB1.out (below_drewN _ nq))
    have s0 := (HBN.out.cell (p := ⟨b, off, none⟩) (lt_of_cell HC0.out)).trans HC0.out
    have s1 := (HOP.out.below (below_drewN _ nq)).cells.2.2.1
    generalize hWN : (w.alloc (.cells #[.int .i64 10, .slice ea el ec, .slice pa pl pc, .slice la ll lc, .slice ha hl hc, .slice ta tl tc, .int .i64 x] 31)).drewN nq = WN at HBN s0 s1 ⊢
    clear hWN
    go_region_held3 (fun w' => w'.cell? ⟨b, off, none⟩ = some (.slice X0 m0 c0) ∧ w'.cell? ⟨w.heap.size, 2, none⟩ = some (.slice pa pl pc)) (refine ⟨?_, ?_⟩ <;> with_reducible (repeat (first | assumption | apply drew_cell))) ((first | (go_at_call 30; refine (free_any _ _ _ ds _ _ _ ps _ (HL0.out.below HBN.out.drew).1 (HP.out.below HBN.out.drew).1 h06).mono ?_; rintro e w1 ⟨⟨v1, rfl, X1, n1, d1, rfl, hl1, _⟩, hb⟩; have HLF := hide hl1; have HB2 := hide (Below.on HBN.out.drew hb); have s10 := (hb.cell (p := ⟨b, off, none⟩) (lt_of_cell (drew_cell s0))).trans (drew_cell s0); have s11 := (hb.cell (p := ⟨w.heap.size, 2, none⟩) (lt_of_cell (drew_cell s1))).trans (drew_cell s1); have hn1 : n1 ≤ 6 := by { have := hl1.1.1; have := freeL_len ps m0; omega }; clear hl1 hb) | (go_at_call 31; refine (chosen_any _ _ _ ds _ _ _ (freeL ps m0) _ (HL0.out.below HB2.out).1 HLF.out.1 (fun y hy => freeL_bd ps m0 y hy) hn1).mono ?_; rintro e w2 ⟨⟨v2, rfl, hv⟩, hb⟩; have HV := hide hv; have HB3 := hide (Below.on HB2.out hb); have s20 := (hb.cell (p := ⟨b, off, none⟩) (lt_of_cell s10)).trans s10; have s21 := (hb.cell (p := ⟨w.heap.size, 2, none⟩) (lt_of_cell s11)).trans s11; clear hv hb)))
    all_goals go_wp2
    all_goals go_ret2
    all_goals exact ⟨outP_new HV.out 0, HB3.out⟩

end Go.Proofs.YteoobeldmicjhaaGreat.V
