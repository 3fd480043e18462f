/-
  Contracts: adjointref2.Same; what an operation means. Contract: array.Same.
-/
import Derived.Test.YtcidhbkdaleomaaK36
import Derived.Test.YtcidhbkdaleomaaK37
import Derived.Test.YtcidhbkdaleomaaK9
import Derived.Deep.RegionHeld3
namespace Go.Proofs.Ytcidhbkdaleomaa.V
set_option maxRecDepth 20000
open Go.RowKit

def mD (k : Int) (es : List Int) : List Int := if k = 1 ∨ k = 2 ∨ k = 9 ∨ k = 12 ∨ k = 19 then es else []
def mA (k : Int) (ps : List Int) : List Int := if k = 1 ∨ k = 9 ∨ k = 10 ∨ k = 11 ∨ k = 15 ∨ k = 17 ∨ k = 16 then ps else []
def mL (k : Int) (lo : List Int) : List Int := if k = 13 ∨ k = 14 ∨ k = 16 then lo else []
def mX (k x : Int) : Int := if k = 2 then x else 0

theorem slice_if (c : Prop) [Decidable c] {w : World} {a : Option Addr} {l n : Nat} {xs : List Int} (h : Ints w a l xs) : ∃ a2 l2 n2, (if c then (.slice a l n : Value) else nilV) = .slice a2 l2 n2 ∧ Ints w a2 l2 (if c then xs else []) ∧ l2 ≤ l := by
  by_cases e : c
  · rw [if_pos e, if_pos e]; exact ⟨a, l, n, rfl, h, Nat.le_refl _⟩
  · rw [if_neg e, if_neg e]; exact ⟨none, 0, 0, rfl, ⟨rfl, by omega, by simp, .inl rfl⟩, Nat.zero_le _⟩
theorem meant_split (k x : Int) (ea : Option Addr) (el ec : Nat) (es : List Int) (pa : Option Addr) (pl pc : Nat) (ps : List Int) (la : Option Addr) (ll lc : Nat) (lo : List Int) (ha : Option Addr) (hl hc : Nat) (hi : List Int) (ta : Option Addr) (tl tc : Nat) (st : List Int) (w : World)
    (he : Ints w ea el es) (hp : Ints w pa pl ps) (hlo : Ints w la ll lo) (hhi : Ints w ha hl hi) (hst : Ints w ta tl st) :
    ∃ (ea2 : Option Addr) (el2 ec2 : Nat) (pa2 : Option Addr) (pl2 pc2 : Nat) (la2 : Option Addr) (ll2 lc2 : Nat) (ha2 : Option Addr) (hl2 hc2 : Nat) (ta2 : Option Addr) (tl2 tc2 : Nat),
      meantV k (.slice ea el ec) (.slice pa pl pc) (.slice la ll lc) (.slice ha hl hc) (.slice ta tl tc) x = .agg #[.int .i64 k, .slice ea2 el2 ec2, .slice pa2 pl2 pc2, .slice la2 ll2 lc2, .slice ha2 hl2 hc2, .slice ta2 tl2 tc2, .int .i64 (mX k x)] ∧
      (Ints w ea2 el2 (mD k es) ∧ el2 ≤ el) ∧ (Ints w pa2 pl2 (mA k ps) ∧ pl2 ≤ pl) ∧ (Ints w la2 ll2 (mL k lo) ∧ ll2 ≤ ll) ∧ (Ints w ha2 hl2 (mL k hi) ∧ hl2 ≤ hl) ∧ (Ints w ta2 tl2 (mL k st) ∧ tl2 ≤ tl) := by
  obtain ⟨a1, b1, c1, e1, h1⟩ := slice_if (k = 1 ∨ k = 2 ∨ k = 9 ∨ k = 12 ∨ k = 19) (n := ec) he
  obtain ⟨a2, b2, c2, e2, h2⟩ := slice_if (k = 1 ∨ k = 9 ∨ k = 10 ∨ k = 11 ∨ k = 15 ∨ k = 17 ∨ k = 16) (n := pc) hp
  obtain ⟨a3, b3, c3, e3, h3⟩ := slice_if (k = 13 ∨ k = 14 ∨ k = 16) (n := lc) hlo
  obtain ⟨a4, b4, c4, e4, h4⟩ := slice_if (k = 13 ∨ k = 14 ∨ k = 16) (n := hc) hhi
  obtain ⟨a5, b5, c5, e5, h5⟩ := slice_if (k = 13 ∨ k = 14 ∨ k = 16) (n := tc) hst
  refine ⟨a1, b1, c1, a2, b2, c2, a3, b3, c3, a4, b4, c4, a5, b5, c5, ?_, h1, h2, h3, h4, h5⟩
  unfold meantV mX
  rw [e1, e2, e3, e4, e5]

set_option maxRecDepth 100000 in
set_option maxHeartbeats 2000000 in
theorem rsame_any (k k' x x' : Int) (ea : Option Addr) (el ec : Nat) (es : List Int) (pa : Option Addr) (pl pc : Nat) (ps : List Int) (la : Option Addr) (ll lc : Nat) (lo : List Int) (ha : Option Addr) (hl hc : Nat) (hi : List Int) (ta : Option Addr) (tl tc : Nat) (st : List Int) (ea' : Option Addr) (el' ec' : Nat) (es' : List Int) (pa' : Option Addr) (pl' pc' : Nat) (ps' : List Int) (la' : Option Addr) (ll' lc' : Nat) (lo' : List Int) (ha' : Option Addr) (hl' hc' : Nat) (hi' : List Int) (ta' : Option Addr) (tl' tc' : Nat) (st' : List Int) (w : World)
    (he : Ints w ea el es) (hp : Ints w pa pl ps) (hlo : Ints w la ll lo) (hhi : Ints w ha hl hi) (hst : Ints w ta tl st) (he' : Ints w ea' el' es') (hp' : Ints w pa' pl' ps') (hlo' : Ints w la' ll' lo') (hhi' : Ints w ha' hl' hi') (hst' : Ints w ta' tl' st') :
    Calls Try.prog 18 #[.agg #[.int .i64 k, .slice ea el ec, .slice pa pl pc, .slice la ll lc, .slice ha hl hc, .slice ta tl tc, .int .i64 x], .agg #[.int .i64 k', .slice ea' el' ec', .slice pa' pl' pc', .slice la' ll' lc', .slice ha' hl' hc', .slice ta' tl' tc', .int .i64 x']] w fun e w' => e = .returned (.bool (opEq k k' (mX k x) (mX k' x') (mD k es) (mD k' es') (mA k ps) (mA k' ps') (mL k lo) (mL k' lo') (mL k hi) (mL k' hi') (mL k st) (mL k' st'))) ∧ Below w.heap.size w w' := by
  obtain ⟨eam, elm, ecm, pam, plm, pcm, lam, llm, lcm, ham, hlm, hcm, tam, tlm, tcm, hmv0, ⟨i01, _⟩, ⟨i02, _⟩, ⟨i03, _⟩, ⟨i04, _⟩, ⟨i05, _⟩⟩ := meant_split k x ea el ec es pa pl pc ps la ll lc lo ha hl hc hi ta tl tc st w he hp hlo hhi hst
  have HMV0 := hide hmv0
  have J01 := hide i01
  have J02 := hide i02
  have J03 := hide i03
  have J04 := hide i04
  have J05 := hide i05
  obtain ⟨eaqm, elqm, ecqm, paqm, plqm, pcqm, laqm, llqm, lcqm, haqm, hlqm, hcqm, taqm, tlqm, tcqm, hmv1, ⟨i11, _⟩, ⟨i12, _⟩, ⟨i13, _⟩, ⟨i14, _⟩, ⟨i15, _⟩⟩ := meant_split k' x' ea' el' ec' es' pa' pl' pc' ps' la' ll' lc' lo' ha' hl' hc' hi' ta' tl' tc' st' w he' hp' hlo' hhi' hst'
  have HMV1 := hide hmv1
  have J11 := hide i11
  have J12 := hide i12
  have J13 := hide i13
  have J14 := hide i14
  have J15 := hide i15
  have HB1 := hide ((Below.refl w.heap.size w).alloc (Nat.le_refl _) (.cells #[.int .i64 k, .slice ea el ec, .slice pa pl pc, .slice la ll lc, .slice ha hl hc, .slice ta tl tc, .int .i64 x] 24))
  have HB2 := hide (HB1.out.alloc HB1.out.size (.cells #[.int .i64 k', .slice ea' el' ec', .slice pa' pl' pc', .slice la' ll' lc', .slice ha' hl' hc', .slice ta' tl' tc', .int .i64 x'] 24))
  have HOA2 := hide ((OpAt.new w k (.slice ea el ec) (.slice pa pl pc) (.slice la ll lc) (.slice ha hl hc) (.slice ta tl tc) x).alloc (.cells #[.int .i64 k', .slice ea' el' ec', .slice pa' pl' pc', .slice la' ll' lc', .slice ha' hl' hc', .slice ta' tl' tc', .int .i64 x'] 24))
  have hop' := OpAt.new (w.alloc (.cells #[.int .i64 k, .slice ea el ec, .slice pa pl pc, .slice la ll lc, .slice ha hl hc, .slice ta tl tc, .int .i64 x] 24)) k' (.slice ea' el' ec') (.slice pa' pl' pc') (.slice la' ll' lc') (.slice ha' hl' hc') (.slice ta' tl' tc') x'
  simp only [World.size_alloc] at hop'
  have HOB2 := hide hop'
  obtain ⟨o0, o1, o2, o3, o4, o5, o6⟩ := HOA2.out.cells
  obtain ⟨r0, r1, r2, r3, r4, r5, r6⟩ := HOB2.out.cells
  clear hop' hmv0 hmv1 i01 i02 i03 i04 i05 i11 i12 i13 i14 i15
  go_enter Try.func18, Try.ntmps18
  go_wp2_with fail
  go_region_held3 (fun w' => w'.cell? ⟨w.heap.size, 0, none⟩ = some (.int .i64 k) ∧ w'.cell? ⟨w.heap.size, 1, none⟩ = some (.slice ea el ec) ∧ w'.cell? ⟨w.heap.size, 2, none⟩ = some (.slice pa pl pc) ∧ w'.cell? ⟨w.heap.size, 3, none⟩ = some (.slice la ll lc) ∧ w'.cell? ⟨w.heap.size, 4, none⟩ = some (.slice ha hl hc) ∧ w'.cell? ⟨w.heap.size, 5, none⟩ = some (.slice ta tl tc) ∧ w'.cell? ⟨w.heap.size, 6, none⟩ = some (.int .i64 x) ∧ w'.cell? ⟨w.heap.size + 1, 0, none⟩ = some (.int .i64 k') ∧ w'.cell? ⟨w.heap.size + 1, 1, none⟩ = some (.slice ea' el' ec') ∧ w'.cell? ⟨w.heap.size + 1, 2, none⟩ = some (.slice pa' pl' pc') ∧ w'.cell? ⟨w.heap.size + 1, 3, none⟩ = some (.slice la' ll' lc') ∧ w'.cell? ⟨w.heap.size + 1, 4, none⟩ = some (.slice ha' hl' hc') ∧ w'.cell? ⟨w.heap.size + 1, 5, none⟩ = some (.slice ta' tl' tc') ∧ w'.cell? ⟨w.heap.size + 1, 6, none⟩ = some (.int .i64 x')) (refine ⟨?_, ?_, ?_, ?_, ?_, ?_, ?_, ?_, ?_, ?_, ?_, ?_, ?_, ?_⟩ <;> with_reducible (repeat (first | assumption | apply drew_cell))) ((first | (go_at_call_of 16 (Value.int .i64 k); refine (rplain_any k ea el ec pa pl pc la ll lc ha hl hc ta tl tc x _).mono ?_; rintro e w3 ⟨rfl, hb⟩; rw [HMV0.out]; have HB3 := hide (Below.on (HB2.out.drew) hb); have HOA3 := hide ((HOA2.out.below ((Below.refl _ _).drew)).below hb); have HOB3 := hide ((HOB2.out.below ((Below.refl _ _).drew)).below hb); obtain ⟨y30, y31, y32, y33, y34, y35, y36⟩ := HOA3.out.cells; obtain ⟨z30, z31, z32, z33, z34, z35, z36⟩ := HOB3.out.cells; clear hb) | (go_at_call_of 16 (Value.int .i64 k'); refine (rplain_any k' ea' el' ec' pa' pl' pc' la' ll' lc' ha' hl' hc' ta' tl' tc' x' _).mono ?_; rintro e w4 ⟨rfl, hb⟩; rw [HMV1.out]; have HB4 := hide (Below.on (HB3.out) hb); have HOA4 := hide (HOA3.out.below hb); have HOB4 := hide (HOB3.out.below hb); obtain ⟨y40, y41, y42, y43, y44, y45, y46⟩ := HOA4.out.cells; obtain ⟨z40, z41, z42, z43, z44, z45, z46⟩ := HOB4.out.cells; clear hb) | (go_at_call 14; refine (requal_any k k' (mX k x) (mX k' x') eam elm ecm (mD k es) pam plm pcm (mA k ps) lam llm lcm (mL k lo) ham hlm hcm (mL k hi) tam tlm tcm (mL k st) eaqm elqm ecqm (mD k' es') paqm plqm pcqm (mA k' ps') laqm llqm lcqm (mL k' lo') haqm hlqm hcqm (mL k' hi') taqm tlqm tcqm (mL k' st') _ (J01.out.below HB4.out) (J02.out.below HB4.out) (J03.out.below HB4.out) (J04.out.below HB4.out) (J05.out.below HB4.out) (J11.out.below HB4.out) (J12.out.below HB4.out) (J13.out.below HB4.out) (J14.out.below HB4.out) (J15.out.below HB4.out)).mono ?_; rintro e w5 ⟨rfl, hb⟩; have HB5 := hide (Below.on HB4.out hb); have HOA5 := hide (HOA4.out.below hb); have HOB5 := hide (HOB4.out.below hb); obtain ⟨y50, y51, y52, y53, y54, y55, y56⟩ := HOA5.out.cells; obtain ⟨z50, z51, z52, z53, z54, z55, z56⟩ := HOB5.out.cells; clear hb)))
  all_goals go_wp2
  all_goals go_ret
  all_goals exact ⟨rfl, HB5.out⟩
end Go.Proofs.Ytcidhbkdaleomaa.V
namespace Go.Proofs.Ytcidhbkdaleomaa.V
set_option maxRecDepth 20000
open Go.RowKit

theorem OpAt.put {w : World} {b : Nat} {k : Int} {vd va vl vh vs : Value} {x : Int} (h : OpAt w b k vd va vl vh vs x) (k' : Int) (d a l g s : Value) (x' : Int) : OpAt (((((((w.setCell ⟨b, 0, none⟩ (.int .i64 k')).setCell ⟨b, 1, none⟩ d).setCell ⟨b, 2, none⟩ a).setCell ⟨b, 3, none⟩ l).setCell ⟨b, 4, none⟩ g).setCell ⟨b, 5, none⟩ s).setCell ⟨b, 6, none⟩ (.int .i64 x')) b k' d a l g s x' := by
  unfold OpAt at *
  simp [World.setCell, Array.getElem?_modify, h]
theorem OpAt.putOther {w : World} {b C : Nat} {k : Int} {vd va vl vh vs : Value} {x : Int} (h : OpAt w b k vd va vl vh vs x) (hne : b ≠ C) (u0 u1 u2 u3 u4 u5 u6 : Value) : OpAt (((((((w.setCell ⟨C, 0, none⟩ u0).setCell ⟨C, 1, none⟩ u1).setCell ⟨C, 2, none⟩ u2).setCell ⟨C, 3, none⟩ u3).setCell ⟨C, 4, none⟩ u4).setCell ⟨C, 5, none⟩ u5).setCell ⟨C, 6, none⟩ u6) b k vd va vl vh vs x :=
  ((((((h.set (p := ⟨C, 0, none⟩) hne _).set (p := ⟨C, 1, none⟩) hne _).set (p := ⟨C, 2, none⟩) hne _).set (p := ⟨C, 3, none⟩) hne _).set (p := ⟨C, 4, none⟩) hne _).set (p := ⟨C, 5, none⟩) hne _).set (p := ⟨C, 6, none⟩) hne _
theorem below_seven {w w' : World} {B C : Nat} (h : Below B w w') (hC : B ≤ C) (u0 u1 u2 u3 u4 u5 u6 : Value) : Below B w (((((((w'.setCell ⟨C, 0, none⟩ u0).setCell ⟨C, 1, none⟩ u1).setCell ⟨C, 2, none⟩ u2).setCell ⟨C, 3, none⟩ u3).setCell ⟨C, 4, none⟩ u4).setCell ⟨C, 5, none⟩ u5).setCell ⟨C, 6, none⟩ u6) :=
  ((((((h.setCell (p := ⟨C, 0, none⟩) hC _).setCell (p := ⟨C, 1, none⟩) hC _).setCell (p := ⟨C, 2, none⟩) hC _).setCell (p := ⟨C, 3, none⟩) hC _).setCell (p := ⟨C, 4, none⟩) hC _).setCell (p := ⟨C, 5, none⟩) hC _).setCell (p := ⟨C, 6, none⟩) hC _
theorem OpAt.frozen {w : World} {b : Nat} {k : Int} {vd va vl vh vs : Value} {x : Int} (h : OpAt w b k vd va vl vh vs x) (j : Nat) : w.frozen? ⟨b, j, none⟩ = false := by
  unfold OpAt at h
  simp [World.frozen?, h]

set_option maxRecDepth 100000 in
set_option maxHeartbeats 4000000 in
theorem same_op_any (k k' x x' : Int) (ea : Option Addr) (el ec : Nat) (es : List Int) (pa : Option Addr) (pl pc : Nat) (ps : List Int) (la : Option Addr) (ll lc : Nat) (lo : List Int) (ha : Option Addr) (hl hc : Nat) (hi : List Int) (ta : Option Addr) (tl tc : Nat) (st : List Int) (ea' : Option Addr) (el' ec' : Nat) (es' : List Int) (pa' : Option Addr) (pl' pc' : Nat) (ps' : List Int) (la' : Option Addr) (ll' lc' : Nat) (lo' : List Int) (ha' : Option Addr) (hl' hc' : Nat) (hi' : List Int) (ta' : Option Addr) (tl' tc' : Nat) (st' : List Int) (w : World)
    (he : Ints w ea el es) (hp : Ints w pa pl ps) (hlo : Ints w la ll lo) (hhi : Ints w ha hl hi) (hst : Ints w ta tl st) (he' : Ints w ea' el' es') (hp' : Ints w pa' pl' ps') (hlo' : Ints w la' ll' lo') (hhi' : Ints w ha' hl' hi') (hst' : Ints w ta' tl' st') :
    Calls Try.prog 17 #[.agg #[.int .i64 k, .slice ea el ec, .slice pa pl pc, .slice la ll lc, .slice ha hl hc, .slice ta tl tc, .int .i64 x], .agg #[.int .i64 k', .slice ea' el' ec', .slice pa' pl' pc', .slice la' ll' lc', .slice ha' hl' hc', .slice ta' tl' tc', .int .i64 x']] w fun e w' => e = .returned (.bool (opEq k k' (mX k x) (mX k' x') (mD k es) (mD k' es') (mA k ps) (mA k' ps') (mL k lo) (mL k' lo') (mL k hi) (mL k' hi') (mL k st) (mL k' st'))) ∧ Below w.heap.size w w' := by
  obtain ⟨eam, elm, ecm, pam, plm, pcm, lam, llm, lcm, ham, hlm, hcm, tam, tlm, tcm, hmv0, ⟨i01, _⟩, ⟨i02, _⟩, ⟨i03, _⟩, ⟨i04, _⟩, ⟨i05, _⟩⟩ := meant_split k x ea el ec es pa pl pc ps la ll lc lo ha hl hc hi ta tl tc st w he hp hlo hhi hst
  have HMV0 := hide hmv0
  have J01 := hide i01
  have J02 := hide i02
  have J03 := hide i03
  have J04 := hide i04
  have J05 := hide i05
  obtain ⟨eaqm, elqm, ecqm, paqm, plqm, pcqm, laqm, llqm, lcqm, haqm, hlqm, hcqm, taqm, tlqm, tcqm, hmv1, ⟨i11, _⟩, ⟨i12, _⟩, ⟨i13, _⟩, ⟨i14, _⟩, ⟨i15, _⟩⟩ := meant_split k' x' ea' el' ec' es' pa' pl' pc' ps' la' ll' lc' lo' ha' hl' hc' hi' ta' tl' tc' st' w he' hp' hlo' hhi' hst'
  have HMV1 := hide hmv1
  have J11 := hide i11
  have J12 := hide i12
  have J13 := hide i13
  have J14 := hide i14
  have J15 := hide i15
  have HB1 := hide ((Below.refl w.heap.size w).alloc (Nat.le_refl _) (.cells #[.int .i64 k, .slice ea el ec, .slice pa pl pc, .slice la ll lc, .slice ha hl hc, .slice ta tl tc, .int .i64 x] 24))
  have HB2 := hide (HB1.out.alloc HB1.out.size (.cells #[.int .i64 k', .slice ea' el' ec', .slice pa' pl' pc', .slice la' ll' lc', .slice ha' hl' hc', .slice ta' tl' tc', .int .i64 x'] 24))
  have HOA2 := hide ((OpAt.new w k (.slice ea el ec) (.slice pa pl pc) (.slice la ll lc) (.slice ha hl hc) (.slice ta tl tc) x).alloc (.cells #[.int .i64 k', .slice ea' el' ec', .slice pa' pl' pc', .slice la' ll' lc', .slice ha' hl' hc', .slice ta' tl' tc', .int .i64 x'] 24))
  have hop' := OpAt.new (w.alloc (.cells #[.int .i64 k, .slice ea el ec, .slice pa pl pc, .slice la ll lc, .slice ha hl hc, .slice ta tl tc, .int .i64 x] 24)) k' (.slice ea' el' ec') (.slice pa' pl' pc') (.slice la' ll' lc') (.slice ha' hl' hc') (.slice ta' tl' tc') x'
  simp only [World.size_alloc] at hop'
  have HOB2 := hide hop'
  obtain ⟨o0, o1, o2, o3, o4, o5, o6⟩ := HOA2.out.cells
  obtain ⟨r0, r1, r2, r3, r4, r5, r6⟩ := HOB2.out.cells
  clear hop' hmv0 hmv1 i01 i02 i03 i04 i05 i11 i12 i13 i14 i15
  go_enter Try.func17, Try.ntmps17
  go_wp2_with fail
  go_cut [] (fun wc => OpAt wc w.heap.size k (.slice eam elm ecm) (.slice pam plm pcm) (.slice lam llm lcm) (.slice ham hlm hcm) (.slice tam tlm tcm) (mX k x) ∧ OpAt wc (w.heap.size + 1) k' (.slice eaqm elqm ecqm) (.slice paqm plqm pcqm) (.slice laqm llqm lcqm) (.slice haqm hlqm hcqm) (.slice taqm tlqm tcqm) (mX k' x') ∧ Below w.heap.size w wc)
  case first =>
    go_region_with (first | (go_at_call_of 34 (Value.int .i64 k); refine (meant_any k ea el ec pa pl pc la ll lc ha hl hc ta tl tc x _).mono ?_; rintro e w3 ⟨rfl, hb⟩; rw [HMV0.out]; have HB3 := hide (Below.on (HB2.out.drew) hb); have HOA3 := hide ((HOA2.out.below ((Below.refl _ _).drew)).below hb); have HOB3 := hide ((HOB2.out.below ((Below.refl _ _).drew)).below hb); obtain ⟨y30, y31, y32, y33, y34, y35, y36⟩ := HOA3.out.cells; obtain ⟨z30, z31, z32, z33, z34, z35, z36⟩ := HOB3.out.cells; have fa30 := HOA3.out.frozen 0; have fb30 := HOB3.out.frozen 0; have fa31 := HOA3.out.frozen 1; have fb31 := HOB3.out.frozen 1; have fa32 := HOA3.out.frozen 2; have fb32 := HOB3.out.frozen 2; have fa33 := HOA3.out.frozen 3; have fb33 := HOB3.out.frozen 3; have fa34 := HOA3.out.frozen 4; have fb34 := HOB3.out.frozen 4; have fa35 := HOA3.out.frozen 5; have fb35 := HOB3.out.frozen 5; have fa36 := HOA3.out.frozen 6; have fb36 := HOB3.out.frozen 6; clear hb) | (go_at_call_of 34 (Value.int .i64 k'); refine (meant_any k' ea' el' ec' pa' pl' pc' la' ll' lc' ha' hl' hc' ta' tl' tc' x' _).mono ?_; rintro e w4 ⟨rfl, hb⟩; rw [HMV1.out]; have HB4 := hide (Below.on (HB3.out) hb); have HOA4 := hide (HOA3.out.below hb); have HOB4 := hide (HOB3.out.below hb); obtain ⟨y40, y41, y42, y43, y44, y45, y46⟩ := HOA4.out.cells; obtain ⟨z40, z41, z42, z43, z44, z45, z46⟩ := HOB4.out.cells; have fa40 := HOA4.out.frozen 0; have fb40 := HOB4.out.frozen 0; have fa41 := HOA4.out.frozen 1; have fb41 := HOB4.out.frozen 1; have fa42 := HOA4.out.frozen 2; have fb42 := HOB4.out.frozen 2; have fa43 := HOA4.out.frozen 3; have fb43 := HOB4.out.frozen 3; have fa44 := HOA4.out.frozen 4; have fb44 := HOB4.out.frozen 4; have fa45 := HOA4.out.frozen 5; have fb45 := HOB4.out.frozen 5; have fa46 := HOA4.out.frozen 6; have fb46 := HOB4.out.frozen 6; clear hb))
    all_goals go_wp2
    all_goals go_meet
    all_goals exact ⟨(HOA4.out.put _ _ _ _ _ _ _).putOther (by omega) _ _ _ _ _ _ _, (HOB4.out.putOther (by omega) _ _ _ _ _ _ _).put _ _ _ _ _ _ _, below_seven (below_seven HB4.out (Nat.le_refl _) _ _ _ _ _ _ _) (by omega) _ _ _ _ _ _ _⟩
  case rest =>
    obtain ⟨hoa, hob, hB⟩ := hcut
    have HB0 := hide hB
    have HOX0 := hide hoa
    have HOY0 := hide hob
    obtain ⟨y00, y01, y02, y03, y04, y05, y06⟩ := hoa.cells
    obtain ⟨z00, z01, z02, z03, z04, z05, z06⟩ := hob.cells
    clear hoa hob hB o0 o1 o2 o3 o4 o5 o6 r0 r1 r2 r3 r4 r5 r6 HOA2 HOB2 HB2 HB1 HMV0 HMV1
    by_cases c0 : k = k'
    case neg =>
      have HOE : Hid (opEq k k' (mX k x) (mX k' x') (mD k es) (mD k' es') (mA k ps) (mA k' ps') (mL k lo) (mL k' lo') (mL k hi) (mL k' hi') (mL k st) (mL k' st') = false) := opEq_no (fun h => c0 h.1)
      have g0 : (k == k') = false := by simp [c0]
      clear c0
      go_wp2
      go_ret
      rw [HOE.out]
      exact ⟨rfl, HB0.out⟩
    have g0 : (k == k') = true := by simp [c0]
    have HC0 := hide c0
    clear c0
    by_cases c1 : mX k x = mX k' x'
    case neg =>
      have HOE : Hid (opEq k k' (mX k x) (mX k' x') (mD k es) (mD k' es') (mA k ps) (mA k' ps') (mL k lo) (mL k' lo') (mL k hi) (mL k' hi') (mL k st) (mL k' st') = false) := opEq_no (fun h => c1 h.2.1)
      have g1 : (mX k x == mX k' x') = false := by simp [c1]
      clear c1
      go_wp2
      go_ret
      rw [HOE.out]
      exact ⟨rfl, HB0.out⟩
    have g1 : (mX k x == mX k' x') = true := by simp [c1]
    have HC1 := hide c1
    clear c1
    by_cases c2 : mD k es = mD k' es'
    case neg =>
      have HOE : Hid (opEq k k' (mX k x) (mX k' x') (mD k es) (mD k' es') (mA k ps) (mA k' ps') (mL k lo) (mL k' lo') (mL k hi) (mL k' hi') (mL k st) (mL k' st') = false) := opEq_no (fun h => c2 h.2.2.1)
      have Q0 : Hid (decide (mD k es = mD k' es') = false) := decide_eq_false c2
      clear c2
      go_wp2_with (first
        | (go_at_call_of 36 (Value.slice eam elm ecm); refine (equal_any _ _ _ (mD k es) _ _ _ (mD k' es') _ (J01.out.below HB0.out) (J11.out.below HB0.out)).mono ?_; rintro e w11 ⟨rfl, m1, hw⟩; rw [Q0.out]; have hb : Below wc.heap.size wc w11 := (hw ▸ below_drewN _ m1); have HB11 := hide (Below.on HB0.out hb); have HOX11 := hide (HOX0.out.below hb); have HOY11 := hide (HOY0.out.below hb); obtain ⟨y110, y111, y112, y113, y114, y115, y116⟩ := HOX11.out.cells; obtain ⟨z110, z111, z112, z113, z114, z115, z116⟩ := HOY11.out.cells; clear hw hb))
      go_ret
      rw [HOE.out]
      exact ⟨rfl, HB11.out⟩
    have Q0 : Hid (decide (mD k es = mD k' es') = true) := decide_eq_true c2
    have HC2 := hide c2
    clear c2
    by_cases c3 : mA k ps = mA k' ps'
    case neg =>
      have HOE : Hid (opEq k k' (mX k x) (mX k' x') (mD k es) (mD k' es') (mA k ps) (mA k' ps') (mL k lo) (mL k' lo') (mL k hi) (mL k' hi') (mL k st) (mL k' st') = false) := opEq_no (fun h => c3 h.2.2.2.1)
      have Q1 : Hid (decide (mA k ps = mA k' ps') = false) := decide_eq_false c3
      clear c3
      go_wp2_with (first
        | (go_at_call_of 36 (Value.slice eam elm ecm); refine (equal_any _ _ _ (mD k es) _ _ _ (mD k' es') _ (J01.out.below HB0.out) (J11.out.below HB0.out)).mono ?_; rintro e w11 ⟨rfl, m1, hw⟩; rw [Q0.out]; have hb : Below wc.heap.size wc w11 := (hw ▸ below_drewN _ m1); have HB11 := hide (Below.on HB0.out hb); have HOX11 := hide (HOX0.out.below hb); have HOY11 := hide (HOY0.out.below hb); obtain ⟨y110, y111, y112, y113, y114, y115, y116⟩ := HOX11.out.cells; obtain ⟨z110, z111, z112, z113, z114, z115, z116⟩ := HOY11.out.cells; clear hw hb)
        | (go_at_call_of 36 (Value.slice pam plm pcm); refine (equal_any _ _ _ (mA k ps) _ _ _ (mA k' ps') _ (J02.out.below HB11.out) (J12.out.below HB11.out)).mono ?_; rintro e w12 ⟨rfl, m2, hw⟩; rw [Q1.out]; have hb : Below w11.heap.size w11 w12 := (hw ▸ below_drewN _ m2); have HB12 := hide (Below.on HB11.out hb); have HOX12 := hide (HOX11.out.below hb); have HOY12 := hide (HOY11.out.below hb); obtain ⟨y120, y121, y122, y123, y124, y125, y126⟩ := HOX12.out.cells; obtain ⟨z120, z121, z122, z123, z124, z125, z126⟩ := HOY12.out.cells; clear hw hb))
      go_ret
      rw [HOE.out]
      exact ⟨rfl, HB12.out⟩
    have Q1 : Hid (decide (mA k ps = mA k' ps') = true) := decide_eq_true c3
    have HC3 := hide c3
    clear c3
    by_cases c4 : mL k lo = mL k' lo'
    case neg =>
      have HOE : Hid (opEq k k' (mX k x) (mX k' x') (mD k es) (mD k' es') (mA k ps) (mA k' ps') (mL k lo) (mL k' lo') (mL k hi) (mL k' hi') (mL k st) (mL k' st') = false) := opEq_no (fun h => c4 h.2.2.2.2.1)
      have Q2 : Hid (decide (mL k lo = mL k' lo') = false) := decide_eq_false c4
      clear c4
      go_wp2_with (first
        | (go_at_call_of 36 (Value.slice eam elm ecm); refine (equal_any _ _ _ (mD k es) _ _ _ (mD k' es') _ (J01.out.below HB0.out) (J11.out.below HB0.out)).mono ?_; rintro e w11 ⟨rfl, m1, hw⟩; rw [Q0.out]; have hb : Below wc.heap.size wc w11 := (hw ▸ below_drewN _ m1); have HB11 := hide (Below.on HB0.out hb); have HOX11 := hide (HOX0.out.below hb); have HOY11 := hide (HOY0.out.below hb); obtain ⟨y110, y111, y112, y113, y114, y115, y116⟩ := HOX11.out.cells; obtain ⟨z110, z111, z112, z113, z114, z115, z116⟩ := HOY11.out.cells; clear hw hb)
        | (go_at_call_of 36 (Value.slice pam plm pcm); refine (equal_any _ _ _ (mA k ps) _ _ _ (mA k' ps') _ (J02.out.below HB11.out) (J12.out.below HB11.out)).mono ?_; rintro e w12 ⟨rfl, m2, hw⟩; rw [Q1.out]; have hb : Below w11.heap.size w11 w12 := (hw ▸ below_drewN _ m2); have HB12 := hide (Below.on HB11.out hb); have HOX12 := hide (HOX11.out.below hb); have HOY12 := hide (HOY11.out.below hb); obtain ⟨y120, y121, y122, y123, y124, y125, y126⟩ := HOX12.out.cells; obtain ⟨z120, z121, z122, z123, z124, z125, z126⟩ := HOY12.out.cells; clear hw hb)
        | (go_at_call_of 36 (Value.slice lam llm lcm); refine (equal_any _ _ _ (mL k lo) _ _ _ (mL k' lo') _ (J03.out.below HB12.out) (J13.out.below HB12.out)).mono ?_; rintro e w13 ⟨rfl, m3, hw⟩; rw [Q2.out]; have hb : Below w12.heap.size w12 w13 := (hw ▸ below_drewN _ m3); have HB13 := hide (Below.on HB12.out hb); have HOX13 := hide (HOX12.out.below hb); have HOY13 := hide (HOY12.out.below hb); obtain ⟨y130, y131, y132, y133, y134, y135, y136⟩ := HOX13.out.cells; obtain ⟨z130, z131, z132, z133, z134, z135, z136⟩ := HOY13.out.cells; clear hw hb))
      go_ret
      rw [HOE.out]
      exact ⟨rfl, HB13.out⟩
    have Q2 : Hid (decide (mL k lo = mL k' lo') = true) := decide_eq_true c4
    have HC4 := hide c4
    clear c4
    by_cases c5 : mL k hi = mL k' hi'
    case neg =>
      have HOE : Hid (opEq k k' (mX k x) (mX k' x') (mD k es) (mD k' es') (mA k ps) (mA k' ps') (mL k lo) (mL k' lo') (mL k hi) (mL k' hi') (mL k st) (mL k' st') = false) := opEq_no (fun h => c5 h.2.2.2.2.2.1)
      have Q3 : Hid (decide (mL k hi = mL k' hi') = false) := decide_eq_false c5
      clear c5
      go_wp2_with (first
        | (go_at_call_of 36 (Value.slice eam elm ecm); refine (equal_any _ _ _ (mD k es) _ _ _ (mD k' es') _ (J01.out.below HB0.out) (J11.out.below HB0.out)).mono ?_; rintro e w11 ⟨rfl, m1, hw⟩; rw [Q0.out]; have hb : Below wc.heap.size wc w11 := (hw ▸ below_drewN _ m1); have HB11 := hide (Below.on HB0.out hb); have HOX11 := hide (HOX0.out.below hb); have HOY11 := hide (HOY0.out.below hb); obtain ⟨y110, y111, y112, y113, y114, y115, y116⟩ := HOX11.out.cells; obtain ⟨z110, z111, z112, z113, z114, z115, z116⟩ := HOY11.out.cells; clear hw hb)
        | (go_at_call_of 36 (Value.slice pam plm pcm); refine (equal_any _ _ _ (mA k ps) _ _ _ (mA k' ps') _ (J02.out.below HB11.out) (J12.out.below HB11.out)).mono ?_; rintro e w12 ⟨rfl, m2, hw⟩; rw [Q1.out]; have hb : Below w11.heap.size w11 w12 := (hw ▸ below_drewN _ m2); have HB12 := hide (Below.on HB11.out hb); have HOX12 := hide (HOX11.out.below hb); have HOY12 := hide (HOY11.out.below hb); obtain ⟨y120, y121, y122, y123, y124, y125, y126⟩ := HOX12.out.cells; obtain ⟨z120, z121, z122, z123, z124, z125, z126⟩ := HOY12.out.cells; clear hw hb)
        | (go_at_call_of 36 (Value.slice lam llm lcm); refine (equal_any _ _ _ (mL k lo) _ _ _ (mL k' lo') _ (J03.out.below HB12.out) (J13.out.below HB12.out)).mono ?_; rintro e w13 ⟨rfl, m3, hw⟩; rw [Q2.out]; have hb : Below w12.heap.size w12 w13 := (hw ▸ below_drewN _ m3); have HB13 := hide (Below.on HB12.out hb); have HOX13 := hide (HOX12.out.below hb); have HOY13 := hide (HOY12.out.below hb); obtain ⟨y130, y131, y132, y133, y134, y135, y136⟩ := HOX13.out.cells; obtain ⟨z130, z131, z132, z133, z134, z135, z136⟩ := HOY13.out.cells; clear hw hb)
        | (go_at_call_of 36 (Value.slice ham hlm hcm); refine (equal_any _ _ _ (mL k hi) _ _ _ (mL k' hi') _ (J04.out.below HB13.out) (J14.out.below HB13.out)).mono ?_; rintro e w14 ⟨rfl, m4, hw⟩; rw [Q3.out]; have hb : Below w13.heap.size w13 w14 := (hw ▸ below_drewN _ m4); have HB14 := hide (Below.on HB13.out hb); have HOX14 := hide (HOX13.out.below hb); have HOY14 := hide (HOY13.out.below hb); obtain ⟨y140, y141, y142, y143, y144, y145, y146⟩ := HOX14.out.cells; obtain ⟨z140, z141, z142, z143, z144, z145, z146⟩ := HOY14.out.cells; clear hw hb))
      go_ret
      rw [HOE.out]
      exact ⟨rfl, HB14.out⟩
    have Q3 : Hid (decide (mL k hi = mL k' hi') = true) := decide_eq_true c5
    have HC5 := hide c5
    clear c5
    by_cases c6 : mL k st = mL k' st'
    case neg =>
      have HOE : Hid (opEq k k' (mX k x) (mX k' x') (mD k es) (mD k' es') (mA k ps) (mA k' ps') (mL k lo) (mL k' lo') (mL k hi) (mL k' hi') (mL k st) (mL k' st') = false) := opEq_no (fun h => c6 h.2.2.2.2.2.2)
      have Q4 : Hid (decide (mL k st = mL k' st') = false) := decide_eq_false c6
      clear c6
      go_wp2_with (first
        | (go_at_call_of 36 (Value.slice eam elm ecm); refine (equal_any _ _ _ (mD k es) _ _ _ (mD k' es') _ (J01.out.below HB0.out) (J11.out.below HB0.out)).mono ?_; rintro e w11 ⟨rfl, m1, hw⟩; rw [Q0.out]; have hb : Below wc.heap.size wc w11 := (hw ▸ below_drewN _ m1); have HB11 := hide (Below.on HB0.out hb); have HOX11 := hide (HOX0.out.below hb); have HOY11 := hide (HOY0.out.below hb); obtain ⟨y110, y111, y112, y113, y114, y115, y116⟩ := HOX11.out.cells; obtain ⟨z110, z111, z112, z113, z114, z115, z116⟩ := HOY11.out.cells; clear hw hb)
        | (go_at_call_of 36 (Value.slice pam plm pcm); refine (equal_any _ _ _ (mA k ps) _ _ _ (mA k' ps') _ (J02.out.below HB11.out) (J12.out.below HB11.out)).mono ?_; rintro e w12 ⟨rfl, m2, hw⟩; rw [Q1.out]; have hb : Below w11.heap.size w11 w12 := (hw ▸ below_drewN _ m2); have HB12 := hide (Below.on HB11.out hb); have HOX12 := hide (HOX11.out.below hb); have HOY12 := hide (HOY11.out.below hb); obtain ⟨y120, y121, y122, y123, y124, y125, y126⟩ := HOX12.out.cells; obtain ⟨z120, z121, z122, z123, z124, z125, z126⟩ := HOY12.out.cells; clear hw hb)
        | (go_at_call_of 36 (Value.slice lam llm lcm); refine (equal_any _ _ _ (mL k lo) _ _ _ (mL k' lo') _ (J03.out.below HB12.out) (J13.out.below HB12.out)).mono ?_; rintro e w13 ⟨rfl, m3, hw⟩; rw [Q2.out]; have hb : Below w12.heap.size w12 w13 := (hw ▸ below_drewN _ m3); have HB13 := hide (Below.on HB12.out hb); have HOX13 := hide (HOX12.out.below hb); have HOY13 := hide (HOY12.out.below hb); obtain ⟨y130, y131, y132, y133, y134, y135, y136⟩ := HOX13.out.cells; obtain ⟨z130, z131, z132, z133, z134, z135, z136⟩ := HOY13.out.cells; clear hw hb)
        | (go_at_call_of 36 (Value.slice ham hlm hcm); refine (equal_any _ _ _ (mL k hi) _ _ _ (mL k' hi') _ (J04.out.below HB13.out) (J14.out.below HB13.out)).mono ?_; rintro e w14 ⟨rfl, m4, hw⟩; rw [Q3.out]; have hb : Below w13.heap.size w13 w14 := (hw ▸ below_drewN _ m4); have HB14 := hide (Below.on HB13.out hb); have HOX14 := hide (HOX13.out.below hb); have HOY14 := hide (HOY13.out.below hb); obtain ⟨y140, y141, y142, y143, y144, y145, y146⟩ := HOX14.out.cells; obtain ⟨z140, z141, z142, z143, z144, z145, z146⟩ := HOY14.out.cells; clear hw hb)
        | (go_at_call_of 36 (Value.slice tam tlm tcm); refine (equal_any _ _ _ (mL k st) _ _ _ (mL k' st') _ (J05.out.below HB14.out) (J15.out.below HB14.out)).mono ?_; rintro e w15 ⟨rfl, m5, hw⟩; rw [Q4.out]; have hb : Below w14.heap.size w14 w15 := (hw ▸ below_drewN _ m5); have HB15 := hide (Below.on HB14.out hb); have HOX15 := hide (HOX14.out.below hb); have HOY15 := hide (HOY14.out.below hb); obtain ⟨y150, y151, y152, y153, y154, y155, y156⟩ := HOX15.out.cells; obtain ⟨z150, z151, z152, z153, z154, z155, z156⟩ := HOY15.out.cells; clear hw hb))
      go_ret
      rw [HOE.out]
      exact ⟨rfl, HB15.out⟩
    have Q4 : Hid (decide (mL k st = mL k' st') = true) := decide_eq_true c6
    have HC6 := hide c6
    clear c6
    have HOE : Hid (opEq k k' (mX k x) (mX k' x') (mD k es) (mD k' es') (mA k ps) (mA k' ps') (mL k lo) (mL k' lo') (mL k hi) (mL k' hi') (mL k st) (mL k' st') = true) := by
      simp only [Hid, opEq, Bool.and_eq_true, decide_eq_true_eq]
      exact ⟨HC0.out, HC1.out, HC2.out, HC3.out, HC4.out, HC5.out, HC6.out⟩
    go_wp2_with (first
      | (go_at_call_of 36 (Value.slice eam elm ecm); refine (equal_any _ _ _ (mD k es) _ _ _ (mD k' es') _ (J01.out.below HB0.out) (J11.out.below HB0.out)).mono ?_; rintro e w11 ⟨rfl, m1, hw⟩; rw [Q0.out]; have hb : Below wc.heap.size wc w11 := (hw ▸ below_drewN _ m1); have HB11 := hide (Below.on HB0.out hb); have HOX11 := hide (HOX0.out.below hb); have HOY11 := hide (HOY0.out.below hb); obtain ⟨y110, y111, y112, y113, y114, y115, y116⟩ := HOX11.out.cells; obtain ⟨z110, z111, z112, z113, z114, z115, z116⟩ := HOY11.out.cells; clear hw hb)
      | (go_at_call_of 36 (Value.slice pam plm pcm); refine (equal_any _ _ _ (mA k ps) _ _ _ (mA k' ps') _ (J02.out.below HB11.out) (J12.out.below HB11.out)).mono ?_; rintro e w12 ⟨rfl, m2, hw⟩; rw [Q1.out]; have hb : Below w11.heap.size w11 w12 := (hw ▸ below_drewN _ m2); have HB12 := hide (Below.on HB11.out hb); have HOX12 := hide (HOX11.out.below hb); have HOY12 := hide (HOY11.out.below hb); obtain ⟨y120, y121, y122, y123, y124, y125, y126⟩ := HOX12.out.cells; obtain ⟨z120, z121, z122, z123, z124, z125, z126⟩ := HOY12.out.cells; clear hw hb)
      | (go_at_call_of 36 (Value.slice lam llm lcm); refine (equal_any _ _ _ (mL k lo) _ _ _ (mL k' lo') _ (J03.out.below HB12.out) (J13.out.below HB12.out)).mono ?_; rintro e w13 ⟨rfl, m3, hw⟩; rw [Q2.out]; have hb : Below w12.heap.size w12 w13 := (hw ▸ below_drewN _ m3); have HB13 := hide (Below.on HB12.out hb); have HOX13 := hide (HOX12.out.below hb); have HOY13 := hide (HOY12.out.below hb); obtain ⟨y130, y131, y132, y133, y134, y135, y136⟩ := HOX13.out.cells; obtain ⟨z130, z131, z132, z133, z134, z135, z136⟩ := HOY13.out.cells; clear hw hb)
      | (go_at_call_of 36 (Value.slice ham hlm hcm); refine (equal_any _ _ _ (mL k hi) _ _ _ (mL k' hi') _ (J04.out.below HB13.out) (J14.out.below HB13.out)).mono ?_; rintro e w14 ⟨rfl, m4, hw⟩; rw [Q3.out]; have hb : Below w13.heap.size w13 w14 := (hw ▸ below_drewN _ m4); have HB14 := hide (Below.on HB13.out hb); have HOX14 := hide (HOX13.out.below hb); have HOY14 := hide (HOY13.out.below hb); obtain ⟨y140, y141, y142, y143, y144, y145, y146⟩ := HOX14.out.cells; obtain ⟨z140, z141, z142, z143, z144, z145, z146⟩ := HOY14.out.cells; clear hw hb)
      | (go_at_call_of 36 (Value.slice tam tlm tcm); refine (equal_any _ _ _ (mL k st) _ _ _ (mL k' st') _ (J05.out.below HB14.out) (J15.out.below HB14.out)).mono ?_; rintro e w15 ⟨rfl, m5, hw⟩; rw [Q4.out]; have hb : Below w14.heap.size w14 w15 := (hw ▸ below_drewN _ m5); have HB15 := hide (Below.on HB14.out hb); have HOX15 := hide (HOX14.out.below hb); have HOY15 := hide (HOY14.out.below hb); obtain ⟨y150, y151, y152, y153, y154, y155, y156⟩ := HOX15.out.cells; obtain ⟨z150, z151, z152, z153, z154, z155, z156⟩ := HOY15.out.cells; clear hw hb))
    go_ret
    rw [HOE.out]
    exact ⟨rfl, HB15.out⟩
end Go.Proofs.Ytcidhbkdaleomaa.V
