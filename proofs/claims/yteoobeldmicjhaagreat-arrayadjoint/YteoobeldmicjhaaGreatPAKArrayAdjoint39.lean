/-
  Contracts: adjointlaw2.times, adjointlaw2.one of a Turn, adjointlaw2.alive. Contract: array.landing: where the entries of what is summed or padded go. Contract: array.work of Sum and Pad, over where entries land. Copying numbers into a row. Contract: array.work of Reform. Contract: adjointlaw2.alive.
-/
import Derived.Test.YteoobeldmicjhaaGreatPAKArrayAdjoint38
import Derived.Test.YteoobeldmicjhaaGreatPAKArrayAdjoint30
import Derived.Test.YteoobeldmicjhaaGreatPAKArrayAdjoint34
import Derived.Test.YteoobeldmicjhaaGreatPAKArrayAdjoint37
import Derived.Deep.Cut
import Derived.Laws.CopyOwn
namespace Go.Proofs.YteoobeldmicjhaaGreat.V
set_option maxRecDepth 20000
open Go.RowKit

/-- One number in a block. -/
theorem ints_one {w : World} {B : Nat} (x : Int) (hx : -9223372036854775808 ≤ x ∧ x ≤ 9223372036854775807) (t : TypeId) (h : w.heap.size = B) : Ints (w.alloc (.cells #[.int .i64 x] t)) (some ⟨B, 0, none⟩) 1 [x] := by
  subst h
  refine ⟨rfl, by omega, by simpa using hx, .inr ⟨_, _, rfl, fun j hj => ?_⟩⟩
  obtain rfl : j = 0 := by omega
  simp

end Go.Proofs.YteoobeldmicjhaaGreat.V
namespace Go.Proofs.YteoobeldmicjhaaGreat.V
set_option maxRecDepth 20000
open Go.RowKit
set_option linter.unusedVariables false

/-- A view that is answered, and what it reads. -/
def Landed (w : World) (Q : List Int) (e : Ending) (w' : World) : Prop := ∃ (s : Int) (da : Option Addr) (dl dc : Nat) (sa : Option Addr) (sl sc : Nat) (ds ss : List Int), e = .returned (.agg #[.int .i64 s, .slice da dl dc, .slice sa sl sc]) ∧ Ints w' da dl ds ∧ Ints w' sa sl ss ∧ wrongE s ds ss = 0 ∧ readsV s ds ss = Q
theorem size_view : (Tryz.prog.info? 68).map (·.size) = some 3 := by kernel_rfl
theorem okL_zero (l : List Int) : okL 0 l = l := by unfold okL; rw [if_pos rfl]
/-- A box of one list. -/
def fBxL (xs : List Int) : Fact := ⟨fun v w => ∃ B, v = .slice (some ⟨B, 0, none⟩) 1 1 ∧ Lsts w (some ⟨B, 0, none⟩) 1 [xs], false⟩
theorem fBxL_good (xs : List Int) : (fBxL xs).Good := ⟨fun _ _ _ ⟨B, h1, h2⟩ hb => ⟨B, h1, h2.below hb⟩, fun h => by cases h⟩
def fLsL (xs : List Int) : Fact := ⟨fun v w => ∃ X n c, v = .slice X n c ∧ Lst w X n c xs, false⟩
theorem fLsL_good (xs : List Int) : (fLsL xs).Good := ⟨fun _ _ _ ⟨X, n, c, h1, h2⟩ hb => ⟨X, n, c, h1, h2.below hb⟩, fun h => by cases h⟩
def fSpr (N : Nat) (da : Option Addr) (ds ss : List Int) : Fact := ⟨fun v w => ∃ (a : Option Addr) (l c : Nat) (b : Option Addr) (m d : Nat), v = .tuple #[.agg #[.int .i64 0, .slice a l c, .slice b m d], .int .i64 0] ∧ Ints w a l ds ∧ Ints w b m ss ∧ (a = da ∨ Far N a) ∧ Far N b, false⟩
theorem fSpr_good (N : Nat) (da : Option Addr) (ds ss : List Int) : (fSpr N da ds ss).Good := ⟨fun _ _ _ ⟨a, l, c, b, m, d, h1, h2, h3, h4⟩ hb => ⟨a, l, c, b, m, d, h1, h2.below hb, h3.below hb, h4⟩, fun h => by cases h⟩
def fVw (N : Nat) (da : Option Addr) (ds ss : List Int) : Fact := ⟨fun v w => ∃ (a : Option Addr) (l c : Nat) (b : Option Addr) (m d : Nat), v = .agg #[.int .i64 0, .slice a l c, .slice b m d] ∧ Ints w a l ds ∧ Ints w b m ss ∧ (a = da ∨ Far N a) ∧ Far N b, false⟩
theorem fVw_good (N : Nat) (da : Option Addr) (ds ss : List Int) : (fVw N da ds ss).Good := ⟨fun _ _ _ ⟨a, l, c, b, m, d, h1, h2, h3, h4⟩ hb => ⟨a, l, c, b, m, d, h1, h2.below hb, h3.below hb, h4⟩, fun h => by cases h⟩
theorem ints_keep {w W W' : World} {g n : Nat} {a : Option Addr} {xs : List Int} (h : Ints w a n xs) (hb : Below w.heap.size w W) (hs : Save g W W') (hg : w.heap.size ≤ g) : Ints W' a n xs := by
  obtain ⟨h1, h2, h3, h4⟩ := h
  refine ⟨h1, h2, h3, ?_⟩
  by_cases h0 : n = 0
  · exact .inl h0
  · rcases h4 with h4 | ⟨b, off, e, hc⟩
    · exact .inl h4
    · have hl := lt_of_cell (hc 0 (by omega))
      simp only at hl
      exact .inr ⟨b, off, e, fun j hj => (World.cell?_of_block (w := W) (hs.1 b (by have := hb.size; omega) (by omega))).trans ((hb.cell (p := ⟨b, off + j, none⟩) hl).trans (hc j hj))⟩
theorem ints_either2 {w w' : World} {a d : Option Addr} {n m N C : Nat} {xs ys : List Int} {x y z : Value} (hi : Ints w' a n xs) (hF : a = d ∨ Far N a) (hd : Ints w d m ys) (hnm : 0 < n → 0 < m) (hC : C < N) (hC1 : w.heap.size ≤ C) :
    Ints (((w'.setCell ⟨C, 0, none⟩ x).setCell ⟨C, 1, none⟩ y).setCell ⟨C, 2, none⟩ z) a n xs := by
  rcases hF with e | e
  · subst e
    by_cases h0 : n = 0
    · exact ⟨hi.1, hi.2.1, hi.2.2.1, .inl h0⟩
    · obtain ⟨b, o, rfl, hb, _⟩ := hd.at (hnm (by omega))
      exact ints_set3o hi (fun g o' e => by cases e; omega)
  · exact ints_putF hi e hC
theorem ints_either {w w' : World} {a d : Option Addr} {n m N C : Nat} {xs : List Int} {x y z : Value} (hi : Ints w' a n xs) (hF : a = d ∨ Far N a) (hd : Ints w d m xs) (hB : Below w.heap.size w (((w'.setCell ⟨C, 0, none⟩ x).setCell ⟨C, 1, none⟩ y).setCell ⟨C, 2, none⟩ z)) (hC : C < N) :
    Ints (((w'.setCell ⟨C, 0, none⟩ x).setCell ⟨C, 1, none⟩ y).setCell ⟨C, 2, none⟩ z) a n xs := by
  rcases hF with e | e
  · subst e
    have hl : n = m := hi.1.symm.trans hd.1
    subst hl
    exact hd.below hB
  · exact ints_putF hi e hC

set_option maxRecDepth 100000 in
set_option maxHeartbeats 4000000 in
theorem landing_sum (x : Int) (vd : Value) (pa : Option Addr) (pl pc : Nat) (ps : List Int) (la : Option Addr) (ll lc : Nat) (ha : Option Addr) (hl hc : Nat) (ta : Option Addr) (tl tc : Nat) (da : Option Addr) (dl dc : Nat) (ds : List Int) (ma : Option Addr) (ml mc : Nat) (ms : List Int) (w : World)
    (hp : Lst w pa pl pc ps) (hd : Ints w da dl ds) (hm : Ints w ma ml ms) (h6 : dl ≤ 6) (hO : Once ps dl) (hz : sizeE ms = 0) (hS : sprE 0 ms (stepsV ms) ds (freeL ps dl) = 0) (hW : wrongE 0 ds (sprS ds.length (stepsV ms) (freeL ps dl)) = 0) :
    Calls Tryz.prog 43 #[.agg #[.int .i64 10, vd, .slice pa pl pc, .slice la ll lc, .slice ha hl hc, .slice ta tl tc, .int .i64 x], .slice da dl dc, .slice ma ml mc] w fun e w' => Landed w (readsV 0 ds (sprS ds.length (stepsV ms) (freeL ps dl))) e w' ∧ Below w.heap.size w w' := by
  have HP := hide hp
  have HD := hide hd
  have HM := hide hm
  have HZ := hide hz
  have HB1 := hide (((Below.refl w.heap.size w).alloc (Nat.le_refl _) (.cells #[.int .i64 10, vd, .slice pa pl pc, .slice la ll lc, .slice ha hl hc, .slice ta tl tc, .int .i64 x] 31)).alloc (by simp) (.cells #[.int .i64 0, .slice none 0 0, .slice none 0 0] 68))
  have HOP := hide ((OpAt.new w 10 vd (.slice pa pl pc) (.slice la ll lc) (.slice ha hl hc) (.slice ta tl tc) x).alloc (.cells #[.int .i64 0, .slice none 0 0, .slice none 0 0] 68))
  have hres := ViewAt.new (w.alloc (.cells #[.int .i64 10, vd, .slice pa pl pc, .slice la ll lc, .slice ha hl hc, .slice ta tl tc, .int .i64 x] 31)) (.int .i64 0) (.slice none 0 0) (.slice none 0 0)
  simp only [World.size_alloc] at hres
  have HRS := hide hres
  have HO := hide hO
  have HS := hide hS
  have HW := hide hW
  clear hp hd hm hO hz hS hW hres
  go_enter Tryz.func43, Tryz.ntmps43
  go_wp2_with fail
  refine (whole_any _ _ _ ms _ (HM.out.below HB1.out) none).mono ?_
  rintro e w1 ⟨hgv, hb⟩
  rw [HZ.out] at hgv
  obtain ⟨a1, l1, c1, b1, m1, d1, rfl, hi1, hj1, _, hF, hG⟩ := hgv
  rw [okL_zero] at hi1 hj1
  have HBa := hide (Below.on HB1.out hb)
  have HOP1 := hide (HOP.out.below hb)
  have HRS1 := hide (HRS.out.below hb)
  have hsz1 : w.heap.size + 1 < w1.heap.size := HRS1.out.lt
  have hsz0 : w.heap.size < w1.heap.size := by omega
  obtain ⟨W2, hW2⟩ : ∃ W2, W2 = w1.alloc (.cells #[.int .i64 0, .slice a1 l1 c1, .slice b1 m1 d1] 68) := ⟨_, rfl⟩
  have HbW : Hid (Below w1.heap.size w1 W2) := by rw [Hid, hW2]; exact (Below.refl _ _).alloc (Nat.le_refl _) _
  have HI1 := hide (hi1.below HbW.out)
  have HJ1 := hide (hj1.below HbW.out)
  have HOP2 := hide (HOP1.out.below HbW.out)
  have HRS2 := hide (HRS1.out.below HbW.out)
  have HV2 : Hid (ViewAt W2 w1.heap.size (.int .i64 0) (.slice a1 l1 c1) (.slice b1 m1 d1)) := by rw [Hid, hW2]; exact ViewAt.new _ _ _ _
  have HB2 := hide (Below.on HBa.out HbW.out)
  obtain ⟨p0, p1, p2, p3, p4, p5, p6⟩ := HOP1.out.cells
  clear hi1 hj1 hF hG hb
  go_upto_region 3 with fail
  rw [← hW2]
  have HSW : Hid (W2.heap.size = w1.heap.size + 1) := by rw [Hid, hW2]; simp
  clear hW2 p0 p1 p2 p3 p4 p5 p6
  obtain ⟨o0, o1, o2, o3, o4, o5, o6⟩ := HOP2.out.cells
  obtain ⟨⟨v0, v1, v2⟩, fv0, fv1, fv2⟩ := HV2.out.cells
  refine region_made1 12 14 11 [fIs (.agg #[.int .i64 0, .slice a1 l1 c1, .slice b1 m1 d1]), fIs (.slice da dl dc), fIs (.slice da dl dc), fIs (.int .i64 (dl : Int)), fIs (.pointer (some ⟨w.heap.size, 2, none⟩)), fIs (.slice pa pl pc), fBxL ps, fLsL (freeL ps dl), fSpr W2.heap.size da ds (sprS ds.length (stepsV ms) (freeL ps dl)), fSpr W2.heap.size da ds (sprS ds.length (stepsV ms) (freeL ps dl)), fVw W2.heap.size da ds (sprS ds.length (stepsV ms) (freeL ps dl)), fIs (.int .i64 0)] (by kernel_rfl) (by kernel_rfl) (by kernel_rfl) (fun ch p q w3 e h => by obtain ⟨t1, d1x⟩ := p; obtain ⟨t2, d2x⟩ := q; cases e; exact h) ⟨fIs_good _, fIs_good _, fIs_good _, fIs_good _, fIs_good _, fIs_good _, fBxL_good _, fLsL_good _, fSpr_good _ _ _ _, fSpr_good _ _ _ _, fVw_good _ _ _ _, fIs_good _, trivial⟩ ?pure ?mk ?rest
  case pure =>
    intro o ho u wz hb hd
    cases ho
    obtain ⟨a3, l3, c3, b3, m3, d3, e9, _⟩ := hd 9 (by omega) (by kernel_rfl)
    refine ⟨.int .i64 0, fun w3 => ?_⟩
    simp only [List.take, putOps, Act.put, List.setIfInBounds_toArray, List.set_cons_zero, List.set_cons_succ, Nat.reduceAdd, e9]
    go_simp
  case mk =>
    refine ⟨fun u wz hb hd => ?_, fun u wz hb hd => ?_, fun u wz hb hd => ?_, fun u wz hb hd => ?_, fun u wz hb hd => ?_, fun u wz hb hd => ?_, fun u wz hb hd => ?_, fun u wz hb hd => ?_, fun u wz hb hd => ?_, fun u wz hb hd => ?_, fun u wz hb hd => ?_, fun u wz hb hd => ?_, trivial⟩
    all_goals simp only [Act.put, List.setIfInBounds_toArray, List.set_cons_zero, List.set_cons_succ]
    · have v0' := (hb.cell (p := ⟨w1.heap.size, 0, none⟩) (lt_of_cell v0)).trans v0
      have v1' := (hb.cell (p := ⟨w1.heap.size, 1, none⟩) (lt_of_cell v1)).trans v1
      have v2' := (hb.cell (p := ⟨w1.heap.size, 2, none⟩) (lt_of_cell v2)).trans v2
      go_simp
      exact ⟨rfl, Below.refl _ _, fun h => by cases h⟩
    · go_simp
      exact ⟨rfl, Below.refl _ _, fun h => by cases h⟩
    · go_simp
      exact ⟨rfl, Below.refl _ _, fun h => by cases h⟩
    · have e2 : u 2 = .slice da dl dc := hd 2 (by omega) (by kernel_rfl)
      rw [e2]
      go_simp
      exact ⟨rfl, Below.refl _ _, fun h => by cases h⟩
    · go_simp
      exact ⟨rfl, Below.refl _ _, fun h => by cases h⟩
    · have e4 : u 4 = .pointer (some ⟨w.heap.size, 2, none⟩) := hd 4 (by omega) (by kernel_rfl)
      rw [e4]
      have o2' := (hb.cell (p := ⟨w.heap.size, 2, none⟩) (lt_of_cell o2)).trans o2
      go_simp
      exact ⟨rfl, Below.refl _ _, fun h => by cases h⟩
    · have e5 : u 5 = .slice pa pl pc := hd 5 (by omega) (by kernel_rfl)
      rw [e5]
      go_simp
      exact ⟨⟨_, rfl, lsts_one' (HP.out.below (Below.on HB2.out hb)) 22 rfl⟩, (Below.refl _ _).alloc (Nat.le_refl _) _, fun h => by cases h⟩
    · have e3 : u 3 = .int .i64 (dl : Int) := hd 3 (by omega) (by kernel_rfl)
      obtain ⟨B6, e6, h6b⟩ := hd 6 (by omega) (by kernel_rfl)
      rw [e3, e6]
      go_simp
      refine (others_list dl _ 1 1 [ps] wz h6b (by omega)).mono ?_
      rintro e w9 ⟨⟨v9, rfl, ho9⟩, hb9⟩
      rw [oth_free, show [ps].flatten = ps by simp] at ho9
      obtain ⟨X9, n9, c9, rfl, hl9, _⟩ := newAt_own' ho9 (Nat.le_refl _) rfl (by have := freeL_len ps dl; omega) (fun x hx => by have := freeL_bd ps dl x hx; omega)
      exact ⟨⟨X9, n9, c9, rfl, hl9⟩, hb9, fun h => by cases h⟩
    · have e0 : u 0 = .agg #[.int .i64 0, .slice a1 l1 c1, .slice b1 m1 d1] := hd 0 (by omega) (by kernel_rfl)
      have e1 : u 1 = .slice da dl dc := hd 1 (by omega) (by kernel_rfl)
      obtain ⟨X7, n7, c7, e7, h7⟩ := hd 7 (by omega) (by kernel_rfl)
      rw [e0, e1, e7]
      go_simp
      refine (spread_any _ _ _ _ ms _ _ _ (stepsV ms) _ _ _ ds _ _ _ (freeL ps dl) wz (HI1.out.below hb) (HJ1.out.below hb) (HD.out.below (Below.on HB2.out hb)) h7.1).mono ?_
      rintro e w9 ⟨hgv, hb9⟩
      rw [HS.out] at hgv
      obtain ⟨a3, l3, c3, b3, m3, d3, rfl, hi3, hj3, _, hF3, hG3⟩ := hgv
      rw [okL_zero] at hi3 hj3
      simp only [okS, if_true]
      exact ⟨⟨a3, l3, c3, b3, m3, d3, rfl, hi3, hj3, hF3.imp id (fun h => far_mono h hb.size), far_mono hG3 hb.size⟩, hb9, fun h => by cases h⟩
    · obtain ⟨a3, l3, c3, b3, m3, d3, e8, hi3, hj3, hF3, hG3⟩ := hd 8 (by omega) (by kernel_rfl)
      rw [e8]
      go_simp
      exact ⟨⟨a3, l3, c3, b3, m3, d3, rfl, hi3, hj3, hF3, hG3⟩, Below.refl _ _, fun h => by cases h⟩
    · obtain ⟨a3, l3, c3, b3, m3, d3, e9, hi3, hj3, hF3, hG3⟩ := hd 9 (by omega) (by kernel_rfl)
      rw [e9]
      go_simp
      exact ⟨⟨a3, l3, c3, b3, m3, d3, rfl, hi3, hj3, hF3, hG3⟩, Below.refl _ _, fun h => by cases h⟩
    · obtain ⟨a3, l3, c3, b3, m3, d3, e9, _⟩ := hd 9 (by omega) (by kernel_rfl)
      rw [e9]
      go_simp
      exact ⟨rfl, Below.refl _ _, fun h => by cases h⟩
  case rest =>
    intro u wz hb hf hp
    have f0 : u 0 = .agg #[.int .i64 0, .slice a1 l1 c1, .slice b1 m1 d1] := hf 0 (by omega)
    have f1 : u 1 = .slice da dl dc := hf 1 (by omega)
    have f2 : u 2 = .slice da dl dc := hf 2 (by omega)
    have f3 : u 3 = .int .i64 (dl : Int) := hf 3 (by omega)
    have f4 : u 4 = .pointer (some ⟨w.heap.size, 2, none⟩) := hf 4 (by omega)
    have f5 : u 5 = .slice pa pl pc := hf 5 (by omega)
    obtain ⟨_, f6, _⟩ := hf 6 (by omega)
    obtain ⟨_, _, _, f7, _⟩ := hf 7 (by omega)
    obtain ⟨a8, l8, c8, b8, m8, d8, f8, _⟩ := hf 8 (by omega)
    obtain ⟨a9, l9, c9, b9, m9, d9, f9, _⟩ := hf 9 (by omega)
    obtain ⟨a3, l3, c3, b3, m3, d3, f10, hi3, hj3, hF3, hG3⟩ := hf 10 (by omega)
    have f11 : u 11 = .int .i64 0 := hf 11 (by omega)
    refine UptoW.rest 1 12 (by rfl) (by kernel_rfl) ?_
    simp only [List.take, List.drop, putOps, Act.put, List.setIfInBounds_toArray, List.set_cons_zero, List.set_cons_succ, Nat.reduceAdd, f0, f1, f2, f3, f4, f5, f6, f7, f8, f9, f10, f11]
    clear f0 f1 f2 f3 f4 f5 f6 f7 f8 f9 f10 f11 hf hp
    have HV3 := hide (HV2.out.below hb)
    have HRS3 := hide (HRS2.out.below hb)
    have HBz := hide (Below.on HB2.out hb)
    have hlv : w1.heap.size < W2.heap.size := by rw [HSW.out]; omega
    obtain ⟨⟨x0, x1, x2⟩, y0, y1, y2⟩ := HV3.out.cells
    have q1 := hide (view_put' (x := .int .i64 0) (y := .slice a3 l3 c3) (z := .slice b3 m3 d3) HV3.out)
    have HRS4 := hide (view_put (x := .int .i64 0) (y := .slice a3 l3 c3) (z := .slice b3 m3 d3) HRS3.out (show w.heap.size + 1 ≠ w1.heap.size by omega))
    have HBd := hide (below_put (x := .int .i64 0) (y := .slice a3 l3 c3) (z := .slice b3 m3 d3) HBz.out (show w.heap.size ≤ w1.heap.size by omega))
    have HJ4 := hide (ints_putF (x := .int .i64 0) (y := .slice a3 l3 c3) (z := .slice b3 m3 d3) hj3 hG3 hlv)
    have HI4 := hide (ints_either hi3 hF3 HD.out HBd.out hlv)
    have HF33 := hide hF3
    have HG33 := hide hG3
    clear hb hi3 hj3 hF3 hG3 o0 o1 o2 o3 o4 o5 o6 v0 v1 v2 fv0 fv1 fv2
    refine wpList_plain rfl (fun K hK => ?_)
    go_simp
    refine hK _ _ (wpList_nil ?_)
    clear hK K x0 x1 x2 y0 y1 y2
    obtain ⟨Wd, hWd⟩ : ∃ Wd, Wd = ((wz.setCell ⟨w1.heap.size, 0, none⟩ (.int .i64 0)).setCell ⟨w1.heap.size, 1, none⟩ (.slice a3 l3 c3)).setCell ⟨w1.heap.size, 2, none⟩ (.slice b3 m3 d3) := ⟨_, rfl⟩
    rw [← hWd] at q1 HRS4 HBd HJ4 HI4 ⊢
    clear hWd
    obtain ⟨⟨x0, x1, x2⟩, y0, y1, y2⟩ := q1.out.cells
    obtain ⟨⟨z0, z1, z2⟩, t0, t1, t2⟩ := HRS4.out.cells
    go_wp2
    have hC : w.heap.size + 1 < W2.heap.size := by rw [HSW.out]; omega
    have HBe := below_put (x := .int .i64 0) (y := .slice a3 l3 c3) (z := .slice b3 m3 d3) HBd.out (show w.heap.size ≤ w.heap.size + 1 by omega)
    have HJe := ints_putF (x := .int .i64 0) (y := .slice a3 l3 c3) (z := .slice b3 m3 d3) HJ4.out HG33.out hC
    have HIe := ints_either HI4.out HF33.out HD.out HBe hC
    have HFIN := view_put' (x := .int .i64 0) (y := .slice a3 l3 c3) (z := .slice b3 m3 d3) HRS4.out
    refine bodyPost_ret (results_cell_row Tryz.results43 _ _ (w.heap.size + 1) 68 #[.int .i64 0, .slice a3 l3 c3, .slice b3 m3 d3] (0, 0) _ rfl HFIN Tryz.underlying68 rfl size_view) rfl ⟨⟨0, a3, l3, c3, b3, m3, d3, ds, _, rfl, HIe, HJe, HW.out, rfl⟩, HBe⟩

/-- Where what is padded ends. -/
def endL (ms hi : List Int) : List Int := (List.range ms.length).map fun j => ms[j]?.getD 0 - hi[j]?.getD 0
theorem endL_length (ms hi : List Int) : (endL ms hi).length = ms.length := by simp [endL]
theorem endL_at (ms hi : List Int) (j : Nat) (h : j < ms.length) : (endL ms hi)[j]?.getD 0 = ms[j]?.getD 0 - hi[j]?.getD 0 := by simp [endL, h]

set_option maxRecDepth 100000 in
set_option maxHeartbeats 4000000 in
theorem landing_pad (x : Int) (vd : Value) (pa : Option Addr) (pl pc : Nat) (la : Option Addr) (ll lc : Nat) (lo : List Int) (ha : Option Addr) (hl hc : Nat) (hi : List Int) (ta : Option Addr) (tl tc : Nat) (st : List Int) (dv : Value) (ma : Option Addr) (ml mc : Nat) (ms : List Int) (w : World)
    (hlo : Ints w la ll lo) (hhi : Ints w ha hl hi) (hst : Ints w ta tl st) (hm : Ints w ma ml ms) (h6 : ml ≤ 6) (hhl : hl = ml) (hbd : ∀ j, j < ml → (0 ≤ hi[j]?.getD 0 ∧ hi[j]?.getD 0 ≤ 4096) ∧ 0 ≤ ms[j]?.getD 0 ∧ ms[j]?.getD 0 ≤ 4096) (hz : sizeE ms = 0) (hS : cutE 0 ms (stepsV ms) lo (endL ms hi) st = 0) (hW : wrongE (cutAcc 0 (stepsV ms) lo ms.length) (cutD ms lo (endL ms hi) st) (cutS (stepsV ms) st) = 0) :
    Calls Tryz.prog 43 #[.agg #[.int .i64 14, vd, .slice pa pl pc, .slice la ll lc, .slice ha hl hc, .slice ta tl tc, .int .i64 x], dv, .slice ma ml mc] w fun e w' => Landed w (readsV (cutAcc 0 (stepsV ms) lo ms.length) (cutD ms lo (endL ms hi) st) (cutS (stepsV ms) st)) e w' ∧ Below w.heap.size w w' := by
  have HLO := hide hlo
  have HHI := hide hhi
  have HST := hide hst
  have HM := hide hm
  have HZ := hide hz
  have HB1 := hide (((Below.refl w.heap.size w).alloc (Nat.le_refl _) (.cells #[.int .i64 14, vd, .slice pa pl pc, .slice la ll lc, .slice ha hl hc, .slice ta tl tc, .int .i64 x] 31)).alloc (by simp) (.cells #[.int .i64 0, .slice none 0 0, .slice none 0 0] 68))
  have HOP := hide ((OpAt.new w 14 vd (.slice pa pl pc) (.slice la ll lc) (.slice ha hl hc) (.slice ta tl tc) x).alloc (.cells #[.int .i64 0, .slice none 0 0, .slice none 0 0] 68))
  have hres := ViewAt.new (w.alloc (.cells #[.int .i64 14, vd, .slice pa pl pc, .slice la ll lc, .slice ha hl hc, .slice ta tl tc, .int .i64 x] 31)) (.int .i64 0) (.slice none 0 0) (.slice none 0 0)
  simp only [World.size_alloc] at hres
  have HRS := hide hres
  clear hres
  obtain ⟨o0, o1, o2, o3, o4, o5, o6⟩ := HOP.out.cells
  have HBD := hide hbd
  have HS := hide hS
  have HW := hide hW
  have HML := hide hm.1
  subst hhl
  clear hlo hhi hst hm hbd hz hS hW
  go_enter Tryz.func43, Tryz.ntmps43
  go_wp2_with (first
    | (go_at_call 60; refine (afresh_any _ _ _ ms _ (HM.out.below HB2.out) (by omega)).mono ?_; rintro e w2 ⟨⟨g, rfl, hr, hg⟩, hb⟩; have HR := hide hr; have hg2 := hg; have hgl := hr.lt; simp only [World.size_alloc] at hg2; have HBb := hide (Below.on HB2.out hb); have HV2 := hide (HV1.out.below hb); have HOP2 := hide (HOP1.out.below hb); have HRS2 := hide (HRS1.out.below hb); have HC2 := hide hb; clear hr hg hb o0 o1 o2 o3 o4 o5 o6 v0 v1 v2 fv0 fv1 fv2; obtain ⟨o0, o1, o2, o3, o4, o5, o6⟩ := HOP2.out.cells)
    | (go_at_call 71; refine (whole_any _ _ _ ms _ (HM.out.below HB1.out) none).mono ?_; rintro e w1 ⟨hgv, hb⟩; rw [HZ.out] at hgv; obtain ⟨a1, l1, c1, b1, m1, d1, rfl, hi1, hj1, _, hF, hG⟩ := hgv; have e1 : ∀ l, okL 0 l = l := (fun l => by unfold okL; rw [if_pos rfl]); rw [e1] at hi1 hj1; have HIo := hide hi1; have HI1 := hide (hi1.below ((Below.refl _ _).alloc (Nat.le_refl _) (.cells #[.int .i64 0, .slice a1 l1 c1, .slice b1 m1 d1] 68))); have HJ1 := hide (hj1.below ((Below.refl _ _).alloc (Nat.le_refl _) (.cells #[.int .i64 0, .slice a1 l1 c1, .slice b1 m1 d1] 68))); have HOP1 := hide ((HOP.out.below hb).alloc (.cells #[.int .i64 0, .slice a1 l1 c1, .slice b1 m1 d1] 68)); have HV1 := hide (ViewAt.new w1 (.int .i64 0) (.slice a1 l1 c1) (.slice b1 m1 d1)); have HBa := hide (Below.on HB1.out hb); have HB2 := hide (HBa.out.alloc HBa.out.size (.cells #[.int .i64 0, .slice a1 l1 c1, .slice b1 m1 d1] 68)); have hs1 := HB1.out.size; have hs2 := hb.size; have HRS1 := hide ((HRS.out.below hb).alloc (.cells #[.int .i64 0, .slice a1 l1 c1, .slice b1 m1 d1] 68)); have hrl := (HRS.out.below hb).lt; have HF1 := hide (far_or hF (far_none _)); clear hi1 hj1 hF hG hb e1 o0 o1 o2 o3 o4 o5 o6; obtain ⟨o0, o1, o2, o3, o4, o5, o6⟩ := HOP1.out.cells; obtain ⟨⟨v0, v1, v2⟩, fv0, fv1, fv2⟩ := HV1.out.cells))
  go_loopw [38] (fun i wr => ∃ t : Nat, t ≤ hl ∧ i = .int .i64 t ∧ wr.rowIs g 3 hl (onWay (endL ms hi) ms t) ∧ Save g w2 wr) (fun i _ => hl - (intOf i).toNat)
  case atStart => exact ⟨0, Nat.zero_le _, rfl, onWay_zero HR.out, ⟨fun _ _ _ => rfl, Below.refl _ _⟩⟩
  case round =>
    obtain ⟨t, ht, rfl, hrow, hsv⟩ := hrel
    have HRW := hide hrow
    have HSV := hide hsv
    have hw1 : w.heap.size ≤ w1.heap.size := HBa.out.size
    have hlv := HV2.out.lt
    have hlo2 := HOP2.out.lt
    have HOP3 : Hid (OpAt wr w.heap.size _ _ _ _ _ _ _) := (hsv.1 w.heap.size hlo2 (by omega)).trans HOP2.out
    have HV3' : Hid (ViewAt wr w1.heap.size _ _ _) := (hsv.1 w1.heap.size hlv (by omega)).trans HV2.out
    have HBr := hide (Save.below HBb.out hsv (by omega) (Nat.le_refl _))
    have HRS3 : Hid (ViewAt wr (w.heap.size + 1) _ _ _) := (hsv.1 (w.heap.size + 1) HRS2.out.lt (by omega)).trans HRS2.out
    clear hrow hsv o0 o1 o2 o3 o4 o5 o6
    by_cases hlt : t < hl
    · obtain ⟨b, off, rfl, _, hc⟩ := (HHI.out.below HBr.out).at (by omega)
      have hck := hc t hlt
      have hbd := HBD.out t hlt
      have hr := HRW.out.cell hlt
      have hf := HRW.out.frozen t
      have HEND : Hid ((endL ms hi)[t]?.getD 0 = ms[t]?.getD 0 - hi[t]?.getD 0) := endL_at ms hi t (by rw [HML.out]; exact hlt)
      rw [onWay, if_neg (by omega)] at hr
      obtain ⟨X, hX⟩ : ∃ X, X = hi[t]?.getD 0 := ⟨_, rfl⟩
      obtain ⟨Y, hY⟩ : ∃ Y, Y = ms[t]?.getD 0 := ⟨_, rfl⟩
      rw [← hX] at hck hbd HEND
      rw [← hY] at hr hbd HEND
      obtain ⟨⟨x0, x1⟩, y0, y1⟩ := hbd
      clear hc hX hY
      go_wp2
      go_roundw
      case rel =>
        refine ⟨t + 1, by omega, by go_num, (HRW.out.set t (.int .i64 (Y - X))).congr (fun j _ => ?_), ⟨fun c h1 h2 => (Below.heap_setCell _ ⟨g, t, none⟩ _ c (by simpa using h2)).trans (HSV.out.1 c h1 h2), HSV.out.2.setCell (p := ⟨g, t, none⟩) (Nat.zero_le _) _⟩⟩
        rw [← onWay_succ, HEND.out]
      case measure => simp [intOf]; omega
    · obtain rfl : t = hl := by omega
      have hrA := onWay_all HRW.out
      have HEN : Hid (Ints wr (some ⟨g, 0, none⟩) t (endL ms hi)) := ints_of_rowI hrA (by rw [endL_length, HML.out]) (by omega) (fun x hx => by
        simp only [endL, List.mem_map, List.mem_range] at hx
        obtain ⟨j, hj, rfl⟩ := hx
        rw [HML.out] at hj
        have := HBD.out j hj
        omega)
      have hg3 : (w1.alloc (.cells #[.int .i64 0, .slice a1 l1 c1, .slice b1 m1 d1] 68)).heap.size ≤ g := by simp only [World.size_alloc]; exact hg2
      have HI2 : Hid (Ints wr a1 l1 ms) := ints_keep HI1.out HC2.out HSV.out hg3
      have HJ2 : Hid (Ints wr b1 m1 (stepsV ms)) := ints_keep HJ1.out HC2.out HSV.out hg3
      obtain ⟨o0, o1, o2, o3, o4, o5, o6⟩ := HOP3.out.cells
      obtain ⟨⟨v0, v1, v2⟩, fv0, fv1, fv2⟩ := HV3'.out.cells
      clear hrA hg3
      go_wp2_with (first
        | (go_at_call 74; refine (cut_any _ _ _ _ ms _ _ _ (stepsV ms) _ _ _ lo _ _ _ (endL ms hi) _ _ _ st _ HI2.out HJ2.out (HLO.out.below HBr.out) HEN.out (HST.out.below HBr.out)).mono ?_; rintro e w3 ⟨hgv, hb⟩; rw [HS.out] at hgv; obtain ⟨a3, l3, c3, b3, m3, d3, rfl, hi3, hj3, _, hF3, hG3⟩ := hgv; have e1 : ∀ l, okL 0 l = l := (fun l => by unfold okL; rw [if_pos rfl]); rw [e1] at hi3 hj3; simp only [okS, if_true]; have HV3 := hide (HV3'.out.below hb); have HBc := hide (Below.on HBr.out hb); have hlv := HV3'.out.lt; have hsv := hb.size; have q1 := view_put' (x := .int .i64 (cutAcc 0 (stepsV ms) lo ms.length)) (y := .slice a3 l3 c3) (z := .slice b3 m3 d3) HV3.out; have HBd := hide (below_put (x := .int .i64 (cutAcc 0 (stepsV ms) lo ms.length)) (y := .slice a3 l3 c3) (z := .slice b3 m3 d3) HBc.out hw1); have HJ4 := hide (ints_putF (x := .int .i64 (cutAcc 0 (stepsV ms) lo ms.length)) (y := .slice a3 l3 c3) (z := .slice b3 m3 d3) hj3 hG3 hlv); have HI4 := hide (ints_either2 (x := .int .i64 (cutAcc 0 (stepsV ms) lo ms.length)) (y := .slice a3 l3 c3) (z := .slice b3 m3 d3) hi3 hF3 HIo.out (fun h => by have e2 := hi3.1; have e3 := HIo.out.1; rw [cutD_length] at e2; omega) hlv (Nat.le_refl _)); obtain ⟨⟨u0, u1, u2⟩, _⟩ := HV3.out.cells; obtain ⟨_, g0, g1, g2⟩ := HV3.out.cells; have HF33 := hide hF3; have HG33 := hide hG3; clear v0 v1 v2 fv0 fv1 fv2 hi3 hj3 hF3 hG3 e1; obtain ⟨⟨x0, x1, x2⟩, _⟩ := q1.cells; have HRS4 := hide (view_put (x := .int .i64 (cutAcc 0 (stepsV ms) lo ms.length)) (y := .slice a3 l3 c3) (z := .slice b3 m3 d3) (HRS3.out.below hb) (show w.heap.size + 1 ≠ w1.heap.size by omega)); obtain ⟨⟨r0, r1, r2⟩, t0, t1, t2⟩ := HRS4.out.cells; clear q1 hb))
      have hC : w.heap.size + 1 < wr.heap.size := HRS3.out.lt
      have HBe := below_put (x := .int .i64 (cutAcc 0 (stepsV ms) lo ms.length)) (y := .slice a3 l3 c3) (z := .slice b3 m3 d3) HBd.out (show w.heap.size ≤ w.heap.size + 1 by omega)
      have HJe := ints_putF (x := .int .i64 (cutAcc 0 (stepsV ms) lo ms.length)) (y := .slice a3 l3 c3) (z := .slice b3 m3 d3) HJ4.out HG33.out hC
      have HIe := ints_set3o (a := .int .i64 (cutAcc 0 (stepsV ms) lo ms.length)) (b := .slice a3 l3 c3) (c := .slice b3 m3 d3) (B := w.heap.size + 1) HI4.out (fun gg oo ee => by
        rcases HF33.out with e5 | e5
        · have := HF1.out gg oo (e5 ▸ ee)
          simp at this
          omega
        · have := e5 gg oo ee
          omega)
      have HFIN := view_put' (x := .int .i64 (cutAcc 0 (stepsV ms) lo ms.length)) (y := .slice a3 l3 c3) (z := .slice b3 m3 d3) HRS4.out
      refine bodyPost_ret (results_cell_row Tryz.results43 _ _ (w.heap.size + 1) 68 #[.int .i64 (cutAcc 0 (stepsV ms) lo ms.length), .slice a3 l3 c3, .slice b3 m3 d3] (0, 0) _ rfl HFIN Tryz.underlying68 rfl size_view) rfl ⟨⟨_, a3, l3, c3, b3, m3, d3, _, _, rfl, HIe, HJe, HW.out, rfl⟩, HBe⟩
end Go.Proofs.YteoobeldmicjhaaGreat.V
namespace Go.Proofs.YteoobeldmicjhaaGreat.V
set_option maxRecDepth 20000
open Go.RowKit

/-- A view, and what it reads. -/
def fLand (Q : List Int) : Fact := ⟨fun v w => ∃ (s : Int) (da : Option Addr) (dl dc : Nat) (sa : Option Addr) (sl sc : Nat) (ds ss : List Int), v = .agg #[.int .i64 s, .slice da dl dc, .slice sa sl sc] ∧ Ints w da dl ds ∧ Ints w sa sl ss ∧ wrongE s ds ss = 0 ∧ readsV s ds ss = Q, false⟩
theorem fLand_good (Q : List Int) : (fLand Q).Good := ⟨fun _ _ _ ⟨s, da, dl, dc, sa, sl, sc, ds, ss, h1, h2, h3, h4⟩ hb => ⟨s, da, dl, dc, sa, sl, sc, ds, ss, h1, h2.below hb, h3.below hb, h4⟩, fun h => by cases h⟩
theorem Save.on {g : Nat} {w w1 w2 : World} (h : Below w.heap.size w w1) (h2 : Save g w1 w2) : Save g w w2 :=
  ⟨fun c hc hne => (h2.1 c (by have := h.size; omega) hne).trans (h.block c hc), (h.mono (Nat.zero_le _)).trans h2.2⟩
theorem replicate_zero_at (n j : Nat) : (List.replicate n (0 : Int))[j]?.getD 0 = 0 := by
  by_cases h : j < n <;> simp [h]

set_option maxRecDepth 100000 in
set_option maxHeartbeats 4000000 in
theorem work_land (k x : Int) (hk : k = 10 ∨ k = 14) (vd va vl vh vs : Value) (Z : Option Addr) (nz cz g n : Nat) (b off m cap : Nat) (da : Option Addr) (dl dc : Nat) (xa : Option Addr) (xl xc : Nat) (xs Q : List Int) (w : World) (hm : 0 < m)
    (h0 : w.cell? ⟨b, off, none⟩ = some (.slice da dl dc)) (h1 : w.cell? ⟨b, off + 1, none⟩ = some (.slice xa xl xc)) (ix : Ints w xa xl xs) (ox : 0 < xl → OffG g xa) (hrow : w.rowIs g 2 n (fun _ => .int .i64 0)) (hQ : xl ≤ Q.length) (hq : ∀ i, i < xl → 0 ≤ Q[i]?.getD 0 ∧ Q[i]?.getD 0 < n)
    (hland : ∀ W, Below w.heap.size w W → Calls Tryz.prog 43 #[.agg #[.int .i64 k, vd, va, vl, vh, vs, .int .i64 x], .slice da dl dc, .slice Z nz cz] W fun e W' => Landed W Q e W' ∧ Below W.heap.size W W') :
    Calls Tryz.prog 24 #[.agg #[.slice Z nz cz, .slice (some ⟨g, 0, none⟩) n n], .agg #[.int .i64 k, vd, va, vl, vh, vs, .int .i64 x], .slice (some ⟨b, off, none⟩) m cap] w fun e w' => e = .returned (.tuple #[]) ∧ w'.rowIs g 2 n (fun j => .int .i64 ((addS (List.replicate n 0) Q xs xl)[j]?.getD 0)) ∧ Save g w w' := by
  have hgl : g < w.heap.size := hrow.lt
  have HB1 := hide ((Below.refl w.heap.size w).alloc (Nat.le_refl _) (.cells #[.slice Z nz cz, .slice (some ⟨g, 0, none⟩) n n] 25))
  have HB2 := hide (HB1.out.alloc HB1.out.size (.cells #[.int .i64 k, vd, va, vl, vh, vs, .int .i64 x] 31))
  have HAR := hide ((ArrAt.new w (.slice Z nz cz) (.slice (some ⟨g, 0, none⟩) n n)).alloc (.cells #[.int .i64 k, vd, va, vl, vh, vs, .int .i64 x] 31))
  have hop := OpAt.new (w.alloc (.cells #[.slice Z nz cz, .slice (some ⟨g, 0, none⟩) n n] 25)) k vd va vl vh vs x
  simp only [World.size_alloc] at hop
  have HOP := hide hop
  obtain ⟨⟨r0, r1⟩, _⟩ := HAR.out.cells
  obtain ⟨o0, o1, o2, o3, o4, o5, o6⟩ := HOP.out.cells
  have k0 := (HB2.out.cell (p := ⟨b, off, none⟩) (lt_of_cell h0)).trans h0
  have k1 := (HB2.out.cell (p := ⟨b, off + 1, none⟩) (lt_of_cell h1)).trans h1
  have i0 : (0 : Int) < (m : Int) := by omega
  have HR := hide hrow
  have HLN := hide hland
  have HX := hide ix
  have HOX := hide ox
  have HQ := hide hQ
  have HQB := hide hq
  clear h0 h1 hrow hop hland ix ox hQ hq
  obtain ⟨q12, q1014⟩ : (k == 12) = false ∧ ((k == 10) = true ∨ ((k == 10) = false ∧ (k == 14) = true)) := by
    rcases hk with rfl | rfl <;> decide
  clear hk
  rcases q1014 with q10 | ⟨q10, q14⟩
  all_goals go_enter Tryz.func24, Tryz.ntmps24
  all_goals go_wp2_with fail
  all_goals (
    refine region_made 14 16 [fIs (.pointer (some ⟨w.heap.size, 1, none⟩)), fIs (.slice (some ⟨g, 0, none⟩) n n), fIs (.agg #[.int .i64 k, vd, va, vl, vh, vs, .int .i64 x]), fIs (.slice (some ⟨b, off, none⟩) m cap), fIs (.pointer (some ⟨b, off, none⟩)), fIs (.pointer (some ⟨b, off, none⟩)), fIs (.slice da dl dc), fIs (.pointer (some ⟨w.heap.size, 0, none⟩)), fIs (.slice Z nz cz), fLand Q, fIs (.slice (some ⟨b, off, none⟩) m cap), fIs (.pointer (some ⟨b, off, none⟩)), fIs (.pointer (some ⟨b, off + 1, none⟩)), fIs (.slice xa xl xc)] (by kernel_rfl) (by kernel_rfl) (by kernel_rfl) (fun _ ⟨_, _⟩ ⟨_, _⟩ _ e h => by cases e; exact h) ⟨fIs_good _, fIs_good _, fIs_good _, fIs_good _, fIs_good _, fIs_good _, fIs_good _, fIs_good _, fIs_good _, fLand_good _, fIs_good _, fIs_good _, fIs_good _, fIs_good _, trivial⟩ ?mk ?rest
    case mk =>
      refine ⟨fun u wz hb hd => ?_, fun u wz hb hd => ?_, fun u wz hb hd => ?_, fun u wz hb hd => ?_, fun u wz hb hd => ?_, fun u wz hb hd => ?_, fun u wz hb hd => ?_, fun u wz hb hd => ?_, fun u wz hb hd => ?_, fun u wz hb hd => ?_, fun u wz hb hd => ?_, fun u wz hb hd => ?_, fun u wz hb hd => ?_, fun u wz hb hd => ?_, trivial⟩
      all_goals simp only [Act.put, List.setIfInBounds_toArray, List.set_cons_zero, List.set_cons_succ]
      · go_simp
        exact ⟨rfl, Below.refl _ _, fun h => by cases h⟩
      · have e0 : u 0 = .pointer (some ⟨w.heap.size, 1, none⟩) := hd 0 (by omega) (by kernel_rfl)
        rw [e0]
        have r1' := (hb.cell (p := ⟨w.heap.size, 1, none⟩) (lt_of_cell r1)).trans r1
        go_simp
        exact ⟨rfl, Below.refl _ _, fun h => by cases h⟩
      · have o0' := (hb.cell (p := ⟨w.heap.size + 1, 0, none⟩) (lt_of_cell o0)).trans o0
        have o1' := (hb.cell (p := ⟨w.heap.size + 1, 1, none⟩) (lt_of_cell o1)).trans o1
        have o2' := (hb.cell (p := ⟨w.heap.size + 1, 2, none⟩) (lt_of_cell o2)).trans o2
        have o3' := (hb.cell (p := ⟨w.heap.size + 1, 3, none⟩) (lt_of_cell o3)).trans o3
        have o4' := (hb.cell (p := ⟨w.heap.size + 1, 4, none⟩) (lt_of_cell o4)).trans o4
        have o5' := (hb.cell (p := ⟨w.heap.size + 1, 5, none⟩) (lt_of_cell o5)).trans o5
        have o6' := (hb.cell (p := ⟨w.heap.size + 1, 6, none⟩) (lt_of_cell o6)).trans o6
        go_simp
        exact ⟨rfl, Below.refl _ _, fun h => by cases h⟩
      · go_simp
        exact ⟨rfl, Below.refl _ _, fun h => by cases h⟩
      · have e3 : u 3 = .slice (some ⟨b, off, none⟩) m cap := hd 3 (by omega) (by kernel_rfl)
        rw [e3]
        go_simp
        exact ⟨rfl, Below.refl _ _, fun h => by cases h⟩
      · have e4 : u 4 = .pointer (some ⟨b, off, none⟩) := hd 4 (by omega) (by kernel_rfl)
        rw [e4]
        go_simp
        exact ⟨rfl, Below.refl _ _, fun h => by cases h⟩
      · have e5 : u 5 = .pointer (some ⟨b, off, none⟩) := hd 5 (by omega) (by kernel_rfl)
        rw [e5]
        have k0' := (hb.cell (p := ⟨b, off, none⟩) (lt_of_cell k0)).trans k0
        go_simp
        exact ⟨rfl, Below.refl _ _, fun h => by cases h⟩
      · go_simp
        exact ⟨rfl, Below.refl _ _, fun h => by cases h⟩
      · have e7 : u 7 = .pointer (some ⟨w.heap.size, 0, none⟩) := hd 7 (by omega) (by kernel_rfl)
        rw [e7]
        have r0' := (hb.cell (p := ⟨w.heap.size, 0, none⟩) (lt_of_cell r0)).trans r0
        go_simp
        exact ⟨rfl, Below.refl _ _, fun h => by cases h⟩
      · have e2 : u 2 = .agg #[.int .i64 k, vd, va, vl, vh, vs, .int .i64 x] := hd 2 (by omega) (by kernel_rfl)
        have e6 : u 6 = .slice da dl dc := hd 6 (by omega) (by kernel_rfl)
        have e8 : u 8 = .slice Z nz cz := hd 8 (by omega) (by kernel_rfl)
        rw [e2, e6, e8]
        go_simp
        refine (HLN.out wz (Below.on HB2.out hb)).mono ?_
        rintro e w2 ⟨⟨s2, a2, l2, c2, b2, m2, d2, D2, S2, rfl, hi2, hj2, hk2, hq2⟩, hb2⟩
        exact ⟨⟨s2, a2, l2, c2, b2, m2, d2, D2, S2, rfl, hi2, hj2, hk2, hq2⟩, hb2, fun h => by cases h⟩
      · go_simp
        exact ⟨rfl, Below.refl _ _, fun h => by cases h⟩
      · have e10 : u 10 = .slice (some ⟨b, off, none⟩) m cap := hd 10 (by omega) (by kernel_rfl)
        rw [e10]
        go_simp
        exact ⟨rfl, Below.refl _ _, fun h => by cases h⟩
      · have e11 : u 11 = .pointer (some ⟨b, off, none⟩) := hd 11 (by omega) (by kernel_rfl)
        rw [e11]
        go_simp
        exact ⟨rfl, Below.refl _ _, fun h => by cases h⟩
      · have e12 : u 12 = .pointer (some ⟨b, off + 1, none⟩) := hd 12 (by omega) (by kernel_rfl)
        rw [e12]
        have k1' := (hb.cell (p := ⟨b, off + 1, none⟩) (lt_of_cell k1)).trans k1
        go_simp
        exact ⟨rfl, Below.refl _ _, fun h => by cases h⟩
    case rest =>
      intro u wz hb hf hp
      have f0 : u 0 = .pointer (some ⟨w.heap.size, 1, none⟩) := hf 0 (by omega)
      have f1 : u 1 = .slice (some ⟨g, 0, none⟩) n n := hf 1 (by omega)
      have f2 : u 2 = .agg #[.int .i64 k, vd, va, vl, vh, vs, .int .i64 x] := hf 2 (by omega)
      have f3 : u 3 = .slice (some ⟨b, off, none⟩) m cap := hf 3 (by omega)
      have f4 : u 4 = .pointer (some ⟨b, off, none⟩) := hf 4 (by omega)
      have f5 : u 5 = .pointer (some ⟨b, off, none⟩) := hf 5 (by omega)
      have f6 : u 6 = .slice da dl dc := hf 6 (by omega)
      have f7 : u 7 = .pointer (some ⟨w.heap.size, 0, none⟩) := hf 7 (by omega)
      have f8 : u 8 = .slice Z nz cz := hf 8 (by omega)
      obtain ⟨s9, a9, l9, c9, b9, m9, d9, D9, S9, f9, i9, j9, k9, q9⟩ := hf 9 (by omega)
      have f10 : u 10 = .slice (some ⟨b, off, none⟩) m cap := hf 10 (by omega)
      have f11 : u 11 = .pointer (some ⟨b, off, none⟩) := hf 11 (by omega)
      have f12 : u 12 = .pointer (some ⟨b, off + 1, none⟩) := hf 12 (by omega)
      have f13 : u 13 = .slice xa xl xc := hf 13 (by omega)
      refine UptoW.rest 1 14 (by rfl) (by kernel_rfl) ?_
      simp only [List.take, List.drop, putOps, Act.put, List.setIfInBounds_toArray, List.set_cons_zero, List.set_cons_succ, Nat.reduceAdd, f0, f1, f2, f3, f4, f5, f6, f7, f8, f9, f10, f11, f12, f13]
      clear f0 f1 f2 f3 f4 f5 f6 f7 f8 f9 f10 f11 f12 f13 hf hp
      refine wpList_plain rfl (fun K hK => ?_)
      go_simp
      have HBz := hide (Below.on HB2.out hb)
      refine (add_any g n (List.replicate n 0) s9 a9 l9 c9 D9 b9 m9 d9 S9 Q xa xl xc xs wz (by simp) ((HR.out.of_block (HBz.out.block g hgl)).congr (fun j _ => by rw [replicate_zero_at])) i9 j9 k9 q9 (HX.out.below HBz.out) HOX.out HQ.out HQB.out).mono ?_
      rintro e w4 ⟨rfl, hr4, hsv4⟩
      refine hK _ _ (wpList_nil ?_)
      clear hK K
      go_wp2
      exact bodyPost_end (v := .tuple #[]) (by simp [results, Tryz.results24, go_sem]) rfl ⟨rfl, hr4, Save.on HBz.out hsv4⟩)
end Go.Proofs.YteoobeldmicjhaaGreat.V
namespace Go.Proofs.YteoobeldmicjhaaGreat.V
set_option maxRecDepth 20000
open Go Go.RowKit

/-- Some numbers of a list are put in the place of others. -/
def copyL (zs : List Int) (off : Nat) (ys : List Int) : List Int := zs.take off ++ (ys ++ zs.drop (off + ys.length))
theorem copyL_length (zs : List Int) (off : Nat) (ys : List Int) (h : off + ys.length ≤ zs.length) : (copyL zs off ys).length = zs.length := by
  simp [copyL]; omega
theorem copyL_at (zs : List Int) (off : Nat) (ys : List Int) (h : off + ys.length ≤ zs.length) (j : Nat) : (copyL zs off ys)[j]?.getD 0 = if off ≤ j ∧ j < off + ys.length then ys[j - off]?.getD 0 else zs[j]?.getD 0 := by
  unfold copyL
  have ht : (zs.take off).length = off := by simp; omega
  by_cases h1 : j < off
  · rw [if_neg (by omega), List.getElem?_append_left (by omega), List.getElem?_take_of_lt h1]
  · rw [List.getElem?_append_right (by omega), ht]
    by_cases h2 : j < off + ys.length
    · rw [if_pos ⟨by omega, h2⟩, List.getElem?_append_left (by omega)]
    · rw [if_neg (by omega), List.getElem?_append_right (by omega), List.getElem?_drop]
      congr 2; omega

theorem wpList_copy_row {P : Program} {w : World} {ops : Array Oper} {rest : List Oper} {o : Oper} {a : Act} {Q : Exit → Act → World → Prop} (hgd : o.guard = none) (d s : Operand) (dT sT : TypeId)
    (ho : o.op = .call { callee := .builtin .copy, args := #[d, s], argTypes := #[dT, sT] }) (elem : TypeId) (hu : P.underlying dT = some (.slice elem)) (hsz : (P.info? elem).map (·.size) = some 1)
    (dp sp : Option Addr) (dLen dCap sLen sCap : Nat) (hd : a.eval d = .slice dp dLen dCap) (hs : a.eval s = .slice sp sLen sCap) (g n t off : Nat) (zs xs ys : List Int)
    (hrow : w.rowIs g t n (fun j => .int .i64 (zs[j]?.getD 0))) (hzl : zs.length = n) (hx : Ints w sp sLen xs) (hys : ys = xs.take (Nat.min sLen dLen)) (hdp : 0 < ys.length → dp = some ⟨g, off, none⟩) (hfit : off + ys.length ≤ n)
    (h : ∀ w', w'.rowIs g t n (fun j => .int .i64 ((copyL zs off ys)[j]?.getD 0)) → But g w w' → Below 0 w w' → wpList P ops Q rest (a.put o.dst (goInt ys.length)) w') : wpList P ops Q (o :: rest) a w := by
  have hyl : ys.length = Nat.min sLen dLen := by
    rw [hys, List.length_take, hx.1]
    exact Nat.min_eq_left (Nat.min_le_left _ _)
  by_cases h0 : ys.length = 0
  · refine wpList_copy_nothing hgd d s dT sT ho elem hu hsz dp sp dLen dCap sLen sCap hd hs (by rw [← hyl]; exact h0) ?_
    have h' := h w (hrow.congr (fun j hj => ?_)) (But.refl _ _) (Below.refl _ _)
    · rw [h0] at h'; exact h'
    · rw [copyL_at zs off ys (by omega), if_neg (by omega)]
  · have hdp' := hdp (by omega)
    subst hdp'
    have hle : ys.length ≤ sLen := by rw [hyl]; exact Nat.min_le_left _ _
    obtain ⟨b, o', rfl, hb, hc⟩ := hx.at (by omega)
    obtain ⟨cur, hg, hcs, hcv⟩ := hrow
    refine wpList_copy_own hgd d s dT sT ho elem hu hsz g off dLen dCap ⟨b, o', none⟩ sLen sCap hd hs cur t hg (ys.map (Value.int .i64)) (by rw [List.length_map]; exact hyl) (fun j v hj => ?_) (by rw [List.length_map, hcs]; exact hfit) (fun v hv => ?_) ?_
    · have hjl : j < ys.length := by
        have := (List.getElem?_eq_some_iff.1 hj).1
        simpa using this
      rw [List.getElem?_map] at hj
      have hy : ys[j]? = some (xs[j]?.getD 0) := by
        rw [hys, List.getElem?_take_of_lt (by rw [← hyl]; exact hjl)]
        have : j < xs.length := by rw [hx.1]; omega
        simp [this]
      rw [hy] at hj
      simp only [Option.map_some, Option.some.injEq] at hj
      rw [← hj, Go.WideShapes.add_plain]
      exact hc j (by omega)
    · simp only [List.mem_map] at hv
      obtain ⟨x, _, rfl⟩ := hv
      rfl
    · have h' := h (w.setRow g (cur.toList.take off ++ (ys.map (Value.int .i64) ++ cur.toList.drop (off + (ys.map (Value.int .i64)).length))).toArray) ?_ ⟨fun x hx => setRow_other _ _ _ _ hx, by simp⟩ ⟨rfl, rfl, rfl, by simp, fun k hk => by omega⟩
      · rw [List.length_map] at h' ⊢; exact h'
      · refine ⟨_, setRow_heap _ _ _ _ _ _ hg, ?_, fun i hi => ?_⟩
        · simp [hcs]; omega
        · show _ = some (Value.int .i64 ((copyL zs off ys)[i]?.getD 0))
          rw [copyL_at zs off ys (by omega)]
          have hct : (cur.toList.take off).length = off := by simp [hcs]; omega
          have hcl : ∀ i, i < n → cur.toList[i]? = some (.int .i64 (zs[i]?.getD 0)) := fun i hi => by rw [Array.getElem?_toList]; exact hcv i hi
          rw [List.getElem?_toArray]
          by_cases c1 : i < off
          · rw [if_neg (by omega), List.getElem?_append_left (by omega), List.getElem?_take_of_lt c1, hcl i hi]
          · rw [List.getElem?_append_right (by omega), hct]
            by_cases c2 : i < off + ys.length
            · rw [if_pos ⟨by omega, c2⟩, List.getElem?_append_left (by simp; omega), List.getElem?_map]
              have : i - off < ys.length := by omega
              simp [this]
            · rw [if_neg (by omega), List.getElem?_append_right (by simp; omega), List.getElem?_drop, List.length_map]
              rw [show off + ys.length + (i - off - ys.length) = i by omega, hcl i hi]
end Go.Proofs.YteoobeldmicjhaaGreat.V
namespace Go.Proofs.YteoobeldmicjhaaGreat.V
set_option maxRecDepth 20000
open Go.RowKit

theorem size_int64 : (Tryz.prog.info? 2).map (·.size) = some 1 := by kernel_rfl

set_option maxRecDepth 100000 in
set_option maxHeartbeats 4000000 in
theorem work_reform (x : Int) (vd va vl vh vs : Value) (Z : Option Addr) (nz cz g n : Nat) (b off m cap : Nat) (xa : Option Addr) (xc : Nat) (xs : List Int) (w : World) (hm : 0 < m)
    (h1 : w.cell? ⟨b, off + 1, none⟩ = some (.slice xa n xc)) (ix : Ints w xa n xs) (hrow : w.rowIs g 2 n (fun _ => .int .i64 0)) :
    Calls Tryz.prog 24 #[.agg #[.slice Z nz cz, .slice (some ⟨g, 0, none⟩) n n], .agg #[.int .i64 12, vd, va, vl, vh, vs, .int .i64 x], .slice (some ⟨b, off, none⟩) m cap] w fun e w' => e = .returned (.tuple #[]) ∧ w'.rowIs g 2 n (fun j => .int .i64 (xs[j]?.getD 0)) ∧ Save g w w' := by
  have hgl : g < w.heap.size := hrow.lt
  have HB1 := hide ((Below.refl w.heap.size w).alloc (Nat.le_refl _) (.cells #[.slice Z nz cz, .slice (some ⟨g, 0, none⟩) n n] 25))
  have HB2 := hide (HB1.out.alloc HB1.out.size (.cells #[.int .i64 12, vd, va, vl, vh, vs, .int .i64 x] 31))
  have HAR := hide ((ArrAt.new w (.slice Z nz cz) (.slice (some ⟨g, 0, none⟩) n n)).alloc (.cells #[.int .i64 12, vd, va, vl, vh, vs, .int .i64 x] 31))
  have hop := OpAt.new (w.alloc (.cells #[.slice Z nz cz, .slice (some ⟨g, 0, none⟩) n n] 25)) 12 vd va vl vh vs x
  simp only [World.size_alloc] at hop
  have HOP := hide hop
  obtain ⟨⟨r0, r1⟩, _⟩ := HAR.out.cells
  obtain ⟨o0, o1, o2, o3, o4, o5, o6⟩ := HOP.out.cells
  have k1 := (HB2.out.cell (p := ⟨b, off + 1, none⟩) (lt_of_cell h1)).trans h1
  have i0 : (0 : Int) < (m : Int) := by omega
  have HR := hide hrow
  have HX := hide ix
  clear h1 hrow hop ix
  go_enter Tryz.func24, Tryz.ntmps24
  go_wp2_with fail
  refine region_made 6 8 [fIs (.pointer (some ⟨w.heap.size, 1, none⟩)), fIs (.slice (some ⟨g, 0, none⟩) n n), fIs (.slice (some ⟨b, off, none⟩) m cap), fIs (.pointer (some ⟨b, off, none⟩)), fIs (.pointer (some ⟨b, off + 1, none⟩)), fIs (.slice xa n xc)] (by kernel_rfl) (by kernel_rfl) (by kernel_rfl) (fun _ ⟨_, _⟩ ⟨_, _⟩ _ e h => by cases e; exact h) ⟨fIs_good _, fIs_good _, fIs_good _, fIs_good _, fIs_good _, fIs_good _, trivial⟩ ?mk ?rest
  case mk =>
    refine ⟨fun u wz hb hd => ?_, fun u wz hb hd => ?_, fun u wz hb hd => ?_, fun u wz hb hd => ?_, fun u wz hb hd => ?_, fun u wz hb hd => ?_, trivial⟩
    all_goals simp only [Act.put, List.setIfInBounds_toArray, List.set_cons_zero, List.set_cons_succ]
    · go_simp
      exact ⟨rfl, Below.refl _ _, fun h => by cases h⟩
    · have e0 : u 0 = .pointer (some ⟨w.heap.size, 1, none⟩) := hd 0 (by omega) (by kernel_rfl)
      rw [e0]
      have r1' := (hb.cell (p := ⟨w.heap.size, 1, none⟩) (lt_of_cell r1)).trans r1
      go_simp
      exact ⟨rfl, Below.refl _ _, fun h => by cases h⟩
    · go_simp
      exact ⟨rfl, Below.refl _ _, fun h => by cases h⟩
    · have e2 : u 2 = .slice (some ⟨b, off, none⟩) m cap := hd 2 (by omega) (by kernel_rfl)
      rw [e2]
      go_simp
      exact ⟨rfl, Below.refl _ _, fun h => by cases h⟩
    · have e3 : u 3 = .pointer (some ⟨b, off, none⟩) := hd 3 (by omega) (by kernel_rfl)
      rw [e3]
      go_simp
      exact ⟨rfl, Below.refl _ _, fun h => by cases h⟩
    · have e4 : u 4 = .pointer (some ⟨b, off + 1, none⟩) := hd 4 (by omega) (by kernel_rfl)
      rw [e4]
      have k1' := (hb.cell (p := ⟨b, off + 1, none⟩) (lt_of_cell k1)).trans k1
      go_simp
      exact ⟨rfl, Below.refl _ _, fun h => by cases h⟩
  case rest =>
    intro u wz hb hf hp
    have f0 : u 0 = .pointer (some ⟨w.heap.size, 1, none⟩) := hf 0 (by omega)
    have f1 : u 1 = .slice (some ⟨g, 0, none⟩) n n := hf 1 (by omega)
    have f2 : u 2 = .slice (some ⟨b, off, none⟩) m cap := hf 2 (by omega)
    have f3 : u 3 = .pointer (some ⟨b, off, none⟩) := hf 3 (by omega)
    have f4 : u 4 = .pointer (some ⟨b, off + 1, none⟩) := hf 4 (by omega)
    have f5 : u 5 = .slice xa n xc := hf 5 (by omega)
    refine UptoW.rest 1 6 (by rfl) (by kernel_rfl) ?_
    simp only [List.take, List.drop, putOps, Act.put, List.setIfInBounds_toArray, List.set_cons_zero, List.set_cons_succ, Nat.reduceAdd, f0, f1, f2, f3, f4, f5]
    clear f0 f1 f2 f3 f4 f5 hf hp
    have HBz := hide (Below.on HB2.out hb)
    have hxz := HX.out.below HBz.out
    have hrz : wz.rowIs g 2 n (fun j => .int .i64 ((List.replicate n 0)[j]?.getD 0)) := (HR.out.of_block (HBz.out.block g hgl)).congr (fun j _ => by rw [replicate_zero_at])
    refine wpList_copy_row rfl (.tmp 17) (.tmp 21) 23 23 rfl 2 Tryz.underlying23 size_int64 (some ⟨g, 0, none⟩) xa n n n xc rfl rfl g n 2 0 (List.replicate n 0) xs xs hrz (by simp) hxz (by rw [show Nat.min n n = n from Nat.min_self n, List.take_of_length_le (by rw [hxz.1]; exact Nat.le_refl _)]) (fun _ => rfl) (by rw [hxz.1]; omega) (fun w4 hr4 hbut h04 => wpList_nil ?_)
    have hrf : w4.rowIs g 2 n (fun j => .int .i64 (xs[j]?.getD 0)) := hr4.congr (fun j hj => by rw [copyL_at _ _ _ (by rw [hxz.1]; simp), if_pos ⟨by omega, by rw [hxz.1]; omega⟩, Nat.sub_zero])
    have HRF := hide hrf
    have HSV := hide (Save.of_below HBz.out hbut h04)
    clear hr4 hbut h04 hrf hxz hrz
    go_wp2
    exact bodyPost_end (v := .tuple #[]) (by simp [results, Tryz.results24, go_sem]) rfl ⟨rfl, HRF.out, HSV.out⟩
end Go.Proofs.YteoobeldmicjhaaGreat.V
namespace Go.Proofs.YteoobeldmicjhaaGreat.V
set_option maxRecDepth 20000
open Go.RowKit

set_option maxRecDepth 100000 in
set_option maxHeartbeats 2000000 in
theorem alive2_any (w : World) : Calls Tryz.prog 7 #[] w fun e w' => e = .returned (.bool true) ∧ Below w.heap.size w w' := by
  have HB1 := (Below.refl w.heap.size w).alloc (Nat.le_refl _) (.cells #[.int .i64 2] 2)
  have HB2 := HB1.alloc HB1.size (.cells #[.int .i64 3] 2)
  have HB3 := HB2.alloc HB2.size (.cells #[.slice none 0 0, .slice (some ⟨w.heap.size, 0, none⟩) 1 1, .slice none 0 0, .slice (some ⟨w.heap.size + 1, 0, none⟩) 1 1] 25)
  have HB := hide HB3
  have i2 := ((ints_one 2 (by omega) 2 (w := w) (B := w.heap.size) rfl).below ((Below.refl _ _).alloc (Nat.le_refl _) (.cells #[.int .i64 3] 2))).below ((Below.refl _ _).alloc (Nat.le_refl _) (.cells #[.slice none 0 0, .slice (some ⟨w.heap.size, 0, none⟩) 1 1, .slice none 0 0, .slice (some ⟨w.heap.size + 1, 0, none⟩) 1 1] 25))
  have i3 := (ints_one 3 (by omega) 2 (w := (w.alloc (.cells #[.int .i64 2] 2))) (B := w.heap.size + 1) (by simp)).below ((Below.refl _ _).alloc (Nat.le_refl _) (.cells #[.slice none 0 0, .slice (some ⟨w.heap.size, 0, none⟩) 1 1, .slice none 0 0, .slice (some ⟨w.heap.size + 1, 0, none⟩) 1 1] 25))
  have f4 := FourAt.new (w := ((w.alloc (.cells #[.int .i64 2] 2)).alloc (.cells #[.int .i64 3] 2))) (B := w.heap.size + 1 + 1) (.slice none 0 0) (.slice (some ⟨w.heap.size, 0, none⟩) 1 1) (.slice none 0 0) (.slice (some ⟨w.heap.size + 1, 0, none⟩) 1 1) (by simp)
  obtain ⟨c0, c1, c2, c3⟩ := f4.cells
  have hS := Do_two 3 (.inl rfl) (w.heap.size + 1 + 1) 0 2 none 0 0 none 0 0 [] 1 (some ⟨w.heap.size, 0, none⟩) 1 [2] (some ⟨w.heap.size + 1, 0, none⟩) 1 [3] _ c0 c1 c2 c3 (ints_nil _) (ints_nil _) i2 i3 (by decide)
  have ht : twoL 3 [2] [3] 1 = [5] := by simp [twoL, twoV, List.range_succ, w64, wrap_in 5 (by omega) (by omega)]
  rw [ht] at hS
  have HS := hide hS
  clear i2 i3 f4 c0 c1 c2 c3 HB1 HB2 HB3 hS ht
  go_enter Tryz.func7, Tryz.ntmps7
  go_wp2_with (go_at_call 9; refine HS.out.mono ?_; rintro e w1 ⟨⟨g, G, rfl, hi1, hi2, hg1, hg2⟩, hb⟩; obtain ⟨b5, o5, e5, _, hc5⟩ := hi2.at (by omega); cases e5; have c5 := alloc_cell (o := .cells #[.slice (some ⟨g, 0, none⟩) 0 0, .slice (some ⟨G, 0, none⟩) 1 1] 25) (hc5 0 (by omega)); simp only [Nat.add_zero, List.getElem?_cons_zero, Option.getD_some] at c5; have HB5 := hide (Below.on HB.out hb); obtain ⟨⟨a0, a1⟩, _⟩ := (ArrAt.new w1 (.slice (some ⟨g, 0, none⟩) 0 0) (.slice (some ⟨G, 0, none⟩) 1 1)).cells; clear hi1 hi2 hb hc5 hg1 hg2)
  all_goals go_ret
  all_goals exact ⟨rfl, HB5.out.alloc HB5.out.size _⟩
end Go.Proofs.YteoobeldmicjhaaGreat.V
