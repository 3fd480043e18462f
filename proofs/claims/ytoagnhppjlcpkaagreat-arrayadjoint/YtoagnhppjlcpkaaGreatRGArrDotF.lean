/-
  Contract: array.dot.
-/
import Derived.Test.YtoagnhppjlcpkaaGreatRGArrLook
import Derived.Test.YtoagnhppjlcpkaaGreatRGLapse
import Derived.Test.YtoagnhppjlcpkaaGreatRGArrDoBad
namespace Go.Proofs.YtoagnhppjlcpkaaGreat.V
set_option maxRecDepth 20000
open Go.RowKit

end Go.Proofs.YtoagnhppjlcpkaaGreat.V

/-
  Contract: array.work of Dot, over what dot does.
-/
namespace Go.Proofs.YtoagnhppjlcpkaaGreat.V
set_option maxRecDepth 20000
open Go.RowKit

end Go.Proofs.YtoagnhppjlcpkaaGreat.V

/-
  Contract: array.landing: where the entries of what is summed or padded go.
-/
namespace Go.Proofs.YtoagnhppjlcpkaaGreat.V
set_option maxRecDepth 20000
open Go.RowKit

/-- Places that are answered. -/
def Landed (w : World) (Q : List Int) (e : Ending) (w' : World) : Prop := ∃ (P : Option Addr) (p c : Nat), e = .returned (.slice P p c) ∧ Ints w' P p Q ∧ Far w.heap.size P
theorem ints_keep {w W W' : World} {g n : Nat} {a : Option Addr} {xs : List Int} (h : Ints w a n xs) (hb : Below w.heap.size w W) (hs : Save g W W') (hg : w.heap.size ≤ g) : Ints W' a n xs := by
  obtain ⟨h1, h2, h3, h4⟩ := h
  refine ⟨h1, h2, h3, ?_⟩
  by_cases h0 : n = 0
  · exact .inl h0
  · rcases h4 with h4 | ⟨b, off, e, hc⟩
    · exact .inl h4
    · have hl := lt_of_cell (hc 0 (by omega))
      simp only at hl
      exact .inr ⟨b, off, e, fun j hj => (World.cell?_of_block (w := W) (hs.1 b (by have := hb.size; omega) (by omega))).trans ((hb.cell (p := ⟨b, off + j, none⟩) hl).trans (hc j hj))⟩
theorem ints_either2 {w w' : World} {a d : Option Addr} {n m N C : Nat} {xs ys : List Int} {x y z : Value} (hi : Ints w' a n xs) (hF : a = d ∨ Far N a) (hd : Ints w d m ys) (hnm : 0 < n → 0 < m) (hC : C < N) (hC1 : w.heap.size ≤ C) :
    Ints (((w'.setCell ⟨C, 0, none⟩ x).setCell ⟨C, 1, none⟩ y).setCell ⟨C, 2, none⟩ z) a n xs := by
  rcases hF with e | e
  · subst e
    by_cases h0 : n = 0
    · exact ⟨hi.1, hi.2.1, hi.2.2.1, .inl h0⟩
    · obtain ⟨b, o, rfl, hb, _⟩ := hd.at (hnm (by omega))
      exact ints_set3o hi (fun g o' e => by cases e; omega)
  · exact ints_putF hi e hC
theorem ints_either {w w' : World} {a d : Option Addr} {n m N C : Nat} {xs : List Int} {x y z : Value} (hi : Ints w' a n xs) (hF : a = d ∨ Far N a) (hd : Ints w d m xs) (hB : Below w.heap.size w (((w'.setCell ⟨C, 0, none⟩ x).setCell ⟨C, 1, none⟩ y).setCell ⟨C, 2, none⟩ z)) (hC : C < N) :
    Ints (((w'.setCell ⟨C, 0, none⟩ x).setCell ⟨C, 1, none⟩ y).setCell ⟨C, 2, none⟩ z) a n xs := by
  rcases hF with e | e
  · subst e
    have hl : n = m := hi.1.symm.trans hd.1
    subst hl
    exact hd.below hB
  · exact ints_putF hi e hC

set_option maxRecDepth 100000 in
set_option maxHeartbeats 4000000 in
theorem landing_sum (x : Int) (vd : Value) (pa : Option Addr) (pl pc : Nat) (ps : List Int) (la : Option Addr) (ll lc : Nat) (ha : Option Addr) (hl hc : Nat) (ta : Option Addr) (tl tc : Nat) (da : Option Addr) (dl dc : Nat) (ds : List Int) (ma : Option Addr) (ml mc : Nat) (ms : List Int) (w : World)
    (hp : Lst w pa pl pc ps) (hd : Ints w da dl ds) (hm : Ints w ma ml ms) (h6 : dl ≤ 6) (hO : Once ps dl) (hz : sizeE ms = 0) (hS : sprE 0 ms (stepsV ms) ds (freeL ps dl) = 0) (hW : wrongE 0 ds (sprS ds.length (stepsV ms) (freeL ps dl)) = 0) :
    Calls Tryz.prog 30 #[.agg #[.int .i64 10, vd, .slice pa pl pc, .slice la ll lc, .slice ha hl hc, .slice ta tl tc, .int .i64 x], .slice da dl dc, .slice ma ml mc] w fun e w' => Landed w (readsV 0 ds (sprS ds.length (stepsV ms) (freeL ps dl))) e w' ∧ Below w.heap.size w w' := by
  have HP := hide hp
  have HD := hide hd
  have HM := hide hm
  have HZ := hide hz
  have HB1 := hide ((Below.refl w.heap.size w).alloc (Nat.le_refl _) (.cells #[.int .i64 10, vd, .slice pa pl pc, .slice la ll lc, .slice ha hl hc, .slice ta tl tc, .int .i64 x] 24))
  have HOP := hide (OpAt.new w 10 vd (.slice pa pl pc) (.slice la ll lc) (.slice ha hl hc) (.slice ta tl tc) x)
  obtain ⟨o0, o1, o2, o3, o4, o5, o6⟩ := HOP.out.cells
  have HO := hide hO
  have HS := hide hS
  have HW := hide hW
  clear hp hd hm hO hz hS hW
  go_enter Tryz.func30, Tryz.ntmps30
  go_wp2_with (first
    | (go_at_call 67; refine (reads_any 0 _ _ _ ds _ _ _ (sprS ds.length (stepsV ms) (freeL ps dl)) _ HI4.out HJ4.out).mono ?_; rintro e w5 ⟨ht, hb⟩; rw [HW.out] at ht; obtain ⟨P5, p5, c5, rfl, hip, _, hfar⟩ := ht; have hs5 := HBd.out.size; have HT9 : Hid (Landed w (readsV 0 ds (sprS ds.length (stepsV ms) (freeL ps dl))) (.returned (.slice P5 p5 c5)) w5) := ⟨P5, p5, c5, rfl, hip, far_mono hfar hs5⟩; have HB9 := hide (Below.on HBd.out hb); clear hip hfar hb)
    | (go_at_call 65; refine (spread_any _ _ _ _ ms _ _ _ (stepsV ms) _ _ _ ds _ _ _ (freeL ps dl) _ (HI1.out.below HC2.out) (HJ1.out.below HC2.out) (HD.out.below HBb.out) (HL2.out.1)).mono ?_; rintro e w3 ⟨hgv, hb⟩; rw [HS.out] at hgv; obtain ⟨a3, l3, c3, b3, m3, d3, rfl, hi3, hj3, _, hF3, hG3⟩ := hgv; have e1 : ∀ l, okL 0 l = l := (fun l => by unfold okL; rw [if_pos rfl]); rw [e1] at hi3 hj3; simp only [okS, if_true]; have HV3 := hide (HV2.out.below hb); have HBc := hide (Below.on HBb.out hb); have hlv := HV2.out.lt; have hsv := hb.size; have hw1 : w.heap.size ≤ w1.heap.size := HBa.out.size; have q1 := view_put' (x := .int .i64 0) (y := .slice a3 l3 c3) (z := .slice b3 m3 d3) HV3.out; have HBd := hide (below_put (x := .int .i64 0) (y := .slice a3 l3 c3) (z := .slice b3 m3 d3) HBc.out hw1); have HJ4 := hide (ints_putF (x := .int .i64 0) (y := .slice a3 l3 c3) (z := .slice b3 m3 d3) hj3 hG3 hlv); have HI4 := hide (ints_either hi3 hF3 HD.out HBd.out hlv); obtain ⟨⟨u0, u1, u2⟩, _⟩ := HV3.out.cells; obtain ⟨_, g0, g1, g2⟩ := HV3.out.cells; clear v0 v1 v2 fv0 fv1 fv2 hi3 hj3 hF3 hG3 e1; obtain ⟨⟨x0, x1, x2⟩, _⟩ := q1.cells; clear q1 hb)
    | (go_at_call 64; have hoc := others_any dl _ 1 1 [ps] _ (lsts_one' (HP.out.below HB2.out) 22 (B := w1.heap.size + 1) (by simp)) h6; rw [show [ps].flatten = ps by simp] at hoc; refine hoc.mono ?_; rintro e w2 ⟨hop, hb⟩; obtain ⟨_, v2', rfl, X2, n2, d2, rfl, hl2, hf2⟩ := hop.resolve_right (fun hh => hh.1 HO.out); have HL2 := hide hl2; have HBb := hide (Below.on (HB2.out.alloc HB2.out.size (.cells #[.slice pa pl pc] 22)) hb); have HV2 := hide ((HV1.out.alloc (.cells #[.slice pa pl pc] 22)).below hb); have HC2 := hide (Below.on ((Below.refl _ _).alloc (Nat.le_refl _) (.cells #[.slice pa pl pc] 22)) hb); clear hop hl2 hf2 hb hoc o0 o1 o2 o3 o4 o5 o6 v0 v1 v2 fv0 fv1 fv2; obtain ⟨⟨v0, v1, v2⟩, fv0, fv1, fv2⟩ := HV2.out.cells)
    | (go_at_call 63; refine (whole_any _ _ _ ms _ (HM.out.below HB1.out) none).mono ?_; rintro e w1 ⟨hgv, hb⟩; rw [HZ.out] at hgv; obtain ⟨a1, l1, c1, b1, m1, d1, rfl, hi1, hj1, _, hF, hG⟩ := hgv; have e1 : ∀ l, okL 0 l = l := (fun l => by unfold okL; rw [if_pos rfl]); rw [e1] at hi1 hj1; have HIo := hide hi1; have HI1 := hide (hi1.below ((Below.refl _ _).alloc (Nat.le_refl _) (.cells #[.int .i64 0, .slice a1 l1 c1, .slice b1 m1 d1] 80))); have HJ1 := hide (hj1.below ((Below.refl _ _).alloc (Nat.le_refl _) (.cells #[.int .i64 0, .slice a1 l1 c1, .slice b1 m1 d1] 80))); have HOP1 := hide ((HOP.out.below hb).alloc (.cells #[.int .i64 0, .slice a1 l1 c1, .slice b1 m1 d1] 80)); have HV1 := hide (ViewAt.new w1 (.int .i64 0) (.slice a1 l1 c1) (.slice b1 m1 d1)); have HBa := hide (Below.on HB1.out hb); have HB2 := hide (HBa.out.alloc HBa.out.size (.cells #[.int .i64 0, .slice a1 l1 c1, .slice b1 m1 d1] 80)); have hs1 := HB1.out.size; have hs2 := hb.size; clear hi1 hj1 hF hG hb e1 o0 o1 o2 o3 o4 o5 o6; obtain ⟨o0, o1, o2, o3, o4, o5, o6⟩ := HOP1.out.cells; obtain ⟨⟨v0, v1, v2⟩, fv0, fv1, fv2⟩ := HV1.out.cells))
  go_ret
  exact ⟨HT9.out, HB9.out⟩

/-- Where what is padded ends. -/
def endL (ms hi : List Int) : List Int := (List.range ms.length).map fun j => ms[j]?.getD 0 - hi[j]?.getD 0
theorem endL_length (ms hi : List Int) : (endL ms hi).length = ms.length := by simp [endL]
theorem endL_at (ms hi : List Int) (j : Nat) (h : j < ms.length) : (endL ms hi)[j]?.getD 0 = ms[j]?.getD 0 - hi[j]?.getD 0 := by simp [endL, h]

set_option maxRecDepth 100000 in
set_option maxHeartbeats 4000000 in
theorem landing_pad (x : Int) (vd : Value) (pa : Option Addr) (pl pc : Nat) (la : Option Addr) (ll lc : Nat) (lo : List Int) (ha : Option Addr) (hl hc : Nat) (hi : List Int) (ta : Option Addr) (tl tc : Nat) (st : List Int) (dv : Value) (ma : Option Addr) (ml mc : Nat) (ms : List Int) (w : World)
    (hlo : Ints w la ll lo) (hhi : Ints w ha hl hi) (hst : Ints w ta tl st) (hm : Ints w ma ml ms) (h6 : ml ≤ 6) (hhl : hl = ml) (hbd : ∀ j, j < ml → (0 ≤ hi[j]?.getD 0 ∧ hi[j]?.getD 0 ≤ 4096) ∧ 0 ≤ ms[j]?.getD 0 ∧ ms[j]?.getD 0 ≤ 4096) (hz : sizeE ms = 0) (hS : cutE 0 ms (stepsV ms) lo (endL ms hi) st = 0) (hW : wrongE (cutAcc 0 (stepsV ms) lo ms.length) (cutD ms lo (endL ms hi) st) (cutS (stepsV ms) st) = 0) :
    Calls Tryz.prog 30 #[.agg #[.int .i64 14, vd, .slice pa pl pc, .slice la ll lc, .slice ha hl hc, .slice ta tl tc, .int .i64 x], dv, .slice ma ml mc] w fun e w' => Landed w (readsV (cutAcc 0 (stepsV ms) lo ms.length) (cutD ms lo (endL ms hi) st) (cutS (stepsV ms) st)) e w' ∧ Below w.heap.size w w' := by
  have HLO := hide hlo
  have HHI := hide hhi
  have HST := hide hst
  have HM := hide hm
  have HZ := hide hz
  have HB1 := hide ((Below.refl w.heap.size w).alloc (Nat.le_refl _) (.cells #[.int .i64 14, vd, .slice pa pl pc, .slice la ll lc, .slice ha hl hc, .slice ta tl tc, .int .i64 x] 24))
  have HOP := hide (OpAt.new w 14 vd (.slice pa pl pc) (.slice la ll lc) (.slice ha hl hc) (.slice ta tl tc) x)
  obtain ⟨o0, o1, o2, o3, o4, o5, o6⟩ := HOP.out.cells
  have HBD := hide hbd
  have HS := hide hS
  have HW := hide hW
  have HML := hide hm.1
  subst hhl
  clear hlo hhi hst hm hbd hz hS hW
  go_enter Tryz.func30, Tryz.ntmps30
  go_wp2_with (first
    | (go_at_call 53; refine (afresh_any _ _ _ ms _ (HM.out.below HB2.out) (by omega)).mono ?_; rintro e w2 ⟨⟨g, rfl, hr, hg⟩, hb⟩; have HR := hide hr; have hg2 := hg; have hgl := hr.lt; simp only [World.size_alloc] at hg2; have HBb := hide (Below.on HB2.out hb); have HV2 := hide (HV1.out.below hb); have HOP2 := hide (HOP1.out.below hb); have HC2 := hide hb; clear hr hg hb o0 o1 o2 o3 o4 o5 o6 v0 v1 v2 fv0 fv1 fv2; obtain ⟨o0, o1, o2, o3, o4, o5, o6⟩ := HOP2.out.cells)
    | (go_at_call 63; refine (whole_any _ _ _ ms _ (HM.out.below HB1.out) none).mono ?_; rintro e w1 ⟨hgv, hb⟩; rw [HZ.out] at hgv; obtain ⟨a1, l1, c1, b1, m1, d1, rfl, hi1, hj1, _, hF, hG⟩ := hgv; have e1 : ∀ l, okL 0 l = l := (fun l => by unfold okL; rw [if_pos rfl]); rw [e1] at hi1 hj1; have HIo := hide hi1; have HI1 := hide (hi1.below ((Below.refl _ _).alloc (Nat.le_refl _) (.cells #[.int .i64 0, .slice a1 l1 c1, .slice b1 m1 d1] 80))); have HJ1 := hide (hj1.below ((Below.refl _ _).alloc (Nat.le_refl _) (.cells #[.int .i64 0, .slice a1 l1 c1, .slice b1 m1 d1] 80))); have HOP1 := hide ((HOP.out.below hb).alloc (.cells #[.int .i64 0, .slice a1 l1 c1, .slice b1 m1 d1] 80)); have HV1 := hide (ViewAt.new w1 (.int .i64 0) (.slice a1 l1 c1) (.slice b1 m1 d1)); have HBa := hide (Below.on HB1.out hb); have HB2 := hide (HBa.out.alloc HBa.out.size (.cells #[.int .i64 0, .slice a1 l1 c1, .slice b1 m1 d1] 80)); have hs1 := HB1.out.size; have hs2 := hb.size; clear hi1 hj1 hF hG hb e1 o0 o1 o2 o3 o4 o5 o6; obtain ⟨o0, o1, o2, o3, o4, o5, o6⟩ := HOP1.out.cells; obtain ⟨⟨v0, v1, v2⟩, fv0, fv1, fv2⟩ := HV1.out.cells))
  go_loopw [45] (fun i wr => ∃ t : Nat, t ≤ hl ∧ i = .int .i64 t ∧ wr.rowIs g 3 hl (onWay (endL ms hi) ms t) ∧ Save g w2 wr) (fun i _ => hl - (intOf i).toNat)
  case atStart => exact ⟨0, Nat.zero_le _, rfl, onWay_zero HR.out, ⟨fun _ _ _ => rfl, Below.refl _ _⟩⟩
  case round =>
    obtain ⟨t, ht, rfl, hrow, hsv⟩ := hrel
    have HRW := hide hrow
    have HSV := hide hsv
    have hw1 : w.heap.size ≤ w1.heap.size := HBa.out.size
    have hlv := HV2.out.lt
    have hlo2 := HOP2.out.lt
    have HOP3 : Hid (OpAt wr w.heap.size _ _ _ _ _ _ _) := (hsv.1 w.heap.size hlo2 (by omega)).trans HOP2.out
    have HV3' : Hid (ViewAt wr w1.heap.size _ _ _) := (hsv.1 w1.heap.size hlv (by omega)).trans HV2.out
    have HBr := hide (Save.below HBb.out hsv (by omega) (Nat.le_refl _))
    clear hrow hsv o0 o1 o2 o3 o4 o5 o6
    by_cases hlt : t < hl
    · obtain ⟨b, off, rfl, _, hc⟩ := (HHI.out.below HBr.out).at (by omega)
      have hck := hc t hlt
      have hbd := HBD.out t hlt
      have hr := HRW.out.cell hlt
      have hf := HRW.out.frozen t
      have HEND : Hid ((endL ms hi)[t]?.getD 0 = ms[t]?.getD 0 - hi[t]?.getD 0) := endL_at ms hi t (by rw [HML.out]; exact hlt)
      rw [onWay, if_neg (by omega)] at hr
      obtain ⟨X, hX⟩ : ∃ X, X = hi[t]?.getD 0 := ⟨_, rfl⟩
      obtain ⟨Y, hY⟩ : ∃ Y, Y = ms[t]?.getD 0 := ⟨_, rfl⟩
      rw [← hX] at hck hbd HEND
      rw [← hY] at hr hbd HEND
      obtain ⟨⟨x0, x1⟩, y0, y1⟩ := hbd
      clear hc hX hY
      go_wp2
      go_roundw
      case rel =>
        refine ⟨t + 1, by omega, by go_num, (HRW.out.set t (.int .i64 (Y - X))).congr (fun j _ => ?_), ⟨fun c h1 h2 => (Below.heap_setCell _ ⟨g, t, none⟩ _ c (by simpa using h2)).trans (HSV.out.1 c h1 h2), HSV.out.2.setCell (p := ⟨g, t, none⟩) (Nat.zero_le _) _⟩⟩
        rw [← onWay_succ, HEND.out]
      case measure => simp [intOf]; omega
    · obtain rfl : t = hl := by omega
      have hrA := onWay_all HRW.out
      have HEN : Hid (Ints wr (some ⟨g, 0, none⟩) t (endL ms hi)) := ints_of_rowI hrA (by rw [endL_length, HML.out]) (by omega) (fun x hx => by
        simp only [endL, List.mem_map, List.mem_range] at hx
        obtain ⟨j, hj, rfl⟩ := hx
        rw [HML.out] at hj
        have := HBD.out j hj
        omega)
      have hg3 : (w1.alloc (.cells #[.int .i64 0, .slice a1 l1 c1, .slice b1 m1 d1] 80)).heap.size ≤ g := by simp only [World.size_alloc]; exact hg2
      have HI2 : Hid (Ints wr a1 l1 ms) := ints_keep HI1.out HC2.out HSV.out hg3
      have HJ2 : Hid (Ints wr b1 m1 (stepsV ms)) := ints_keep HJ1.out HC2.out HSV.out hg3
      obtain ⟨o0, o1, o2, o3, o4, o5, o6⟩ := HOP3.out.cells
      obtain ⟨⟨v0, v1, v2⟩, fv0, fv1, fv2⟩ := HV3'.out.cells
      clear hrA hg3
      go_wp2_with (first
        | (go_at_call 67; refine (reads_any (cutAcc 0 (stepsV ms) lo ms.length) _ _ _ (cutD ms lo (endL ms hi) st) _ _ _ (cutS (stepsV ms) st) _ HI4.out HJ4.out).mono ?_; rintro e w5 ⟨ht, hb⟩; rw [HW.out] at ht; obtain ⟨P5, p5, c5, rfl, hip, _, hfar⟩ := ht; have hs5 := HBd.out.size; have HT9 : Hid (Landed w (readsV (cutAcc 0 (stepsV ms) lo ms.length) (cutD ms lo (endL ms hi) st) (cutS (stepsV ms) st)) (.returned (.slice P5 p5 c5)) w5) := ⟨P5, p5, c5, rfl, hip, far_mono hfar hs5⟩; have HB9 := hide (Below.on HBd.out hb); clear hip hfar hb)
        | (go_at_call 66; refine (cut_any _ _ _ _ ms _ _ _ (stepsV ms) _ _ _ lo _ _ _ (endL ms hi) _ _ _ st _ HI2.out HJ2.out (HLO.out.below HBr.out) HEN.out (HST.out.below HBr.out)).mono ?_; rintro e w3 ⟨hgv, hb⟩; rw [HS.out] at hgv; obtain ⟨a3, l3, c3, b3, m3, d3, rfl, hi3, hj3, _, hF3, hG3⟩ := hgv; have e1 : ∀ l, okL 0 l = l := (fun l => by unfold okL; rw [if_pos rfl]); rw [e1] at hi3 hj3; simp only [okS, if_true]; have HV3 := hide (HV3'.out.below hb); have HBc := hide (Below.on HBr.out hb); have hlv := HV3'.out.lt; have hsv := hb.size; have q1 := view_put' (x := .int .i64 (cutAcc 0 (stepsV ms) lo ms.length)) (y := .slice a3 l3 c3) (z := .slice b3 m3 d3) HV3.out; have HBd := hide (below_put (x := .int .i64 (cutAcc 0 (stepsV ms) lo ms.length)) (y := .slice a3 l3 c3) (z := .slice b3 m3 d3) HBc.out hw1); have HJ4 := hide (ints_putF (x := .int .i64 (cutAcc 0 (stepsV ms) lo ms.length)) (y := .slice a3 l3 c3) (z := .slice b3 m3 d3) hj3 hG3 hlv); have HI4 := hide (ints_either2 (x := .int .i64 (cutAcc 0 (stepsV ms) lo ms.length)) (y := .slice a3 l3 c3) (z := .slice b3 m3 d3) hi3 hF3 HIo.out (fun h => by have e2 := hi3.1; have e3 := HIo.out.1; rw [cutD_length] at e2; omega) hlv (Nat.le_refl _)); obtain ⟨⟨u0, u1, u2⟩, _⟩ := HV3.out.cells; obtain ⟨_, g0, g1, g2⟩ := HV3.out.cells; clear v0 v1 v2 fv0 fv1 fv2 hi3 hj3 hF3 hG3 e1; obtain ⟨⟨x0, x1, x2⟩, _⟩ := q1.cells; clear q1 hb))
      go_ret
      exact ⟨HT9.out, HB9.out⟩
end Go.Proofs.YtoagnhppjlcpkaaGreat.V

/-
  Contract: array.work of Sum and Pad, over where entries land.
-/
namespace Go.Proofs.YtoagnhppjlcpkaaGreat.V
set_option maxRecDepth 20000
open Go.RowKit

/-- A list of numbers in new memory. -/
def fFar (N : Nat) (xs : List Int) : Fact := ⟨fun v w => ∃ X n c, v = .slice X n c ∧ Ints w X n xs ∧ Far N X, false⟩
theorem fFar_good (N : Nat) (xs : List Int) : (fFar N xs).Good := ⟨fun _ _ _ ⟨X, n, c, h1, h2, h3⟩ hb => ⟨X, n, c, h1, h2.below hb, h3⟩, fun h => by cases h⟩
theorem replicate_zero_at (n j : Nat) : (List.replicate n (0 : Int))[j]?.getD 0 = 0 := by
  by_cases h : j < n <;> simp [h]

set_option maxRecDepth 100000 in
set_option maxHeartbeats 4000000 in
theorem work_land (k x : Int) (hk : k = 10 ∨ k = 14) (vd va vl vh vs : Value) (Z : Option Addr) (nz cz g n : Nat) (b off m cap : Nat) (da : Option Addr) (dl dc : Nat) (xa : Option Addr) (xl xc : Nat) (xs Q : List Int) (w : World) (hm : 0 < m)
    (h0 : w.cell? ⟨b, off, none⟩ = some (.slice da dl dc)) (h1 : w.cell? ⟨b, off + 1, none⟩ = some (.slice xa xl xc)) (ix : Ints w xa xl xs) (ox : 0 < xl → OffG g xa) (hrow : w.rowIs g 2 n (fun _ => .int .i64 0)) (hQ : xl ≤ Q.length) (hq : ∀ i, i < xl → 0 ≤ Q[i]?.getD 0 ∧ Q[i]?.getD 0 < n)
    (hland : ∀ W, Below w.heap.size w W → Calls Tryz.prog 30 #[.agg #[.int .i64 k, vd, va, vl, vh, vs, .int .i64 x], .slice da dl dc, .slice Z nz cz] W fun e W' => Landed W Q e W' ∧ Below W.heap.size W W') :
    Calls Tryz.prog 19 #[.agg #[.slice Z nz cz, .slice (some ⟨g, 0, none⟩) n n], .agg #[.int .i64 k, vd, va, vl, vh, vs, .int .i64 x], .slice (some ⟨b, off, none⟩) m cap] w fun e w' => e = .returned (.tuple #[]) ∧ w'.rowIs g 2 n (fun j => .int .i64 ((addS (List.replicate n 0) Q xs xl)[j]?.getD 0)) ∧ Save g w w' := by
  have hgl : g < w.heap.size := hrow.lt
  have HB1 := hide ((Below.refl w.heap.size w).alloc (Nat.le_refl _) (.cells #[.slice Z nz cz, .slice (some ⟨g, 0, none⟩) n n] 28))
  have HB2 := hide (HB1.out.alloc HB1.out.size (.cells #[.int .i64 k, vd, va, vl, vh, vs, .int .i64 x] 24))
  have HAR := hide ((ArrAt.new w (.slice Z nz cz) (.slice (some ⟨g, 0, none⟩) n n)).alloc (.cells #[.int .i64 k, vd, va, vl, vh, vs, .int .i64 x] 24))
  have hop := OpAt.new (w.alloc (.cells #[.slice Z nz cz, .slice (some ⟨g, 0, none⟩) n n] 28)) k vd va vl vh vs x
  simp only [World.size_alloc] at hop
  have HOP := hide hop
  obtain ⟨⟨r0, r1⟩, _⟩ := HAR.out.cells
  obtain ⟨o0, o1, o2, o3, o4, o5, o6⟩ := HOP.out.cells
  have k0 := (HB2.out.cell (p := ⟨b, off, none⟩) (lt_of_cell h0)).trans h0
  have k1 := (HB2.out.cell (p := ⟨b, off + 1, none⟩) (lt_of_cell h1)).trans h1
  have i0 : (0 : Int) < (m : Int) := by omega
  have HR := hide hrow
  have HLN := hide hland
  have HX := hide ix
  have HOX := hide ox
  have HQ := hide hQ
  have HQB := hide hq
  clear h0 h1 hrow hop hland ix ox hQ hq
  obtain ⟨q12, q1014⟩ : (k == 12) = false ∧ ((k == 10) = true ∨ ((k == 10) = false ∧ (k == 14) = true)) := by
    rcases hk with rfl | rfl <;> decide
  clear hk
  rcases q1014 with q10 | ⟨q10, q14⟩
  all_goals go_enter Tryz.func19, Tryz.ntmps19
  all_goals go_wp2_with fail
  all_goals (
    refine region_made 14 16 [fIs (.pointer (some ⟨w.heap.size, 1, none⟩)), fIs (.slice (some ⟨g, 0, none⟩) n n), fIs (.agg #[.int .i64 k, vd, va, vl, vh, vs, .int .i64 x]), fIs (.slice (some ⟨b, off, none⟩) m cap), fIs (.pointer (some ⟨b, off, none⟩)), fIs (.pointer (some ⟨b, off, none⟩)), fIs (.slice da dl dc), fIs (.pointer (some ⟨w.heap.size, 0, none⟩)), fIs (.slice Z nz cz), fFar w.heap.size Q, fIs (.slice (some ⟨b, off, none⟩) m cap), fIs (.pointer (some ⟨b, off, none⟩)), fIs (.pointer (some ⟨b, off + 1, none⟩)), fIs (.slice xa xl xc)] (by kernel_rfl) (by kernel_rfl) (by kernel_rfl) (fun _ ⟨_, _⟩ ⟨_, _⟩ _ e h => by cases e; exact h) ⟨fIs_good _, fIs_good _, fIs_good _, fIs_good _, fIs_good _, fIs_good _, fIs_good _, fIs_good _, fIs_good _, fFar_good _ _, fIs_good _, fIs_good _, fIs_good _, fIs_good _, trivial⟩ ?mk ?rest
    case mk =>
      refine ⟨fun u wz hb hd => ?_, fun u wz hb hd => ?_, fun u wz hb hd => ?_, fun u wz hb hd => ?_, fun u wz hb hd => ?_, fun u wz hb hd => ?_, fun u wz hb hd => ?_, fun u wz hb hd => ?_, fun u wz hb hd => ?_, fun u wz hb hd => ?_, fun u wz hb hd => ?_, fun u wz hb hd => ?_, fun u wz hb hd => ?_, fun u wz hb hd => ?_, trivial⟩
      all_goals simp only [Act.put, List.setIfInBounds_toArray, List.set_cons_zero, List.set_cons_succ]
      · go_simp
        exact ⟨rfl, Below.refl _ _, fun h => by cases h⟩
      · have e0 : u 0 = .pointer (some ⟨w.heap.size, 1, none⟩) := hd 0 (by omega) (by kernel_rfl)
        rw [e0]
        have r1' := (hb.cell (p := ⟨w.heap.size, 1, none⟩) (lt_of_cell r1)).trans r1
        go_simp
        exact ⟨rfl, Below.refl _ _, fun h => by cases h⟩
      · have o0' := (hb.cell (p := ⟨w.heap.size + 1, 0, none⟩) (lt_of_cell o0)).trans o0
        have o1' := (hb.cell (p := ⟨w.heap.size + 1, 1, none⟩) (lt_of_cell o1)).trans o1
        have o2' := (hb.cell (p := ⟨w.heap.size + 1, 2, none⟩) (lt_of_cell o2)).trans o2
        have o3' := (hb.cell (p := ⟨w.heap.size + 1, 3, none⟩) (lt_of_cell o3)).trans o3
        have o4' := (hb.cell (p := ⟨w.heap.size + 1, 4, none⟩) (lt_of_cell o4)).trans o4
        have o5' := (hb.cell (p := ⟨w.heap.size + 1, 5, none⟩) (lt_of_cell o5)).trans o5
        have o6' := (hb.cell (p := ⟨w.heap.size + 1, 6, none⟩) (lt_of_cell o6)).trans o6
        go_simp
        exact ⟨rfl, Below.refl _ _, fun h => by cases h⟩
      · go_simp
        exact ⟨rfl, Below.refl _ _, fun h => by cases h⟩
      · have e3 : u 3 = .slice (some ⟨b, off, none⟩) m cap := hd 3 (by omega) (by kernel_rfl)
        rw [e3]
        go_simp
        exact ⟨rfl, Below.refl _ _, fun h => by cases h⟩
      · have e4 : u 4 = .pointer (some ⟨b, off, none⟩) := hd 4 (by omega) (by kernel_rfl)
        rw [e4]
        go_simp
        exact ⟨rfl, Below.refl _ _, fun h => by cases h⟩
      · have e5 : u 5 = .pointer (some ⟨b, off, none⟩) := hd 5 (by omega) (by kernel_rfl)
        rw [e5]
        have k0' := (hb.cell (p := ⟨b, off, none⟩) (lt_of_cell k0)).trans k0
        go_simp
        exact ⟨rfl, Below.refl _ _, fun h => by cases h⟩
      · go_simp
        exact ⟨rfl, Below.refl _ _, fun h => by cases h⟩
      · have e7 : u 7 = .pointer (some ⟨w.heap.size, 0, none⟩) := hd 7 (by omega) (by kernel_rfl)
        rw [e7]
        have r0' := (hb.cell (p := ⟨w.heap.size, 0, none⟩) (lt_of_cell r0)).trans r0
        go_simp
        exact ⟨rfl, Below.refl _ _, fun h => by cases h⟩
      · have e2 : u 2 = .agg #[.int .i64 k, vd, va, vl, vh, vs, .int .i64 x] := hd 2 (by omega) (by kernel_rfl)
        have e6 : u 6 = .slice da dl dc := hd 6 (by omega) (by kernel_rfl)
        have e8 : u 8 = .slice Z nz cz := hd 8 (by omega) (by kernel_rfl)
        rw [e2, e6, e8]
        go_simp
        refine (HLN.out wz (Below.on HB2.out hb)).mono ?_
        rintro e w2 ⟨⟨P2, p2, c2, rfl, hl2, hf2⟩, hb2⟩
        have hs := (Below.on HB2.out hb).size
        exact ⟨⟨P2, p2, c2, rfl, hl2, far_mono hf2 hs⟩, hb2, fun h => by cases h⟩
      · go_simp
        exact ⟨rfl, Below.refl _ _, fun h => by cases h⟩
      · have e10 : u 10 = .slice (some ⟨b, off, none⟩) m cap := hd 10 (by omega) (by kernel_rfl)
        rw [e10]
        go_simp
        exact ⟨rfl, Below.refl _ _, fun h => by cases h⟩
      · have e11 : u 11 = .pointer (some ⟨b, off, none⟩) := hd 11 (by omega) (by kernel_rfl)
        rw [e11]
        go_simp
        exact ⟨rfl, Below.refl _ _, fun h => by cases h⟩
      · have e12 : u 12 = .pointer (some ⟨b, off + 1, none⟩) := hd 12 (by omega) (by kernel_rfl)
        rw [e12]
        have k1' := (hb.cell (p := ⟨b, off + 1, none⟩) (lt_of_cell k1)).trans k1
        go_simp
        exact ⟨rfl, Below.refl _ _, fun h => by cases h⟩
    case rest =>
      intro u wz hb hf hp
      have f0 : u 0 = .pointer (some ⟨w.heap.size, 1, none⟩) := hf 0 (by omega)
      have f1 : u 1 = .slice (some ⟨g, 0, none⟩) n n := hf 1 (by omega)
      have f2 : u 2 = .agg #[.int .i64 k, vd, va, vl, vh, vs, .int .i64 x] := hf 2 (by omega)
      have f3 : u 3 = .slice (some ⟨b, off, none⟩) m cap := hf 3 (by omega)
      have f4 : u 4 = .pointer (some ⟨b, off, none⟩) := hf 4 (by omega)
      have f5 : u 5 = .pointer (some ⟨b, off, none⟩) := hf 5 (by omega)
      have f6 : u 6 = .slice da dl dc := hf 6 (by omega)
      have f7 : u 7 = .pointer (some ⟨w.heap.size, 0, none⟩) := hf 7 (by omega)
      have f8 : u 8 = .slice Z nz cz := hf 8 (by omega)
      obtain ⟨P9, p9, c9, f9, i9, j9⟩ := hf 9 (by omega)
      have f10 : u 10 = .slice (some ⟨b, off, none⟩) m cap := hf 10 (by omega)
      have f11 : u 11 = .pointer (some ⟨b, off, none⟩) := hf 11 (by omega)
      have f12 : u 12 = .pointer (some ⟨b, off + 1, none⟩) := hf 12 (by omega)
      have f13 : u 13 = .slice xa xl xc := hf 13 (by omega)
      refine UptoW.rest 1 14 (by rfl) (by kernel_rfl) ?_
      simp only [List.take, List.drop, putOps, Act.put, List.setIfInBounds_toArray, List.set_cons_zero, List.set_cons_succ, Nat.reduceAdd, f0, f1, f2, f3, f4, f5, f6, f7, f8, f9, f10, f11, f12, f13]
      clear f0 f1 f2 f3 f4 f5 f6 f7 f8 f9 f10 f11 f12 f13 hf hp
      refine wpList_plain rfl (fun K hK => ?_)
      go_simp
      have hfar : ∀ b' o', P9 = some ⟨b', o', none⟩ → b' ≠ g := fun b' o' e => by { have := j9 b' o' e; omega }
      have HBz := hide (Below.on HB2.out hb)
      refine (add_any g n (List.replicate n 0) P9 p9 c9 Q xa xl xc xs wz (by simp) ((HR.out.of_block (HBz.out.block g hgl)).congr (fun j _ => by rw [replicate_zero_at])) i9 (HX.out.below HBz.out) hfar HOX.out (by rw [← i9.1]; exact HQ.out) HQB.out).mono ?_
      rintro e w4 ⟨rfl, hr4, hbut, h04⟩
      refine hK _ _ (wpList_nil ?_)
      clear hK K
      go_wp2
      exact bodyPost_end (v := .tuple #[]) (by simp [results, Tryz.results19, go_sem]) rfl ⟨rfl, hr4, Save.of_below HBz.out hbut h04⟩)
end Go.Proofs.YtoagnhppjlcpkaaGreat.V
