/-
  Ranges over functions within a loop: the marks that they leave; what stands while statements are done. Contract: order.Wrong. Contract: nest.Run. Contract: nest.Run, where all is right.
-/
import Derived.Test.YtoidgdbgpbcebaaK16
import Derived.Test.YtoidgdbgpbcebaaK12
import Derived.Test.YtoidgdbgpbcebaaK20
import Derived.Test.YtoidgdbgpbcebaaK23
import Derived.Test.YtoidgdbgpbcebaaK22
import Derived.OwnWalkIn
import Derived.Test.YtoidgdbgpbcebaaK18
import Derived.Test.YtoidgdbgpbcebaaK11
namespace Go.Proofs.Ytoidgdbgpbcebaa.V
open Go Go.RowKit Go.Shelf
set_option linter.unusedVariables false

def mark (D : Nat) : Deferred := { target := .collected D, args := #[] }
structure Marks (N : Nat) (Ds : List Nat) (W : World) : Prop where
  nodup : Ds.Nodup
  here : ∀ D ∈ Ds, N ≤ D ∧ W.heap[D]? = some (.deferred (some []))
theorem Marks.nil (N : Nat) (W : World) : Marks N [] W := ⟨by simp, fun D h => by simp at h⟩
theorem leaves_marks {F : Fence} {n : Nat} {P : Program} {fn : Func} {tmps : Array Value} {R : Ending → World → Prop} (N : Nat) : ∀ (Ds : List Nat) (W : World), Marks N Ds W → N ≤ W.heap.size →
    (∀ W', Below N W W' → (∀ (b : Nat) c t f, W.heap[b]? = some (Obj.cells c t f) → W'.heap[b]? = W.heap[b]?) → LeavesIn F n P fn tmps R [] .returning W') →
    LeavesInM F n P fn tmps R (Ds.map mark) .returning W
  | [], W, _, _, h => h W (Below.refl _ _) (fun _ _ _ _ _ => rfl)
  | D :: Ds, W, hm, hN, h => by
    have h1 := hm.here D (by simp)
    have hn := List.nodup_cons.1 hm.nodup
    refine ⟨by simp, .inl ⟨D, W.putObj D (.deferred none), rfl, run_takeDeferred h1.2, ?_⟩⟩
    have hB : Below N W (W.putObj D (.deferred none)) := (Below.refl N W).grown (grownBy_putObj' W D _) hN (fun k e => by cases e; exact h1.1)
    refine leaves_marks N Ds _ ⟨hn.2, fun D' h' => ⟨(hm.here D' (by simp [h'])).1, ?_⟩⟩ (by simpa using hN) (fun W' b1 b2 => h W' (hB.trans b1) (fun b c t f e => ?_))
    · have hne : D' ≠ D := fun e => hn.1 (e ▸ h')
      rw [World.putObj_heap_other hne]
      exact (hm.here D' (by simp [h'])).2
    · have hne : b ≠ D := fun e' => by rw [e', h1.2] at e; cases e
      have e2 : (W.putObj D (.deferred none)).heap[b]? = W.heap[b]? := World.putObj_heap_other hne
      exact (b2 b c t f (e2.trans e)).trans e2

/-- All that stands while statements are done. -/
structure NInv (w : World) (za : Option Addr) (zl zc : Nat) (ta : Option Addr) (tl tc : Nat) (R B9 len : Nat) (G C : Nat → Nat) (Ds : List Nat) (M : Mem) (W : World) : Prop where
  below : Below w.heap.size w W
  ns : NsBlk W w.heap.size za zl zc ta tl tc
  box : Boxed W B9 87 (.slice (some ⟨R, 0, none⟩) len len)
  mem : Mems W w.heap.size (some ⟨R, 0, none⟩) G C M
  len : M.length = len
  marks : Marks (B9 + 1) Ds W
theorem NInv.of_blocks {w W W' : World} {za : Option Addr} {zl zc : Nat} {ta : Option Addr} {tl tc R B9 len : Nat} {G C : Nat → Nat} {Ds : List Nat} {M : Mem} (h : NInv w za zl zc ta tl tc R B9 len G C Ds M W) (hB : Below w.heap.size w W')
    (hc : ∀ (b : Nat) c t f, W.heap[b]? = some (Obj.cells c t f) → W'.heap[b]? = W.heap[b]?) (hd : ∀ D ∈ Ds, W'.heap[D]? = W.heap[D]?) : NInv w za zl zc ta tl tc R B9 len G C Ds M W' :=
  ⟨hB, (hc _ _ _ _ h.ns).trans h.ns, (hc _ _ _ _ h.box).trans h.box, h.mem.of_blocks hc, h.len, ⟨h.marks.nodup, fun D hD => ⟨(h.marks.here D hD).1, (hd D hD).trans (h.marks.here D hD).2⟩⟩⟩
theorem NInv.grow {w W W' : World} {za : Option Addr} {zl zc : Nat} {ta : Option Addr} {tl tc R B9 len : Nat} {G C : Nat → Nat} {Ds : List Nat} {M : Mem} (h : NInv w za zl zc ta tl tc R B9 len G C Ds M W) (hB : Below W.heap.size W W') : NInv w za zl zc ta tl tc R B9 len G C Ds M W' :=
  h.of_blocks (bl_on h.below hB) (fun b c t f e => hB.block b (Array.getElem?_eq_some_iff.1 e).1) (fun D hD => hB.block D (Array.getElem?_eq_some_iff.1 (h.marks.here D hD).2).1)
/-- With the statement that is done. -/
def NInvS (w : World) (za : Option Addr) (zl zc : Nat) (ta : Option Addr) (tl tc : Nat) (R B9 len : Nat) (G C : Nat → Nat) (Ds : List Nat) (M : Mem) (s : Stm) (q : SW) (B11 : Nat) (N1 M1 : Nat) (V : World) (pre : List (List Int)) (W : World) : Prop :=
  NInv w za zl zc ta tl tc R B9 len G C Ds (pre.foldl (doM s) M) W ∧ q.blk W B11 ∧ M1 ≤ W.heap.size ∧ ∀ b, N1 ≤ b → b < M1 → W.heap[b]? = V.heap[b]?
theorem NInvS.own {w : World} {za : Option Addr} {zl zc : Nat} {ta : Option Addr} {tl tc R B9 len : Nat} {G C : Nat → Nat} {Ds : List Nat} {M : Mem} {s : Stm} {q : SW} {B11 N1 M1 : Nat} {V : World} {B : Nat} (hw : w.heap.size ≤ B) (hD : ∀ D ∈ Ds, D < B) (hM1 : M1 ≤ B) :
    OwnFrom B (fun pre W => NInvS w za zl zc ta tl tc R B9 len G C Ds M s q B11 N1 M1 V pre W) := by
  rintro pre W W' row ⟨h, hq, hs, hk⟩ hg hr
  have hc : ∀ (b : Nat) c t f, W.heap[b]? = some (Obj.cells c t f) → W'.heap[b]? = W.heap[b]? := fun b c t f e => hg.block b (Array.getElem?_eq_some_iff.1 e).1 (fun e' => by
    obtain ⟨_, o, ho, hcl⟩ := hr b e'.symm
    rw [e] at ho
    cases ho
    cases hcl)
  refine ⟨h.of_blocks (h.below.grown hg h.below.size (fun k e => Nat.le_trans hw (hr k e).1)) hc (fun D hD' => ?_), (hc _ _ _ _ hq).trans hq, Nat.le_trans hs hg.size, fun b h1 h2 => (hg.block b (by omega) (fun e' => ?_)).trans (hk b h1 h2)⟩
  · refine hg.block D (Array.getElem?_eq_some_iff.1 (h.marks.here D hD').2).1 (fun e' => ?_)
    have h1 := (hr D e'.symm).1
    have h2 := hD D hD'
    omega
  · have h1 := (hr b e'.symm).1
    omega
/-- A statement at a point leaves all else. -/
theorem NInvS.step {w : World} {za : Option Addr} {zl zc : Nat} {ta : Option Addr} {tl tc R B9 len : Nat} {G C : Nat → Nat} {Ds : List Nat} {M : Mem} {s : Stm} {q : SW} {B11 N1 M1 : Nat} {V : World} {pre : List (List Int)} {x : List Int} {W W' : World}
    (h : NInvS w za zl zc ta tl tc R B9 len G C Ds M s q B11 N1 M1 V pre W) (hG : ∀ k, k < len → w.heap.size < G k ∧ G k < B9) (h9 : w.heap.size < B9) (h11 : B9 < B11) (hN1 : B9 < N1)
    (hm : Mems W' w.heap.size (some ⟨R, 0, none⟩) G C (doM s (pre.foldl (doM s) M) x)) (hc : Chg G (pre.foldl (doM s) M).length W W') :
    NInvS w za zl zc ta tl tc R B9 len G C Ds M s q B11 N1 M1 V (pre ++ [x]) W' ∧ KeepsOthers W W' ∧ (W.heap.size ≤ W'.heap.size ∧ ∀ b, N1 ≤ b → b < M1 → W'.heap[b]? = W.heap[b]?) := by
  obtain ⟨hi, hq, hs, hk⟩ := h
  have hl := hi.len
  have hc0 := hc
  rw [hl] at hc
  have hfar : ∀ b, (b = w.heap.size ∨ B9 ≤ b) → ∀ k, k < len → b ≠ G k := fun b hb k hk' e => by
    have := hG k hk'
    omega
  have hb : ∀ b, (b = w.heap.size ∨ B9 ≤ b) → b < W.heap.size → W'.heap[b]? = W.heap[b]? := fun b h1 h2 => hc.block h2 (hfar b h1)
  have e : (pre ++ [x]).foldl (doM s) M = doM s (pre.foldl (doM s) M) x := by simp
  refine ⟨⟨⟨?_, ?_, ?_, ?_, ?_, ⟨hi.marks.nodup, fun D hD => ?_⟩⟩, ?_, Nat.le_trans hs hc.size, fun b h1 h2 => ?_⟩, ?_, hc.size, fun b h1 h2 => hb b (.inr (by omega)) (by omega)⟩
  · exact hc.below (fun k hk' => Nat.le_of_lt (hG k hk').1) hi.below hi.below.size
  · exact (hb _ (.inl rfl) hi.ns.lt).trans hi.ns
  · exact (hb _ (.inr (Nat.le_refl _)) hi.box.lt).trans hi.box
  · rw [e]; exact hm
  · rw [e, doM_len]; exact hl
  · have := hi.marks.here D hD
    exact ⟨this.1, (hb D (.inr (by omega)) (Array.getElem?_eq_some_iff.1 this.2).1).trans this.2⟩
  · exact (hb _ (.inr (by omega)) hq.lt).trans hq
  · exact (hb b (.inr (by omega)) (by omega)).trans (hk b h1 h2)
  · obtain ⟨row, g1, g2⟩ := hc
    refine KeepsOthers.of_grownBy g1 (fun j o hj ho => ?_)
    obtain ⟨k, hk', rfl⟩ := g2 j hj
    obtain ⟨cur, c1, _⟩ := hi.mem.rows k (by omega)
    rw [c1] at ho
    cases ho
    rfl
end Go.Proofs.Ytoidgdbgpbcebaa.V
namespace Go.Proofs.Ytoidgdbgpbcebaa.V
open Go.RowKit
set_option linter.unusedVariables false

set_option maxRecDepth 100000 in
set_option maxHeartbeats 8000000 in
theorem oWrong_any (za : Option Addr) (zl zc : Nat) (zs : List Int) (ta : Option Addr) (tl tc : Nat) (ss : List Stm) (ma : Option Addr) (ml mc : Nat) (T : Tms) (w : World) (hz : Ints w za zl zs) (hs : Stms w ta tl ss) (hT : TimesA w ma ml T) :
    Calls Try.prog 43 #[.agg #[.slice za zl zc, .slice ta tl tc], .slice ma ml mc] w fun e w' => e = .returned (.int .i64 (ordE zs ss T)) ∧ Below w.heap.size w w' := by
  have B1 : Below w.heap.size w (w.alloc (.cells #[.slice za zl zc, .slice ta tl tc] 25)) := bl_new _
  have P0 := NsBlk.new w za zl zc ta tl tc
  obtain ⟨p0, p1⟩ := P0.cells
  have HW := hide (nestWrong_any za zl zc zs ta tl tc ss _ (hz.below B1) (hs.below B1))
  have HB := hide B1
  have HP := hide P0
  have HS := hide hs
  have HT := hide hT
  have hm1 := hT.2.1
  have hm2 := hs.2.1
  have HTL := hide hT.1
  have HSL := hide hs.1
  by_cases c1 : nestE zs ss ≠ 0
  · have e1 : ordE zs ss T = nestE zs ss := by unfold ordE; rw [if_pos c1]
    have c2 : (nestE zs ss != 0) = true := by simpa using c1
    rw [e1]
    clear hz hs hT e1 c1 B1 P0
    go_enter Try.func43, Try.ntmps43
    go_wp2_with (go_at_call 32; refine HW.out.mono ?_; rintro e w1 ⟨rfl, hb⟩; have HB1 := hide (bl_on HB.out hb); clear hb)
    go_ret
    exact ⟨rfl, HB1.out⟩
  have c1' : nestE zs ss = 0 := by simpa using c1
  have C1 := hide c1'
  have hok := nestE_ok c1'
  have HOK := hide hok
  by_cases c2 : ml = tl
  · have e1 : ordE zs ss T = firstN (tmE T ss) ml := by unfold ordE; rw [if_neg c1, if_neg (by rw [hT.1, hs.1]; simpa using c2), hT.1]
    have E1 := hide e1
    have c3 : ((ml : Int) != (ml : Int)) = false := by simp
    obtain rfl : tl = ml := c2.symm
    clear hz hs hT e1 c1 c1' B1 P0 hok
    go_enter Try.func43, Try.ntmps43
    go_wp2_with (go_at_call 32; refine HW.out.mono ?_; rintro e w1 ⟨rfl, hb⟩; rw [C1.out]; have HB1 := hide (bl_on HB.out hb); have P1 := HP.out.below hb; obtain ⟨p0, p1⟩ := P1.cells; have zP := P1.lt; have HP1 := hide P1; clear hb P1)
    clear p0 p1
    go_loopw [24] (fun i wr => ∃ k : Nat, k ≤ tl ∧ i = .int .i64 k ∧ firstN (tmE T ss) k = 0 ∧ Below w.heap.size w wr ∧ NsBlk wr w.heap.size za zl zc ta tl tc) (fun i _ => tl - (intOf i).toNat)
    case atStart => exact ⟨0, Nat.zero_le _, rfl, rfl, HB1.out, HP1.out⟩
    case round =>
      obtain ⟨k, hk, rfl, hF, hB, hP⟩ := hrel
      have HF := hide hF
      have HBr := hide hB
      have HPr := hide hP
      have zN := hP.lt
      clear hF hB hP
      by_cases hlt : k < tl
      · obtain ⟨mb, mo, rfl, hat⟩ := HT.out.at (by omega)
        obtain ⟨ra, rl, rc, r1', r2⟩ := hat k hlt
        have r1 := (HBr.out.cell (p := ⟨mb, mo + k, none⟩) (lt_of_cell r1')).trans r1'
        have z1 := lt_of_cell r1
        simp only at z1
        have hrm := r2.2.1
        have HFH := hide (fun hn => firstN_here (f := tmE T ss) tl k hlt HF.out hn)
        obtain ⟨sb, so, rfl, hat2⟩ := HS.out.at (by omega)
        obtain ⟨q, hq, k0', _⟩ := hat2 k hlt
        have hkl : k < ss.length := by rw [HSL.out]; exact hlt
        have hbl : (ss[k]?.getD stmD).box.length = q.bl := hq.box.1.1
        have hb4 : q.bl ≤ 4 := by
          have := (ptE_ok (HOK.out.stms _ (mem_getS ss k hkl)).pt).rank
          omega
        have HBX := hide k0'
        have HRW := hide r2
        have HRL := hide r2.1
        have HTE : Hid (tmE T ss k = if 8 < rl then 2 else rowsE (T[k]?.getD []) q.bl) := by unfold Hid tmE; rw [r2.1, hbl]
        obtain ⟨rows, hrows⟩ : ∃ rows, rows = T[k]?.getD [] := ⟨_, rfl⟩
        rw [← hrows] at HRW HRL HTE
        obtain ⟨ba, hba⟩ : ∃ ba, ba = q.ba := ⟨_, rfl⟩
        obtain ⟨bl, hbl2⟩ : ∃ bl, bl = q.bl := ⟨_, rfl⟩
        obtain ⟨bc, hbc⟩ : ∃ bc, bc = q.bc := ⟨_, rfl⟩
        rw [← hba, ← hbl2, ← hbc] at HBX
        rw [← hbl2] at HTE hb4
        clear hat hat2 hq k0' hkl hbl r2 hrows hba hbl2 hbc r1'
        by_cases c8 : 8 < rl
        · have HE2 : Hid (tmE T ss k = 2) := by rw [Hid, HTE.out, if_pos c8]
          go_wp2_with fail
          go_ret
          exact ⟨by rw [E1.out, HFH.out (by rw [HE2.out]; decide), HE2.out]; rfl, HBr.out⟩
        · have HE2 : Hid (tmE T ss k = rowsE rows bl) := by rw [Hid, HTE.out, if_neg c8]
          clear HTE
          go_wp2_with fail
          clear r1 z1
          go_loopw [34] (fun i wr2 => ∃ j : Nat, j ≤ rl ∧ i = .int .i64 j ∧ rowsE (rows.take j) bl = 0 ∧ Below w.heap.size w wr2 ∧ NsBlk wr2 w.heap.size za zl zc (some ⟨sb, so, none⟩) tl tc) (fun i _ => rl - (intOf i).toNat)
          case atStart => exact ⟨0, Nat.zero_le _, rfl, by simp [rowsE], HBr.out, HPr.out⟩
          case round =>
            clear HBr HPr zN
            obtain ⟨j, hj, rfl, hz, hB, hP⟩ := hrel
            have HZ2 := hide hz
            have HBr := hide hB
            have HPr := hide hP
            have zN := hP.lt
            clear hz hB hP
            by_cases hlt2 : j < rl
            · have hjl : j < rows.length := by rw [HRL.out]; exact hlt2
              obtain ⟨b, off, rfl, hat⟩ := (HRW.out.below HBr.out).at (by omega)
              obtain ⟨ca, cl, cc, k1, k2, k3, k4, k5⟩ := hat j hlt2
              have y1 := lt_of_cell k1
              have y2 := lt_of_cell k2
              simp only at y1 y2
              obtain ⟨q, hq⟩ : ∃ q, q = rows[j]?.getD ([], 0) := ⟨_, rfl⟩
              rw [← hq] at k2 k3 k5
              have HQ := hide hq
              obtain ⟨cs, K⟩ := q
              simp only at k2 k3 k5
              obtain ⟨wn, hwn⟩ : ∃ wn, wn = wr.alloc (.cells #[.slice ca cl cc, .int .i64 K] 66) := ⟨_, rfl⟩
              have Bn : Below wr.heap.size wr wn := by rw [hwn]; exact bl_new _
              have hnew : wn.heap[wr.heap.size]? = some (.cells #[.slice ca cl cc, .int .i64 K] 66 (0, 0)) := by rw [hwn]; exact World.alloc_heap_new _ _
              obtain ⟨y0, y1'⟩ := cells_two hnew
              obtain ⟨n0, n1⟩ := (HPr.out.below Bn).cells
              have hbx := ((bl_on HBr.out Bn).cell (p := ⟨sb, so + k * 8, none⟩) (lt_of_cell HBX.out)).trans HBX.out
              have HC := hide (fun W (hb : Below wn.heap.size wn W) => wrongRow_any ca cl cc cs K bl W ((k3.below Bn).below hb) k5 hb4)
              have HBn := hide Bn
              have HWN := hide hwn
              have HPn := hide (HPr.out.below Bn)
              have HJL := hide hjl
              have zS := (Array.getElem?_eq_some_iff.1 hnew).1
              have zB := lt_of_cell hbx
              simp only at zB
              have y1 := y1'
              clear hat k3 k4 k5 hq hjl Bn hnew hwn y1'
              go_wp2_with fail
              rw [← HWN.out]
              go_region_with (go_at_call 77; refine (HC.out _ ((Below.refl wn.heap.size wn).drew)).mono ?_; rintro e w3 ⟨rfl, hb⟩; have HB4 := hide (bl_on (bl_on HBn.out ((Below.refl wn.heap.size wn).drew)) hb); have HP5 := hide ((HPn.out.below ((Below.refl wn.heap.size wn).drew)).below hb); clear hb)
              all_goals go_wp2_with fail
              all_goals first
                | (have hx : rowE (cs, K) bl ≠ 0 := by simpa using (by assumption : (rowE (cs, K) bl != 0) = true)
                   go_ret
                   refine ⟨?_, bl_on HBr.out HB4.out⟩
                   have e := rowsE_here rows bl j HJL.out HZ2.out (by rw [← HQ.out]; exact hx)
                   rw [E1.out, HFH.out (by rw [HE2.out, e, ← HQ.out]; exact hx), HE2.out, e, ← HQ.out]; rfl)
                | (have hx : rowE (cs, K) bl = 0 := by simpa using (by assumption : (rowE (cs, K) bl != 0) = false)
                   go_roundw
                   case rel => exact ⟨j + 1, by omega, by go_num, rowsE_take rows bl j HJL.out HZ2.out (by rw [← HQ.out]; exact hx), bl_on HBr.out HB4.out, HP5.out⟩
                   case measure => simp [intOf]; omega)
            · go_wp2_with fail
              have e := HZ2.out
              rw [List.take_of_length_le (by rw [HRL.out]; omega)] at e
              have HE := hide e
              clear e
              go_roundw
              case rel => exact ⟨k + 1, by omega, by go_num, firstN_succ HF.out (by rw [HE2.out, HE.out]), HBr.out, HPr.out⟩
              case measure => simp [intOf]; omega
      · go_wp2_with fail
        go_ret
        have := HF.out
        rw [show k = tl by omega] at this
        exact ⟨by rw [E1.out, this]; rfl, HBr.out⟩
  · have e1 : ordE zs ss T = 2 := by unfold ordE; rw [if_neg c1, if_pos (by rw [hT.1, hs.1]; exact c2)]
    have c3 : ((ml : Int) != (tl : Int)) = true := by simp; omega
    rw [e1]
    clear hz hs hT e1 c1 c1' B1 P0 hok c2
    go_enter Try.func43, Try.ntmps43
    go_wp2_with (go_at_call 32; refine HW.out.mono ?_; rintro e w1 ⟨rfl, hb⟩; rw [C1.out]; have HB1 := hide (bl_on HB.out hb); have P1 := HP.out.below hb; obtain ⟨p0, p1⟩ := P1.cells; have zP := P1.lt; have HP1 := hide P1; clear hb P1)
    go_ret
    exact ⟨rfl, HB1.out⟩
end Go.Proofs.Ytoidgdbgpbcebaa.V
namespace Go.Proofs.Ytoidgdbgpbcebaa.V
open Go.RowKit Go.Shelf
set_option linter.unusedVariables false

set_option maxRecDepth 100000 in
set_option maxHeartbeats 4000000 in
theorem nestRun_no (za : Option Addr) (zl zc : Nat) (zs : List Int) (ta : Option Addr) (tl tc : Nat) (ss : List Stm) (a : Option Addr) (len cap : Nat) (L : Mem) (w : World) (hz : Ints w za zl zs) (hs : Stms w ta tl ss) (hA : MemA w a len L) (hE : runE zs ss L ≠ 0) :
    Calls Try.prog 13 #[.agg #[.slice za zl zc, .slice ta tl tc], .slice a len cap] w fun e w' => e = .returned (.tuple #[.slice none 0 0, .int .i64 (runE zs ss L)]) ∧ Below w.heap.size w w' := by
  have B1 : Below w.heap.size w (w.alloc (.cells #[.slice za zl zc, .slice ta tl tc] 25)) := bl_new _
  have P0 := NsBlk.new w za zl zc ta tl tc
  obtain ⟨p0, p1⟩ := P0.cells
  have HW := hide (nestWrong_any za zl zc zs ta tl tc ss _ (hz.below B1) (hs.below B1))
  have HB := hide B1
  have HP := hide P0
  have HZ := hide hz
  have HA := hide hA
  have hm1 := hz.2.1
  have hm2 := hA.2.1
  have HZL := hide hz.1
  have HL := hide hA.1
  by_cases c1 : nestE zs ss ≠ 0
  · have e1 : runE zs ss L = nestE zs ss := by unfold runE; rw [if_pos c1]
    have c2 : (nestE zs ss != 0) = true := by simpa using c1
    rw [e1]
    clear hz hs hA e1 c1 B1 P0 hE
    go_enter Try.func13, Try.ntmps13
    go_wp2_with (go_at_call 32; refine HW.out.mono ?_; rintro e w1 ⟨rfl, hb⟩; have HB1 := hide (bl_on HB.out hb); clear hb)
    go_ret2
    exact ⟨rfl, HB1.out⟩
  have c1' : nestE zs ss = 0 := by simpa using c1
  have e1 : runE zs ss L = fitsE zs L := by unfold runE; rw [if_neg c1]
  have C1 := hide c1'
  rw [e1] at hE ⊢
  by_cases c2 : len = zl
  · have E6 : Hid (∀ k, k < len → ((arrM L k).length : Int) ≠ zs[k]?.getD 0 → fitsE zs L = 6) := fun k hk hn => fits_here (by rw [hA.1, hz.1]; exact c2) (by rw [hA.1]; exact hk) hn
    have E0 : Hid (∀ (_ : ∀ k, k < len → ((arrM L k).length : Int) = zs[k]?.getD 0), False) := fun ha => hE (fits_all (by rw [hA.1, hz.1]; exact c2) (fun k hk => ha k (by rw [← hA.1]; exact hk)))
    obtain rfl := c2
    clear hz hs hA e1 c1 c1' B1 P0 hE
    go_enter Try.func13, Try.ntmps13
    go_wp2_with (go_at_call 32; refine HW.out.mono ?_; rintro e w1 ⟨rfl, hb⟩; rw [C1.out]; have HB1 := hide (bl_on HB.out hb); have P1 := HP.out.below hb; obtain ⟨p0, p1⟩ := P1.cells; have zP := P1.lt; clear hb P1)
    go_loop [26] (fun i => ∃ k : Nat, k ≤ len ∧ i = .int .i64 k ∧ ∀ j, j < k → ((arrM L j).length : Int) = zs[j]?.getD 0) (fun i => len - (intOf i).toNat)
    case atStart => exact ⟨0, Nat.zero_le _, rfl, fun j hj => by omega⟩
    case round =>
      obtain ⟨k, hk, rfl, hn⟩ := hrel
      have HN := hide hn
      clear hn
      by_cases hlt : k < len
      · obtain ⟨b, off, rfl, hat⟩ := (HA.out.below HB1.out).at (by omega)
        obtain ⟨x, l, c, c1, c2⟩ := hat k hlt
        have hl2 : (arrM L k).length = l := c2.1.1
        have hlm := c2.1.2.1
        obtain ⟨zb, zo, rfl, hzb, hzc⟩ := (HZ.out.below HB1.out).at (by omega)
        have hzk := hzc k hlt
        have E6k := E6.out k hlt
        rw [hl2] at E6k
        have HLL := hide hl2
        obtain ⟨y, hy⟩ : ∃ y, y = zs[k]?.getD 0 := ⟨_, rfl⟩
        rw [← hy] at hzk E6k
        have HY := hide hy
        have HE6 := hide E6k
        clear hat c2 hl2 hzc hy E6k
        by_cases q : (l : Int) = y
        · have q1 : ((l : Int) != y) = false := by simpa using q
          have HQ := hide q
          clear q
          go_wp2_with fail
          go_round
          case rel =>
            refine ⟨k + 1, by omega, by go_num, fun j hj => ?_⟩
            by_cases e : j = k
            · subst e; rw [HLL.out, ← HY.out]; exact HQ.out
            · exact HN.out j (by omega)
          case measure => simp [intOf]; omega
        · have q1 : ((l : Int) != y) = true := by simpa using q
          have HQ := hide q
          clear q
          go_wp2_with fail
          go_ret2
          exact ⟨by rw [HE6.out HQ.out]; rfl, HB1.out⟩
      · exact (E0.out (fun j hj => HN.out j (by omega))).elim
  · have e2 : fitsE zs L = 2 := fits_len (by rw [hA.1, hz.1]; exact c2)
    have c3 : ((len : Int) != (zl : Int)) = true := by simp; omega
    rw [e2]
    clear hz hs hA e1 c1 c1' B1 P0 hE c2 e2
    go_enter Try.func13, Try.ntmps13
    go_wp2_with (go_at_call 32; refine HW.out.mono ?_; rintro e w1 ⟨rfl, hb⟩; rw [C1.out]; have HB1 := hide (bl_on HB.out hb); have P1 := HP.out.below hb; obtain ⟨p0, p1⟩ := P1.cells; have zP := P1.lt; clear hb P1)
    go_ret2
    exact ⟨rfl, HB1.out⟩
end Go.Proofs.Ytoidgdbgpbcebaa.V
namespace Go.Proofs.Ytoidgdbgpbcebaa.V
open Go.RowKit Go.Shelf
attribute [local go_sem] Oper.semAt_some
set_option linter.unusedVariables false

/-- The blocks from N on, below M, are as they were in V. -/
def SameQ (N M : Nat) (V W : World) : Prop := M ≤ W.heap.size ∧ ∀ b, N ≤ b → b < M → W.heap[b]? = V.heap[b]?
def KeepQ (N M : Nat) (A A' : World) : Prop := A.heap.size ≤ A'.heap.size ∧ ∀ b, N ≤ b → b < M → A'.heap[b]? = A.heap[b]?
set_option maxRecDepth 100000 in
set_option maxHeartbeats 8000000 in
theorem nestRun_ok (za : Option Addr) (zl zc : Nat) (zs : List Int) (ta : Option Addr) (tl tc : Nat) (ss : List Stm) (a : Option Addr) (len cap : Nat) (L : Mem) (w : World) (hz : Ints w za zl zs) (hs : Stms w ta tl ss) (hA : MemA w a len L) (hb24 : 24 * len ≤ 281474976710656) (hE : runE zs ss L = 0) :
    CallsIn FW 8 Try.prog 13 #[.agg #[.slice za zl zc, .slice ta tl tc], .slice a len cap] w fun e w' => (∃ (R : Nat) (G C : Nat → Nat), e = .returned (.tuple #[.slice (some ⟨R, 0, none⟩) len len, .int .i64 0]) ∧ Mems w' w.heap.size (some ⟨R, 0, none⟩) G C (runM ss L)) ∧ Below w.heap.size w w' := by
  have hro : FW.round = none := rfl
  have c1 : nestE zs ss = 0 := by
    unfold runE at hE
    by_cases h : nestE zs ss ≠ 0
    · rw [if_pos h] at hE; exact absurd hE h
    · simpa using h
  have c2 : fitsE zs L = 0 := by unfold runE at hE; rw [if_neg (by simpa using c1)] at hE; exact hE
  have hok := nestE_ok c1
  obtain ⟨f1, f2⟩ := fits_ok c2
  have hsm := fits_small c2 hok.sizes
  have B1 : Below w.heap.size w (w.alloc (.cells #[.slice za zl zc, .slice ta tl tc] 25)) := bl_new _
  have P0 := NsBlk.new w za zl zc ta tl tc
  obtain ⟨p0, p1⟩ := P0.cells
  have HW := hide (nestWrong_any za zl zc zs ta tl tc ss _ (hz.below B1) (hs.below B1))
  have HB := hide B1
  have HP := hide P0
  have HZ := hide hz
  have HS := hide hs
  have HA := hide hA
  have hm1 := hz.2.1
  have hm2 := hA.2.1
  have hm3 := hs.2.1
  have HZL := hide hz.1
  have HL := hide hA.1
  have HSL := hide hs.1
  have C1 := hide c1
  have HOK := hide hok
  have HSM := hide hsm
  have h256 : tl ≤ 256 := by have := hok.many; have := hs.1; omega
  have F2 := hide f2
  have hlz : len = zl := by have := hA.1; have := hz.1; omega
  obtain rfl := hlz
  clear hz hs hA hE c1 c2 hok f1 f2 hsm B1 P0
  refine callsIn_of_wp_marks Try.func13 rfl trivial ?_ hro
  simp only [Try.ntmps13, List.size_toArray, List.length_cons, List.length_nil, Nat.reduceAdd, Nat.reduceSub, Array.replicate_succ, Array.replicate_zero, List.push_toArray, List.append_toArray, List.nil_append, List.cons_append]
  gi_wp2_with (refine ⟨trivial, ?_⟩; gi_at_call 32; refine (callsIn_wide.2 HW.out).mono ?_; rintro e w1 ⟨rfl, hb⟩; rw [C1.out]; have HB1 := hide (bl_on HB.out hb); have P1 := HP.out.below hb; obtain ⟨p0, p1⟩ := P1.cells; have zP := P1.lt; have HP1 := hide P1; clear hb P1)
  gi_loop [26] (fun i => ∃ k : Nat, k ≤ len ∧ i = .int .i64 k) (fun i => len - (intOf i).toNat)
  case atStart => exact ⟨0, Nat.zero_le _, rfl⟩
  case round =>
    obtain ⟨k, hk, rfl⟩ := hrel
    by_cases hlt : k < len
    · obtain ⟨b, off, rfl, hat⟩ := (HA.out.below HB1.out).at (by omega)
      obtain ⟨x, l, c, c1, c2⟩ := hat k hlt
      have hl2 : (arrM L k).length = l := c2.1.1
      have hlm := c2.1.2.1
      obtain ⟨zb, zo, rfl, hzb, hzc⟩ := (HZ.out.below HB1.out).at (by omega)
      have hzk := hzc k hlt
      have F2k := F2.out k (by rw [HL.out]; exact hlt)
      rw [hl2] at F2k
      rw [← F2k] at hzk
      have q1 : ((l : Int) != (l : Int)) = false := by simp
      clear hat c2 hl2 hzc F2k
      gi_wp2_with fail
      go_round
      case rel => exact ⟨k + 1, by omega, by go_num⟩
      case measure => simp [intOf]; omega
    · have HEA := hide (eachArr_any a len cap L w1 (HA.out.below HB1.out) hb24 HSM.out)
      gi_wp2_with (refine ⟨trivial, ?_⟩; gi_at_call 33; refine (callsIn_wide.2 HEA.out).mono ?_; rintro e w2 ⟨⟨R, G, rfl, hR, hM, hG⟩, hb⟩; have HB2 := hide (bl_on HB1.out hb); have P2 := HP1.out.below hb; obtain ⟨p0, p1⟩ := P2.cells; have zP2 := P2.lt; have HP2 := hide P2; have HM := hide hM; have HG := hide hG; have HR := hide hR; have hsz2 := hb.size; clear hb P2 hM hG hR)
      obtain ⟨W9, hW9⟩ : ∃ W9, W9 = w2.alloc (.cells #[.slice (some ⟨R, 0, none⟩) len len] 87) := ⟨_, rfl⟩
      obtain ⟨B9, hB9⟩ : ∃ B9, B9 = w2.heap.size := ⟨_, rfl⟩
      have hgg : ∀ k, k < len → w.heap.size < G k ∧ G k < B9 := fun k hk => by
        have h1 := HG.out k hk
        have h2 := HR.out
        have h3 := (HM.out.rows k (by rw [HL.out]; exact hk)).lt
        omega
      have HGG := hide hgg
      have h9 : w.heap.size < B9 := by omega
      have I0 : NInv w za len zc ta tl tc R B9 len G (fun k => (arrM L k).length) [] (runM (ss.take 0) L) W9 := by
        have hb9 : Below w2.heap.size w2 W9 := by rw [hW9]; exact bl_new _
        refine ⟨bl_on HB2.out hb9, HP2.out.below hb9, ?_, ?_, ?_, Marks.nil _ _⟩
        · rw [hW9, hB9]; exact Boxed.new _ _ _
        · have := HM.out.below hb9
          exact ⟨this.head, this.rows, this.apart, fun k hk => Nat.le_of_lt (HGG.out k (by have := HL.out; simp [runM] at hk; omega)).1, this.bd, this.small⟩
        · simp only [runM, List.take_zero, List.foldl_nil]; exact HL.out
      have HI0 := hide I0
      rw [← hW9, ← hB9]
      clear hgg I0 hW9 hB9 HM HG HR HP2 p0 p1 HEA
      refine wpIn_loop (fun a' W' => ∃ u0 u1 u3 u4 u5 u6 u7 u8 u10 u11 u12 u13 u14 u15 u16 u17 u18 u19 u20 u21 u22 u23 u24 u25 u26 u27 u28 u29 u30 u31 u32 u33 u34 u35 u36 u37 u38 u39 u40 u41 u42 u46 u47 u48 u49 u50 u51 u52 u53 u54 u55 u56 u57 u58 : Value, ∃ (k : Nat) (Ds : List Nat), (k ≤ tl ∧ NInv w za len zc ta tl tc R B9 len G (fun k => (arrM L k).length) Ds (runM (ss.take k) L) W') ∧ a' = ⟨#[u0, u1, .pointer (some ⟨w.heap.size, 0, none⟩), u3, u4, u5, u6, u7, u8, .pointer (some ⟨B9, 0, none⟩), u10, u11, u12, u13, u14, u15, u16, u17, u18, u19, u20, u21, u22, u23, u24, u25, u26, u27, u28, u29, u30, u31, u32, u33, u34, u35, u36, u37, u38, u39, u40, u41, u42, .slice ta tl tc, .int .i64 (tl : Int), .int .i64 (k : Int), u46, u47, u48, u49, u50, u51, u52, u53, u54, u55, u56, u57, u58], Ds.map mark⟩) (fun a' _ => tl - (intOf (a'.tmps.getD 45 undef)).toNat) ?start ?round
      case start =>
        repeat apply Exists.intro
        exact ⟨⟨Nat.zero_le _, HI0.out⟩, rfl⟩
      case round =>
        intro a' wr hinv
        obtain ⟨u0, u1, u3, u4, u5, u6, u7, u8, u10, u11, u12, u13, u14, u15, u16, u17, u18, u19, u20, u21, u22, u23, u24, u25, u26, u27, u28, u29, u30, u31, u32, u33, u34, u35, u36, u37, u38, u39, u40, u41, u42, u46, u47, u48, u49, u50, u51, u52, u53, u54, u55, u56, u57, u58, k, Ds, ⟨hk, hI⟩, rfl⟩ := hinv
        have HI := hide hI
        have hz9 := hI.box.lt
        obtain ⟨n0, n1⟩ := hI.ns.cells
        clear hI HI0
        by_cases hlt : k < tl
        · have hkl : k < ss.length := by rw [HSL.out]; exact hlt
          obtain ⟨b, off, rfl, hat⟩ := HS.out.at (by omega)
          obtain ⟨q, hq0, k0', k1', k2', k3', k4', k5', k6', k7'⟩ := hat k hlt
          have k0 := (HI.out.below.cell (p := ⟨b, off + k * 8, none⟩) (lt_of_cell k0')).trans k0'
          have k1 := (HI.out.below.cell (p := ⟨b, off + k * 8 + 1, none⟩) (lt_of_cell k1')).trans k1'
          have k2 := (HI.out.below.cell (p := ⟨b, off + k * 8 + 2, none⟩) (lt_of_cell k2')).trans k2'
          have k3 := (HI.out.below.cell (p := ⟨b, off + k * 8 + 3, none⟩) (lt_of_cell k3')).trans k3'
          have k4 := (HI.out.below.cell (p := ⟨b, off + k * 8 + 4, none⟩) (lt_of_cell k4')).trans k4'
          have k5 := (HI.out.below.cell (p := ⟨b, off + k * 8 + 5, none⟩) (lt_of_cell k5')).trans k5'
          have k6 := (HI.out.below.cell (p := ⟨b, off + k * 8 + 6, none⟩) (lt_of_cell k6')).trans k6'
          have k7 := (HI.out.below.cell (p := ⟨b, off + k * 8 + 7, none⟩) (lt_of_cell k7')).trans k7'
          have hq := hq0.below HI.out.below
          have z1 := lt_of_cell k0
          simp only at z1
          have B3 : Below wr.heap.size wr (wr.alloc (.cells q.cs 71)) := bl_new _
          obtain ⟨y0, y1, y2, y3, y4, y5, y6, y7⟩ := (SW.new q wr).cells
          have HB3 := hide B3
          have HRT := hide (runM_take ss L k hkl)
          have hso := HOK.out.stms _ (mem_getS ss k hkl)
          rw [HZL.out] at hso
          obtain ⟨s, hs⟩ : ∃ s, s = ss[k]?.getD stmD := ⟨_, rfl⟩
          rw [← hs] at hq hq0 hso HRT
          have h1 := hq.below B3
          have HALL := hide (all_ok q.ba q.bl q.bc s.box q.ra q.rl q.rc s.rows _ h1.box.1 h1.rows hso.pt)
          have HSG := hide hq0
          have HSO := hide hso
          have HBL := hide hq.box.1.1
          have HRL := hide hq.rows.1
          obtain ⟨qs, hqs⟩ : ∃ qs, qs = q := ⟨_, rfl⟩
          have HQ4 : Hid (∀ W, W = wr.alloc (.cells q.cs 71) → qs.blk W wr.heap.size) := fun W e => by rw [e, hqs]; exact SW.new q wr
          rw [← hqs] at HSG
          have HQS := hide hqs
          obtain ⟨ba, bl, bc, ra, rl, rc, kd, va, ⟨parr, pca, pcl, pcc, pcon⟩, ga, gl, gc⟩ := q
          simp only [SW.cs] at *
          clear hat hq hq0 hso B3 hkl hs h1 hqs k0' k1' k2' k3' k4' k5' k6' k7'
          gi_wp2_with (refine ⟨trivial, ?_⟩; gi_at_call 35; refine (callsIn_wide.2 HALL.out).mono ?_; rintro e w4 ⟨⟨B, gb, RR, rfl, hN⟩, hb⟩; have HNW := hide hN; have HB4 := hide (bl_on HB3.out hb); have HQ5 := hide ((HQ4.out _ rfl).below hb); have zb4 := hb.size; clear hb hN)
          simp only [World.size_alloc] at HNW zb4
          have HO := hide (ptE_ok HSO.out.pt)
          refine rangeFunc_tells (F := FW) (n := 8) hro (by omega) (gf := 91) (lb := #[.pointer (some ⟨B, 0, none⟩)]) rfl trivial (enters_of Try.func91 (by kernel_rfl) rfl) (L := pts s.box s.rows) (len := bl) (Kp := KeepQ (wr.heap.size + 1) w4.heap.size)
            (through1_tells 7 (by omega) B (some ⟨gb, 0, none⟩) bl bl s.box (some ⟨RR, 0, none⟩) rl rl s.rows HO.out (KeepQ (wr.heap.size + 1) w4.heap.size) (SameQ (wr.heap.size + 1) w4.heap.size w4) (fun A hA => (HNW.out.kept rfl hA.2).good HO.out HBL.out HRL.out) (fun A A' hA hb => ⟨Nat.le_trans hA.1 hb.size, fun b h1 h2 => (hb.block b (by have := hA.1; omega)).trans (hA.2 b h1 h2)⟩) (fun A A' hk => hk.1) (fun A A' hk hA => ⟨Nat.le_trans hA.1 hk.1, fun b h1 h2 => (hk.2 b h1 h2).trans (hA.2 b h1 h2)⟩) w4 ⟨Nat.le_refl _, fun _ _ _ => rfl⟩)
            (fun h1 h2 => ⟨Nat.le_trans h1.1 h2.1, fun b k1 k2 => (h2.2 b k1 k2).trans (h1.2 b k1 k2)⟩) (fun W l o o' hl _ _ _ => ⟨by simp, fun b k1 k2 => World.putObj_heap_other (by omega)⟩) (Below.refl _ _) rfl
            (fun pre W => NInvS w za len zc (some ⟨b, off, none⟩) tl tc R B9 len G (fun k => (arrM L k).length) Ds (runM (ss.take k) L) s qs wr.heap.size (wr.heap.size + 1) w4.heap.size w4 pre W) (fun _ _ => False)
            (NInvS.own (Nat.le_trans HI.out.below.size (by omega)) (fun D hD => by have := (Array.getElem?_eq_some_iff.1 (HI.out.marks.here D hD).2).1; omega) (Nat.le_refl _)) (fun _ _ _ _ hs _ _ => hs) ⟨HI.out.grow HB4.out, HQ5.out, Nat.le_refl _, fun _ _ _ => rfl⟩ ?a1 ?assign ?body ?done ?stop
          case assign =>
            intro l gx W K hK
            gi_wp2
            exact hK
          case stop =>
            rintro D c W _ h _
            exact h.elim
          case body =>
            rintro l pre x post gx W hL hJ hT
            have hc9 := hJ.1.box.cell
            have hz9' := hJ.1.box.lt
            have hcq := hJ.2.1.cells
            rw [HQS.out] at hcq
            obtain ⟨q0, q1, q2, q3, q4, q5, q6, q7⟩ := hcq
            simp only at q0 q1 q2 q3 q4 q5 q6 q7
            have hz11 := hJ.2.1.lt
            have hzx := hT.lt
            have HDO := hide (mdo_any w.heap.size (some ⟨R, 0, none⟩) len len G (fun k => (arrM L k).length) _ qs s (some ⟨gx, 0, none⟩) bl bl x W hJ.1.mem hJ.1.len hm2 (HSG.out.below hJ.1.below) HSO.out hT.ints (by rw [HQS.out]) hT.2.2.2.2)
            rw [HQS.out] at HDO
            simp only [SW.v, SW.cs] at HDO
            have HJ := hide hJ
            clear hJ hT hL
            gi_wp2_with (refine ⟨trivial, ?_⟩; gi_at_call 36; refine (callsIn_wide.2 HDO.out).mono ?_; rintro e w6 ⟨⟨rv, rfl⟩, hm6, hc6⟩; have HM6 := hide hm6; have HC6 := hide hc6; clear hm6 hc6)
            obtain ⟨i1, i2, i3⟩ := HJ.out.step HGG.out h9 hz9 (by omega) HM6.out HC6.out
            exact ⟨i2.from _, i3, i1⟩
          case done =>
            rintro D W hD hJ hK
            have hJ1 := hJ.1
            have HJ1 : Hid (NInv w za len zc (some ⟨b, off, none⟩) tl tc R B9 len G (fun k => (arrM L k).length) (D :: Ds) (runM (ss.take (k + 1)) L) W) := by
              rw [Hid, HRT.out]
              refine ⟨hJ1.below, hJ1.ns, hJ1.box, hJ1.mem, hJ1.len, ⟨List.nodup_cons.2 ⟨fun hD' => ?_, hJ1.marks.nodup⟩, fun D' hD' => ?_⟩⟩
              · have := (Array.getElem?_eq_some_iff.1 (HI.out.marks.here D hD').2).1
                omega
              · rcases List.mem_cons.1 hD' with rfl | hD'
                · exact ⟨by omega, hK⟩
                · exact hJ1.marks.here D' hD'
            clear hJ hJ1 hK
            gi_wp2_with fail
            refine ⟨?_, ?_⟩
            · repeat apply Exists.intro
              exact ⟨⟨by omega, HJ1.out⟩, by rfl⟩
            · simp [intOf]; omega
        · obtain rfl : tl = k := by omega
          have hc9 := HI.out.box.cell
          gi_wp2_with fail
          refine leaves_marks (B9 + 1) Ds wr HI.out.marks (by omega) (fun W' b1 b2 => ?_)
          refine ⟨_, results_tmp2 rfl _ _ _, ?_⟩
          have hall : ss.take tl = ss := List.take_of_length_le (by rw [HSL.out]; exact Nat.le_refl _)
          have hmm := HI.out.mem.of_blocks b2
          rw [hall] at hmm
          exact ⟨⟨R, G, _, rfl, hmm⟩, HI.out.below.trans (b1.mono (by omega))⟩
end Go.Proofs.Ytoidgdbgpbcebaa.V
