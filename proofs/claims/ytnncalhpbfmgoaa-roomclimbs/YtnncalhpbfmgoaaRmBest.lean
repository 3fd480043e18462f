/-
  Contract: the document's Best.
-/
import Derived.Test.YtnncalhpbfmgoaaRmBestM
import Derived.Deep.DeepCutAuto
import Derived.Deep.QuietTactic
namespace Go.Proofs.Ytnncalhpbfmgoaa.V
open Go.RowKit
set_option linter.unusedVariables false

def BestOk (a : Option Addr) (n cap : Nat) (ab : List Int) (b : Option Addr) (cap' : Nat) (ws : List Int) (T : Nat → List Nat) (bl : Nat → Int) (f k : Nat) : Prop := ∀ w : World, Ints w a n ab → Ints w b n ws →
  Calls Try.prog 35 #[.slice a n cap, .slice b n cap', .int .i64 (k : Int)] w fun e w' => (∃ u, e = .returned (.tuple #[u, .int .i64 (peakN ws bl k)]) ∧ OwnN w' w.heap.size u (climbF T f k)) ∧ Below w.heap.size w w'
theorem info_bool5 : (Try.prog.info? 4).map (fun i => (i.zero, i.size, i.bytes)) = some (some (.bool false), 1, 1) := by kernel_rfl
theorem peakN_bd {ab ws : List Int} {T : Nat → List Nat} {bl : Nat → Int} (h : Sorted ab ws T bl) {q : Nat} (hq : q < ab.length) : 0 ≤ peakN ws bl q ∧ peakN ws bl q ≤ 17592187092992 := by
  have h1 := h.pos q hq
  have h2 := h.hi q hq
  have h3 := h.rows.ok.wd q hq
  unfold peakN
  omega
theorem bl_drewN (w : World) (n : Nat) : Below w.heap.size w (w.drewN n) := ⟨rfl, rfl, rfl, Nat.le_refl _, fun _ _ => rfl⟩
theorem OwnN.base {w : World} {B B' : Nat} {v : Value} {l : List Nat} (h : OwnN w B' v l) (hB : B ≤ B') : OwnN w B v l := by
  refine ⟨h.1, ?_⟩
  rcases h.2 with h1 | ⟨g, cap, cur, e1, e2, e3⟩
  · exact .inl h1
  · exact .inr ⟨g, cap, cur, e1, by omega, e3⟩
theorem OwnN.none (w : World) (B : Nat) : OwnN w B (.slice none 0 0) [] := ⟨rfl, .inl ⟨rfl, rfl⟩⟩
/-- What the first loop leaves. -/
theorem BSt.left {W : World} {B : Nat} {ws : List Int} {bl : Nat → Int} {T : Nat → List Nat} {f : Nat} {ks : List Nat} {v : Nat → Value} {c : Nat → List Value} (h : BSt W B ws bl T f ks v c) :
    ∃ A0 C0 A1 C1 A2 C2, v 0 = .slice A0 ks.length C0 ∧ v 1 = .slice A1 ks.length C1 ∧ v 2 = .slice A2 ks.length C2 ∧ (0 < ks.length → ∃ go gp gw, A0 = some ⟨go, 0, none⟩ ∧ A1 = some ⟨gp, 0, none⟩ ∧ A2 = some ⟨gw, 0, none⟩ ∧ BRd W W.heap.size ws bl T f ks go gp gw) := by
  by_cases h0 : 0 < ks.length
  · obtain ⟨go, co, gp, cp, gw, cw, e0, e1, e2, hr⟩ := h.read h0
    exact ⟨_, co, _, cp, _, cw, e0, e1, e2, fun _ => ⟨go, gp, gw, rfl, rfl, rfl, hr⟩⟩
  · have l0 : (c 0).length = ks.length := by rw [h.c0]; simp
    have l1 : (c 1).length = ks.length := by rw [h.c1]; simp
    have l2 : (c 2).length = ks.length := by rw [h.c2]; simp
    obtain ⟨a0, d0, e0⟩ := h.fam.slice (k := 0) (by omega)
    obtain ⟨a1, d1, e1⟩ := h.fam.slice (k := 1) (by omega)
    obtain ⟨a2, d2, e2⟩ := h.fam.slice (k := 2) (by omega)
    rw [l0] at e0
    rw [l1] at e1
    rw [l2] at e2
    exact ⟨_, _, _, _, _, _, e0, e1, e2, fun hh => absurd hh h0⟩
/-- While trees are picked. -/
structure Pick (W : World) (ws : List Int) (bl : Nat → Int) (T : Nat → List Nat) (f m : Nat) (tk d : List Nat) (r : Nat) (vo : Value) (wx : World) : Prop where
  own : OwnN wx (W.heap.size + 1) vo ((tk.take r).flatMap (climbF T f))
  row : wx.rowIs W.heap.size 4 m (fun j => .bool (doneD d r j))
  bel : Below W.heap.size W wx
theorem pick_start (W : World) (ws : List Int) (bl : Nat → Int) (T : Nat → List Nat) (f m : Nat) (tk d : List Nat) : Pick W ws bl T f m tk d 0 (.slice none 0 0) (W.alloc (.cells (madeCells #[.bool false] m) 4)) := by
  refine ⟨OwnN.none _ _, ?_, bl_new _⟩
  refine World.rowIs.congr (World.rowIs_made W (.bool false) m 4) fun j _ => ?_
  simp [doneD]
theorem Pick.keep {W : World} {ws : List Int} {bl : Nat → Int} {T : Nat → List Nat} {f m : Nat} {tk d : List Nat} {r : Nat} {vo : Value} {wx wy : World} (h : Pick W ws bl T f m tk d r vo wx) (hb : Below wx.heap.size wx wy) : Pick W ws bl T f m tk d r vo wy :=
  ⟨h.own.below hb, h.row.of_block (hb.block _ h.row.lt), bl_on h.bel hb⟩
theorem atK_map (g : Nat → Nat) (d : List Nat) (r : Nat) (h : r < d.length) : atK (d.map g) r = g (atK d r) := by simp [atK, h]
/-- One is taken. -/
theorem Pick.mark {W : World} {ws : List Int} {bl : Nat → Int} {T : Nat → List Nat} {f m : Nat} {tk d : List Nat} {r : Nat} {vo : Value} {wx : World} (h : Pick W ws bl T f m tk d r vo wx) (hr : r < d.length) : OwnN (wx.setCell ⟨W.heap.size, atK d r, none⟩ (.bool true)) (W.heap.size + 1) vo ((tk.take r).flatMap (climbF T f)) ∧ (wx.setCell ⟨W.heap.size, atK d r, none⟩ (.bool true)).rowIs W.heap.size 4 m (fun j => .bool (doneD d (r + 1) j)) ∧ Below W.heap.size W (wx.setCell ⟨W.heap.size, atK d r, none⟩ (.bool true)) := by
  refine ⟨h.own.keep fun g e _ => heap_setCell_other _ _ _ _ (by have := (h.own.at e).1; simp; omega), ?_, h.bel.setCell (p := ⟨W.heap.size, atK d r, none⟩) (by simp) _⟩
  refine World.rowIs.congr (h.row.set (atK d r) (.bool true)) fun j _ => ?_
  rw [doneD_succ hr]
  by_cases e : j = atK d r
  · rw [if_pos e, if_pos e]
  · rw [if_neg e, if_neg e]
theorem Pick.next {W : World} {ws : List Int} {bl : Nat → Int} {T : Nat → List Nat} {f m : Nat} {tk d : List Nat} {r s : Nat} {vo v' : Value} {wx w2 : World} (hr : r < tk.length) (hs : atK tk r = s) (h1 : OwnN wx (W.heap.size + 1) vo ((tk.take r).flatMap (climbF T f))) (h2 : wx.rowIs W.heap.size 4 m (fun j => .bool (doneD d (r + 1) j))) (h3 : Below W.heap.size W wx) (ho : OwnN w2 (W.heap.size + 1) v' ((tk.take r).flatMap (climbF T f) ++ climbF T f s)) (hg : wx.grownBy w2 vo.ownBlock) : Pick W ws bl T f m tk d (r + 1) v' w2 := by
  refine ⟨?_, h2.of_block (hg.block _ h2.lt (fun e => by have := (h1.at e.symm).1; omega)), h3.grown hg h3.size (fun j e => by have := (h1.at e).1; omega)⟩
  rw [flatMap_take (climbF T f) tk r hr]
  have : tk[r]?.getD 0 = s := hs
  rw [this]
  exact ho
theorem best_len {ab ws : List Int} {T : Nat → List Nat} {bl : Nat → Int} (h : Sorted ab ws T bl) {f k r : Nat} (hf : k ≤ f) (hk : k < ab.length) (hr : r < (T k).length) : (((T k).take r).flatMap (climbF T f)).length + (climbF T f (atK (T k) r)).length + 1 ≤ ab.length := by
  have h1 := climb_few h.rows (f + 1) k (by omega) hk
  rw [climbF, List.length_append] at h1
  have h2 := flatMap_take_len (climbF T f) (T k) (r + 1)
  rw [flatMap_take (climbF T f) (T k) r hr, List.length_append] at h2
  simp only [List.length_cons, List.length_nil] at h1
  unfold atK
  omega
theorem best_all {ab ws : List Int} {T : Nat → List Nat} {bl : Nat → Int} (h : Sorted ab ws T bl) {f k : Nat} (hf : k ≤ f) (hk : k < ab.length) : ((T k).flatMap (climbF T f)).length + 1 ≤ ab.length := by
  have h1 := climb_few h.rows (f + 1) k (by omega) hk
  rw [climbF, List.length_append] at h1
  exact h1
set_option maxRecDepth 100000 in
set_option maxHeartbeats 8000000 in
theorem best_step (a : Option Addr) (n cap : Nat) (ab : List Int) (b : Option Addr) (cap' : Nat) (ws : List Int) (T : Nat → List Nat) (bl : Nat → Int) (f k : Nat) (hS : Sorted ab ws T bl) (hn : ab.length = n) (hk : k < n) (hf : k ≤ f) (ih : ∀ q, q < k → BestOk a n cap ab b cap' ws T bl f q) : BestOk a n cap ab b cap' ws T bl (f + 1) k := by
  intro w ha hb
  have HS := hide hS
  have HN := hide hn
  have HI := hide ih
  have H := hide ha
  have HW := hide hb
  have hn4 : n ≤ 4096 := by have := hS.rows.ok.few; omega
  clear hS hn ih ha hb
  go_enter Try.func35, Try.ntmps35
  go_wp2
  go_loopw [8, 9, 10, 23] (fun vo vp vw i wr => ∃ (j : Nat) (v : Nat → Value) (c : Nat → List Value), j ≤ n ∧ i = .int .i64 j ∧ vo = v 0 ∧ vp = v 1 ∧ vw = v 2 ∧ BSt wr w.heap.size ws bl T f (kidsTo ab j k) v c ∧ Below w.heap.size w wr) (fun _ _ _ i _ => n - (intOf i).toNat)
  case atStart => exact ⟨0, fun _ => .slice none 0 0, fun _ => [], Nat.zero_le _, rfl, rfl, rfl, rfl, BSt.start _ _ _ _ _ _, Below.refl _ _⟩
  case round =>
    obtain ⟨j, v, c, hj, rfl, rfl, rfl, rfl, hst, hbw⟩ := hrel
    have HST := hide hst
    have HBW := hide hbw
    clear hst hbw
    by_cases hjn : j < n
    · obtain ⟨b1, o1, rfl, zb1, c1⟩ := (H.out.below HBW.out).at (show 0 < n by omega)
      have q1 := c1 j hjn
      obtain ⟨A, hA⟩ : ∃ A, A = nth ab j := ⟨_, rfl⟩
      have q2 : wr.cell? ⟨b1, o1 + j, none⟩ = some (.int .i64 A) := by rw [hA]; exact q1
      have hjz : (j : Int) < (n : Int) := by omega
      have HKN := hide (kids_next ab j k)
      rw [← hA] at HKN
      have HA := hide hA
      clear q1 c1 hA
      by_cases hAk : A = (k : Int)
      · have HK2 : Hid (kidsTo ab (j + 1) k = kidsTo ab j k ++ [j]) := by rw [Hid, HKN.out, if_pos hAk]
        have hE : (A == (k : Int)) = true := by simpa using hAk
        have hjk : j < k := by
          have h1 : j ∈ kids ab k := by
            have h2 : nth ab j = (k : Int) := by rw [← HA.out]; exact hAk
            simp [kids, kidsTo, h2]
            rw [HN.out]
            exact hjn
          exact (kids_lt HS.out.rows.ok h1).1
        have HCA := hide (HI.out j hjk wr (H.out.below HBW.out) (HW.out.below HBW.out))
        have hkl := kids_len ab j k
        have HL0 : Hid ((c 0).length ≤ 65536) := by rw [Hid, HST.out.c0]; simp; omega
        have HL1 : Hid ((c 1).length ≤ 65536) := by rw [Hid, HST.out.c1]; simp; omega
        have HL2 : Hid ((c 2).length ≤ 65536) := by rw [Hid, HST.out.c2]; simp; omega
        obtain ⟨P, hP⟩ : ∃ P, P = peakN ws bl j := ⟨_, rfl⟩
        rw [← hP] at HCA
        have HP := hide hP
        obtain ⟨b2, o2, rfl, _, _⟩ := (HW.out.below HBW.out).at (show 0 < n by omega)
        have HWD : Hid (∀ W, Below w.heap.size w W → W.cell? ⟨b2, o2 + j, none⟩ = some (.int .i64 (nth ws j))) := fun W hW => by
          obtain ⟨b4, o4, e, _, c⟩ := (HW.out.below hW).at (show 0 < n by omega)
          cases e
          exact c j hjn
        clear hAk hkl hP
        go_wp2_with (first
          | (at_builtin; refine append_fam rfl (.tmp 46) (.tmp 51) 27 3 _ 8 rfl Try.underlying27 info_int rfl (by decide) w.heap.size _ _ tB _ HF3.out 2 (by omega) rfl (v 2) ((updF_ne (by omega)).trans ((updF_ne (by omega)).trans (updF_ne (by omega)))) rfl (c 2) ((updF_ne (by omega)).trans ((updF_ne (by omega)).trans (updF_ne (by omega)))) _ rfl rfl HL2.out HB3.out.size ?_; intro v4 w4 hF hb; have HF4 := hide hF; have HB4 := hide (HB3.out.trans hb); clear hF hb)
          | (at_builtin; refine append_fam rfl (.tmp 42) (.tmp 44) 27 3 _ 8 rfl Try.underlying27 info_int rfl (by decide) w.heap.size _ _ tB _ HF2.out 1 (by omega) rfl (v 1) ((updF_ne (by omega)).trans (updF_ne (by omega))) rfl (c 1) ((updF_ne (by omega)).trans (updF_ne (by omega))) _ rfl rfl HL1.out HB2.out.size ?_; intro v3 w3 hF hb; have HF3 := hide hF; have HB3 := hide (HB2.out.trans hb); have q5 := HWD.out _ HB3.out; have y5 := lt_of_cell q5; simp only at y5; clear hF hb)
          | (at_builtin; refine append_fam rfl (.tmp 38) (.tmp 40) 55 27 _ 24 rfl Try.underlying55 info_ints27 rfl (by decide) w.heap.size _ _ tB _ HF1.out 0 (by omega) rfl (v 0) (updF_ne (by omega)) rfl (c 0) (updF_ne (by omega)) _ rfl rfl HL0.out HB1.out.size ?_; intro v2 w2 hF hb; have HF2 := hide hF; have HB2 := hide (HB1.out.trans hb); clear hF hb)
          | (go_at_call 35; refine HCA.out.mono ?_; rintro e w1 ⟨⟨u, rfl, hu⟩, hb⟩; obtain ⟨ua, uc, rfl, _⟩ := hu.slice; have HF1 := hide (HST.out.add hb hu HBW.out.size); have HB1 := hide (bl_on HBW.out hb); clear hu hb))
        go_roundw
        case rel => exact ⟨j + 1, _, _, by omega, by go_num, rfl, rfl, rfl, by rw [HK2.out]; exact HST.out.next (by rw [← HP.out]; exact HF4.out), HB4.out⟩
        case measure => simp [intOf]; omega
      · have HK2 : Hid (kidsTo ab (j + 1) k = kidsTo ab j k) := by rw [Hid, HKN.out, if_neg hAk]
        have hE : (A == (k : Int)) = false := by simpa using hAk
        go_wp2
        go_roundw
        case rel => exact ⟨j + 1, v, c, by omega, by go_num, rfl, rfl, rfl, by rw [HK2.out]; exact HST.out, HBW.out⟩
        case measure => simp [intOf]; omega
    · obtain rfl : j = n := by omega
      have hjz : ¬ (j : Int) < (j : Int) := by omega
      have hst2 := HST.out
      have hkk : kidsTo ab j k = kids ab k := by rw [kids, HN.out]
      rw [hkk] at hst2
      obtain ⟨d, hd, htk⟩ := dord_of (HS.out.srt k (by rw [HN.out]; exact hk))
      have hkb : ∀ q ∈ kids ab k, q < j := fun q hq => by have h1 := kids_lt HS.out.rows.ok hq; have h2 := HN.out; omega
      have hlk : (kids ab k).length ≤ 4096 := by have h1 := kids_len ab ab.length k; have h2 := HN.out; unfold kids; omega
      have HTL : Hid ((T k).length = (kids ab k).length) := (HS.out.rows.perm k (by rw [HN.out]; exact hk)).length_eq
      obtain ⟨ks, hks⟩ : ∃ ks, ks = kids ab k := ⟨_, rfl⟩
      rw [← hks] at hst2 hd htk hkb hlk HTL
      obtain ⟨A0, C0, A1, C1, A2, C2, e0, e1, e2, hrd⟩ := hst2.left
      rw [e0, e1, e2]
      obtain ⟨m, hm⟩ : ∃ m, m = ks.length := ⟨_, rfl⟩
      rw [← hm] at hlk hrd HTL hd ⊢
      have HM := hide hm
      have HD := hide hd
      have HTK := hide htk
      have HKB := hide hkb
      have HRD := hide hrd
      have hmk := run_make_row' (P := Try.prog) 53 4 (.bool false) 1 Try.underlying53 info_bool5 rfl .i64 .i64 m (by omega) (by omega)
      clear hst2 hkk hd htk hkb hks e0 e1 e2 hrd hm HST
      obtain ⟨W1, hW1⟩ : ∃ W1, W1 = wr := ⟨_, rfl⟩
      subst hW1
      go_wp2
      go_loopw [15, 16, 17, 59] (fun vo vh vm i wx => ∃ r : Nat, r ≤ m ∧ i = .int .i64 r ∧ vh = .int .i64 (wsum ws ((T k).take r)) ∧ vm = .int .i64 (mostF ws bl 0 0 ((T k).take r)) ∧ Pick W1 ws bl T f m (T k) d r vo wx) (fun _ _ _ i _ => m - (intOf i).toNat)
      case atStart => exact ⟨0, Nat.zero_le _, rfl, rfl, rfl, pick_start _ _ _ _ _ _ _ _⟩
      case round =>
        clear hmk
        obtain ⟨r, hr, rfl, rfl, rfl, hpk⟩ := hrel
        have HPK := hide hpk
        clear hpk
        have hwb := wsum_bound HS.out.rows.ok ((T k).take r) (fun q hq => by have h1 := HS.out.rows.lt (k := k) (by rw [HN.out]; exact hk) (List.mem_of_mem_take hq); have h2 := HN.out; omega)
        have htl : ((T k).take r).length ≤ 4096 := by rw [List.length_take]; have h1 := HTL.out; omega
        have hmb := mostF_bound HS.out.rows.ok (bl := bl) (K := 17592186044416) ((T k).take r) 0 0 (fun q hq => by
          have h1 := HS.out.rows.lt (k := k) (by rw [HN.out]; exact hk) (List.mem_of_mem_take hq)
          have h2 := HN.out
          exact ⟨by omega, HS.out.pos q (by omega), HS.out.hi q (by omega)⟩) (by omega) (by omega) (by omega) (by omega)
        obtain ⟨held, hheld⟩ : ∃ x, x = wsum ws ((T k).take r) := ⟨_, rfl⟩
        obtain ⟨most, hmost⟩ : ∃ x, x = mostF ws bl 0 0 ((T k).take r) := ⟨_, rfl⟩
        rw [← hheld] at hwb ⊢
        rw [← hmost] at hmb ⊢
        have hhb : 0 ≤ held ∧ held ≤ 4294967296 := by omega
        have HHE := hide hheld
        have HMO := hide hmost
        clear hheld hmost hwb htl
        by_cases hrm : r < m
        · obtain ⟨go, gp, gw, rfl, rfl, rfl, hbr⟩ := HRD.out (by omega)
          have HBR := hide hbr
          have hrz : (r : Int) < (m : Int) := by omega
          obtain ⟨s, hs⟩ : ∃ s, s = atK d r := ⟨_, rfl⟩
          have hsm : s < m := by rw [hs]; exact HD.out.lt hrm
          have HSS := hide hs
          have HEND : Hid (∀ i : Int, SelB (fun x => bl (atK ks x)) (doneD d r) m i → i = (s : Int)) := fun i hi => by rw [hs]; exact sel_end HD.out hrm hi
          have hzt := HPK.out.row.lt
          clear hbr hs
          obtain ⟨W0, hW0⟩ : ∃ W0, W0 = wr := ⟨_, rfl⟩
          subst hW0
          have HB0 := hide HPK.out.bel
          go_wp2
          go_loopw [19, 63] (fun v19 v63 wr => ∃ (x : Nat) (i : Int), x ≤ m ∧ v63 = .int .i64 x ∧ v19 = .int .i64 i ∧ SelB (fun x => bl (atK ks x)) (doneD d r) x i ∧ Below W0.heap.size W0 wr) (fun _ v63 _ => m - (intOf v63).toNat)
          case atStart => exact ⟨0, -1, Nat.zero_le _, rfl, rfl, SelB.start _ _, Below.refl _ _⟩
          case round =>
            obtain ⟨x, i, hx, rfl, rfl, hsel, hB5⟩ := hrel
            have HSEL := hide hsel
            have HB5 := hide hB5
            have HBA := hide (bl_on HB0.out hB5)
            clear hsel hB5
            by_cases hxm : x < m
            · have d1 := (HB5.out.cell (p := ⟨W1.heap.size, x, none⟩) hzt).trans (HPK.out.row.cell (i := x) hxm)
              have HRX := hide (HBR.out.below HBA.out)
              have p1 := HRX.out.pks x (by rw [← HM.out]; exact hxm)
              have w1 := HRX.out.own x (by rw [← HM.out]; exact hxm)
              have hxz : (x : Int) < (m : Int) := by omega
              have z1 := lt_of_cell d1
              have z2 := lt_of_cell p1
              have z3 := lt_of_cell w1
              simp only at z1 z2 z3
              obtain ⟨D, hD⟩ : ∃ D, D = doneD d r x := ⟨_, rfl⟩
              rw [← hD] at d1
              have HDD := hide hD
              have HPB : Hid (∀ y, y < m → 0 ≤ bl (atK ks y) ∧ bl (atK ks y) ≤ 17592186044416 ∧ 0 ≤ nth ws (atK ks y) ∧ nth ws (atK ks y) ≤ 1048576) := fun y hy => by
                have h1 := HKB.out (atK ks y) (atK_mem _ y (by rw [← HM.out]; exact hy))
                have h2 := HN.out
                have h3 := HS.out.pos (atK ks y) (by omega)
                have h4 := HS.out.hi (atK ks y) (by omega)
                have h5 := HS.out.rows.ok.wd (atK ks y) (by omega)
                exact ⟨h3, h4, h5⟩
              clear hD
              go_wp2_with fail
              obtain ⟨V, hV⟩ : ∃ V : Bool, V = (!D && (decide (i < 0) || decide (bl (atK ks i.toNat) < bl (atK ks x)))) := ⟨_, rfl⟩
              have HV := hide hV
              clear hV
              go_cut [95] (fun c wx => c = .bool V ∧ Below wr.heap.size wr wx)
              case first =>
                cases D
                · by_cases hi0 : i < 0
                  · go_quiet (fail)
                    go_wp2
                    go_meet
                    exact ⟨by rw [HV.out]; simp [hi0], bl_drewN _ _⟩
                  · obtain ⟨q, rfl⟩ : ∃ q : Nat, i = q := ⟨i.toNat, by omega⟩
                    have hq : q < m := by
                      rcases HSEL.out with ⟨e, _⟩ | ⟨m', e, h1, _⟩ <;> omega
                    have p2 := HRX.out.pks q (by rw [← HM.out]; exact hq)
                    have w2 := HRX.out.own q (by rw [← HM.out]; exact hq)
                    have hqz : (q : Int) < (m : Int) := by omega
                    have bx := HPB.out x hxm
                    have bq := HPB.out q hq
                    have hv : V = decide (peakN ws bl (atK ks x) - nth ws (atK ks x) > peakN ws bl (atK ks q) - nth ws (atK ks q)) := by
                      rw [HV.out, decide_eq_false hi0, Int.toNat_natCast]
                      unfold peakN
                      simp only [Bool.not_false, Bool.true_and, Bool.false_or]
                      congr 1
                      refine propext ⟨fun h => ?_, fun h => ?_⟩ <;> omega
                    have hpx : peakN ws bl (atK ks x) = nth ws (atK ks x) + bl (atK ks x) := rfl
                    have hpq : peakN ws bl (atK ks q) = nth ws (atK ks q) + bl (atK ks q) := rfl
                    obtain ⟨P1, hP1⟩ : ∃ P1, P1 = peakN ws bl (atK ks x) := ⟨_, rfl⟩
                    obtain ⟨P2, hP2⟩ : ∃ P2, P2 = peakN ws bl (atK ks q) := ⟨_, rfl⟩
                    obtain ⟨O1, hO1⟩ : ∃ O1, O1 = nth ws (atK ks x) := ⟨_, rfl⟩
                    obtain ⟨O2, hO2⟩ : ∃ O2, O2 = nth ws (atK ks q) := ⟨_, rfl⟩
                    rw [← hP1, ← hP2, ← hO1, ← hO2] at hv
                    rw [← hP1] at p1 hpx
                    rw [← hP2] at p2 hpq
                    rw [← hO1] at w1 hpx bx
                    rw [← hO2] at w2 hpq bq
                    have hw1 : IntKind.i64.wrap (P1 - O1) = P1 - O1 := by rw [IntKind.wrap_i64]; omega
                    have hw2 : IntKind.i64.wrap (P2 - O2) = P2 - O2 := by rw [IntKind.wrap_i64]; omega
                    clear hP1 hP2 hO1 hO2 hpx hpq bx bq
                    by_cases hlq : P1 - O1 > P2 - O2
                    · have HVT : Hid (V = true) := by rw [Hid, hv]; simp [hlq]
                      clear hv HV
                      go_quiet (fail)
                      go_wp2
                      go_meet
                      exact ⟨by rw [HVT.out], bl_drewN _ _⟩
                    · have HVT : Hid (V = false) := by rw [Hid, hv]; simp [hlq]
                      clear hv HV
                      go_quiet (fail)
                      go_wp2
                      go_meet
                      exact ⟨by rw [HVT.out], bl_drewN _ _⟩
                · go_quiet (fail)
                  go_wp2
                  go_meet
                  exact ⟨by rw [HV.out]; simp, bl_drewN _ _⟩
              case rest =>
                obtain ⟨rfl, hb6⟩ := hcut
                have HB6 := hide (bl_on HB5.out hb6)
                clear hb6 d1 p1 w1
                cases hDv : D
                · rw [hDv] at HDD
                  by_cases hi0 : i < 0
                  · have hi1 : i = -1 := by rcases HSEL.out with ⟨e, _⟩ | ⟨m', e, _⟩ <;> omega
                    subst hi1
                    have HS2 := hide (HSEL.out.first HDD.out.symm)
                    have hVv : V = true := by rw [HV.out, hDv]; simp
                    clear HV
                    subst hVv
                    go_wp2
                    go_roundw
                    case rel => exact ⟨x + 1, (x : Int), by omega, by go_num, rfl, HS2.out, HB6.out⟩
                    case measure => simp [intOf]; omega
                  · obtain ⟨q, rfl⟩ : ∃ q : Nat, i = q := ⟨i.toNat, by omega⟩
                    have hq0 : decide ((q : Int) < 0) = false := decide_eq_false hi0
                    by_cases hlq : bl (atK ks q) < bl (atK ks x)
                    · have HS2 := hide (HSEL.out.more HDD.out.symm hlq)
                      have hVv : V = true := by rw [HV.out, hDv, hq0, Int.toNat_natCast]; simp [hlq]
                      clear HV
                      subst hVv
                      go_wp2
                      go_roundw
                      case rel => exact ⟨x + 1, (x : Int), by omega, by go_num, rfl, HS2.out, HB6.out⟩
                      case measure => simp [intOf]; omega
                    · have HS2 := hide (HSEL.out.less HDD.out.symm hlq)
                      have hVv : V = false := by rw [HV.out, hDv, hq0, Int.toNat_natCast]; simp; omega
                      clear HV
                      subst hVv
                      go_wp2
                      go_roundw
                      case rel => exact ⟨x + 1, (q : Int), by omega, by go_num, rfl, HS2.out, HB6.out⟩
                      case measure => simp [intOf]; omega
                · rw [hDv] at HDD
                  have HS2 := hide (HSEL.out.skip HDD.out.symm)
                  have hVv : V = false := by rw [HV.out, hDv]; simp
                  clear HV
                  subst hVv
                  go_wp2
                  go_roundw
                  case rel => exact ⟨x + 1, i, by omega, by go_num, rfl, HS2.out, HB6.out⟩
                  case measure => simp [intOf]; omega
            · obtain rfl : x = m := by omega
              have hxz : ¬ (x : Int) < (x : Int) := by omega
              have hi1 := HEND.out i HSEL.out
              subst hi1
              have hpk := HPK.out.keep HB5.out
              have hdl : r < d.length := by rw [HD.out.len]; exact hrm
              have hmk := hpk.mark hdl
              rw [← HSS.out] at hmk
              have HO3 := hide hmk.1
              have HR3 := hide hmk.2.1
              have HB3 := hide hmk.2.2
              have t1 := hpk.row.cell (i := s) hsm
              have t2 := hpk.row.frozen s
              have t3 := hpk.row.lt
              have hsz : (s : Int) < (x : Int) := by omega
              have HSM : Hid (s < ks.length) := by rw [Hid, ← HM.out]; exact hsm
              obtain ⟨g, cp, g1, g2, g3⟩ := (HBR.out.below HB3.out).ord s HSM.out
              have z3 := lt_of_cell g1
              simp only at z3
              have HG3 := hide g3
              have hrt : r < (T k).length := by rw [HTL.out]; exact hrm
              have HAT : Hid (atK (T k) r = atK ks s) := by rw [Hid, HTK.out, atK_map _ _ _ hdl, HSS.out]
              have HAT2 : Hid ((T k)[r]?.getD 0 = atK ks s) := HAT.out
              have HLL : Hid ((((T k).take r).flatMap (climbF T f)).length + (climbF T f (atK ks s)).length ≤ 65536) := by
                have h1 := best_len HS.out (f := f) (k := k) (r := r) hf (by rw [HN.out]; exact hk) hrt
                rw [HAT.out] at h1
                have h2 := HN.out
                rw [Hid]
                omega
              have HZ3 : Hid (W1.heap.size + 1 ≤ (wr.setCell ⟨W1.heap.size, s, none⟩ (.bool true)).heap.size) := by
                rw [Hid]
                have := HR3.out.lt
                omega
              obtain ⟨P, hP⟩ : ∃ P, P = peakN ws bl (atK ks s) := ⟨_, rfl⟩
              obtain ⟨O, hO⟩ : ∃ O, O = nth ws (atK ks s) := ⟨_, rfl⟩
              have HPP := hide hP
              have HOO := hide hO
              have HPV : Hid (P = O + bl (atK ks s)) := by rw [Hid, hP, hO]; rfl
              have hPb : 0 ≤ P ∧ P ≤ 17592187092992 := by
                rw [hP]
                exact peakN_bd HS.out (by have h1 := HKB.out (atK ks s) (atK_mem _ s HSM.out); have h2 := HN.out; omega)
              have hOb : 0 ≤ O ∧ O ≤ 1048576 := by
                rw [hO]
                exact HS.out.rows.ok.wd _ (by have h1 := HKB.out (atK ks s) (atK_mem _ s HSM.out); have h2 := HN.out; omega)
              have hw1 : IntKind.i64.wrap (held + P) = held + P := by rw [IntKind.wrap_i64]; omega
              have hw2 : IntKind.i64.wrap (held + O) = held + O := by rw [IntKind.wrap_i64]; omega
              clear hmk hpk g2 g3 hP hO
              by_cases hgt : held + P > most
              · go_wp2_with (at_builtin; refine append_nvs rfl (.tmp 101) (.tmp 105) rfl (W1.heap.size + 1) _ _ rfl HO3.out g cp _ rfl HG3.out HLL.out HZ3.out ?_; intro v2 w2 hown hg; have hpn := Pick.next (bl := bl) (ws := ws) (m := x) (d := d) hrt HAT.out HO3.out HR3.out HB3.out hown hg; have HPN := hide hpn; have p1 := (HBR.out.below hpn.bel).pks s HSM.out; have w1 := (HBR.out.below hpn.bel).own s HSM.out; rw [← HPP.out] at p1; rw [← HOO.out] at w1; have z5 := lt_of_cell p1; have z6 := lt_of_cell w1; simp only at z5 z6; clear hown hg hpn)
                go_roundw
                case rel => exact ⟨r + 1, by omega, by go_num, by rw [wsum_take ws (T k) r hrt, ← HHE.out, HAT2.out, ← HOO.out], by rw [mostF_take ws bl (T k) r hrt, ← HMO.out, ← HHE.out, HAT.out, ← HOO.out]; have h1 := HPV.out; congr 1; omega, HPN.out⟩
                case measure => simp [intOf]; omega
              · go_wp2_with (at_builtin; refine append_nvs rfl (.tmp 101) (.tmp 105) rfl (W1.heap.size + 1) _ _ rfl HO3.out g cp _ rfl HG3.out HLL.out HZ3.out ?_; intro v2 w2 hown hg; have hpn := Pick.next (bl := bl) (ws := ws) (m := x) (d := d) hrt HAT.out HO3.out HR3.out HB3.out hown hg; have HPN := hide hpn; have p1 := (HBR.out.below hpn.bel).pks s HSM.out; have w1 := (HBR.out.below hpn.bel).own s HSM.out; rw [← HPP.out] at p1; rw [← HOO.out] at w1; have z5 := lt_of_cell p1; have z6 := lt_of_cell w1; simp only at z5 z6; clear hown hg hpn)
                go_roundw
                case rel => exact ⟨r + 1, by omega, by go_num, by rw [wsum_take ws (T k) r hrt, ← HHE.out, HAT2.out, ← HOO.out], by rw [mostF_take ws bl (T k) r hrt, ← HMO.out, ← HHE.out, HAT.out, ← HOO.out]; have h1 := HPV.out; congr 1; omega, HPN.out⟩
                case measure => simp [intOf]; omega
        · obtain rfl : r = m := by omega
          have hrz : ¬ (r : Int) < (r : Int) := by omega
          have HTA : Hid ((T k).take r = T k) := List.take_of_length_le (by rw [HTL.out]; exact Nat.le_refl _)
          have hown := HPK.out.own
          have hbel := HPK.out.bel
          have HBE := hide (bl_on HBW.out hbel)
          obtain ⟨b2, o2, rfl, zb2, c2⟩ := (HW.out.below HBE.out).at (show 0 < j by omega)
          have q2 := c2 k hk
          obtain ⟨K, hK⟩ : ∃ K, K = nth ws k := ⟨_, rfl⟩
          have q3 : wr.cell? ⟨b2, o2 + k, none⟩ = some (.int .i64 K) := by rw [hK]; exact q2
          have hKb : 0 ≤ K ∧ K ≤ 1048576 := by rw [hK]; exact HS.out.rows.ok.wd k (by rw [HN.out]; exact hk)
          have hkz : (k : Int) < (j : Int) := by omega
          have hw1 : IntKind.i64.wrap (held + K) = held + K := by rw [IntKind.wrap_i64]; omega
          have hbey := HS.out.bey k (by rw [HN.out]; exact hk)
          unfold beyV at hbey
          rw [HTA.out] at HHE HMO
          have HRES : Hid (peakN ws bl k = max most (held + K)) := by
            rw [Hid]
            have h1 := HHE.out
            have h2 := HMO.out
            unfold peakN
            omega
          rw [HTA.out] at hown
          have HOWN := hide hown
          have HLL : Hid (((T k).flatMap (climbF T f)).length ≤ 65536) := by
            have h1 := best_all HS.out (f := f) (k := k) hf (by rw [HN.out]; exact hk)
            have h2 := HN.out
            rw [Hid]
            omega
          obtain ⟨FL, hFL⟩ : ∃ FL, FL = (T k).flatMap (climbF T f) := ⟨_, rfl⟩
          rw [← hFL] at HOWN HLL hown
          have HFL := hide hFL
          clear hFL
          have HZ3 : Hid (W1.heap.size + 1 ≤ wr.heap.size) := by
            rw [Hid]
            have := HPK.out.row.lt
            omega
          have HB9 := hide hbel
          clear hown hbel c2 q2 hK hbey
          by_cases hgt : held + K > most
          · have HR2 : Hid (held + K = peakN ws bl k) := by rw [Hid, HRES.out]; omega
            go_wp2_with (at_builtin; refine append_nvL rfl (.tmp 142) (.tmp 144) rfl (W1.heap.size + 1) _ _ rfl k HOWN.out rfl HLL.out HZ3.out ?_; intro g3 c3 w3 hown hg3; have HO4 := hide hown; have HB4 := hide (((HBE.out.alloc HBE.out.size _).grown hg3 (Nat.le_trans HBE.out.size (bl_new _).size) (fun jj e => by have h1 := (HOWN.out.at e).1; have h2 := HBW.out.size; omega))); clear hown hg3)
            go_ret2
            exact ⟨⟨_, by rw [← HR2.out]; rfl, by rw [climbF, ← HFL.out]; exact HO4.out.base (B := w.heap.size) (by have h2 := HBW.out.size; omega)⟩, HB4.out⟩
          · have HR2 : Hid (most = peakN ws bl k) := by rw [Hid, HRES.out]; omega
            go_wp2_with (at_builtin; refine append_nvL rfl (.tmp 142) (.tmp 144) rfl (W1.heap.size + 1) _ _ rfl k HOWN.out rfl HLL.out HZ3.out ?_; intro g3 c3 w3 hown hg3; have HO4 := hide hown; have HB4 := hide (((HBE.out.alloc HBE.out.size _).grown hg3 (Nat.le_trans HBE.out.size (bl_new _).size) (fun jj e => by have h1 := (HOWN.out.at e).1; have h2 := HBW.out.size; omega))); clear hown hg3)
            go_ret2
            exact ⟨⟨_, by rw [← HR2.out]; rfl, by rw [climbF, ← HFL.out]; exact HO4.out.base (B := w.heap.size) (by have h2 := HBW.out.size; omega)⟩, HB4.out⟩
end Go.Proofs.Ytnncalhpbfmgoaa.V
