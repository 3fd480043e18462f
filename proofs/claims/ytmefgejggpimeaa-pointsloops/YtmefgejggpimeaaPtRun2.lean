/-
  Contract: the document's Run.
-/
import Derived.Test.YtmefgejggpimeaaPtRun1
import Derived.Test.YtmefgejggpimeaaPtBox
namespace Go.Proofs.Ytmefgejggpimeaa.V
open Go.RowKit
set_option linter.unusedVariables false

/-- All loops' rows, to be read. -/
def LoopsAt (w : World) (L n : Nat) (T : Nat → List LpB) : Prop := ∀ s, s < n * 2 → ∃ g c vs, w.cell? ⟨L, s, none⟩ = some (.slice (some ⟨g, 0, none⟩) (T s).length c) ∧ BdsAt w g vs (T s)
theorem LoopsAt.below {w w' : World} {L n : Nat} {T : Nat → List LpB} (h : LoopsAt w L n T) (hb : Below w.heap.size w w') : LoopsAt w' L n T := fun s hs => by
  obtain ⟨g, c, vs, h1, h2⟩ := h s hs
  exact ⟨g, c, vs, (hb.cell (p := ⟨L, s, none⟩) (lt_of_cell h1)).trans h1, h2.below hb⟩
theorem Table.loops {w : World} {B L n : Nat} {g : Nat → Value} {T : Nat → List LpB} (h : Table w B L (n * 2) g T) : LoopsAt w L n T := fun s hs => by
  obtain ⟨g0, c, vs, e, _, hb⟩ := (h.side s hs).bds
  exact ⟨g0, c, vs, (h.row.cell (i := s) hs).trans (by rw [e]), hb⟩
theorem flat_range_succ (F : Int → List (List Int)) (LO : Int) (j : Nat) : ((List.range (j + 1)).map fun i : Nat => LO + i).flatMap F = (((List.range j).map fun i : Nat => LO + i).flatMap F) ++ F (LO + j) := by
  rw [List.range_succ, List.map_append, List.flatMap_append]
  simp
theorem flat_range_le (F : Int → List (List Int)) (LO : Int) (j m : Nat) (h : j ≤ m) : (((List.range j).map fun i : Nat => LO + i).flatMap F).length ≤ (((List.range m).map fun i : Nat => LO + i).flatMap F).length := by
  induction m with
  | zero => obtain rfl : j = 0 := by omega
            exact Nat.le_refl _
  | succ m ih =>
    by_cases e : j = m + 1
    · subst e; exact Nat.le_refl _
    · have := ih (by omega)
      rw [flat_range_succ, List.length_append]
      omega
set_option maxHeartbeats 1000000 in
theorem rrun_done (L n : Nat) (ba : Option Addr) (bc : Nat) (xa : Option Addr) (xc : Nat) (x : List Int) (w : World) (hx : Lst w xa n xc x) (hf : Flush xa) :
    Calls Try.prog 24 #[.slice (some ⟨L, 0, none⟩) n n, .slice ba n bc, .slice xa n xc] w fun e w' => (∃ v, e = .returned (.tuple #[v, .bool true]) ∧ OutL w' w.heap.size v [x]) ∧ Below w.heap.size w w' := by
  have HX := hide hx
  have HF := hide hf
  clear hx hf
  go_enter Try.func24, Try.ntmps24
  go_wp2_with fail
  go_ret2
  refine ⟨⟨_, rfl, [.slice xa n xc], own_one w w.heap.size 22 _ (Nat.le_refl _), ⟨rfl, fun i hi => ?_⟩, .inr (by simp)⟩, bl_new _⟩
  obtain rfl : i = 0 := by simpa using hi
  exact ⟨xa, n, xc, rfl, HX.out.below (bl_new _), HF.out⟩
set_option maxRecDepth 100000 in
set_option maxHeartbeats 16000000 in
theorem rrun_step (L n k : Nat) (T : Nat → List LpB) (ba : Option Addr) (bc : Nat) (box : List Int) (xa : Option Addr) (xc : Nat) (x : List Int) (w : World) (lp : Lp) (F : Int → List (List Int))
    (hL : LoopsAt w L n T) (hT1 : T (k * 2) = lp.lows) (hT2 : T (k * 2 + 1) = lp.highs) (f1 : ∀ b ∈ lp.lows, LpFit k b) (f2 : ∀ b ∈ lp.highs, LpFit k b) (n1 : lp.lows.length ≤ 100) (n2 : lp.highs.length ≤ 100)
    (hbox : Lst w ba n bc box) (hx : Lst w xa k xc x) (hkn : k < n) (hn : n ≤ 4) (hxb : ∀ y ∈ x, 0 ≤ y ∧ y ≤ 4096)
    (hin : lp.lo x ≤ lp.hi x → 0 ≤ lp.lo x ∧ lp.hi x < box[k]?.getD 0) (hbk : 0 ≤ box[k]?.getD 0 ∧ box[k]?.getD 0 ≤ 4096) (hsz : ((fromTo (lp.lo x) (lp.hi x)).flatMap F).length ≤ 4096)
    (ih : ∀ (m : Int) (w1 : World) (xa' : Option Addr) (xc' : Nat), lp.lo x ≤ m → m ≤ lp.hi x → Below w.heap.size w w1 → Lst w1 xa' (k + 1) xc' (x ++ [m]) → Flush xa' → Calls Try.prog 24 #[.slice (some ⟨L, 0, none⟩) n n, .slice ba n bc, .slice xa' ((k + 1 : Nat)) xc'] w1 fun e w' => (∃ v, e = .returned (.tuple #[v, .bool true]) ∧ OutL w' w1.heap.size v (F m)) ∧ Below w1.heap.size w1 w') :
    Calls Try.prog 24 #[.slice (some ⟨L, 0, none⟩) n n, .slice ba n bc, .slice xa k xc] w fun e w' => (∃ v, e = .returned (.tuple #[v, .bool true]) ∧ OutL w' w.heap.size v ((fromTo (lp.lo x) (lp.hi x)).flatMap F)) ∧ Below w.heap.size w w' := by
  obtain ⟨g1, c1, v1, e1, bd1⟩ := hL (k * 2) (by omega)
  obtain ⟨g2, c2, v2, e2, bd2⟩ := hL (k * 2 + 1) (by omega)
  rw [hT1] at e1 bd1
  rw [hT2] at e2 bd2
  obtain ⟨lows, highs⟩ := lp
  simp only at e1 e2 bd1 bd2 f1 f2 n1 n2
  obtain ⟨m1, hm1⟩ : ∃ m, m = lows.length := ⟨_, rfl⟩
  obtain ⟨m2, hm2⟩ : ∃ m, m = highs.length := ⟨_, rfl⟩
  rw [← hm1] at e1 n1
  rw [← hm2] at e2 n2
  have zL := lt_of_cell e1
  simp only at zL
  have HM := hide (And.intro hm1 hm2)
  have B1 : Below w.heap.size w (w.alloc (.cells #[.slice (some ⟨g1, 0, none⟩) m1 c1, .slice (some ⟨g2, 0, none⟩) m2 c2] 48)) := bl_new _
  have H1 := hide (bd1.below B1)
  have H2 := hide (bd2.below B1)
  have HX := hide (hx.below B1)
  have HBX := hide (hbox.below B1)
  have HB := hide B1
  have bx : (w.alloc (.cells #[.slice (some ⟨g1, 0, none⟩) m1 c1, .slice (some ⟨g2, 0, none⟩) m2 c2] 48)).heap[w.heap.size]? = some (.cells #[.slice (some ⟨g1, 0, none⟩) m1 c1, .slice (some ⟨g2, 0, none⟩) m2 c2] 48 (0, 0)) := World.alloc_heap_new _ _
  obtain ⟨W1, hW1⟩ : ∃ W1, W1 = w.alloc (.cells #[.slice (some ⟨g1, 0, none⟩) m1 c1, .slice (some ⟨g2, 0, none⟩) m2 c2] 48) := ⟨_, rfl⟩
  rw [← hW1] at H1 H2 HX HBX HB bx
  have hz : W1.heap.size = w.heap.size + 1 := by rw [hW1]; simp
  have HBL := hide bx
  have HW1 := hide hW1
  have HIN := hide hin
  have HBK := hide hbk
  have HSZ := hide hsz
  have HIH := hide ih
  have HF1 := hide f1
  have HF2 := hide f2
  have HXB := hide hxb
  have HXL := hide hx.1.1
  have HXw := hide hx
  have k1 : W1.cell? ⟨w.heap.size, 0, none⟩ = some (.slice (some ⟨g1, 0, none⟩) m1 c1) := by simp [World.cell?, bx]
  have zN : w.heap.size < W1.heap.size := by omega
  have ckn : ((k : Int) == (n : Int)) = false := by simp; omega
  clear hL hT1 hT2 f1 f2 hbox hx hxb hin hbk hsz ih bd1 bd2 hm1 hm2 B1 bx hW1
  go_enter Try.func24, Try.ntmps24
  go_wp2_with fail
  rw [← HW1.out]
  clear e1 e2 zL ckn
  go_loopw [9, 36] (fun q i wr => ∃ j : Nat, j ≤ m1 ∧ i = .int .i64 j ∧ q = .int .i64 (maxL ((lows.take j).map (·.lo x))) ∧ Below W1.heap.size W1 wr) (fun _ i _ => m1 - (intOf i).toNat)
  case atStart => exact ⟨0, Nat.zero_le _, rfl, rfl, Below.refl _ _⟩
  case round =>
    obtain ⟨j, hj, rfl, rfl, hbr⟩ := hrel
    have HBa := hide hbr
    by_cases hlt : j < m1
    · have hjl : j < lows.length := by rw [← HM.out.1]; exact hlt
      have hd := H1.out.below hbr
      obtain ⟨a, l, c, e1, e2, e3, e4, _⟩ := hd.1.2 j hjl
      have ft := HF1.out _ (mem_getB _ j hjl)
      have bV := lo_bd ft (by omega) HXB.out
      have bA := at_bd ft (by omega) HXB.out
      have bM := maxL_bd ((lows.take j).map (·.lo x)) 17592186044416 (by omega) (fun y hy => by
        obtain ⟨b, hb, rfl⟩ := List.mem_map.1 hy
        exact lo_bd (HF1.out b (List.mem_of_mem_take hb)) (by omega) HXB.out)
      have hsn := map_take_succ lows (·.lo x) j hjl
      have hlen : ((lows.take j).map (·.lo x)).length = j := by simp; omega
      have hms := maxL_snoc ((lows.take j).map (·.lo x)) ((lows[j]?.getD ⟨[], 0, 1⟩).lo x)
      rw [← hsn, hlen] at hms
      obtain ⟨y, hy⟩ : ∃ y, y = lows[j]?.getD ⟨[], 0, 1⟩ := ⟨_, rfl⟩
      rw [← hy] at e2 e3 e4 ft bV bA hms
      obtain ⟨cs, K, D⟩ := y
      simp only at e2 e3 e4
      have d1 := hd.2 _ _ e1
      have d2 := hd.2 _ _ e2
      have d3 := hd.2 _ _ e3
      have z1 := lt_of_cell d1
      simp only at z1
      have q1 := ft.div
      have q2 := ft.const
      have q3 := ft.coef
      have q4 := ft.len
      simp only at q1 q2 q3 q4
      have hll : l = k := by rw [← e4.1.1]; exact q4
      subst hll
      have B2 : Below wr.heap.size wr (wr.alloc (.cells #[.slice a l c, .int .i64 K, .int .i64 D] 65)).drew := (bl_new _).drew
      have bb : (wr.alloc (.cells #[.slice a l c, .int .i64 K, .int .i64 D] 65)).drew.heap[wr.heap.size]? = some (.cells #[.slice a l c, .int .i64 K, .int .i64 D] 65 (0, 0)) := World.alloc_heap_new _ _
      have HC := hide (rAt_any a l c cs K xa l xc x _ (e4.1.below B2) ((HX.out.below hbr).1.below B2) rfl (by omega) q2 q3 HXB.out)
      obtain ⟨A, hA⟩ : ∃ A, A = worthV (cs, K) x := ⟨_, rfl⟩
      rw [← hA] at HC
      have eA : LpB.at ⟨cs, K, D⟩ x = A := hA.symm
      have eV : LpB.lo ⟨cs, K, D⟩ x = -(-A / D) := by unfold LpB.lo; rw [eA]
      rw [eA] at bA
      rw [eV] at bV hms
      have HD := hide (fun W => lpDown_any (-A) D W q1.1 (by omega) q1.2)
      obtain ⟨Q, hQ⟩ : ∃ Q, Q = -A / D := ⟨_, rfl⟩
      rw [← hQ] at HD bV hms
      have wA : IntKind.i64.wrap (-A) = -A := wrap_in _ (by omega) (by omega)
      have wQ : IntKind.i64.wrap (-Q) = -Q := wrap_in _ (by omega) (by omega)
      obtain ⟨M, hM⟩ : ∃ M, M = maxL ((lows.take j).map (·.lo x)) := ⟨_, rfl⟩
      rw [← hM] at bM hms ⊢
      have HMS := hide hms
      have HB2 := hide B2
      have HBB := hide bb
      clear hd e1 e2 e3 e4 ft hsn hlen hms hy q2 q3 q4 hA eA eV hQ hM hbr B2 bb hjl
      go_wp2_with fail
      go_region_with (first
        | (go_at_call 35; refine HC.out.mono ?_; rintro e w2 ⟨rfl, hb2⟩; have HB3 := hide hb2; have bb2 := (hb2.block wr.heap.size (Array.getElem?_eq_some_iff.1 HBB.out).1).trans HBB.out; have HBB2 := hide bb2; have zz2 := (Array.getElem?_eq_some_iff.1 bb2).1; have cc0 : w2.cell? ⟨wr.heap.size, 0, none⟩ = some (.slice a l c) := (by simp [World.cell?, bb2]); have cc1 : w2.cell? ⟨wr.heap.size, 1, none⟩ = some (.int .i64 K) := (by simp [World.cell?, bb2]); have cc2 : w2.cell? ⟨wr.heap.size, 2, none⟩ = some (.int .i64 D) := (by simp [World.cell?, bb2]); clear hb2 bb2)
        | (go_at_call 38; refine (HD.out _).mono ?_; rintro e w3 ⟨rfl, hb3⟩; have HB4 := hide hb3; clear hb3))
      all_goals have HBN := hide (bl_on HBa.out (bl_on HB2.out (bl_on HB3.out HB4.out)))
      all_goals clear HC HD HB2 HB3 HB4 HBB HBB2 cc0 cc1 cc2 zz2 d1 d2 d3 z1
      all_goals
        by_cases hj0 : j = 0
        · subst hj0
          have HF9 := hide (HMS.out.trans (if_pos (.inl rfl)))
          clear HMS
          go_wp2_with fail
          go_roundw
          case rel => exact ⟨1, by omega, by go_num, by rw [HF9.out], HBN.out⟩
          case measure => simp [intOf]; omega
        · have cj : ((j : Int) == 0) = false := by simp; omega
          by_cases hc : M < -Q
          · have HF9 := hide (HMS.out.trans (if_pos (.inr hc)))
            clear HMS
            go_wp2_with fail
            go_roundw
            case rel => exact ⟨j + 1, by omega, by go_num, by rw [HF9.out], HBN.out⟩
            case measure => simp [intOf]; omega
          · have HF9 := hide (HMS.out.trans (if_neg (by omega)))
            clear HMS
            go_wp2_with fail
            go_roundw
            case rel => exact ⟨j + 1, by omega, by go_num, by rw [HF9.out], HBN.out⟩
            case measure => simp [intOf]; omega
    · obtain rfl : j = m1 := by omega
      have bx := (hbr.block _ zN).trans HBL.out
      have k2 : wr.cell? ⟨w.heap.size, 1, none⟩ = some (.slice (some ⟨g2, 0, none⟩) m2 c2) := by simp [World.cell?, bx]
      have z2 : w.heap.size < wr.heap.size := (Array.getElem?_eq_some_iff.1 bx).1
      rw [List.take_of_length_le (by rw [HM.out.1]; exact Nat.le_refl _)]
      obtain ⟨LO, hLO⟩ : ∃ LO, LO = maxL (lows.map (·.lo x)) := ⟨_, rfl⟩
      rw [← hLO]
      have HLO := hide hLO
      have bLO : -17592186044416 ≤ LO ∧ LO ≤ 17592186044416 := by
        rw [hLO]
        exact maxL_bd _ 17592186044416 (by omega) (fun y hy => by
          obtain ⟨b, hb, rfl⟩ := List.mem_map.1 hy
          exact lo_bd (HF1.out b hb) (by omega) HXB.out)
      clear hbr bx hLO k1
      go_wp2_with fail
      clear k2 z2
      go_loopw [10, 62] (fun q i wr => ∃ j : Nat, j ≤ m2 ∧ i = .int .i64 j ∧ q = .int .i64 (minL ((highs.take j).map (·.hi x))) ∧ Below W1.heap.size W1 wr) (fun _ i _ => m2 - (intOf i).toNat)
      case atStart => exact ⟨0, Nat.zero_le _, rfl, rfl, HBa.out⟩
      case round =>
        obtain ⟨j, hj, rfl, rfl, hbr⟩ := hrel
        have HBb := hide hbr
        by_cases hlt : j < m2
        · have hjl : j < highs.length := by rw [← HM.out.2]; exact hlt
          have hd := H2.out.below hbr
          obtain ⟨a, l, c, e1, e2, e3, e4, _⟩ := hd.1.2 j hjl
          have ft := HF2.out _ (mem_getB _ j hjl)
          have bV := hi_bd ft (by omega) HXB.out
          have bA := at_bd ft (by omega) HXB.out
          have bM := minL_bd ((highs.take j).map (·.hi x)) 17592186044416 (by omega) (fun y hy => by
            obtain ⟨b, hb, rfl⟩ := List.mem_map.1 hy
            exact hi_bd (HF2.out b (List.mem_of_mem_take hb)) (by omega) HXB.out)
          have hsn := map_take_succ highs (·.hi x) j hjl
          have hlen : ((highs.take j).map (·.hi x)).length = j := by simp; omega
          have hms := minL_snoc ((highs.take j).map (·.hi x)) ((highs[j]?.getD ⟨[], 0, 1⟩).hi x)
          rw [← hsn, hlen] at hms
          obtain ⟨y, hy⟩ : ∃ y, y = highs[j]?.getD ⟨[], 0, 1⟩ := ⟨_, rfl⟩
          rw [← hy] at e2 e3 e4 ft bV bA hms
          obtain ⟨cs, K, D⟩ := y
          simp only at e2 e3 e4
          have d1 := hd.2 _ _ e1
          have d2 := hd.2 _ _ e2
          have d3 := hd.2 _ _ e3
          have z1 := lt_of_cell d1
          simp only at z1
          have q1 := ft.div
          have q2 := ft.const
          have q3 := ft.coef
          have q4 := ft.len
          simp only at q1 q2 q3 q4
          have hll : l = k := by rw [← e4.1.1]; exact q4
          subst hll
          have B2 : Below wr.heap.size wr (wr.alloc (.cells #[.slice a l c, .int .i64 K, .int .i64 D] 65)).drew := (bl_new _).drew
          have bb : (wr.alloc (.cells #[.slice a l c, .int .i64 K, .int .i64 D] 65)).drew.heap[wr.heap.size]? = some (.cells #[.slice a l c, .int .i64 K, .int .i64 D] 65 (0, 0)) := World.alloc_heap_new _ _
          have HC := hide (rAt_any a l c cs K xa l xc x _ (e4.1.below B2) ((HX.out.below hbr).1.below B2) rfl (by omega) q2 q3 HXB.out)
          obtain ⟨A, hA⟩ : ∃ A, A = worthV (cs, K) x := ⟨_, rfl⟩
          rw [← hA] at HC
          have eA : LpB.at ⟨cs, K, D⟩ x = A := hA.symm
          have eV : LpB.hi ⟨cs, K, D⟩ x = A / D := by unfold LpB.hi; rw [eA]
          rw [eA] at bA
          rw [eV] at bV hms
          have HD := hide (fun W => lpDown_any A D W q1.1 (by omega) q1.2)
          obtain ⟨Q, hQ⟩ : ∃ Q, Q = A / D := ⟨_, rfl⟩
          rw [← hQ] at HD bV hms
          skip
          skip
          obtain ⟨M, hM⟩ : ∃ M, M = minL ((highs.take j).map (·.hi x)) := ⟨_, rfl⟩
          rw [← hM] at bM hms ⊢
          have HMS := hide hms
          have HB2 := hide B2
          have HBB := hide bb
          clear hd e1 e2 e3 e4 ft hsn hlen hms hy q2 q3 q4 hA eA eV hQ hM hbr B2 bb hjl
          go_wp2_with fail
          go_region_with (first
            | (go_at_call 35; refine HC.out.mono ?_; rintro e w2 ⟨rfl, hb2⟩; have HB3 := hide hb2; have bb2 := (hb2.block wr.heap.size (Array.getElem?_eq_some_iff.1 HBB.out).1).trans HBB.out; have HBB2 := hide bb2; have zz2 := (Array.getElem?_eq_some_iff.1 bb2).1; have cc0 : w2.cell? ⟨wr.heap.size, 0, none⟩ = some (.slice a l c) := (by simp [World.cell?, bb2]); have cc1 : w2.cell? ⟨wr.heap.size, 1, none⟩ = some (.int .i64 K) := (by simp [World.cell?, bb2]); have cc2 : w2.cell? ⟨wr.heap.size, 2, none⟩ = some (.int .i64 D) := (by simp [World.cell?, bb2]); clear hb2 bb2)
            | (go_at_call 38; refine (HD.out _).mono ?_; rintro e w3 ⟨rfl, hb3⟩; have HB4 := hide hb3; clear hb3))
          all_goals have HBN := hide (bl_on HBb.out (bl_on HB2.out (bl_on HB3.out HB4.out)))
          all_goals clear HC HD HB2 HB3 HB4 HBB HBB2 cc0 cc1 cc2 zz2 d1 d2 d3 z1
          all_goals
            by_cases hj0 : j = 0
            · subst hj0
              have HF9 := hide (HMS.out.trans (if_pos (.inl rfl)))
              clear HMS
              go_wp2_with fail
              go_roundw
              case rel => exact ⟨1, by omega, by go_num, by rw [HF9.out], HBN.out⟩
              case measure => simp [intOf]; omega
            · have cj : ((j : Int) == 0) = false := by simp; omega
              by_cases hc : Q < M
              · have HF9 := hide (HMS.out.trans (if_pos (.inr hc)))
                clear HMS
                go_wp2_with fail
                go_roundw
                case rel => exact ⟨j + 1, by omega, by go_num, by rw [HF9.out], HBN.out⟩
                case measure => simp [intOf]; omega
              · have HF9 := hide (HMS.out.trans (if_neg (by omega)))
                clear HMS
                go_wp2_with fail
                go_roundw
                case rel => exact ⟨j + 1, by omega, by go_num, by rw [HF9.out], HBN.out⟩
                case measure => simp [intOf]; omega
        · obtain rfl : j = m2 := by omega
          rw [List.take_of_length_le (by rw [HM.out.2]; exact Nat.le_refl _)]
          obtain ⟨HI, hHI⟩ : ∃ HI, HI = minL (highs.map (·.hi x)) := ⟨_, rfl⟩
          rw [← hHI]
          have bHI : -17592186044416 ≤ HI ∧ HI ≤ 17592186044416 := by
            rw [hHI]
            exact minL_bd _ 17592186044416 (by omega) (fun y hy => by
              obtain ⟨b, hb, rfl⟩ := List.mem_map.1 hy
              exact hi_bd (HF2.out b hb) (by omega) HXB.out)
          have eLO : (Lp.mk lows highs).lo x = LO := HLO.out.symm
          have eHI : (Lp.mk lows highs).hi x = HI := hHI.symm
          have hin : LO ≤ HI → 0 ≤ LO ∧ HI < box[k]?.getD 0 := by rw [← eLO, ← eHI]; exact HIN.out
          have hsz : ((fromTo LO HI).flatMap F).length ≤ 4096 := by rw [← eLO, ← eHI]; exact HSZ.out
          have hih := HIH.out
          rw [eLO, eHI] at hih
          have HIN2 := hide hin
          have HIH2 := hide hih
          obtain ⟨N, hN⟩ : ∃ N, N = (HI - LO + 1).toNat := ⟨_, rfl⟩
          have HFT : Hid ((fromTo ((Lp.mk lows highs).lo x) ((Lp.mk lows highs).hi x)).flatMap F = ((List.range N).map fun i : Nat => LO + i).flatMap F) := by
            show _ = _
            rw [eLO, eHI, hN]
            rfl
          have HTOT : Hid ((((List.range N).map fun i : Nat => LO + i).flatMap F).length ≤ 4096) := by
            show _ ≤ _
            rw [hN]
            exact hsz
          have HBc := hide (bl_on HB.out hbr)
          obtain ⟨b, off, rfl, hb, hcc⟩ := (HBX.out.below hbr).1.at (by omega)
          have hck := hcc k hkn
          have zb := lt_of_cell hck
          simp only at zb
          have hbk := HBK.out
          obtain ⟨E, hE⟩ : ∃ E, E = box[k]?.getD 0 := ⟨_, rfl⟩
          rw [← hE] at hck hin hbk HBK HIN2
          clear hcc hE hbr eLO eHI hHI hsz hih HIN HIH HSZ HBX HF1 HF2 H1 H2 HLO HM HBL HBa HBb HB HW1 hb
          by_cases hle : LO ≤ HI
          · obtain ⟨hi1, hi2⟩ := hin hle
            go_wp2_with fail
            clear hck
            go_loopw [17, 18] (fun out q wr => ∃ j : Nat, j ≤ N ∧ q = .int .i64 (LO + j) ∧ OutL wr w.heap.size out (((List.range j).map fun i : Nat => LO + i).flatMap F) ∧ Below w.heap.size w wr) (fun _ q _ => (HI + 1 - intOf q).toNat)
            case atStart => exact ⟨0, Nat.zero_le _, by simp, by simpa using OutL.nil _ _, HBc.out⟩
            case round =>
              obtain ⟨j, hj, rfl, hout, hB⟩ := hrel
              have hwz := hB.size
              by_cases hlt2 : LO + j ≤ HI
              · have hx := HXw.out.below hB
                have B1 : Below wr.heap.size wr (wr.alloc (.cells #[] 3)) := bl_new _
                have HO1 := hide (own_empty wr wr.heap.size 3 (Nat.le_refl _))
                have HXr := hide (hx.below B1)
                have HB1' := hide B1
                have HOUT := hide hout
                have HBq := hide hB
                have hjN : j + 1 ≤ N := by omega
                have hin2 := HIN2.out (by omega)
                obtain ⟨m, hm⟩ : ∃ m, m = LO + (j : Int) := ⟨_, rfl⟩
                have bm : 0 ≤ m ∧ m ≤ 4096 := by have := HBK.out; omega
                have HBND : Hid (∀ z ∈ x ++ [m], -9223372036854775808 ≤ z ∧ z ≤ 9223372036854775807) := fun z hz => by
                  rcases List.mem_append.1 hz with hz | hz
                  · have := HXB.out z hz; omega
                  · have : z = m := by simpa using hz
                    omega
                have hst := flat_range_succ F LO j
                have hle := flat_range_le F LO (j + 1) N hjN
                have htot := HTOT.out
                rw [hst, List.length_append] at hle
                rw [← hm] at hst hle ⊢
                obtain ⟨S, hS⟩ : ∃ S, S = ((List.range j).map fun i : Nat => LO + i).flatMap F := ⟨_, rfl⟩
                rw [← hS] at hst hle HOUT
                have HST := hide hst
                have hsum : S.length + (F m).length ≤ 4096 := by omega
                have hm2 : m ≤ HI := by omega
                have hm3 : LO ≤ m := by omega
                have HM2 := hide hm
                clear hout hB hx B1 hst hle htot hS hm hin2
                go_wp2_with (first
                  | (at_builtin; refine append_list rfl _ _ rfl wr.heap.size _ (0 + k) (x.map (Value.int .i64)) rfl (HO2.out.alloc _) _ 1 1 [m] rfl (lst_one w2 m (by omega) _) (by omega) (by have := HB2.out.size; simp; omega) ?_; intro v3 w3 hown hgrow; rw [← List.map_append] at hown; obtain ⟨X3, c3, rfl, hL3, hf3⟩ := lst_of_own hown (by rw [List.length_append, HXL.out]; simp) (by omega) HBND.out; rw [show 0 + k + 1 = k + 1 by omega] at hL3; have HX3 := hide hL3; have HF3 := hide hf3; have HB3 := hide ((HB2.out.alloc HB2.out.size _).grown hgrow (by have := HB2.out.size; simp; omega) (fun j e => (HO2.out.lt j e).1)); clear hown hgrow hL3 hf3)
                  | (at_builtin; refine append_list rfl _ _ rfl wr.heap.size _ 0 [] rfl HO1.out xa k xc x rfl HXr.out (by omega) (by simp) ?_; intro v2 w2 hown hgrow; rw [List.nil_append] at hown; have HO2 := hide hown; have HB2 := hide (HB1'.out.grown hgrow (by simp) (fun j e => (HO1.out.lt j e).1)); clear hown hgrow))
                refine (HIH2.out m w3 X3 c3 hm3 hm2 (bl_on HBq.out HB3.out) HX3.out HF3.out).mono ?_
                rintro e w5 ⟨⟨v5, rfl, hout5⟩, hb5⟩
                have HO5 := hide hout5
                have HB5 := hide (bl_on HBq.out (bl_on HB3.out hb5))
                have HOUT5 := hide (HOUT.out.below (bl_on HB3.out hb5))
                have hz5 := HB5.out.size
                clear hout5 hb5
                go_wp2_with (at_builtin; refine append_many rfl _ _ rfl w.heap.size w3.heap.size _ _ S (F m) rfl rfl HOUT5.out HO5.out (by omega) hz5 ?_; intro v6 w6 hout6 hb6; have HO6 := hide hout6; have HB6 := hide hb6; clear hout6 hb6)
                go_roundw
                case rel => exact ⟨j + 1, by omega, by rw [HM2.out]; go_num, by rw [HST.out]; exact HO6.out, HB5.out.trans HB6.out⟩
                case measure => simp [intOf]; omega
              · have hjN : j = N := by omega
                subst hjN
                have HOUT := hide hout
                have HBq := hide hB
                clear hB hout
                go_wp2_with fail
                go_ret2
                exact ⟨⟨_, rfl, by rw [HFT.out]; exact HOUT.out⟩, HBq.out⟩
          · clear hin
            go_wp2_with fail
            clear hck
            go_loopw [17, 18] (fun out q wr => ∃ j : Nat, j ≤ N ∧ q = .int .i64 (LO + j) ∧ OutL wr w.heap.size out (((List.range j).map fun i : Nat => LO + i).flatMap F) ∧ Below w.heap.size w wr) (fun _ q _ => (HI + 1 - intOf q).toNat)
            case atStart => exact ⟨0, Nat.zero_le _, by simp, by simpa using OutL.nil _ _, HBc.out⟩
            case round =>
              obtain ⟨j, hj, rfl, hout, hB⟩ := hrel
              have hwz := hB.size
              by_cases hlt2 : LO + j ≤ HI
              · omega
              · have hjN : j = N := by omega
                subst hjN
                have HOUT := hide hout
                have HBq := hide hB
                clear hB hout
                go_wp2_with fail
                go_ret2
                exact ⟨⟨_, rfl, by rw [HFT.out]; exact HOUT.out⟩, HBq.out⟩



end Go.Proofs.Ytmefgejggpimeaa.V
