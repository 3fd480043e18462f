/-
  Contracts: the document's Row, Wrong, At. Contracts: the document's Time, Before. Contracts: the document's Takes, access. Contract: the document's Wrong of a nest. Memory of a nest: arrays in blocks of their own. Does memory fit a nest? Contract: the document's SameMemory, of equal memories.
-/
import Derived.Test.YtoidgdbgpbcebaaK10
import Derived.BigRegion
import Derived.BigQuiet
import Derived.Test.YtoidgdbgpbcebaaK7
namespace Go.Proofs.Ytoidgdbgpbcebaa.V
open Go.RowKit
set_option linter.unusedVariables false

theorem any_far_cons (K : Int) (cs : List Int) : (K :: cs).any ptFar = (ptFar K || cs.any ptFar) := rfl
set_option maxHeartbeats 2000000 in
theorem rRow_any (a : Option Addr) (l c : Nat) (cs : List Int) (K : Int) (many : Nat) (w : World) (h : Lst w a l c cs) (hK : -9223372036854775808 ≤ K ∧ K ≤ 9223372036854775807) (h4 : many ≤ 4) :
    Calls Try.prog 83 #[.agg #[.slice a l c, .int .i64 K], .int .i64 many] w fun e w' => e = .returned (.int .i64 (rowE (cs, K) many)) ∧ Below w.heap.size w w' := by
  have hm := h.1.2.1
  by_cases c1 : l = many
  · subst c1
    have e1 : rowE (cs, K) l = if (K :: cs).any ptFar = true then 4 else 0 := by unfold rowE; rw [if_neg (by simp [h.1.1])]; rfl
    have E1 := hide e1
    clear e1
    have B1 : Below w.heap.size w ((w.alloc (.cells #[.slice a l c, .int .i64 K] 66)).alloc (.cells #[.int .i64 K] 3)) := bl_on (bl_new _) (bl_new _)
    have O1 := own_one (w.alloc (.cells #[.slice a l c, .int .i64 K] 66)) w.heap.size 3 (.int .i64 K) (by simp)
    rw [World.size_alloc] at O1
    have HB := hide B1
    have HO := hide O1
    have H := hide (h.below B1)
    have HLC := hide h.1.1
    have HKB := hide (show ∀ x ∈ K :: cs, -9223372036854775808 ≤ x ∧ x ≤ 9223372036854775807 from fun x hx => by
      rcases List.mem_cons.1 hx with rfl | hx
      · exact hK
      · exact h.1.2.2.1 x hx)
    clear h B1 O1
    go_enter Try.func83, Try.ntmps83
    go_wp2_with (at_builtin; refine append_list rfl _ _ rfl w.heap.size _ 1 [.int .i64 K] rfl HO.out a l c cs rfl H.out (by omega) (by simp; omega) ?_; intro v' w2 hown hgrow; obtain ⟨X, c2, rfl, hL2, _⟩ := lst_of_own (xs := K :: cs) hown (by simp [HLC.out]; omega) (by omega) HKB.out; have HL2 := hide hL2; have HB2 := hide (HB.out.grown hgrow (by simp; omega) (fun j e => (HO.out.lt j e).1)); clear hown hgrow hL2)
    go_loop [19] (fun i => ∃ k : Nat, k ≤ 1 + l ∧ i = .int .i64 k ∧ ((K :: cs).take k).any ptFar = false) (fun i => 1 + l - (intOf i).toNat)
    case atStart => exact ⟨0, Nat.zero_le _, rfl, by simp⟩
    case round =>
      obtain ⟨k, hk, rfl, hn⟩ := hrel
      have HN := hide hn
      clear hn
      by_cases hlt : k < 1 + l
      · obtain ⟨b, off, rfl, hb, hc⟩ := HL2.out.1.at (by omega)
        have hck := hc k hlt
        have HKL : Hid (k < (K :: cs).length) := by rw [Hid, HL2.out.1.1]; exact hlt
        obtain ⟨q, hq⟩ : ∃ q, q = (K :: cs)[k]?.getD 0 := ⟨_, rfl⟩
        rw [← hq] at hck
        have HQ := hide hq
        clear hc hq
        by_cases h1 : 1048576 < q
        · go_wp2
          go_ret
          rw [E1.out, any_of_getD (K :: cs) k HKL.out (by rw [← HQ.out]; simp [ptFar, h1])]
          exact ⟨rfl, HB2.out⟩
        · by_cases h2 : q < -1048576
          · go_wp2
            go_ret
            rw [E1.out, any_of_getD (K :: cs) k HKL.out (by rw [← HQ.out]; simp [ptFar, h2])]
            exact ⟨rfl, HB2.out⟩
          · go_wp2
            go_round
            case rel => exact ⟨k + 1, by omega, by go_num, not_mem_take_succ (K :: cs) k HKL.out HN.out (by rw [← HQ.out]; simp [ptFar]; omega)⟩
            case measure => simp [intOf]; omega
      · go_wp2
        go_ret
        have := HN.out
        rw [take_all HL2.out.1.1 hlt] at this
        rw [E1.out, this]
        exact ⟨rfl, HB2.out⟩
  · have e1 : rowE (cs, K) many = 6 := by unfold rowE; rw [if_pos (by rw [h.1.1]; exact c1)]
    rw [e1]
    have c2 : ((l : Int) != (many : Int)) = true := by simp; omega
    have HB := hide (bl_new (w := w) (.cells #[.slice a l c, .int .i64 K] 66))
    clear e1 h c1
    go_enter Try.func83, Try.ntmps83
    go_wp2
    go_ret
    exact ⟨rfl, HB.out⟩

set_option maxHeartbeats 4000000 in
theorem rptWrong_any (ba : Option Addr) (bl bc : Nat) (box : List Int) (ra : Option Addr) (rl rc : Nat) (rs : List (List Int × Int)) (w : World) (h : Ints w ba bl box) (hr : Rws w ra rl rs) :
    Calls Try.prog 103 #[.agg #[.slice ba bl bc, .slice ra rl rc]] w fun e w' => e = .returned (.int .i64 (ptE box rs)) ∧ Below w.heap.size w w' := by
  have hm := h.2.1
  have hm2 := hr.2.1
  have B1 : Below w.heap.size w (w.alloc (.cells #[.slice ba bl bc, .slice ra rl rc] 64)) := bl_new _
  have H := hide (h.below B1)
  have HR := hide hr
  have HB := hide B1
  have HL1 := hide h.1
  have HL2 := hide hr.1
  have HP0 := hide (PtAt.new w ba bl bc ra rl rc)
  by_cases c0 : 4 < bl
  · have e1 : ptE box rs = 3 := by
      have : boxE box = 3 := by unfold boxE; rw [if_pos (by rw [h.1]; exact c0)]
      unfold ptE; rw [if_pos (by rw [this]; decide), this]
    rw [e1]
    clear h hr e1 B1
    go_enter Try.func103, Try.ntmps103
    go_wp2
    go_ret
    exact ⟨rfl, HB.out⟩
  have hbl : bl ≤ 4 := by omega
  have eb : boxE box = if box.any badDim = true then 4 else if 4096 < prod box then 5 else 0 := by unfold boxE; rw [if_neg (by rw [h.1]; exact c0)]
  have EB := hide eb
  clear h hr B1 eb c0
  go_enter Try.func103, Try.ntmps103
  go_wp2
  go_loop [3, 16] (fun s i => ∃ k : Nat, k ≤ bl ∧ i = .int .i64 k ∧ s = .int .i64 (prod (box.take k)) ∧ (box.take k).any badDim = false) (fun _ i => bl - (intOf i).toNat)
  case atStart => exact ⟨0, Nat.zero_le _, rfl, by simp [prod], by simp⟩
  case round =>
    obtain ⟨k, hk, rfl, rfl, hn⟩ := hrel
    have HN := hide hn
    clear hn
    by_cases hlt : k < bl
    · obtain ⟨b, off, rfl, hb, hc⟩ := H.out.at (by omega)
      have hck := hc k hlt
      have hkl : k < box.length := by rw [HL1.out]; exact hlt
      have HKL := hide hkl
      obtain ⟨q, hq⟩ : ∃ q, q = box[k]?.getD 0 := ⟨_, rfl⟩
      rw [← hq] at hck
      have HQ := hide hq
      clear hc hq hkl
      by_cases h1 : q < 0
      · have e1 : ptE box rs = 4 := by
          have : boxE box = 4 := by rw [EB.out, if_pos (any_of_getD box k HKL.out (by rw [← HQ.out]; simp [badDim, h1]))]
          unfold ptE; rw [if_pos (by rw [this]; decide), this]
        have E1 := hide e1
        clear e1
        go_wp2
        go_ret
        rw [E1.out]
        exact ⟨rfl, HB.out⟩
      · by_cases h2 : 4096 < q
        · have e1 : ptE box rs = 4 := by
            have : boxE box = 4 := by rw [EB.out, if_pos (any_of_getD box k HKL.out (by rw [← HQ.out]; simp [badDim, h2]))]
            unfold ptE; rw [if_pos (by rw [this]; decide), this]
          have E1 := hide e1
          clear e1
          go_wp2
          go_ret
          rw [E1.out]
          exact ⟨rfl, HB.out⟩
        · have HP := hide (prod_take_succ box k HKL.out)
          have hd : ∀ x ∈ box.take (k + 1), 0 ≤ x ∧ x ≤ 4096 := by
            intro x hx
            rw [take_succ_getD box k HKL.out, List.mem_append] at hx
            rcases hx with hx | hx
            · have := List.any_eq_false.1 HN.out x hx
              simp [badDim] at this
              omega
            · have : x = q := by rw [HQ.out]; simpa using hx
              omega
          have hq := prod_take_bd (box.take (k + 1)) hd (k + 1)
          rw [List.take_take, Nat.min_self, HP.out, ← HQ.out] at hq
          have q3 : (4096 : Int) ^ (k + 1) ≤ 281474976710656 := by
            have : k + 1 = 1 ∨ k + 1 = 2 ∨ k + 1 = 3 ∨ k + 1 = 4 := by omega
            rcases this with e | e | e | e <;> rw [e] <;> decide
          have q4 : prod (box.take k) * q ≤ 281474976710656 := Int.le_trans hq.2 q3
          have q5 := hq.1
          have hn' := hide (not_mem_take_succ box k HKL.out HN.out (by rw [← HQ.out]; simp [badDim]; omega))
          clear hd hq q3
          go_wp2
          go_round
          case rel => exact ⟨k + 1, by omega, by go_num, by rw [HP.out, ← HQ.out], hn'.out⟩
          case measure => simp [intOf]; omega
    · obtain rfl : k = bl := by omega
      have hall : box.take k = box := take_all HL1.out hlt
      rw [hall]
      have hna : box.any badDim = false := by have := HN.out; rwa [hall] at this
      have eb : boxE box = if 4096 < prod box then 5 else 0 := by rw [EB.out, if_neg (by simp [hna])]
      have EB2 := hide eb
      clear hall hna eb hlt HN
      by_cases c5 : 4096 < prod box
      · have e1 : ptE box rs = 5 := by
          have : boxE box = 5 := by rw [EB2.out, if_pos c5]
          unfold ptE; rw [if_pos (by rw [this]; decide), this]
        have E1 := hide e1
        clear e1
        go_wp2
        go_ret
        rw [E1.out]
        exact ⟨rfl, HB.out⟩
      · have c1 : boxE box = 0 := by rw [EB2.out, if_neg c5]
        by_cases c3 : 8 < rl
        · have e1 : ptE box rs = 2 := by unfold ptE; rw [if_neg (by rw [c1]; decide), if_pos (by rw [HL2.out]; exact c3)]
          have E1 := hide e1
          clear e1 c1
          go_wp2
          go_ret
          rw [E1.out]
          exact ⟨rfl, HB.out⟩
        · have e1 : ptE box rs = rowsE rs k := by unfold ptE; rw [if_neg (by rw [c1]; decide), if_neg (by rw [HL2.out]; exact c3), HL1.out]
          have E1 := hide e1
          clear e1 c1
          go_wp2
          go_loopw [39] (fun i wr => ∃ j : Nat, j ≤ rl ∧ i = .int .i64 j ∧ rowsE (rs.take j) k = 0 ∧ Below w.heap.size w wr ∧ PtAt wr w.heap.size ba k bc ra rl rc) (fun i _ => rl - (intOf i).toNat)
          case atStart => exact ⟨0, Nat.zero_le _, rfl, by simp [rowsE], HB.out, HP0.out⟩
          case round =>
            obtain ⟨j, hj, rfl, hn, hB, hP⟩ := hrel
            have HN := hide hn
            have HBr := hide hB
            have HP := hide hP
            clear hn hB
            by_cases hlt : j < rl
            · have hkl : j < rs.length := by rw [HL2.out]; exact hlt
              obtain ⟨b, off, rfl, hat⟩ := (HR.out.below HBr.out).at (by omega)
              obtain ⟨a, l, c, k1, k2, k3, k4, k5⟩ := hat j hlt
              have z1 := lt_of_cell k1
              have z2 := lt_of_cell k2
              simp only at z1 z2
              obtain ⟨q, hq⟩ : ∃ q, q = rs[j]?.getD ([], 0) := ⟨_, rfl⟩
              rw [← hq] at k2 k3 k5
              have HQ := hide hq
              obtain ⟨cs, K⟩ := q
              simp only at k2 k3 k5
              have B2 : Below wr.heap.size wr (wr.alloc (.cells #[.slice a l c, .int .i64 K] 66)) := bl_new _
              obtain ⟨p0, p1⟩ := (hP.below B2).cells
              obtain ⟨p2, p3⟩ := hP.cells
              have pz := hP.lt
              have HC := hide (rRow_any a l c cs K k (wr.alloc (.cells #[.slice a l c, .int .i64 K] 66)) (Lst.below ⟨k3, k4⟩ B2) k5 hbl)
              have HKL := hide hkl
              have HB2 := hide B2
              clear hat k3 k4 k5 hq hkl B2 hP
              go_wp2_with (go_at_call 83; refine HC.out.mono ?_; rintro e w2 ⟨rfl, hb⟩; have HB3 := hide (bl_on HB2.out hb); clear hb)
              · have hx : rowE (cs, K) k ≠ 0 := by simpa using (by assumption : (rowE (cs, K) k != 0) = true)
                go_ret
                refine ⟨?_, bl_on HBr.out HB3.out⟩
                rw [E1.out, rowsE_here rs k j HKL.out HN.out (by rw [← HQ.out]; exact hx), ← HQ.out]; rfl
              · have hx : rowE (cs, K) k = 0 := by simpa using (by assumption : (rowE (cs, K) k != 0) = false)
                go_roundw
                case rel => exact ⟨j + 1, by omega, by go_num, rowsE_take rs k j HKL.out HN.out (by rw [← HQ.out]; exact hx), bl_on HBr.out HB3.out, HP.out.below HB3.out⟩
                case measure => simp [intOf]; omega
            · go_wp2
              go_ret
              have := HN.out
              rw [List.take_of_length_le (by rw [HL2.out]; omega)] at this
              exact ⟨by rw [E1.out, this]; rfl, HBr.out⟩
set_option maxHeartbeats 1000000 in
theorem rAt_any (a : Option Addr) (l c : Nat) (cs : List Int) (K : Int) (xa : Option Addr) (xl xc : Nat) (xs : List Int) (w : World) (h : Ints w a l cs) (hx : Ints w xa xl xs) (hl : l = xl) (h4 : l ≤ 4)
    (hK : -1048576 ≤ K ∧ K ≤ 1048576) (hc : ∀ c ∈ cs, -1048576 ≤ c ∧ c ≤ 1048576) (hb : ∀ x ∈ xs, 0 ≤ x ∧ x ≤ 4096) :
    Calls Try.prog 57 #[.agg #[.slice a l c, .int .i64 K], .slice xa xl xc] w fun e w' => e = .returned (.int .i64 (worthV (cs, K) xs)) ∧ Below w.heap.size w w' := by
  have B1 : Below w.heap.size w (w.alloc (.cells #[.slice a l c, .int .i64 K] 66)) := bl_new _
  have H := hide (h.below B1)
  have HX := hide (hx.below B1)
  have HL1 := hide h.1
  have HL2 := hide hx.1
  have HC := hide hc
  have HB := hide hb
  have HB1 := hide B1
  subst hl
  clear h hx hc hb B1
  go_enter Try.func57, Try.ntmps57
  go_wp2
  go_loopw [5, 12] (fun s i wr => ∃ k : Nat, k ≤ l ∧ i = .int .i64 k ∧ (∃ n, wr = (w.alloc (.cells #[.slice a l c, .int .i64 K] 66)).drewN n) ∧ s = .int .i64 (K + dotV (cs.take k) (xs.take k))) (fun _ i _ => l - (intOf i).toNat)
  case atStart => exact ⟨0, Nat.zero_le _, rfl, ⟨0, rfl⟩, by simp [dotV]⟩
  case round =>
    obtain ⟨k, hk, rfl, ⟨nn, rfl⟩, rfl⟩ := hrel
    by_cases hlt : k < l
    · obtain ⟨b, off, rfl, hb, hcc⟩ := H.out.at (by omega)
      obtain ⟨b', off', rfl, hb', hcc'⟩ := HX.out.at (by omega)
      have hck := hcc k hlt
      have hck' := hcc' k hlt
      have k1 : k < cs.length := by rw [HL1.out]; exact hlt
      have k2 : k < xs.length := by rw [HL2.out]; exact hlt
      have m1 := pt_mul_bd (HC.out _ (mem_getD cs k k1)) (HB.out _ (mem_getD xs k k2))
      have m2 := dotV_bd (cs.take k) (xs.take k) (fun c hc => HC.out c (List.mem_of_mem_take hc)) (fun x hx => HB.out x (List.mem_of_mem_take hx))
      have m3 : (cs.take k).length ≤ 4 := by rw [List.length_take]; omega
      have HD := hide (dotV_take cs xs k k1 k2)
      obtain ⟨S, hS⟩ : ∃ S, S = dotV (cs.take k) (xs.take k) := ⟨_, rfl⟩
      rw [← hS] at m2 ⊢
      have HS := hide hS
      have m4 : -17179869184 ≤ S ∧ S ≤ 17179869184 := by omega
      obtain ⟨x1, hx1⟩ : ∃ x, x = cs[k]?.getD 0 := ⟨_, rfl⟩
      obtain ⟨x2, hx2⟩ : ∃ x, x = xs[k]?.getD 0 := ⟨_, rfl⟩
      rw [← hx1] at hck m1
      rw [← hx2] at hck' m1
      have HX1 := hide hx1
      have HX2 := hide hx2
      have HM := hide (And.intro k1 k2)
      clear hcc hcc' k1 k2 m2 m3 hS hx1 hx2
      have cz := (Boxed.new w 3 (.int .i64 0)).lt
      go_wp2
      go_quiet (fail)
      go_wp2
      go_roundw
      case rel => exact ⟨k + 1, by omega, by go_num, ⟨_, rfl⟩, by rw [HD.out, ← HS.out, ← HX1.out, ← HX2.out]; go_num⟩
      case measure => simp [intOf]; omega
    · go_wp2
      go_ret
      refine ⟨?_, HB1.out.trans (below_drewN _ nn)⟩
      rw [take_all HL1.out hlt, take_all HL2.out hlt]
      rfl

end Go.Proofs.Ytoidgdbgpbcebaa.V
namespace Go.Proofs.Ytoidgdbgpbcebaa.V
open Go.RowKit
set_option linter.unusedVariables false

/-- An array of eight numbers. -/
def arr8 (f : Nat → Int) : Value := .agg #[.int .i64 (f 0), .int .i64 (f 1), .int .i64 (f 2), .int .i64 (f 3), .int .i64 (f 4), .int .i64 (f 5), .int .i64 (f 6), .int .i64 (f 7)]
def cs8 (f : Nat → Int) : Array Value := #[.int .i64 (f 0), .int .i64 (f 1), .int .i64 (f 2), .int .i64 (f 3), .int .i64 (f 4), .int .i64 (f 5), .int .i64 (f 6), .int .i64 (f 7)]
theorem cs8_at (f : Nat → Int) (i : Nat) (hi : i < 8) : (cs8 f)[i]? = some (.int .i64 (f i)) := by
  have : i = 0 ∨ i = 1 ∨ i = 2 ∨ i = 3 ∨ i = 4 ∨ i = 5 ∨ i = 6 ∨ i = 7 := by omega
  rcases this with rfl | rfl | rfl | rfl | rfl | rfl | rfl | rfl <;> rfl
theorem row8 {w : World} {b : Nat} {t : TypeId} (f : Nat → Int) (h : w.heap[b]? = some (.cells (cs8 f) t (0, 0))) : w.rowIs b t 8 (fun j => .int .i64 (f j)) := ⟨_, h, rfl, fun i hi => cs8_at f i hi⟩
/-- The time of a spot: noughts behind the rows' numbers. -/
def timeV (rows : List (List Int × Int)) (x : List Int) (k : Nat) : Int := if k < rows.length then worthV (rows[k]?.getD ([], 0)) x else 0
/-- Is one time ahead of another? From place k on, n places. -/
def befN (f g : Nat → Int) : Nat → Nat → Bool
  | 0, _ => false
  | n + 1, k => if f k ≠ g k then decide (f k < g k) else befN f g n (k + 1)
def befB (f g : Nat → Int) : Bool := befN f g 8 0
theorem befN_skip (f g : Nat → Int) : ∀ (n k : Nat), (∀ j, j < k → f j = g j) → befN f g (k + n) 0 = befN f g n k
  | n, 0, _ => by rw [Nat.zero_add]
  | n, k + 1, h => by
    have e := befN_skip f g (n + 1) k (fun j hj => h j (by omega))
    rw [show k + 1 + n = k + (n + 1) by omega, e]
    simp only [befN]
    rw [if_neg (by simpa using h k (by omega))]
theorem befB_here {f g : Nat → Int} {k : Nat} (hk : k < 8) (h : ∀ j, j < k → f j = g j) (hn : f k ≠ g k) : befB f g = decide (f k < g k) := by
  unfold befB
  rw [show 8 = k + ((7 - k) + 1) by omega, befN_skip f g _ k h]
  simp only [befN]
  rw [if_pos hn]
theorem befB_same {f g : Nat → Int} (h : ∀ j, j < 8 → f j = g j) : befB f g = false := by
  unfold befB
  have := befN_skip f g 0 8 h
  rw [Nat.add_zero] at this
  rw [this]
  rfl

set_option maxRecDepth 100000 in
set_option maxHeartbeats 2000000 in
theorem rBefore_any (f g : Nat → Int) (w : World) : Calls Try.prog 26 #[arr8 f, arr8 g] w fun e w' => e = .returned (.bool (befB f g)) ∧ Below w.heap.size w w' := by
  have B1 : Below w.heap.size w ((w.alloc (.cells (cs8 f) 54)).alloc (.cells (cs8 g) 54)) := bl_on (bl_new _) (bl_new _)
  have R1 := (row8 (w := (w.alloc (.cells (cs8 f) 54)).alloc (.cells (cs8 g) 54)) (b := w.heap.size) (t := 54) f ((Below.heap_alloc _ _ _ (by simp)).trans (World.alloc_heap_new w _)))
  have R2 := (row8 (w := (w.alloc (.cells (cs8 f) 54)).alloc (.cells (cs8 g) 54)) (b := w.heap.size + 1) (t := 54) g (by have := World.alloc_heap_new (w.alloc (.cells (cs8 f) 54)) (.cells (cs8 g) 54); rw [World.size_alloc] at this; exact this))
  obtain ⟨W, hW⟩ : ∃ W, W = (w.alloc (.cells (cs8 f) 54)).alloc (.cells (cs8 g) 54) := ⟨_, rfl⟩
  rw [← hW] at B1 R1 R2
  have HB := hide B1
  have HR1 := hide R1
  have HR2 := hide R2
  have HW := hide hW
  have z1 := R1.lt
  have z2 := R2.lt
  clear hW B1 R1 R2
  simp only [arr8]
  unfold cs8 at HW
  go_enter Try.func26, Try.ntmps26
  go_wp2_with fail
  rw [← HW.out]
  go_loopw [6] (fun i wr => ∃ k : Nat, k ≤ 8 ∧ i = .int .i64 k ∧ (∀ j, j < k → f j = g j) ∧ ∃ n, wr = W.drewN n) (fun i _ => 8 - (intOf i).toNat)
  case atStart => exact ⟨0, Nat.zero_le _, rfl, fun j hj => by omega, 0, rfl⟩
  case round =>
    obtain ⟨k, hk, rfl, hE, n, rfl⟩ := hrel
    have HE := hide hE
    clear hE
    by_cases hlt : k < 8
    · have c1 := HR1.out.cell hlt
      have c2 := HR2.out.cell hlt
      have HH := hide (fun hn => befB_here (f := f) (g := g) hlt HE.out hn)
      have HS : Hid (f k = g k → ∀ j, j < k + 1 → f j = g j) := fun e j hj => by
        by_cases ej : j = k
        · subst ej; exact e
        · exact HE.out j (by omega)
      obtain ⟨a, ha⟩ : ∃ a, a = f k := ⟨_, rfl⟩
      obtain ⟨b, hb⟩ : ∃ b, b = g k := ⟨_, rfl⟩
      rw [← ha] at c1 HH HS
      rw [← hb] at c2 HH HS
      clear ha hb
      by_cases q : a = b
      · have q1 : (a != b) = false := by simpa using q
        have HS2 := hide (HS.out q)
        clear q HS HH
        go_wp2_with fail
        go_quiet (fail)
        go_wp2_with fail
        go_roundw
        case rel => exact ⟨k + 1, by omega, by go_num, HS2.out, _, rfl⟩
        case measure => simp [intOf]; omega
      · have q1 : (a != b) = true := by simpa using q
        have HH2 := hide (HH.out q)
        clear q HS HH
        go_wp2_with fail
        go_quiet (fail)
        go_wp2_with fail
        go_quiet (fail)
        go_wp2_with fail
        go_ret
        exact ⟨by rw [HH2.out]; rfl, bl_on HB.out (bl_on (below_drewN _ n) (bl_on (below_drewN _ _) (below_drewN _ _)))⟩
    · have HH : Hid (befB f g = false) := befB_same (fun j hj => HE.out j (by omega))
      go_wp2_with fail
      go_ret
      exact ⟨by rw [HH.out]; rfl, bl_on HB.out (below_drewN _ _)⟩
/-- The words of a spot in a block. -/
def SpBlk (w : World) (b : Nat) (i : Nat) (xa : Option Addr) (xl xc : Nat) : Prop := w.heap[b]? = some (.cells #[.int .i64 (i : Int), .slice xa xl xc] 36 (0, 0))
theorem SpBlk.cells {w : World} {b i : Nat} {xa : Option Addr} {xl xc : Nat} (h : SpBlk w b i xa xl xc) : w.cell? ⟨b, 0, none⟩ = some (.int .i64 (i : Int)) ∧ w.cell? ⟨b, 1, none⟩ = some (.slice xa xl xc) := by
  unfold SpBlk at h
  refine ⟨?_, ?_⟩ <;> simp [World.cell?, h]
theorem SpBlk.lt {w : World} {b i : Nat} {xa : Option Addr} {xl xc : Nat} (h : SpBlk w b i xa xl xc) : b < w.heap.size := (Array.getElem?_eq_some_iff.1 h).1
theorem SpBlk.below {w w' : World} {b i : Nat} {xa : Option Addr} {xl xc : Nat} (h : SpBlk w b i xa xl xc) (hb : Below w.heap.size w w') : SpBlk w' b i xa xl xc := (hb.block b h.lt).trans h

/-- Times in memory. -/
def TimesA (w : World) (a : Option Addr) (len : Nat) (T : List (List (List Int × Int))) : Prop := T.length = len ∧ len ≤ 9223372036854775807 ∧ (len = 0 ∨ ∃ b off, a = some ⟨b, off, none⟩ ∧ ∀ i, i < len → ∃ x l c, w.cell? ⟨b, off + i, none⟩ = some (.slice x l c) ∧ Rws w x l (T[i]?.getD []))
theorem TimesA.below {w w' : World} {a : Option Addr} {len : Nat} {T : List (List (List Int × Int))} (h : TimesA w a len T) (hb : Below w.heap.size w w') : TimesA w' a len T := by
  obtain ⟨h1, h2, h3⟩ := h
  refine ⟨h1, h2, ?_⟩
  rcases h3 with h3 | ⟨b, off, e, h⟩
  · exact .inl h3
  · refine .inr ⟨b, off, e, fun i hi => ?_⟩
    obtain ⟨x, l, c, k1, k2⟩ := h i hi
    exact ⟨x, l, c, (hb.cell (p := ⟨b, off + i, none⟩) (lt_of_cell k1)).trans k1, k2.below hb⟩
theorem TimesA.at {w : World} {a : Option Addr} {len : Nat} {T : List (List (List Int × Int))} (h : TimesA w a len T) (h0 : 0 < len) : ∃ b off, a = some ⟨b, off, none⟩ ∧ ∀ i, i < len → ∃ x l c, w.cell? ⟨b, off + i, none⟩ = some (.slice x l c) ∧ Rws w x l (T[i]?.getD []) := by
  rcases h.2.2 with h3 | h3
  · omega
  · exact h3

/-- Eight stores. -/
def put8 (w : World) (b : Nat) (f : Nat → Value) : World := (((((((w.setCell ⟨b, 0, none⟩ (f 0)).setCell ⟨b, 1, none⟩ (f 1)).setCell ⟨b, 2, none⟩ (f 2)).setCell ⟨b, 3, none⟩ (f 3)).setCell ⟨b, 4, none⟩ (f 4)).setCell ⟨b, 5, none⟩ (f 5)).setCell ⟨b, 6, none⟩ (f 6)).setCell ⟨b, 7, none⟩ (f 7)
theorem set8 {w : World} {b : Nat} {t : TypeId} {g : Nat → Value} (h : w.rowIs b t 8 g) (f : Nat → Value) : (put8 w b f).rowIs b t 8 f := by
  refine ((((((((h.set 0 (f 0)).set 1 (f 1)).set 2 (f 2)).set 3 (f 3)).set 4 (f 4)).set 5 (f 5)).set 6 (f 6)).set 7 (f 7)).congr (fun j hj => ?_)
  have : j = 0 ∨ j = 1 ∨ j = 2 ∨ j = 3 ∨ j = 4 ∨ j = 5 ∨ j = 6 ∨ j = 7 := by omega
  rcases this with rfl | rfl | rfl | rfl | rfl | rfl | rfl | rfl <;> rfl
theorem below8 {N : Nat} {w0 w : World} (h : Below N w0 w) {b : Nat} (hb : N ≤ b) (f : Nat → Value) : Below N w0 (put8 w b f) :=
  (((((((h.setCell (p := ⟨b, 0, none⟩) hb _).setCell (p := ⟨b, 1, none⟩) hb _).setCell (p := ⟨b, 2, none⟩) hb _).setCell (p := ⟨b, 3, none⟩) hb _).setCell (p := ⟨b, 4, none⟩) hb _).setCell (p := ⟨b, 5, none⟩) hb _).setCell (p := ⟨b, 6, none⟩) hb _).setCell (p := ⟨b, 7, none⟩) hb _

set_option maxRecDepth 100000 in
set_option maxHeartbeats 4000000 in
theorem rTime_any (ta : Option Addr) (tl tc : Nat) (T : List (List (List Int × Int))) (i : Nat) (xa : Option Addr) (xl xc : Nat) (x : List Int) (w : World) (hT : TimesA w ta tl T) (hi : i < tl) (hx : Ints w xa xl x) (hx4 : xl ≤ 4) (hxb : ∀ y ∈ x, 0 ≤ y ∧ y ≤ 4096) (h8 : (T[i]?.getD []).length ≤ 8)
    (hr : ∀ r ∈ T[i]?.getD [], r.1.length = xl ∧ (-1048576 ≤ r.2 ∧ r.2 ≤ 1048576) ∧ ∀ c ∈ r.1, -1048576 ≤ c ∧ c ≤ 1048576) :
    Calls Try.prog 27 #[.slice ta tl tc, .agg #[.int .i64 (i : Int), .slice xa xl xc]] w fun e w' => e = .returned (arr8 (timeV (T[i]?.getD []) x)) ∧ Below w.heap.size w w' := by
  have HT := hide hT
  have HX := hide hx
  have HXB := hide hxb
  have HR := hide hr
  have hm := hT.2.1
  obtain ⟨tb, to, rfl, hat⟩ := hT.at (by omega)
  obtain ⟨ra, rl, rc, r1, r2⟩ := hat i hi
  obtain ⟨rows, hrows⟩ : ∃ rows, rows = T[i]?.getD [] := ⟨_, rfl⟩
  rw [← hrows] at h8 r2 HR
  rw [← hrows]
  have HRW := hide r2
  have HRL := hide r2.1
  have hrl8 : rl ≤ 8 := by have := r2.1; omega
  obtain ⟨W, hW⟩ : ∃ W, W = ((w.alloc (.cells #[.int .i64 (i : Int), .slice xa xl xc] 36)).alloc (.cells (cs8 fun _ => 0) 54)).alloc (.cells (cs8 fun _ => 0) 54) := ⟨_, rfl⟩
  have BW : Below w.heap.size w W := by rw [hW]; exact bl_on (bl_new _) (bl_on (bl_new _) (bl_new _))
  have SB : SpBlk W w.heap.size i xa xl xc := by
    rw [hW]
    exact (Below.heap_alloc _ _ _ (by simp; omega)).trans ((Below.heap_alloc _ _ _ (by simp)).trans (World.alloc_heap_new w _))
  have R4 : W.rowIs (w.heap.size + 1) 54 8 (fun j => .int .i64 0) := by
    refine row8 (fun _ => 0) ?_
    rw [hW]
    refine (Below.heap_alloc _ _ _ (by simp)).trans ?_
    have := World.alloc_heap_new (w.alloc (.cells #[.int .i64 (i : Int), .slice xa xl xc] 36)) (.cells (cs8 fun _ => 0) 54)
    rw [World.size_alloc] at this
    exact this
  have R5 : W.rowIs (w.heap.size + 1 + 1) 54 8 (fun j => .int .i64 (if j < 0 then timeV rows x j else 0)) := by
    refine (row8 (fun _ => 0) ?_).congr (fun j hj => by simp)
    rw [hW]
    have := World.alloc_heap_new ((w.alloc (.cells #[.int .i64 (i : Int), .slice xa xl xc] 36)).alloc (.cells (cs8 fun _ => 0) 54)) (.cells (cs8 fun _ => 0) 54)
    rw [World.size_alloc, World.size_alloc] at this
    exact this
  obtain ⟨s0, s1⟩ := SB.cells
  have zS := SB.lt
  have r1' := (BW.cell (p := ⟨tb, to + i, none⟩) (lt_of_cell r1)).trans r1
  have zr := lt_of_cell r1'
  simp only at zr
  have HW := hide hW
  have HBW := hide BW
  have HSB := hide SB
  have HR4 := hide R4
  have HR5 := hide R5
  unfold cs8 at HW
  clear hT hx hxb hr hat hrows r2 hW BW SB R4 R5 r1 h8
  rw [HW.out] at r1' s0 s1 zr zS
  go_enter Try.func27, Try.ntmps27
  go_wp2_with fail
  rw [← HW.out]
  clear s0 s1 r1' zr
  go_loopw [14] (fun i' wr => ∃ k : Nat, k ≤ rl ∧ i' = .int .i64 k ∧ Below w.heap.size w wr ∧ SpBlk wr w.heap.size i xa xl xc ∧ wr.rowIs (w.heap.size + 1) 54 8 (fun j => .int .i64 0) ∧ wr.rowIs (w.heap.size + 1 + 1) 54 8 (fun j => .int .i64 (if j < k then timeV rows x j else 0))) (fun i' _ => rl - (intOf i').toNat)
  case atStart => exact ⟨0, Nat.zero_le _, rfl, HBW.out, HSB.out, HR4.out, HR5.out⟩
  case round =>
    clear HBW HSB HR4 HR5
    obtain ⟨k, hk, rfl, hB, hS, hR4, hR5⟩ := hrel
    have HB := hide hB
    have HS := hide hS
    have HR4 := hide hR4
    have HR5 := hide hR5
    have zS := hS.lt
    have z5 := hR5.lt
    have z4 := hR4.lt
    clear hB hS hR4 hR5
    by_cases hlt : k < rl
    · have hkl : k < rows.length := by rw [HRL.out]; exact hlt
      obtain ⟨b, off, rfl, hat⟩ := (HRW.out.below HB.out).at (by omega)
      obtain ⟨ca, cl, cc, k1, k2, k3, k4, k5⟩ := hat k hlt
      have y1 := lt_of_cell k1
      have y2 := lt_of_cell k2
      simp only at y1 y2
      have hrow := HR.out _ (mem_getR rows k hkl)
      have HTV : Hid (timeV rows x k = worthV (rows[k]?.getD ([], 0)) x) := by unfold Hid timeV; rw [if_pos hkl]
      obtain ⟨q, hq⟩ : ∃ q, q = rows[k]?.getD ([], 0) := ⟨_, rfl⟩
      rw [← hq] at k2 k3 k5 hrow HTV
      obtain ⟨cs, K⟩ := q
      simp only at k2 k3 k5 hrow
      have B3 : Below wr.heap.size wr (wr.alloc (.cells #[.slice ca cl cc, .int .i64 K] 66)) := bl_new _
      have hll : cl = xl := by have := k3.1; omega
      have HAT := hide (rAt_any ca cl cc cs K xa xl xc x _ (k3.below B3) ((HX.out.below HB.out).below B3) hll (by omega) hrow.2.1 hrow.2.2 HXB.out)
      obtain ⟨s0, s1⟩ := (HS.out.below B3).cells
      have HB3 := hide B3
      obtain rfl := hll.symm
      clear hat k3 k4 k5 hq hrow B3 hkl
      go_wp2_with fail
      refine HAT.out.mono ?_
      rintro e w2 ⟨rfl, hb⟩
      have HB4 := hide (bl_on HB3.out hb)
      have R5 : w2.rowIs (w.heap.size + 1 + 1) 54 8 (fun j => .int .i64 (if j < k then timeV rows x j else 0)) := HR5.out.of_block (HB4.out.block _ z5)
      have c5 := R5.cell (i := k) (by omega)
      have f5 := R5.frozen k
      have z52 := R5.lt
      have HR52 := hide R5
      obtain ⟨V, hV⟩ : ∃ V, V = worthV (cs, K) x := ⟨_, rfl⟩
      rw [← hV] at HTV
      rw [← hV]
      have hk8 : k < 8 := by omega
      clear hb R5 hV k1 k2
      go_wp2_with fail
      go_roundw
      case rel =>
        refine ⟨k + 1, by omega, by go_num, (bl_on HB.out HB4.out).setCell (p := ⟨w.heap.size + 1 + 1, k, none⟩) (by simp only; omega) _, ?_, ?_, ?_⟩
        · exact (Below.heap_setCell _ ⟨w.heap.size + 1 + 1, k, none⟩ _ w.heap.size (by simp only; omega)).trans ((HB4.out.block _ zS).trans HS.out)
        · exact (World.rowIs.of_block HR4.out (HB4.out.block _ z4)).setOther (a := ⟨w.heap.size + 1 + 1, k, none⟩) (by simp only; omega) _
        · refine (HR52.out.set k _).congr (fun j hj => ?_)
          by_cases e : j = k
          · subst e; simp [HTV.out]
          · rw [if_neg e]
            congr 1
            by_cases e2 : j < k
            · rw [if_pos e2, if_pos (by omega)]
            · rw [if_neg e2, if_neg (by omega)]
      case measure => simp [intOf]; omega
    · obtain rfl : rl = k := by omega
      have R5 : wr.rowIs (w.heap.size + 1 + 1) 54 8 (fun j => .int .i64 (timeV rows x j)) := HR5.out.congr (fun j hj => by
        by_cases e : j < rl
        · rw [if_pos e]
        · rw [if_neg e]; unfold timeV; rw [if_neg (by rw [HRL.out]; exact e)])
      have c0 := R5.cell (i := 0) (by omega)
      have c1 := R5.cell (i := 1) (by omega)
      have c2 := R5.cell (i := 2) (by omega)
      have c3 := R5.cell (i := 3) (by omega)
      have c4 := R5.cell (i := 4) (by omega)
      have c5 := R5.cell (i := 5) (by omega)
      have c6 := R5.cell (i := 6) (by omega)
      have c7 := R5.cell (i := 7) (by omega)
      have d0 := HR4.out.cell (i := 0) (by omega)
      have d1 := HR4.out.cell (i := 1) (by omega)
      have d2 := HR4.out.cell (i := 2) (by omega)
      have d3 := HR4.out.cell (i := 3) (by omega)
      have d4 := HR4.out.cell (i := 4) (by omega)
      have d5 := HR4.out.cell (i := 5) (by omega)
      have d6 := HR4.out.cell (i := 6) (by omega)
      have d7 := HR4.out.cell (i := 7) (by omega)
      have e0 := HR4.out.frozen 0
      have e1 := HR4.out.frozen 1
      have e2 := HR4.out.frozen 2
      have e3 := HR4.out.frozen 3
      have e4 := HR4.out.frozen 4
      have e5 := HR4.out.frozen 5
      have e6 := HR4.out.frozen 6
      have e7 := HR4.out.frozen 7
      clear R5
      go_wp2_with fail
      have RF := set8 HR4.out (fun j => .int .i64 (timeV rows x j))
      have BF := below8 HB.out (b := w.heap.size + 1) (by omega) (fun j => .int .i64 (timeV rows x j))
      have hput : ((((((((wr.setCell ⟨w.heap.size + 1, 0, none⟩ (Value.int .i64 (timeV rows x 0))).setCell ⟨w.heap.size + 1, 1, none⟩ (Value.int .i64 (timeV rows x 1))).setCell ⟨w.heap.size + 1, 2, none⟩ (Value.int .i64 (timeV rows x 2))).setCell ⟨w.heap.size + 1, 3, none⟩ (Value.int .i64 (timeV rows x 3))).setCell ⟨w.heap.size + 1, 4, none⟩ (Value.int .i64 (timeV rows x 4))).setCell ⟨w.heap.size + 1, 5, none⟩ (Value.int .i64 (timeV rows x 5))).setCell ⟨w.heap.size + 1, 6, none⟩ (Value.int .i64 (timeV rows x 6))).setCell ⟨w.heap.size + 1, 7, none⟩ (Value.int .i64 (timeV rows x 7))) = put8 wr (w.heap.size + 1) (fun j => .int .i64 (timeV rows x j)) := rfl
      rw [hput]
      clear hput
      generalize put8 wr (w.heap.size + 1) (fun j => .int .i64 (timeV rows x j)) = wf at RF BF ⊢
      have HBF := hide BF
      clear BF
      have g0 := RF.cell (i := 0) (by omega)
      have g1 := RF.cell (i := 1) (by omega)
      have g2 := RF.cell (i := 2) (by omega)
      have g3 := RF.cell (i := 3) (by omega)
      have g4 := RF.cell (i := 4) (by omega)
      have g5 := RF.cell (i := 5) (by omega)
      have g6 := RF.cell (i := 6) (by omega)
      have g7 := RF.cell (i := 7) (by omega)
      refine bodyPost_ret (v := arr8 (timeV rows x)) (by simp [results, Try.results27, go_sem, arr8, g0, g1, g2, g3, g4, g5, g6, g7]) rfl ⟨rfl, ?_⟩
      exact HBF.out
end Go.Proofs.Ytoidgdbgpbcebaa.V
namespace Go.Proofs.Ytoidgdbgpbcebaa.V
open Go.RowKit
set_option linter.unusedVariables false

set_option maxHeartbeats 1000000 in
theorem rTakes_any (k : Int) (w : World) : Calls Try.prog 104 #[.int .i64 k] w fun e w' => e = .returned (.int .i64 (takesV k)) ∧ w' = w := by
  rcases kind_cases k with h | h | h | h | h | h | h | h | h | h | h
  case inr.inr.inr.inr.inr.inr.inr.inr.inr.inr =>
    rw [takes_none h]
    obtain ⟨h1, h2, h3, h4, h5, h6, h7, h8, h9, h10⟩ := h
    have k1 : (k == 1) = false := by simpa using h1
    have k2 : (k == 2) = false := by simpa using h2
    have k3 : (k == 3) = false := by simpa using h3
    have k4 : (k == 4) = false := by simpa using h4
    have k5 : (k == 5) = false := by simpa using h5
    have k6 : (k == 6) = false := by simpa using h6
    have k7 : (k == 7) = false := by simpa using h7
    have k8 : (k == 8) = false := by simpa using h8
    have k9 : (k == 9) = false := by simpa using h9
    have k10 : (k == 10) = false := by simpa using h10
    go_enter Try.func104, Try.ntmps104
    go_wp2
    go_ret
    exact ⟨rfl, rfl⟩
  all_goals
    subst h
    go_enter Try.func104, Try.ntmps104
    go_wp2
    go_ret
    exact ⟨rfl, rfl⟩

set_option maxHeartbeats 1000000 in
theorem rAccess_any (za : Option Addr) (zl zc : Nat) (vt : Value) (q : AW) (a : Acc) (vars : Nat) (w : World) (h : AG w q a) (hn : zl ≤ 9223372036854775807) (h4 : vars ≤ 4) :
    Calls Try.prog 105 #[.agg #[.slice za zl zc, vt], q.v, .int .i64 vars] w fun e w' => e = .returned (.int .i64 (accE zl a vars)) ∧ Below w.heap.size w w' := by
  have B0 : Below w.heap.size w (w.alloc (.cells #[.slice za zl zc, vt] 25)) := bl_new _
  have N0 : (w.alloc (.cells #[.slice za zl zc, vt] 25)).heap[w.heap.size]? = _ := World.alloc_heap_new w _
  obtain ⟨W, hW⟩ : ∃ W, W = w.alloc (.cells #[.slice za zl zc, vt] 25) := ⟨_, rfl⟩
  have hs : W.heap.size = w.heap.size + 1 := by rw [hW]; simp
  rw [← hW] at B0 N0
  have B1 : Below W.heap.size W (W.alloc (.cells #[.int .i64 q.arr, .slice q.ca q.cl q.cc, .int .i64 q.con] 68)) := bl_new _
  have P1 := AW.new q W
  have n0 : (W.alloc (.cells #[.int .i64 q.arr, .slice q.ca q.cl q.cc, .int .i64 q.con] 68)).cell? ⟨w.heap.size, 0, none⟩ = some (.slice za zl zc) := by
    rw [B1.cell (p := ⟨w.heap.size, 0, none⟩) (by simp only; omega)]
    simp [World.cell?, N0]
  obtain ⟨p0, p1, p2⟩ := P1.cells
  have h1 := (h.below B0).below B1
  have HC := hide (rRow_any q.ca q.cl q.cc a.2.1 a.2.2 vars _ ⟨h1.coef, h.cap⟩ h.bd.2 h4)
  have ha := h.arr
  have hk := h.con
  have hb1 := h.bd.1.1
  have hb2 := h.bd.1.2
  have HB := hide (bl_on B0 B1)
  have HW := hide hW
  rw [hs] at p0 p1 p2
  obtain ⟨arr, ca, cl, cc, con⟩ := q
  obtain ⟨aa, cs, ak⟩ := a
  simp only [AW.v] at *
  subst ha
  subst hk
  clear h h1 B1 P1 B0 N0 hs hW
  by_cases c1 : arr < 0
  · have e1 : accE zl (arr, cs, con) vars = 4 := by unfold accE; rw [if_pos (.inl c1)]
    rw [e1]
    clear e1
    rw [HW.out] at p0 p1 p2 n0 HB
    go_enter Try.func105, Try.ntmps105
    go_wp2_with fail
    go_ret
    exact ⟨rfl, HB.out⟩
  by_cases c2 : (zl : Int) ≤ arr
  · have e1 : accE zl (arr, cs, con) vars = 4 := by unfold accE; rw [if_pos (.inr c2)]
    rw [e1]
    clear e1
    rw [HW.out] at p0 p1 p2 n0 HB
    go_enter Try.func105, Try.ntmps105
    go_wp2_with fail
    go_ret
    exact ⟨rfl, HB.out⟩
  have e1 : accE zl (arr, cs, con) vars = rowE (cs, con) vars := by unfold accE; rw [if_neg (by simp only; omega)]
  rw [e1]
  clear e1
  rw [HW.out] at p0 p1 p2 n0 HB HC
  go_enter Try.func105, Try.ntmps105
  go_wp2_with (go_at_call 83; refine HC.out.mono ?_; rintro e w2 ⟨rfl, hb⟩; have HB2 := hide (bl_on HB.out hb); clear hb)
  go_ret
  exact ⟨rfl, HB2.out⟩
end Go.Proofs.Ytoidgdbgpbcebaa.V
namespace Go.Proofs.Ytoidgdbgpbcebaa.V
open Go.RowKit
set_option linter.unusedVariables false

set_option maxRecDepth 100000 in
set_option maxHeartbeats 8000000 in
theorem rNestWrong_any (za : Option Addr) (zl zc : Nat) (zs : List Int) (ta : Option Addr) (tl tc : Nat) (ss : List Stm) (w : World) (hz : Ints w za zl zs) (hs : Stms w ta tl ss) :
    Calls Try.prog 82 #[.agg #[.slice za zl zc, .slice ta tl tc]] w fun e w' => e = .returned (.int .i64 (nestE zs ss)) ∧ Below w.heap.size w w' := by
  have B1 : Below w.heap.size w (w.alloc (.cells #[.slice za zl zc, .slice ta tl tc] 25)) := bl_new _
  have P0 := NsBlk.new w za zl zc ta tl tc
  obtain ⟨p0, p1⟩ := P0.cells
  have HZI := hide (hz.below B1)
  have HS := hide hs
  have HB := hide B1
  have HP := hide P0
  have hm1 := hz.2.1
  have hm2 := hs.2.1
  have HZL := hide hz.1
  have HSL := hide hs.1
  by_cases c1 : 256 < tl
  · have e1 : nestE zs ss = 2 := by unfold nestE; rw [if_pos (by rw [hs.1]; exact c1)]
    rw [e1]
    clear hz hs e1 B1 P0
    go_enter Try.func82, Try.ntmps82
    go_wp2_with fail
    go_ret
    exact ⟨rfl, HB.out⟩
  have e1 : nestE zs ss = if zs.any badSize = true then 4 else stmsE zl ss := by unfold nestE; rw [if_neg (by rw [hs.1]; exact c1), hz.1]
  have E0 := hide e1
  clear hz hs e1 B1 P0
  go_enter Try.func82, Try.ntmps82
  go_wp2_with fail
  go_loop [19] (fun i => ∃ k : Nat, k ≤ zl ∧ i = .int .i64 k ∧ (zs.take k).any badSize = false) (fun i => zl - (intOf i).toNat)
  case atStart => exact ⟨0, Nat.zero_le _, rfl, by simp⟩
  case round =>
    obtain ⟨k, hk, rfl, hn⟩ := hrel
    have HN := hide hn
    clear hn
    by_cases hlt : k < zl
    · obtain ⟨b, off, rfl, hb, hc⟩ := HZI.out.at (by omega)
      have hck := hc k hlt
      clear hc
      have hkl : k < zs.length := by rw [HZL.out]; exact hlt
      have HKL := hide hkl
      clear hkl
      obtain ⟨x, hx⟩ : ∃ x, x = zs[k]?.getD 0 := ⟨_, rfl⟩
      rw [← hx] at hck
      by_cases h1 : x < 0
      · have HX : Hid (badSize (zs[k]?.getD 0) = true) := by rw [Hid, ← hx]; simp [badSize, h1]
        clear hx
        go_wp2_with fail
        go_ret
        exact ⟨by rw [E0.out, if_pos (any_of_getD zs k HKL.out HX.out)]; rfl, HB.out⟩
      · by_cases h2 : 65536 < x
        · have HX : Hid (badSize (zs[k]?.getD 0) = true) := by rw [Hid, ← hx]; simp [badSize, h2]
          clear hx
          go_wp2_with fail
          go_ret
          exact ⟨by rw [E0.out, if_pos (any_of_getD zs k HKL.out HX.out)]; rfl, HB.out⟩
        · have HX : Hid (badSize (zs[k]?.getD 0) = false) := by rw [Hid, ← hx]; simp [badSize]; omega
          clear hx
          go_wp2_with fail
          go_round
          case rel => exact ⟨k + 1, by omega, by go_num, not_mem_take_succ zs k HKL.out HN.out HX.out⟩
          case measure => simp [intOf]; omega
    · have c2 := HN.out
      rw [take_all HZL.out hlt] at c2
      have E2 : Hid (nestE zs ss = stmsE zl ss) := by rw [Hid, E0.out, if_neg (by simp [c2])]
      clear HN HZI c2
      go_wp2_with fail
      clear hlt hk
      go_loopw [33] (fun i wr => ∃ k : Nat, k ≤ tl ∧ i = .int .i64 k ∧ stmsE zl (ss.take k) = 0 ∧ Below w.heap.size w wr ∧ NsBlk wr w.heap.size za zl zc ta tl tc) (fun i _ => tl - (intOf i).toNat)
      case atStart => exact ⟨0, Nat.zero_le _, rfl, by simp [stmsE], HB.out, HP.out⟩
      case round =>
        obtain ⟨k, hk, rfl, hz, hB, hP⟩ := hrel
        have HZ := hide hz
        have HBr := hide hB
        have HP3 := hide hP
        obtain ⟨p0, p1⟩ := hP.cells
        have zP3 := hP.lt
        clear hz hB hP
        by_cases hlt : k < tl
        · have hkl : k < ss.length := by rw [HSL.out]; exact hlt
          obtain ⟨b, off, rfl, hat⟩ := (HS.out.below HBr.out).at (by omega)
          obtain ⟨q, hq, k0, k1, k2, k3, k4, k5, k6, k7⟩ := hat k hlt
          have z1 := lt_of_cell k0
          simp only at z1
          have B3 : Below wr.heap.size wr (wr.alloc (.cells q.cs 71)) := bl_new _
          obtain ⟨y0, y1, y2, y3, y4, y5, y6, y7⟩ := (SW.new q wr).cells
          have HP4 := hide (SW.new q wr)
          obtain ⟨r0, r1⟩ := (HP3.out.below B3).cells
          have HN4 := hide (HP3.out.below B3)
          have HB3 := hide B3
          have HKL := hide hkl
          obtain ⟨s, hs⟩ : ∃ s, s = ss[k]?.getD stmD := ⟨_, rfl⟩
          rw [← hs] at hq
          have HQ := hide hs
          have h1 := hq.below B3
          have HPW := hide (rptWrong_any q.ba q.bl q.bc s.box q.ra q.rl q.rc s.rows _ h1.box.1 h1.rows)
          have HAC := hide (fun (h4 : q.bl ≤ 4) (W : World) (hb : Below wr.heap.size wr W) => rAccess_any za zl zc (.slice (some ⟨b, off, none⟩) tl tc) q.pu s.put q.bl W (hq.put.below hb) hm1 h4)
          have HGE := hide hq.gets
          have hbl := hq.box.1.1
          have hgl := hq.gets.1
          have hgm := hq.gets.2.1
          have hkd := hq.kd
          have hbm := hq.box.1.2.1
          have hb1 := hq.bd.1.1
          have hb2 := hq.bd.1.2
          obtain ⟨ba, bl, bc, ra, rl, rc, kd, va, ⟨parr, pca, pcl, pcc, pcon⟩, ga, gl, gc⟩ := q
          obtain ⟨box, rows, kind, val, put, gets⟩ := s
          simp only [SW.cs, AW.v] at *
          subst hkd
          clear hat hq B3 hkl hs h1
          by_cases c1 : ptE box rows ≠ 0
          · have E1 : Hid (stmE zl ⟨box, rows, kd, val, put, gets⟩ = ptE box rows) := by unfold Hid stmE; simp only; rw [if_pos c1]
            have C1 := hide c1
            have c2 : (ptE box rows != 0) = true := by simpa using c1
            clear c1
            go_wp2_with (go_at_call 103; refine HPW.out.mono ?_; rintro e w1 ⟨rfl, hb⟩; have HB1 := hide (bl_on HB3.out hb); have P1 := HP4.out.below hb; obtain ⟨p0, p1, p2, p3, p4, p5, p6, p7⟩ := P1.cells; have zP := P1.lt; have HP1 := hide P1; have N1 := HN4.out.below hb; obtain ⟨n0, n1⟩ := N1.cells; have zN := N1.lt; have HN1 := hide N1; simp only at p0 p1 p2 p3 p4 p5 p6 p7; clear hb P1 N1)
            go_ret
            refine ⟨?_, bl_on HBr.out HB1.out⟩
            rw [E2.out, stmsE_here zl ss k HKL.out HZ.out (by rw [← HQ.out, E1.out]; exact C1.out), ← HQ.out, E1.out]; rfl
          have c1' : ptE box rows = 0 := by simpa using c1
          have C1 := hide c1'
          have h4 : bl ≤ 4 := by have := (ptE_ok c1').rank; omega
          have HAC := hide (fun W hb => HAC.out h4 W hb)
          have tb := takes_bd kd
          obtain ⟨T, hT⟩ : ∃ T, T = takesV kd := ⟨_, rfl⟩
          have HT := hide hT
          by_cases c2 : takesV kd < 0
          · have E1 : Hid (stmE zl ⟨box, rows, kd, val, put, gets⟩ = 1) := by unfold Hid stmE; simp only; rw [if_neg c1, if_pos c2]
            have c3 : T < 0 := by omega
            clear c1 c1' c2 hT
            go_wp2_with (first | (go_at_call 103; refine HPW.out.mono ?_; rintro e w1 ⟨rfl, hb⟩; rw [C1.out]; have HB1 := hide (bl_on HB3.out hb); have P1 := HP4.out.below hb; obtain ⟨p0, p1, p2, p3, p4, p5, p6, p7⟩ := P1.cells; have zP := P1.lt; have HP1 := hide P1; have N1 := HN4.out.below hb; obtain ⟨n0, n1⟩ := N1.cells; have zN := N1.lt; have HN1 := hide N1; simp only at p0 p1 p2 p3 p4 p5 p6 p7; clear hb P1 N1) | (go_at_call 104; refine (rTakes_any _ _).mono ?_; rintro e w' ⟨rfl, hw'⟩; obtain rfl := hw'.symm; rw [← HT.out]))
            go_ret
            refine ⟨?_, bl_on HBr.out HB1.out⟩
            rw [E2.out, stmsE_here zl ss k HKL.out HZ.out (by rw [← HQ.out, E1.out]; decide), ← HQ.out, E1.out]; rfl
          have c3 : ¬ T < 0 := by omega
          by_cases c4 : takesV kd ≠ (gets.length : Int)
          · have E1 : Hid (stmE zl ⟨box, rows, kd, val, put, gets⟩ = 2) := by unfold Hid stmE; simp only; rw [if_neg c1, if_neg c2, if_pos c4]
            have c5 : (T != (gl : Int)) = true := by simp; omega
            clear c1 c1' c2 c4 hT tb
            go_wp2_with (first | (go_at_call 103; refine HPW.out.mono ?_; rintro e w1 ⟨rfl, hb⟩; rw [C1.out]; have HB1 := hide (bl_on HB3.out hb); have P1 := HP4.out.below hb; obtain ⟨p0, p1, p2, p3, p4, p5, p6, p7⟩ := P1.cells; have zP := P1.lt; have HP1 := hide P1; have N1 := HN4.out.below hb; obtain ⟨n0, n1⟩ := N1.cells; have zN := N1.lt; have HN1 := hide N1; simp only at p0 p1 p2 p3 p4 p5 p6 p7; clear hb P1 N1) | (go_at_call 104; refine (rTakes_any _ _).mono ?_; rintro e w' ⟨rfl, hw'⟩; obtain rfl := hw'.symm; rw [← HT.out]))
            go_quiet ((go_at_call 104; refine (rTakes_any _ _).mono ?_; rintro e w' ⟨rfl, rfl⟩; rw [← HT.out]; exact ⟨rfl, _, rfl⟩))
            go_wp2_with fail
            go_ret
            refine ⟨?_, bl_on HBr.out (bl_on HB1.out (below_drewN _ _))⟩
            rw [E2.out, stmsE_here zl ss k HKL.out HZ.out (by rw [← HQ.out, E1.out]; decide), ← HQ.out, E1.out]; rfl
          have c4' : takesV kd = (gets.length : Int) := by simpa using c4
          have c5 : (T != (gl : Int)) = false := by simp; omega
          have hg3 : gl ≤ 3 := by omega
          by_cases c6 : accE zl put box.length ≠ 0
          · have E1 : Hid (stmE zl ⟨box, rows, kd, val, put, gets⟩ = accE zl put bl) := by unfold Hid stmE; simp only; rw [if_neg c1, if_neg c2, if_neg c4, if_pos c6, hbl]
            have C6 : Hid (accE zl put bl ≠ 0) := by rw [Hid, ← hbl]; exact c6
            have c7 : (accE zl put bl != 0) = true := by rw [← hbl]; simpa using c6
            clear c1 c1' c2 c4 hT tb c6 c4'
            go_wp2_with (first | (go_at_call 103; refine HPW.out.mono ?_; rintro e w1 ⟨rfl, hb⟩; rw [C1.out]; have HB1 := hide (bl_on HB3.out hb); have P1 := HP4.out.below hb; obtain ⟨p0, p1, p2, p3, p4, p5, p6, p7⟩ := P1.cells; have zP := P1.lt; have HP1 := hide P1; have N1 := HN4.out.below hb; obtain ⟨n0, n1⟩ := N1.cells; have zN := N1.lt; have HN1 := hide N1; simp only at p0 p1 p2 p3 p4 p5 p6 p7; clear hb P1 N1) | (go_at_call 104; refine (rTakes_any _ _).mono ?_; rintro e w' ⟨rfl, hw'⟩; obtain rfl := hw'.symm; rw [← HT.out]))
            go_quiet ((go_at_call 104; refine (rTakes_any _ _).mono ?_; rintro e w' ⟨rfl, rfl⟩; rw [← HT.out]; exact ⟨rfl, _, rfl⟩))
            go_wp2_with (go_at_call 105; refine (HAC.out (w1.drewN nq) (bl_on HB1.out (below_drewN _ _))).mono ?_; rintro e w2 ⟨rfl, hb⟩; have HB2 := hide (bl_on (bl_on HB1.out (below_drewN _ nq)) hb); have P2 := (HP1.out.below (below_drewN _ nq)).below hb; obtain ⟨p0, p1, p2, p3, p4, p5, p6, p7⟩ := P2.cells; have zP := P2.lt; have HP2 := hide P2; have N2 := (HN1.out.below (below_drewN _ nq)).below hb; obtain ⟨n0, n1⟩ := N2.cells; have zN := N2.lt; have HN2 := hide N2; simp only at p0 p1 p2 p3 p4 p5 p6 p7; clear hb P2 N2)
            go_ret
            refine ⟨?_, bl_on HBr.out HB2.out⟩
            rw [E2.out, stmsE_here zl ss k HKL.out HZ.out (by rw [← HQ.out, E1.out]; exact C6.out), ← HQ.out, E1.out]; rfl
          have E1 : Hid (stmE zl ⟨box, rows, kd, val, put, gets⟩ = accsE zl gets bl) := by unfold Hid stmE; simp only; rw [if_neg c1, if_neg c2, if_neg c4, if_neg c6, hbl]
          have c7 : accE zl put bl = 0 := by rw [← hbl]; simpa using c6
          have C7 := hide c7
          have HGL := hide hgl
          clear c1 c1' c2 c4 hT tb c6 c4' c7
          go_wp2_with (first | (go_at_call 103; refine HPW.out.mono ?_; rintro e w1 ⟨rfl, hb⟩; rw [C1.out]; have HB1 := hide (bl_on HB3.out hb); have P1 := HP4.out.below hb; obtain ⟨p0, p1, p2, p3, p4, p5, p6, p7⟩ := P1.cells; have zP := P1.lt; have HP1 := hide P1; have N1 := HN4.out.below hb; obtain ⟨n0, n1⟩ := N1.cells; have zN := N1.lt; have HN1 := hide N1; simp only at p0 p1 p2 p3 p4 p5 p6 p7; clear hb P1 N1) | (go_at_call 104; refine (rTakes_any _ _).mono ?_; rintro e w' ⟨rfl, hw'⟩; obtain rfl := hw'.symm; rw [← HT.out]))
          go_quiet ((go_at_call 104; refine (rTakes_any _ _).mono ?_; rintro e w' ⟨rfl, rfl⟩; rw [← HT.out]; exact ⟨rfl, _, rfl⟩))
          go_wp2_with (go_at_call 105; refine (HAC.out (w1.drewN nq) (bl_on HB1.out (below_drewN _ _))).mono ?_; rintro e w2 ⟨rfl, hb⟩; rw [C7.out]; have HB2 := hide (bl_on (bl_on HB1.out (below_drewN _ nq)) hb); have P2 := (HP1.out.below (below_drewN _ nq)).below hb; obtain ⟨p0, p1, p2, p3, p4, p5, p6, p7⟩ := P2.cells; have zP := P2.lt; have HP2 := hide P2; have N2 := (HN1.out.below (below_drewN _ nq)).below hb; obtain ⟨n0, n1⟩ := N2.cells; have zN := N2.lt; have HN2 := hide N2; simp only at p0 p1 p2 p3 p4 p5 p6 p7; clear hb P2 N2)
          clear HPW HAC p0 p1 p2 p3 p4 p5 p6 p7 n0 n1 y0 y1 y2 y3 y4 y5 y6 y7 r0 r1 k0 k1 k2 k3 k4 k5 k6 k7
          go_loopw [68] (fun i wr2 => ∃ j : Nat, j ≤ gl ∧ i = .int .i64 j ∧ accsE zl (gets.take j) bl = 0 ∧ Below w2.heap.size w2 wr2) (fun i _ => gl - (intOf i).toNat)
          case atStart => exact ⟨0, Nat.zero_le _, rfl, by simp [accsE], Below.refl _ _⟩
          case round =>
            rename_i wr2
            obtain ⟨j, hj, rfl, hz, hB⟩ := hrel
            have HZ2 := hide hz
            have HBr2 := hide hB
            have P3 := HP2.out.below hB
            obtain ⟨p0, p1, p2, p3, p4, p5, p6, p7⟩ := P3.cells
            have zP3 := P3.lt
            have HP3 := hide P3
            have N3 := HN2.out.below hB
            obtain ⟨n0, n1⟩ := N3.cells
            have zN3 := N3.lt
            have HN3 := hide N3
            clear hz hB P3 N3
            simp only at p0 p1 p2 p3 p4 p5 p6 p7
            by_cases hlt2 : j < gl
            · have hjl : j < gets.length := by rw [HGL.out]; exact hlt2
              obtain ⟨gb, go, rfl, hat⟩ := (HGE.out.below (bl_on HB2.out HBr2.out)).at (by omega)
              obtain ⟨q, hq, k1, k2, k3⟩ := (hat j hlt2).words
              have z1 := lt_of_cell k1
              simp only at z1
              have B3 := bl_new (w := wr) (.cells #[.int .i64 q.arr, .slice q.ca q.cl q.cc, .int .i64 q.con] 68)
              have HC := hide (rAccess_any za zl zc (.slice (some ⟨b, off, none⟩) tl tc) q _ bl _ (hq.below B3) hm1 h4)
              obtain ⟨y0, y1, y2⟩ := (AW.new q wr).cells
              obtain ⟨r0, r1, r2, r3, r4, r5, r6, r7⟩ := (HP3.out.below B3).cells
              obtain ⟨s0, s1⟩ := (HN3.out.below B3).cells
              have HB3 := hide B3
              have HJL := hide hjl
              obtain ⟨aq, haq⟩ : ∃ aq, aq = gets[j]?.getD accD := ⟨_, rfl⟩
              rw [← haq] at HC
              have HAQ := hide haq
              obtain ⟨arr, ca, cl, cc, con⟩ := q
              simp only [AW.v] at *
              clear hat hq B3 hjl haq
              go_wp2_with (go_at_call 105; refine HC.out.mono ?_; rintro e w3 ⟨rfl, hb⟩; have HB4 := hide (bl_on HB3.out hb); clear hb)
              · have hx : accE zl aq bl ≠ 0 := by simpa using (by assumption : (accE zl aq bl != 0) = true)
                go_ret
                refine ⟨?_, bl_on HBr.out (bl_on HB2.out (bl_on HBr2.out HB4.out))⟩
                have e := accsE_here zl gets bl j HJL.out HZ2.out (by rw [← HAQ.out]; exact hx)
                rw [E2.out, stmsE_here zl ss k HKL.out HZ.out (by rw [← HQ.out, E1.out, e, ← HAQ.out]; exact hx), ← HQ.out, E1.out, e, ← HAQ.out]; rfl
              · have hx : accE zl aq bl = 0 := by simpa using (by assumption : (accE zl aq bl != 0) = false)
                go_roundw
                case rel => exact ⟨j + 1, by omega, by go_num, accsE_take zl gets bl j HJL.out HZ2.out (by rw [← HAQ.out]; exact hx), bl_on HBr2.out HB4.out⟩
                case measure => simp [intOf]; omega
            · go_wp2_with fail
              have e := HZ2.out
              rw [List.take_of_length_le (by rw [HGL.out]; omega)] at e
              have HE := hide e
              clear e
              go_roundw
              case rel => exact ⟨k + 1, by omega, by go_num, stmsE_take zl ss k HKL.out HZ.out (by rw [← HQ.out, E1.out, HE.out]), bl_on HBr.out (bl_on HB2.out HBr2.out), HN3.out⟩
              case measure => simp [intOf]; omega
        · go_wp2_with fail
          go_ret
          have := HZ.out
          rw [List.take_of_length_le (by rw [HSL.out]; omega)] at this
          exact ⟨by rw [E2.out, this]; rfl, HBr.out⟩
end Go.Proofs.Ytoidgdbgpbcebaa.V
namespace Go.Proofs.Ytoidgdbgpbcebaa.V
open Go.RowKit
set_option linter.unusedVariables false

/-- The first cells of a block hold numbers. -/
def RowN (W : World) (g c : Nat) (xs : List Int) : Prop := ∃ cur : Array Value, W.heap[g]? = some (.cells cur 2 (0, 0)) ∧ cur.size = c ∧ xs.length ≤ c ∧ ∀ j, j < xs.length → cur[j]? = some (.int .i64 (xs[j]?.getD 0))
theorem RowN.lt {W : World} {g c : Nat} {xs : List Int} (h : RowN W g c xs) : g < W.heap.size := by obtain ⟨cur, h, _⟩ := h; exact (Array.getElem?_eq_some_iff.1 h).1
theorem RowN.of_block {W W' : World} {g c : Nat} {xs : List Int} (h : RowN W g c xs) (e : W'.heap[g]? = W.heap[g]?) : RowN W' g c xs := by obtain ⟨cur, h1, h2⟩ := h; exact ⟨cur, e.trans h1, h2⟩
theorem RowN.below {W W' : World} {g c : Nat} {xs : List Int} (h : RowN W g c xs) (hb : Below W.heap.size W W') : RowN W' g c xs := h.of_block (hb.block _ h.lt)
theorem RowN.cell {W : World} {g c : Nat} {xs : List Int} (h : RowN W g c xs) {j : Nat} (hj : j < xs.length) : W.cell? ⟨g, j, none⟩ = some (.int .i64 (xs[j]?.getD 0)) := by
  obtain ⟨cur, h1, h2, h3, h4⟩ := h
  simp only [World.cell?, h1]
  exact h4 j hj
theorem RowN.frozen {W : World} {g c : Nat} {xs : List Int} (h : RowN W g c xs) (j : Nat) : W.frozen? ⟨g, j, none⟩ = false := by
  obtain ⟨cur, h1, _⟩ := h
  simp [World.frozen?, h1]
theorem RowN.set {W : World} {g c : Nat} {xs : List Int} (h : RowN W g c xs) (j : Nat) (v : Int) (hj : j < xs.length) : RowN (W.setCell ⟨g, j, none⟩ (.int .i64 v)) g c (xs.set j v) := by
  obtain ⟨cur, h1, h2, h3, h4⟩ := h
  refine ⟨cur.setIfInBounds j (.int .i64 v), ?_, by simp [h2], by simpa using h3, fun i hi => ?_⟩
  · simp [World.setCell, Array.getElem?_modify, h1]
  · have hi' : i < xs.length := by simpa using hi
    rw [Array.getElem?_setIfInBounds, List.getElem?_set]
    by_cases e : j = i
    · subst e
      rw [if_pos rfl, if_pos (by omega), if_pos rfl, if_pos hj]
      rfl
    · rw [if_neg e, if_neg e]
      exact h4 i hi'
theorem RowN.setO {W : World} {g c : Nat} {xs : List Int} (h : RowN W g c xs) {p : Addr} (hne : g ≠ p.block) (v : Value) : RowN (W.setCell p v) g c xs := h.of_block (Below.heap_setCell _ p _ g hne)
theorem RowN.ints {W : World} {g c : Nat} {xs : List Int} (h : RowN W g c xs) (hb : ∀ j : Nat, B64 (xs[j]?.getD 0)) (hm : xs.length ≤ 9223372036854775807) : Ints W (some ⟨g, 0, none⟩) xs.length xs := by
  refine ⟨rfl, hm, fun x hx => ?_, ?_⟩
  · obtain ⟨j, hj, e⟩ := List.getElem_of_mem hx
    have := hb j
    rw [List.getElem?_eq_getElem hj, e] at this
    exact this
  · by_cases h0 : xs.length = 0
    · exact .inl h0
    · exact .inr ⟨g, 0, rfl, fun j hj => by rw [Nat.zero_add]; exact h.cell hj⟩

/-- Memory: the list of arrays at a, each in a block of its own from N on. -/
structure Mems (W : World) (N : Nat) (a : Option Addr) (G C : Nat → Nat) (M : Mem) : Prop where
  head : M.length = 0 ∨ ∃ b off, a = some ⟨b, off, none⟩ ∧ ∀ k, k < M.length → W.cell? ⟨b, off + k, none⟩ = some (.slice (some ⟨G k, 0, none⟩) (arrM M k).length (C k)) ∧ G k ≠ b
  rows : ∀ k, k < M.length → RowN W (G k) (C k) (arrM M k)
  apart : ∀ i k, i < M.length → k < M.length → G i = G k → i = k
  lo : ∀ k, k < M.length → N ≤ G k
  bd : MemB M
  small : ∀ k, (arrM M k).length ≤ 65536
theorem Mems.of_blocks {W W' : World} {N : Nat} {a : Option Addr} {G C : Nat → Nat} {M : Mem} (h : Mems W N a G C M) (hb : ∀ (b : Nat) c t f, W.heap[b]? = some (Obj.cells c t f) → W'.heap[b]? = W.heap[b]?) : Mems W' N a G C M := by
  refine ⟨?_, fun k hk => ?_, h.apart, h.lo, h.bd, h.small⟩
  · rcases h.head with h0 | ⟨b, off, e, h1⟩
    · exact .inl h0
    · refine .inr ⟨b, off, e, fun k hk => ⟨?_, (h1 k hk).2⟩⟩
      have hc := (h1 k hk).1
      obtain ⟨o, ho, hcl⟩ := cells_of_cell hc
      refine (World.cell?_of_block (w := W) ?_).trans hc
      cases o with
      | cells c t f => exact hb b c t f ho
      | _ => cases hcl
  · obtain ⟨cur, h1, h2⟩ := h.rows k hk
    exact ⟨cur, (hb _ _ _ _ h1).trans h1, h2⟩
theorem Mems.below {W W' : World} {N : Nat} {a : Option Addr} {G C : Nat → Nat} {M : Mem} (h : Mems W N a G C M) (hb : Below W.heap.size W W') : Mems W' N a G C M :=
  h.of_blocks fun b c t f e => hb.block b (Array.getElem?_eq_some_iff.1 e).1
theorem Mems.at {W : World} {N : Nat} {a : Option Addr} {G C : Nat → Nat} {M : Mem} (h : Mems W N a G C M) {k : Nat} (hk : k < M.length) : ∃ b off, a = some ⟨b, off, none⟩ ∧ W.cell? ⟨b, off + k, none⟩ = some (.slice (some ⟨G k, 0, none⟩) (arrM M k).length (C k)) ∧ G k ≠ b := by
  rcases h.head with h0 | ⟨b, off, e, h1⟩
  · omega
  · exact ⟨b, off, e, h1 k hk⟩
theorem Mems.put {W : World} {N : Nat} {a : Option Addr} {G C : Nat → Nat} {M : Mem} (h : Mems W N a G C M) {k j : Nat} (hk : k < M.length) (hj : j < (arrM M k).length) {v : Int} (hv : B64 v) : Mems (W.setCell ⟨G k, j, none⟩ (.int .i64 v)) N a G C (putM M k j v) := by
  refine ⟨?_, fun i hi => ?_, fun i i' h1 h2 => ?_, fun i hi => ?_, putM_bd h.bd hv k j, fun i => by rw [arrM_put_len]; exact h.small i⟩
  · rw [putM_len]
    rcases h.head with h0 | ⟨b, off, e, h1⟩
    · exact .inl h0
    · refine .inr ⟨b, off, e, fun i hi => ⟨?_, (h1 i hi).2⟩⟩
      rw [arrM_put_len]
      exact (World.cell?_of_block (w := W) (Below.heap_setCell _ ⟨G k, j, none⟩ _ b (Ne.symm (h1 k hk).2))).trans (h1 i hi).1
  · rw [putM_len] at hi
    rw [arrM_put]
    by_cases e : i = k
    · subst e
      rw [if_pos ⟨rfl, hk⟩]
      exact (h.rows i hi).set j v hj
    · rw [if_neg (fun q => e q.1)]
      exact (h.rows i hi).setO (p := ⟨G k, j, none⟩) (fun q => e (h.apart i k hi hk q)) _
  · rw [putM_len] at h1 h2
    exact h.apart i i' h1 h2
  · rw [putM_len] at hi
    exact h.lo i hi

/-- What a step of a statement changes: at the most one block of memory. -/
def Chg (G : Nat → Nat) (n : Nat) (W W' : World) : Prop := ∃ row : Option Nat, W.grownBy W' row ∧ ∀ r, row = some r → ∃ k, k < n ∧ r = G k
theorem Chg.of_below {G : Nat → Nat} {n : Nat} {W W' : World} (h : Below W.heap.size W W') : Chg G n W W' := ⟨none, ⟨h.os, h.tape, h.output, h.size, fun k hk _ => h.block k hk⟩, fun r e => by cases e⟩
theorem Chg.size {G : Nat → Nat} {n : Nat} {W W' : World} (h : Chg G n W W') : W.heap.size ≤ W'.heap.size := by obtain ⟨row, h, _⟩ := h; exact h.size
theorem Chg.block {G : Nat → Nat} {n : Nat} {W W' : World} (h : Chg G n W W') {b : Nat} (hb : b < W.heap.size) (hn : ∀ k, k < n → b ≠ G k) : W'.heap[b]? = W.heap[b]? := by
  obtain ⟨row, h1, h2⟩ := h
  refine h1.block b hb (fun e => ?_)
  obtain ⟨k, hk, e2⟩ := h2 b e.symm
  exact hn k hk e2
theorem Chg.below {G : Nat → Nat} {n N : Nat} {w W W' : World} (h : Chg G n W W') (hN : ∀ k, k < n → N ≤ G k) (hB : Below N w W) (hs : N ≤ W.heap.size) : Below N w W' := by
  obtain ⟨row, h1, h2⟩ := h
  exact hB.grown h1 hs (fun j e => by obtain ⟨k, hk, e2⟩ := h2 j e; rw [e2]; exact hN k hk)
theorem Chg.set {G : Nat → Nat} {n : Nat} {W W' : World} (h : Below W.heap.size W W') {k : Nat} (hk : k < n) (j : Nat) (v : Value) : Chg G n W (W'.setCell ⟨G k, j, none⟩ v) := by
  refine ⟨some (G k), ⟨h.os, h.tape, h.output, by simpa using h.size, fun b hb hn => ?_⟩, fun r e => by cases e; exact ⟨k, hk, rfl⟩⟩
  exact (Below.heap_setCell _ ⟨G k, j, none⟩ _ b (fun e => hn (by simp only at e; rw [e]))).trans (h.block b hb)

/-- The arrays that are handed in. -/
def MemA (w : World) (a : Option Addr) (len : Nat) (L : Mem) : Prop := L.length = len ∧ len ≤ 9223372036854775807 ∧ (len = 0 ∨ ∃ b off, a = some ⟨b, off, none⟩ ∧ ∀ i, i < len → ∃ x l c, w.cell? ⟨b, off + i, none⟩ = some (.slice x l c) ∧ Lst w x l c (arrM L i))
theorem MemA.below {w w' : World} {a : Option Addr} {len : Nat} {L : Mem} (h : MemA w a len L) (hb : Below w.heap.size w w') : MemA w' a len L := by
  obtain ⟨h1, h2, h3⟩ := h
  refine ⟨h1, h2, ?_⟩
  rcases h3 with h3 | ⟨b, off, e, h⟩
  · exact .inl h3
  · refine .inr ⟨b, off, e, fun i hi => ?_⟩
    obtain ⟨x, l, c, k1, k2⟩ := h i hi
    exact ⟨x, l, c, (hb.cell (p := ⟨b, off + i, none⟩) (lt_of_cell k1)).trans k1, k2.below hb⟩
theorem MemA.at {w : World} {a : Option Addr} {len : Nat} {L : Mem} (h : MemA w a len L) (h0 : 0 < len) : ∃ b off, a = some ⟨b, off, none⟩ ∧ ∀ i, i < len → ∃ x l c, w.cell? ⟨b, off + i, none⟩ = some (.slice x l c) ∧ Lst w x l c (arrM L i) := by
  rcases h.2.2 with h3 | h3
  · omega
  · exact h3
theorem MemA.bd {w : World} {a : Option Addr} {len : Nat} {L : Mem} (h : MemA w a len L) : MemB L := by
  intro k j
  by_cases hk : k < len
  · obtain ⟨b, off, _, h1⟩ := h.at (by omega)
    obtain ⟨x, l, c, _, h2⟩ := h1 k hk
    by_cases hj : j < (arrM L k).length
    · exact h2.1.2.2.1 _ (mem_getD _ j hj)
    · rw [List.getElem?_eq_none (by omega)]; unfold B64; simp
  · have e : arrM L k = [] := by
      unfold arrM
      rw [List.getElem?_eq_none (by have := h.1; omega)]; rfl
    rw [e]; unfold B64; simp
/-- Does memory fit? -/
def fitsE (zs : List Int) (L : Mem) : Int := if L.length ≠ zs.length then 2 else if ((List.range L.length).any fun k => decide (((arrM L k).length : Int) ≠ zs[k]?.getD 0)) = true then 6 else 0
end Go.Proofs.Ytoidgdbgpbcebaa.V
namespace Go.Proofs.Ytoidgdbgpbcebaa.V
open Go.RowKit
set_option linter.unusedVariables false

theorem fits_len {zs : List Int} {L : Mem} (h : L.length ≠ zs.length) : fitsE zs L = 2 := by unfold fitsE; rw [if_pos h]
theorem fits_here {zs : List Int} {L : Mem} (h : L.length = zs.length) {k : Nat} (hk : k < L.length) (hn : ((arrM L k).length : Int) ≠ zs[k]?.getD 0) : fitsE zs L = 6 := by
  unfold fitsE
  rw [if_neg (by simpa using h), if_pos]
  rw [List.any_eq_true]
  exact ⟨k, by simpa using hk, by simpa using hn⟩
theorem fits_all {zs : List Int} {L : Mem} (h : L.length = zs.length) (ha : ∀ k, k < L.length → ((arrM L k).length : Int) = zs[k]?.getD 0) : fitsE zs L = 0 := by
  unfold fitsE
  rw [if_neg (by simpa using h), if_neg]
  intro hh
  rw [List.any_eq_true] at hh
  obtain ⟨k, hk, hn⟩ := hh
  simp at hk hn
  exact hn (ha k hk)
theorem fits_ok {zs : List Int} {L : Mem} (h : fitsE zs L = 0) : L.length = zs.length ∧ ∀ k, k < L.length → ((arrM L k).length : Int) = zs[k]?.getD 0 := by
  by_cases h1 : L.length = zs.length
  · refine ⟨h1, fun k hk => ?_⟩
    by_cases h2 : ((arrM L k).length : Int) = zs[k]?.getD 0
    · exact h2
    · rw [fits_here h1 hk h2] at h; omega
  · rw [fits_len h1] at h; omega
theorem fits_small {zs : List Int} {L : Mem} (h : fitsE zs L = 0) (hz : ∀ z ∈ zs, 0 ≤ z ∧ z ≤ 65536) (k : Nat) : (arrM L k).length ≤ 65536 := by
  obtain ⟨h1, h2⟩ := fits_ok h
  by_cases hk : k < L.length
  · have h3 := h2 k hk
    have h4 := hz _ (mem_getD zs k (by omega))
    omega
  · unfold arrM
    rw [List.getElem?_eq_none (by omega)]
    simp
/-- What is told of a nest and its memory. -/
def runE (zs : List Int) (ss : List Stm) (L : Mem) : Int := if nestE zs ss ≠ 0 then nestE zs ss else fitsE zs L
theorem foldl_take {α β : Type} (f : β → α → β) (b : β) (l : List α) (k : Nat) (h : k < l.length) (d : α) : (l.take (k + 1)).foldl f b = f ((l.take k).foldl f b) (l[k]?.getD d) := by
  rw [List.take_succ_eq_append_getElem h, List.foldl_append]
  simp [h]
theorem runM_take (ss : List Stm) (L : Mem) (k : Nat) (h : k < ss.length) : runM (ss.take (k + 1)) L = stmM (runM (ss.take k) L) (ss[k]?.getD stmD) := foldl_take stmM L ss k h stmD
theorem stmM_len (M : Mem) (s : Stm) : (stmM M s).length = M.length := by
  unfold stmM
  generalize pts s.box s.rows = P
  induction P generalizing M with
  | nil => rfl
  | cons x P ih => rw [List.foldl_cons, ih, doM_len]
theorem runM_len (ss : List Stm) (M : Mem) : (runM ss M).length = M.length := by
  unfold runM
  induction ss generalizing M with
  | nil => rfl
  | cons s ss ih => rw [List.foldl_cons, ih, stmM_len]
end Go.Proofs.Ytoidgdbgpbcebaa.V
namespace Go.Proofs.Ytoidgdbgpbcebaa.V
open Go.RowKit
set_option linter.unusedVariables false

theorem Mems.memA {W : World} {N : Nat} {a : Option Addr} {G C : Nat → Nat} {M : Mem} {len : Nat} (h : Mems W N a G C M) (hl : M.length = len) (hm : len ≤ 9223372036854775807) : MemA W a len M := by
  subst hl
  refine ⟨rfl, hm, ?_⟩
  rcases h.head with h0 | ⟨b, off, e, h1⟩
  · exact .inl h0
  · refine .inr ⟨b, off, e, fun k hk => ⟨_, _, _, (h1 k hk).1, (h.rows k hk).ints (h.bd k) (by have := h.small k; omega), ?_, fun e => by cases e⟩⟩
    obtain ⟨cur, _, _, h3, _⟩ := h.rows k hk
    exact h3

set_option maxRecDepth 100000 in
set_option maxHeartbeats 4000000 in
theorem sameMem_any (a : Option Addr) (cap : Nat) (a' : Option Addr) (cap' : Nat) (len : Nat) (M : Mem) (w : World) (h : MemA w a len M) (h' : MemA w a' len M) :
    Calls Try.prog 10 #[.slice a len cap, .slice a' len cap'] w fun e w' => e = .returned (.bool true) ∧ ∃ n, w' = w.drewN n := by
  have hm := h.2.1
  have H := hide h
  have H' := hide h'
  have q0 : ((len : Int) != (len : Int)) = false := by simp
  clear h h'
  go_enter Try.func10, Try.ntmps10
  go_wp2_with fail
  go_loopw [14] (fun i wr => ∃ k : Nat, k ≤ len ∧ i = .int .i64 k ∧ ∃ n, wr = w.drewN n) (fun i _ => len - (intOf i).toNat)
  case atStart => exact ⟨0, Nat.zero_le _, rfl, 0, rfl⟩
  case round =>
    obtain ⟨k, hk, rfl, nn, rfl⟩ := hrel
    by_cases hlt : k < len
    · obtain ⟨b, off, rfl, hat⟩ := H.out.at (by omega)
      obtain ⟨x, l, c, c1, c2⟩ := hat k hlt
      obtain ⟨b', off', rfl, hat'⟩ := H'.out.at (by omega)
      obtain ⟨x', l', c', c1', c2'⟩ := hat' k hlt
      obtain rfl : l = l' := by have := c2.1.1; have := c2'.1.1; omega
      have z1 := lt_of_cell c1
      have z1' := lt_of_cell c1'
      simp only at z1 z1'
      have hlm := c2.1.2.1
      have q1 : ((l : Int) != (l : Int)) = false := by simp
      have HX := hide c2.1
      have HX' := hide c2'.1
      have HC1 := hide c1
      have HC1' := hide c1'
      clear hat hat' c2 c2'
      go_wp2_with fail
      go_quiet (fail)
      go_wp2_with fail
      go_loopw [33] (fun i wr => ∃ j : Nat, j ≤ l ∧ i = .int .i64 j ∧ ∃ n, wr = w.drewN n) (fun i _ => l - (intOf i).toNat)
      case atStart => exact ⟨0, Nat.zero_le _, rfl, _, rfl⟩
      case round =>
        obtain ⟨j, hj, rfl, n2, rfl⟩ := hrel
        by_cases hlt2 : j < l
        · obtain ⟨y, yo, rfl, hy, hyc⟩ := HX.out.at (by omega)
          obtain ⟨y', yo', rfl, hy', hyc'⟩ := HX'.out.at (by omega)
          have d1 := hyc j hlt2
          have d1' := hyc' j hlt2
          obtain ⟨V, hV⟩ : ∃ V, V = (arrM M k)[j]?.getD 0 := ⟨_, rfl⟩
          rw [← hV] at d1 d1'
          have q2 : (V != V) = false := by simp
          clear hyc hyc' hV
          go_wp2_with fail
          go_quiet (fail)
          go_wp2_with fail
          go_roundw
          case rel => exact ⟨j + 1, by omega, by go_num, _, rfl⟩
          case measure => simp [intOf]; omega
        · go_wp2_with fail
          go_roundw
          case rel => exact ⟨k + 1, by omega, by go_num, _, rfl⟩
          case measure => simp [intOf]; omega
    · go_wp2_with fail
      go_ret
      exact ⟨rfl, _, rfl⟩
end Go.Proofs.Ytoidgdbgpbcebaa.V
