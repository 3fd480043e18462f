/-
  Contracts: array.sumDims, reformDims. Sums and products that wrap round; array.count of anything. Products of matrices of numbers that wrap round. Contract: array.padDims. Contract: array.joinDims.
-/
import Derived.Test.YteoobeldmicjhaaGreatPCKArrayCuts22
import Derived.Test.YteoobeldmicjhaaGreatPCKArrayCuts15
import Derived.Test.YteoobeldmicjhaaGreatPCKArrayCuts18
import Derived.Test.YteoobeldmicjhaaGreatPCKArrayCuts11
import Derived.Test.YteoobeldmicjhaaGreatPCKArrayCuts9
namespace Go.Proofs.YteoobeldmicjhaaGreat.V
set_option maxRecDepth 20000
open Go.RowKit

theorem lsts_one {w : World} {X : Option Addr} {m c : Nat} {xs : List Int} (h : Lst w X m c xs) (t : TypeId) : Lsts (w.alloc (.cells #[.slice X m c] t)) (some ⟨w.heap.size, 0, none⟩) 1 [xs] := by
  have hb : Below w.heap.size w (w.alloc (.cells #[.slice X m c] t)) := (Below.refl _ _).alloc (Nat.le_refl _) _
  have hn := World.alloc_heap_new w (.cells #[.slice X m c] t)
  refine ⟨rfl, by omega, .inr ⟨_, _, rfl, fun j hj => ?_⟩⟩
  have e : j = 0 := by omega
  subst e
  exact ⟨X, m, c, by unfold World.cell?; rw [hn]; rfl, h.below hb⟩

theorem lsts_one' {w : World} {X : Option Addr} {m c B : Nat} {xs : List Int} (h : Lst w X m c xs) (t : TypeId) (hB : w.heap.size = B) : Lsts (w.alloc (.cells #[.slice X m c] t)) (some ⟨B, 0, none⟩) 1 [xs] := hB ▸ lsts_one h t

theorem count_ok {xs : List Int} (h : sizeE xs = 0) : ∀ k, k ≤ xs.length → 0 ≤ prod (xs.take k) ∧ prod (xs.take k) ≤ 9223372036854775807 := by
  obtain ⟨z1, z2, z3, z4⟩ := sizeE_ok h
  intro k hk
  have hm : ∀ x ∈ xs.take k, 0 ≤ x ∧ x ≤ 4096 := fun x hx => z2 x (List.mem_of_mem_take hx)
  by_cases h5 : k ≤ 5
  · have := prod_small5 (xs.take k) hm (by simp; omega)
    omega
  · have e : xs.take k = xs := List.take_of_length_le (by omega)
    rw [e]
    rcases dims_cases h with ⟨_, _, h1⟩ | ⟨_, _, h1, h2⟩ <;> omega
theorem size_prod {xs : List Int} (h : sizeE xs = 0) : sizeN xs = prod xs := by
  rcases dims_cases h with ⟨_, h1, h2⟩ | ⟨_, h1, _, _⟩ <;> omega

def reformP (ds es : List Int) : List Int × Int := if sizeE es ≠ 0 then ([], sizeE es) else if sizeN es = sizeN ds then (es, 0) else ([], 6)

set_option maxRecDepth 100000 in
set_option maxHeartbeats 1000000 in
theorem reformDims_any (k : Int) (va vl vh vs : Value) (x : Int) (ea : Option Addr) (el ec : Nat) (es : List Int) (a : Option Addr) (len cap : Nat) (ds : List Int) (w : World) (he : Ints w ea el es) (h : Ints w a len ds) (hz : sizeE ds = 0) :
    Calls Tryz.prog 63 #[.agg #[.int .i64 k, .slice ea el ec, va, vl, vh, vs, .int .i64 x], .slice a len cap] w fun e w' => OutP e w' (reformP ds es) ∧ Below w.heap.size w w' := by
  have HE := hide he
  have H := hide h
  have HZ := hide hz
  clear he h hz
  have HB1 := hide ((Below.refl w.heap.size w).alloc (Nat.le_refl _) (.cells #[.int .i64 k, .slice ea el ec, va, vl, vh, vs, .int .i64 x] 31))
  by_cases c1 : sizeE es = 0
  case neg =>
    have hp : reformP ds es = ([], sizeE es) := by unfold reformP; rw [if_pos c1]
    rw [hp]
    have q : (sizeE es != 0) = true := by simp [c1]
    clear hp c1
    go_enter Tryz.func63, Tryz.ntmps63
    go_wp2_with (go_at_call 40; refine (size_any _ _ _ es _ (HE.out.below HB1.out)).mono ?_; rintro e w' ⟨rfl, hw'⟩; obtain rfl := hw'.symm)
    go_ret2
    exact ⟨outP_none _ _, HB1.out⟩
  have HC := hide c1
  have hel : el ≤ 6 := by have := (sizeE_ok c1).1; have := HE.out.1; omega
  by_cases c2 : sizeN es = prod ds
  · have hp : reformP ds es = (es, 0) := by unfold reformP; rw [if_neg (by simp [c1]), if_pos (by rw [size_prod HZ.out]; exact c2)]
    rw [hp]
    have q : (sizeN es != prod ds) = false := by simp [c2]
    clear hp c1 c2
    go_enter Tryz.func63, Tryz.ntmps63
    go_wp2_with (first
      | (go_at_call 40; refine (size_any _ _ _ es _ (HE.out.below HB1.out)).mono ?_; rintro e w' ⟨rfl, hw'⟩; obtain rfl := hw'.symm; rw [HC.out])
      | (go_at_call 23; refine (count_any _ _ _ ds _ (H.out.below HB1.out) (count_ok HZ.out)).mono ?_; rintro e w' ⟨rfl, hw'⟩; obtain rfl := hw'.symm)
      | (go_at_call 60; refine (afresh_any _ _ _ es _ (HE.out.below HB1.out) (by omega)).mono ?_; rintro e w1 ⟨⟨g, rfl, hr, hg⟩, hb⟩; have HR := hide hr; have HB2 := hide (Below.on HB1.out hb); have hgg : w.heap.size ≤ g := Nat.le_trans HB1.out.size hg; clear hr hb hg))
    go_ret2
    exact ⟨outP_new (newAt_row HR.out hgg HE.out.1 (by omega) HE.out.2.2.1) 0, HB2.out⟩
  · have hp : reformP ds es = ([], 6) := by unfold reformP; rw [if_neg (by simp [c1]), if_neg (by rw [size_prod HZ.out]; exact c2)]
    rw [hp]
    have q : (sizeN es != prod ds) = true := by simp [c2]
    clear hp c1 c2
    go_enter Tryz.func63, Tryz.ntmps63
    go_wp2_with (first
      | (go_at_call 40; refine (size_any _ _ _ es _ (HE.out.below HB1.out)).mono ?_; rintro e w' ⟨rfl, hw'⟩; obtain rfl := hw'.symm; rw [HC.out])
      | (go_at_call 23; refine (count_any _ _ _ ds _ (H.out.below HB1.out) (count_ok HZ.out)).mono ?_; rintro e w' ⟨rfl, hw'⟩; obtain rfl := hw'.symm))
    go_ret2
    exact ⟨outP_none _ _, HB1.out⟩

/-- A rising list names none twice. -/
theorem once_of_rise {xs : List Int} {n : Nat} (h : RiseOk xs n) : Once xs n := fun i hi => ⟨(h i hi).1, (h i hi).2.1, fun j hj => by have := rise_lt h j i hj hi; omega⟩
/-- What may be flipped may be summed: an array as it lies does not go too far when it is flipped. -/
theorem flip_whole {ds : List Int} (ps : List Int) (h : sizeE ds = 0) : flipE 0 ds (stepsV ds) ps = if riseB ps ds.length = true then 0 else 6 := by
  unfold flipE
  rw [if_neg (by simp [wrong_whole h])]
  by_cases c : riseB ps ds.length = true
  · rw [if_pos c, if_pos c]
    have hpo := (riseB_iff _ _).1 c
    have hbw : beyondB (flipAcc 0 ds (stepsV ds) ps ps.length) (flipL (stepsV ds) ps) = false := by
      have ha := flipAcc_whole h ps ps.length
      have hl := rise_len hpo
      have h6 := (sizeE_ok h).1
      refine far_of (by omega) fun x hx => ?_
      simp only [flipL, List.mem_map, List.mem_range] at hx
      obtain ⟨k, _, rfl⟩ := hx
      have := steps_bd h k
      split <;> omega
    rw [hbw]; simp
  · rw [if_neg c, if_neg c]
def sumP (ds ps : List Int) : List Int × Int := if riseB ps ds.length = true then (taken ds (freeL ps ds.length), 0) else ([], 6)

theorem ints_nil (w : World) : Ints w none 0 [] := ⟨rfl, by omega, by simp, .inl rfl⟩

set_option maxRecDepth 100000 in
set_option maxHeartbeats 4000000 in
theorem sumDims_any (k : Int) (vd vl vh vs : Value) (x : Int) (pa : Option Addr) (pl pc : Nat) (ps : List Int) (a : Option Addr) (len cap : Nat) (ds : List Int) (w : World) (hp : Lst w pa pl pc ps) (h : Ints w a len ds) (hz : sizeE ds = 0) :
    Calls Tryz.prog 62 #[.agg #[.int .i64 k, vd, .slice pa pl pc, vl, vh, vs, .int .i64 x], .slice a len cap] w fun e w' => OutP e w' (sumP ds ps) ∧ Below w.heap.size w w' := by
  have HP := hide hp
  have H := hide h
  have HN := hide h.1
  have HZ := hide hz
  have h6 : len ≤ 6 := by have := (sizeE_ok hz).1; have := h.1; omega
  have HFW := hide (flip_whole ps hz)
  clear hp h hz
  have HB1 := hide ((Below.refl w.heap.size w).alloc (Nat.le_refl _) (.cells #[.int .i64 k, vd, .slice pa pl pc, vl, vh, vs, .int .i64 x] 31))
  have HOP := hide (OpAt.new w k vd (.slice pa pl pc) vl vh vs x)
  cases c : riseB ps ds.length with
  | false =>
    have hpp : sumP ds ps = ([], 6) := by unfold sumP; rw [if_neg (by simp [c])]
    rw [hpp]
    have HF6 : Hid (flipE 0 ds (stepsV ds) ps = 6) := by rw [Hid, HFW.out, if_neg (by simp [c])]
    clear hpp c
    go_enter Tryz.func62, Tryz.ntmps62
    go_wp2_with (go_at_call 61; refine (seen_flip 15 0 _ _ _ ds none 0 0 [] _ _ _ ps none 0 0 [] none 0 0 [] none 0 0 [] _ (H.out.below HB1.out) (ints_nil _) (HP.out.1.below HB1.out) (ints_nil _) (ints_nil _) (ints_nil _) HZ.out (by decide)).mono ?_; rintro e w1 ⟨hgv, hb⟩; rw [HF6.out] at hgv; obtain ⟨da1, dl1, dc1, sa1, sl1, sc1, rfl, _⟩ := hgv; have HB2 := hide (Below.on HB1.out hb); clear hb)
    go_ret2
    exact ⟨outP_none _ _, HB2.out.alloc HB2.out.size _⟩
  | true =>
    have hpp : sumP ds ps = (taken ds (freeL ps ds.length), 0) := by unfold sumP; rw [if_pos c]
    rw [hpp]
    have HF0 : Hid (flipE 0 ds (stepsV ds) ps = 0) := by rw [Hid, HFW.out, if_pos c]
    have HON : Hid (Once ps len) := by rw [Hid, ← HN.out]; exact once_of_rise ((riseB_iff _ _).1 c)
    clear hpp c
    go_enter Tryz.func62, Tryz.ntmps62
    go_wp2_with (first
      | (go_at_call 61; refine (seen_flip 15 0 _ _ _ ds none 0 0 [] _ _ _ ps none 0 0 [] none 0 0 [] none 0 0 [] _ (H.out.below HB1.out) (ints_nil _) (HP.out.1.below HB1.out) (ints_nil _) (ints_nil _) (ints_nil _) HZ.out (by decide)).mono ?_; rintro e w1 ⟨hgv, hb⟩; rw [HF0.out] at hgv; obtain ⟨da1, dl1, dc1, sa1, sl1, sc1, rfl, _⟩ := hgv; obtain ⟨S, hS⟩ : ∃ S, S = okS 0 (flipAcc 0 ds (stepsV ds) ps ps.length) := ⟨_, rfl⟩; rw [← hS]; clear hS; have HB2' := Below.on HB1.out hb; have HB2 := hide (HB2'.alloc HB2'.size (.cells #[.int .i64 S, .slice da1 dl1 dc1, .slice sa1 sl1 sc1] 68)); obtain ⟨o0, o1, o2, o3, o4, o5, o6⟩ := ((HOP.out.below hb).alloc (.cells #[.int .i64 S, .slice da1 dl1 dc1, .slice sa1 sl1 sc1] 68)).cells; clear hb HB2')
      | (go_at_call 96; refine (others_any _ _ _ _ [ps] _ (lsts_one' (HP.out.below HB2.out) _ (World.size_alloc _ _)) h6).mono ?_; rintro e w2 ⟨hop, hb⟩; rw [show [ps].flatten = ps by simp] at hop; obtain ⟨_, v, rfl, hv⟩ := hop.resolve_right (fun hh => hh.1 HON.out); obtain ⟨X, n, c, rfl, hl, _⟩ := hv; have HL := hide hl; have HB3 := hide (Below.on (HB2.out.alloc HB2.out.size _) hb); have hn6 : n ≤ 6 := by { have := hl.1.1; have := freeL_len ps len; omega }; clear hb hl hop)
      | (go_at_call 77; refine (these_any _ _ _ ds _ _ _ (freeL ps len) _ (H.out.below HB3.out) HL.out.1 (fun y hy => freeL_bd ps len y hy) hn6).mono ?_; rintro e w3 ⟨⟨v, rfl, hv⟩, hb⟩; have HV := hide hv; have HB4 := hide (Below.on HB3.out hb); clear hv hb))
    go_ret2
    rw [HN.out]
    exact ⟨outP_new HV.out 0, HB4.out⟩
end Go.Proofs.YteoobeldmicjhaaGreat.V
namespace Go.Proofs.YteoobeldmicjhaaGreat.V
set_option maxRecDepth 20000
open Go.RowKit

theorem w64 (n : Int) : wrap64 n = IntKind.i64.wrap n := by
  simp only [wrap64, IntKind.wrap, IntKind.bits, IntKind.signed]
  simp
  split <;> omega
end Go.Proofs.YteoobeldmicjhaaGreat.V
namespace Go.Proofs.YteoobeldmicjhaaGreat.V
set_option maxRecDepth 20000
open Go.RowKit

theorem row_div (i j r : Nat) (h : j < r) : (i * r + j) / r = i := by
  rw [Nat.mul_comm, Nat.mul_add_div (by omega), Nat.div_eq_of_lt h]; omega
theorem row_mod (i j r : Nat) (h : j < r) : (i * r + j) % r = j := by
  rw [Nat.mul_comm, Nat.mul_add_mod, Nat.mod_eq_of_lt h]
theorem row_lt {i j r p : Nat} (hi : i < p) (h : j < r) : i * r + j < p * r := by
  have : (i + 1) * r ≤ p * r := Nat.mul_le_mul_right _ hi
  rw [Nat.add_mul, Nat.one_mul] at this
  omega
end Go.Proofs.YteoobeldmicjhaaGreat.V
namespace Go.Proofs.YteoobeldmicjhaaGreat.V
set_option maxRecDepth 20000
open Go.RowKit

def padBad (lo hi st : List Int) (j : Nat) : Bool := decide (lo[j]?.getD 0 < 0) || (decide (4096 < lo[j]?.getD 0) || (decide (hi[j]?.getD 0 < 0) || (decide (4096 < hi[j]?.getD 0) || (decide (st[j]?.getD 0 < 1) || decide (4096 < st[j]?.getD 0)))))
def anyPad (n : Nat) (lo hi st : List Int) : Bool := (List.range n).any (padBad lo hi st)
def padV (ds lo hi st : List Int) (j : Nat) : Int := lo[j]?.getD 0 + hi[j]?.getD 0 + (if 0 < ds[j]?.getD 0 then (ds[j]?.getD 0 - 1) * st[j]?.getD 0 + 1 else 0)
def padD (ds lo hi st : List Int) : List Int := (List.range ds.length).map (padV ds lo hi st)
def padP (ds lo hi st : List Int) : List Int × Int := if lensB ds.length lo hi st = true then (if anyPad ds.length lo hi st = true then ([], 4) else (padD ds lo hi st, 0)) else ([], 6)
theorem padD_length (ds lo hi st : List Int) : (padD ds lo hi st).length = ds.length := by simp [padD]
theorem padD_getD (ds lo hi st : List Int) (k : Nat) (h : k < ds.length) : (padD ds lo hi st)[k]?.getD 0 = padV ds lo hi st k := by simp [padD, h]
theorem padV_bd {ds lo hi st : List Int} {j : Nat} (hd : 0 ≤ ds[j]?.getD 0 ∧ ds[j]?.getD 0 ≤ 4096) (hb : padBad lo hi st j = false) : 0 ≤ padV ds lo hi st j ∧ padV ds lo hi st j ≤ 33554432 := by
  simp [padBad] at hb
  unfold padV
  split
  · have h1 : 0 ≤ (ds[j]?.getD 0 - 1) * st[j]?.getD 0 := Int.mul_nonneg (by omega) (by omega)
    have h2 : (ds[j]?.getD 0 - 1) * st[j]?.getD 0 ≤ 4096 * 4096 := Int.mul_le_mul (by omega) (by omega) (by omega) (by omega)
    omega
  · omega

theorem within_any (n l : Int) (w : World) : Calls Tryz.prog 97 #[.int .i64 n, .int .i64 l] w fun e w' => e = .returned (.bool (decide (l ≤ n) && decide (n ≤ 4096))) ∧ w' = w := by
  by_cases c : l ≤ n
  · by_cases d : n ≤ 4096
    · have e : (decide (l ≤ n) && decide (n ≤ 4096)) = true := by simp [c, d]
      rw [e]
      go_enter Tryz.func97, Tryz.ntmps97
      go_wp2
      go_ret
      exact ⟨rfl, rfl⟩
    · have e : (decide (l ≤ n) && decide (n ≤ 4096)) = false := by simp [d]
      rw [e]
      have d' : decide (n ≤ 4096) = false := decide_eq_false d
      clear d e
      go_enter Tryz.func97, Tryz.ntmps97
      go_wp2
      go_ret
      exact ⟨rfl, rfl⟩
  · have e : (decide (l ≤ n) && decide (n ≤ 4096)) = false := by simp [c]
    rw [e]
    go_enter Tryz.func97, Tryz.ntmps97
    go_wp2
    go_ret
    exact ⟨rfl, rfl⟩

set_option maxRecDepth 100000 in
set_option maxHeartbeats 4000000 in
theorem padDims_any (k x : Int) (vd va : Value) (la : Option Addr) (ll lc : Nat) (lo : List Int) (ha : Option Addr) (hl hc : Nat) (hi : List Int) (ta : Option Addr) (tl tc : Nat) (st : List Int) (da : Option Addr) (dl dc : Nat) (ds : List Int) (w : World)
    (hlo : Ints w la ll lo) (hhi : Ints w ha hl hi) (hst : Ints w ta tl st) (hd : Ints w da dl ds) (hz : sizeE ds = 0) :
    Calls Tryz.prog 64 #[.agg #[.int .i64 k, vd, va, .slice la ll lc, .slice ha hl hc, .slice ta tl tc, .int .i64 x], .slice da dl dc] w fun e w' => OutP e w' (padP ds lo hi st) ∧ Below w.heap.size w w' := by
  have HLO := hide hlo
  have HHI := hide hhi
  have HST := hide hst
  have HD := hide hd
  have HN := hide hd.1
  have HZ := hide (sizeE_ok hz).2.1
  have h6 : dl ≤ 6 := by have := (sizeE_ok hz).1; have := hd.1; omega
  have hmk := run_make_row' (P := Tryz.prog) 22 3 (.int .i64 0) 8 Tryz.underlying22 info_int rfl .i64 .i64 dl (by omega) (by omega)
  have HB1 := hide ((Below.refl w.heap.size w).alloc (Nat.le_refl _) (.cells #[.int .i64 k, vd, va, .slice la ll lc, .slice ha hl hc, .slice ta tl tc, .int .i64 x] 31))
  have HOP := hide (OpAt.new w k vd va (.slice la ll lc) (.slice ha hl hc) (.slice ta tl tc) x)
  have e1 := hlo.1
  have e2 := hhi.1
  have e3 := hst.1
  have e4 := hd.1
  clear hlo hhi hst hd hz
  by_cases cl : ll = dl ∧ hl = dl ∧ tl = dl
  case neg =>
    have hp : padP ds lo hi st = ([], 6) := by
      unfold padP lensB
      rw [e1, e2, e3, e4, if_neg]
      simp only [Bool.and_eq_true, decide_eq_true_eq]; exact cl
    rw [hp]
    clear hp e1 e2 e3 e4
    by_cases q1 : ll = dl
    · by_cases q2 : hl = dl
      · have q3 : ((tl : Int) != (dl : Int)) = true := by simp; omega
        subst q1
        subst q2
        clear cl
        go_enter Tryz.func64, Tryz.ntmps64
        go_wp2
        go_ret2
        exact ⟨outP_none _ _, HB1.out⟩
      · have q3 : ((hl : Int) != (dl : Int)) = true := by simp; omega
        subst q1
        clear cl q2
        go_enter Tryz.func64, Tryz.ntmps64
        go_wp2
        go_ret2
        exact ⟨outP_none _ _, HB1.out⟩
    · have q3 : ((ll : Int) != (dl : Int)) = true := by simp; omega
      clear cl q1
      go_enter Tryz.func64, Tryz.ntmps64
      go_wp2
      go_ret2
      exact ⟨outP_none _ _, HB1.out⟩
  obtain ⟨q1, q2, q3⟩ := cl
  have hp : padP ds lo hi st = if anyPad ds.length lo hi st = true then ([], 4) else (padD ds lo hi st, 0) := by
    unfold padP lensB
    rw [e1, e2, e3, e4, if_pos]
    simp only [Bool.and_eq_true, decide_eq_true_eq]; exact ⟨q1, q2, q3⟩
  have HPP := hide hp
  obtain rfl := q1
  obtain rfl := q2
  obtain rfl := q3
  clear hp e1 e2 e3 e4
  go_enter Tryz.func64, Tryz.ntmps64
  go_wp2
  go_loopw [36] (fun i wr => ∃ m : Nat, m ≤ tl ∧ i = .int .i64 m ∧ OpAt wr w.heap.size k vd va (.slice la tl lc) (.slice ha tl hc) (.slice ta tl tc) x ∧ wr.rowIs (w.heap.size + 1) 3 tl (onWay (padD ds lo hi st) [] m) ∧ (∀ j, j < m → padBad lo hi st j = false) ∧ Below w.heap.size w wr) (fun i _ => tl - (intOf i).toNat)
  case atStart =>
    have hr := World.rowIs_made (w.alloc (.cells #[.int .i64 k, vd, va, .slice la tl lc, .slice ha tl hc, .slice ta tl tc, .int .i64 x] 31)) (.int .i64 0) tl 3
    simp only [World.size_alloc] at hr
    exact ⟨0, Nat.zero_le _, rfl, HOP.out.alloc _, hr.congr (fun j _ => by simp [onWay]), fun j hj => by omega, HB1.out.alloc HB1.out.size _⟩
  case round =>
    obtain ⟨m, hm, rfl, hop, hrow, hgood, hB⟩ := hrel
    have HO := hide hop
    have HR := hide hrow
    have HG := hide hgood
    have HB := hide hB
    clear hop hrow hgood hB hmk
    by_cases hlt : m < tl
    · obtain ⟨lb, lof, rfl, hlb, hlc⟩ := HLO.out.at (by omega)
      obtain ⟨hb, hof, rfl, hhb, hhc⟩ := HHI.out.at (by omega)
      obtain ⟨tb, tof, rfl, htb, htc⟩ := HST.out.at (by omega)
      obtain ⟨db, dof, rfl, hdb, hdc⟩ := HD.out.at (by omega)
      obtain ⟨L, hL⟩ : ∃ L, L = lo[m]?.getD 0 := ⟨_, rfl⟩
      obtain ⟨U, hU⟩ : ∃ U, U = hi[m]?.getD 0 := ⟨_, rfl⟩
      obtain ⟨T, hT⟩ : ∃ T, T = st[m]?.getD 0 := ⟨_, rfl⟩
      obtain ⟨D, hD⟩ : ∃ D, D = ds[m]?.getD 0 := ⟨_, rfl⟩
      have cl : wr.cell? ⟨lb, lof + m, none⟩ = some (.int .i64 L) := by rw [hL]; exact (HB.out.cell (p := ⟨lb, lof + m, none⟩) hlb).trans (hlc m hlt)
      have ch : wr.cell? ⟨hb, hof + m, none⟩ = some (.int .i64 U) := by rw [hU]; exact (HB.out.cell (p := ⟨hb, hof + m, none⟩) hhb).trans (hhc m hlt)
      have ct : wr.cell? ⟨tb, tof + m, none⟩ = some (.int .i64 T) := by rw [hT]; exact (HB.out.cell (p := ⟨tb, tof + m, none⟩) htb).trans (htc m hlt)
      have cd : wr.cell? ⟨db, dof + m, none⟩ = some (.int .i64 D) := by rw [hD]; exact (HB.out.cell (p := ⟨db, dof + m, none⟩) hdb).trans (hdc m hlt)
      have hDb : 0 ≤ D ∧ D ≤ 4096 := by rw [hD]; exact HZ.out _ (mem_getD ds m (by rw [HN.out]; exact hlt))
      have HPB : Hid (padBad lo hi st m = (decide (L < 0) || (decide (4096 < L) || (decide (U < 0) || (decide (4096 < U) || (decide (T < 1) || decide (4096 < T))))))) := by rw [Hid, hL, hU, hT]; rfl
      have HPV : Hid (padV ds lo hi st m = L + U + (if 0 < D then (D - 1) * T + 1 else 0)) := by rw [Hid, hL, hU, hT, hD]; rfl
      obtain ⟨o0, o1, o2, o3, o4, o5, o6⟩ := HO.out.cells
      have i1 : (0 : Int) ≤ (m : Int) := Int.natCast_nonneg _
      have i2 : (m : Int) < (tl : Int) := by omega
      have HBAD : Hid (padBad lo hi st m = true → padP ds lo hi st = ([], 4)) := fun hb => by
        rw [HPP.out, if_pos]
        unfold anyPad
        rw [List.any_eq_true]
        exact ⟨m, by rw [List.mem_range, HN.out]; exact hlt, hb⟩
      clear hlc hhc htc hdc hL hU hT hD
      cases x1 : (decide (0 ≤ L) && decide (L ≤ 4096)) with
      | false =>
        have X1 := hide x1
        clear x1
        go_wp2_with (go_at_call 97; refine (within_any _ _ _).mono ?_; rintro e w' ⟨rfl, hw'⟩; obtain rfl := hw'.symm; rw [X1.out])
        go_ret2
        rw [HBAD.out (by have := X1.out; rw [HPB.out]; simp at this ⊢; omega)]
        exact ⟨outP_none _ _, HB.out⟩
      | true =>
      have X1 := hide x1
      clear x1
      cases x2 : (decide (0 ≤ U) && decide (U ≤ 4096)) with
      | false =>
        have X2 := hide x2
        clear x2
        go_wp2_with (go_at_call 97; refine (within_any _ _ _).mono ?_; rintro e w' ⟨rfl, hw'⟩; obtain rfl := hw'.symm; first | rw [X1.out] | rw [X2.out])
        go_ret2
        rw [HBAD.out (by have := X2.out; rw [HPB.out]; simp at this ⊢; omega)]
        exact ⟨outP_none _ _, HB.out⟩
      | true =>
      have X2 := hide x2
      clear x2
      cases x3 : (decide (1 ≤ T) && decide (T ≤ 4096)) with
      | false =>
        have X3 := hide x3
        clear x3
        go_wp2_with (go_at_call 97; refine (within_any _ _ _).mono ?_; rintro e w' ⟨rfl, hw'⟩; obtain rfl := hw'.symm; first | rw [X1.out] | rw [X2.out] | rw [X3.out])
        go_ret2
        rw [HBAD.out (by have := X3.out; rw [HPB.out]; simp at this ⊢; omega)]
        exact ⟨outP_none _ _, HB.out⟩
      | true =>
      have X3 := hide x3
      clear x3
      have HOK : Hid (padBad lo hi st m = false) := by
        have h1 := X1.out
        have h2 := X2.out
        have h3 := X3.out
        rw [Hid, HPB.out]
        simp at h1 h2 h3 ⊢; omega
      have cr := HR.out.cell hlt
      have fr := HR.out.frozen m
      have bL : 0 ≤ L ∧ L ≤ 4096 := by have := X1.out; simp at this; exact this
      have bU : 0 ≤ U ∧ U ≤ 4096 := by have := X2.out; simp at this; exact this
      have bT : 1 ≤ T ∧ T ≤ 4096 := by have := X3.out; simp at this; exact this
      go_wp2_with (go_at_call 97; refine (within_any _ _ _).mono ?_; rintro e w' ⟨rfl, hw'⟩; obtain rfl := hw'.symm; first | rw [X1.out] | rw [X2.out] | rw [X3.out])
      go_region
      have HR1 := hide (HR.out.set m (.int .i64 (L + U)))
      have c1 : ((wr.setCell ⟨w.heap.size + 1, m, none⟩ (.int .i64 (L + U))).drew).cell? ⟨w.heap.size + 1, m, none⟩ = some (.int .i64 (L + U)) := by
        have := HR1.out.cell hlt
        simpa using this
      have f1 : ((wr.setCell ⟨w.heap.size + 1, m, none⟩ (.int .i64 (L + U))).drew).frozen? ⟨w.heap.size + 1, m, none⟩ = false := HR1.out.frozen m
      have HO1 : Hid (OpAt ((wr.setCell ⟨w.heap.size + 1, m, none⟩ (.int .i64 (L + U))).drew) w.heap.size k vd va (.slice (some ⟨lb, lof, none⟩) tl lc) (.slice (some ⟨hb, hof, none⟩) tl hc) (.slice (some ⟨tb, tof, none⟩) tl tc) x) := HO.out.set (p := ⟨w.heap.size + 1, m, none⟩) (by simp) _
      have HB1' := hide ((HB.out.setCell (p := ⟨w.heap.size + 1, m, none⟩) (by simp) (.int .i64 (L + U))).drew)
      have ct1 : ((wr.setCell ⟨w.heap.size + 1, m, none⟩ (.int .i64 (L + U))).drew).cell? ⟨tb, tof + m, none⟩ = some (.int .i64 T) := by
        have h1 := HB1'.out.cell (p := ⟨tb, tof + m, none⟩) htb
        have h2 := HB.out.cell (p := ⟨tb, tof + m, none⟩) htb
        rw [h1, ← h2]; exact ct
      obtain ⟨p0, p1, p2, p3, p4, p5, p6⟩ := HO1.out.cells
      have hm1 : 0 ≤ (D - 1) * T ∨ D = 0 := by
        by_cases e : D = 0
        · exact .inr e
        · exact .inl (Int.mul_nonneg (by omega) (by omega))
      have hm2 : (D - 1) * T ≤ 4096 * 4096 ∨ D = 0 := by
        by_cases e : D = 0
        · exact .inr e
        · exact .inl (Int.mul_le_mul (by omega) bT.2 (by omega) (by omega))
      have HGS : Hid (∀ j, j < m + 1 → padBad lo hi st j = false) := fun j hj => by
        by_cases e : j = m
        · rw [e]; exact HOK.out
        · exact HG.out j (by omega)
      have HKD : Hid (m < ds.length) := by rw [Hid, HN.out]; exact hlt
      by_cases cD : 0 < D
      · have hm3 : 0 ≤ (D - 1) * T := by omega
        have hm4 : (D - 1) * T ≤ 4096 * 4096 := by omega
        have HPV' : Hid (padV ds lo hi st m = L + U + ((D - 1) * T + 1)) := by rw [Hid, HPV.out, if_pos cD]
        clear hm1 hm2
        go_wp2_with fail
        go_region
        go_wp2
        go_roundw
        case rel =>
          refine ⟨m + 1, by omega, by go_num, HO1.out.set (p := ⟨w.heap.size + 1, m, none⟩) (by simp) _, ?_, HGS.out, ?_⟩
          · refine (HR1.out.set m (.int .i64 (L + U + ((D - 1) * T + 1)))).congr (fun j _ => ?_)
            have e1 := padD_getD ds lo hi st m HKD.out
            rw [← onWay_succ, e1, HPV'.out]
            by_cases e : j = m <;> simp [e]
          · exact (HB1'.out.setCell (p := ⟨w.heap.size + 1, m, none⟩) (by simp) _).drew
        case measure => simp [intOf]; omega
      · have HPV' : Hid (padV ds lo hi st m = L + U) := by rw [Hid, HPV.out, if_neg cD]; omega
        clear hm1 hm2
        go_wp2
        go_roundw
        case rel =>
          refine ⟨m + 1, by omega, by go_num, HO1.out, ?_, HGS.out, HB1'.out⟩
          refine HR1.out.congr (fun j _ => ?_)
          have e1 := padD_getD ds lo hi st m HKD.out
          rw [← onWay_succ, e1, HPV'.out]
        case measure => simp [intOf]; omega
    · obtain rfl : m = tl := by omega
      have hp : padP ds lo hi st = (padD ds lo hi st, 0) := by
        rw [HPP.out, if_neg]
        unfold anyPad
        rw [List.any_eq_true]
        rintro ⟨j, hj, hb⟩
        rw [List.mem_range, HN.out] at hj
        rw [HG.out j hj] at hb
        cases hb
      have HPF := hide hp
      clear hp
      go_wp2
      go_ret2
      rw [HPF.out]
      refine ⟨outP_new (newAt_row (w := w) (onWay_all HR.out) (by omega) (by rw [padD_length, HN.out]) (by omega) (fun y hy => ?_)) 0, HB.out⟩
      obtain ⟨j, hj, rfl⟩ := List.getElem_of_mem hy
      have hj' : j < ds.length := by rw [padD_length] at hj; exact hj
      have e1 := padD_getD ds lo hi st j hj'
      have e2 : (padD ds lo hi st)[j]?.getD 0 = (padD ds lo hi st)[j] := by simp [hj]
      rw [← e2, e1]
      have := padV_bd (ds := ds) (HZ.out _ (mem_getD ds j hj')) (HG.out j (by rw [HN.out] at hj'; exact hj'))
      omega
end Go.Proofs.YteoobeldmicjhaaGreat.V
namespace Go.Proofs.YteoobeldmicjhaaGreat.V
set_option maxRecDepth 20000
open Go.RowKit

theorem mem_getDL (xss : List (List Int)) (j : Nat) (h : j < xss.length) : xss[j]?.getD [] ∈ xss := by simp [h]
theorem set_same (ds : List Int) (p : Nat) : ds.set p (ds[p]?.getD 0) = ds := by
  apply List.ext_getElem? 
  intro j
  rw [List.getElem?_set]
  split
  · rename_i e; subst e
    split
    · rename_i h; simp [h]
    · rename_i h; simp at h; simp [h]
  · rfl
theorem set_getD (ds : List Int) (p j : Nat) (V : Int) (h : p < ds.length) : (ds.set p V)[j]?.getD 0 = if j = p then V else ds[j]?.getD 0 := by
  rw [List.getElem?_set]
  by_cases e : j = p
  · subst e; simp [h]
  · have : ¬ p = j := fun hh => e hh.symm
    simp [e, this]
theorem take_set (ds : List Int) (p : Nat) (V : Int) : (ds.set p V).take p = ds.take p := by
  rw [List.take_set_of_le (Nat.le_refl _)]
theorem drop_set (ds : List Int) (p : Nat) (V : Int) : (ds.set p V).drop (p + 1) = ds.drop (p + 1) := by
  rw [List.drop_set_of_lt (Nat.lt_succ_self _)]
theorem set_bd {ds : List Int} {p : Nat} {V : Int} (h : ∀ x ∈ ds, -9223372036854775808 ≤ x ∧ x ≤ 9223372036854775807) (hV : -9223372036854775808 ≤ V ∧ V ≤ 9223372036854775807) : ∀ x ∈ ds.set p V, -9223372036854775808 ≤ x ∧ x ≤ 9223372036854775807 := by
  intro x hx
  rcases List.mem_or_eq_of_mem_set hx with h1 | h1
  · exact h x h1
  · rw [h1]; exact hV

set_option maxRecDepth 100000 in
set_option maxHeartbeats 4000000 in
theorem joinDims_any (k x : Int) (vd vl vh vs : Value) (pa : Option Addr) (pl pc : Nat) (ps : List Int) (A : Option Addr) (len cap : Nat) (xss : List (List Int)) (w : World) (hp : Lst w pa pl pc ps) (h : Lsts w A len xss) (hcap : len ≤ cap) (h1 : 1 ≤ len) (hlen : len ≤ 1048576) (hz : ∀ d ∈ xss, sizeE d = 0) :
    Calls Tryz.prog 66 #[.agg #[.int .i64 k, vd, .slice pa pl pc, vl, vh, vs, .int .i64 x], .slice A len cap] w fun e w' => OutP e w' (joinP ps xss) ∧ Below w.heap.size w w' := by
  have H := hide h
  have HP := hide hp
  have HN := hide h.1
  have HPL := hide hp.1.1
  have HZ := hide hz
  obtain ⟨b, off, rfl, hc⟩ := h.at (by omega)
  obtain ⟨X0, m0, c0, hc0, hl0⟩ := hc 0 (by omega)
  obtain ⟨ds, hds⟩ : ∃ ds, ds = xss[0]?.getD [] := ⟨_, rfl⟩
  rw [← hds] at hl0
  have HDS := hide hds
  have HC := hide hc
  have hc0' : w.cell? ⟨b, off, none⟩ = some (.slice X0 m0 c0) := hc0
  have HC0 := hide hc0'
  have HL0 := hide hl0
  have hmem0 : ds ∈ xss := by rw [hds]; exact mem_getDL xss 0 (by rw [h.1]; omega)
  have hz0 := sizeE_ok (hz ds hmem0)
  have hm06 : m0 ≤ 6 := by have := hl0.1.1; omega
  clear h hp hz hc hc0 hl0 hds hmem0
  have HB1 := hide ((Below.refl w.heap.size w).alloc (Nat.le_refl _) (.cells #[.int .i64 k, vd, .slice pa pl pc, vl, vh, vs, .int .i64 x] 31))
  have HOP := hide (OpAt.new w k vd (.slice pa pl pc) vl vh vs x)
  have q0 : (w.alloc (.cells #[.int .i64 k, vd, .slice pa pl pc, vl, vh, vs, .int .i64 x] 31)).cell? ⟨b, off, none⟩ = some (.slice X0 m0 c0) := (HB1.out.cell (p := ⟨b, off, none⟩) (lt_of_cell HC0.out)).trans HC0.out
  have hpos : (0 : Int) < (len : Int) := by omega
  have HBAD : Hid (¬ (ps.length = 1 ∧ 0 ≤ joinAt ps ∧ joinAt ps < (ds.length : Int)) → joinP ps xss = ([], 6)) := fun hn => by
    unfold joinP
    rw [← HDS.out, if_neg]
    rintro ⟨a1, a2, a3, _⟩
    exact hn ⟨a1, a2, a3⟩
  by_cases c1 : pl = 1
  case neg =>
    rw [HBAD.out (fun hh => c1 (by rw [← HPL.out]; exact hh.1))]
    have q : ((pl : Int) != 1) = true := by simp; omega
    clear c1
    go_enter Tryz.func66, Tryz.ntmps66
    go_wp2_with (go_at_call 60; refine (afresh_any _ _ _ ds _ (HL0.out.1.below HB1.out) (by omega)).mono ?_; rintro e w1 ⟨⟨g, rfl, hr, hg⟩, hb⟩; have HR := hide hr; have HB2 := hide (Below.on HB1.out hb); have HO2 := hide (HOP.out.below hb); obtain ⟨o0, o1, o2, o3, o4, o5, o6⟩ := HO2.out.cells; have hgg : w.heap.size + 1 ≤ g := by { simpa using hg };  clear hr hb hg)
    go_ret2
    exact ⟨outP_none _ _, HB2.out⟩
  subst c1
  obtain ⟨pb, pof, rfl, hpb, hpc⟩ := HP.out.1.at (by omega)
  obtain ⟨P, hP⟩ : ∃ P, P = joinAt ps := ⟨_, rfl⟩
  have hcp : w.cell? ⟨pb, pof, none⟩ = some (.int .i64 P) := by rw [hP]; exact hpc 0 (by omega)
  have HCP := hide hcp
  have HPP := hide hP
  have hdl : ds.length = m0 := HL0.out.1.1
  have HDL := hide hdl
  clear hpc hcp
  by_cases c2 : P < 0
  · rw [HBAD.out (fun hh => by rw [← hP] at hh; omega)]
    clear hP
    go_enter Tryz.func66, Tryz.ntmps66
    go_wp2_with (go_at_call 60; refine (afresh_any _ _ _ ds _ (HL0.out.1.below HB1.out) (by omega)).mono ?_; rintro e w1 ⟨⟨g, rfl, hr, hg⟩, hb⟩; have HR := hide hr; have HB2 := hide (Below.on HB1.out hb); have HO2 := hide (HOP.out.below hb); obtain ⟨o0, o1, o2, o3, o4, o5, o6⟩ := HO2.out.cells; have hgg : w.heap.size + 1 ≤ g := by { simpa using hg }; have cp : w1.cell? ⟨pb, pof, none⟩ = some (.int .i64 P) := (HB2.out.cell (p := ⟨pb, pof, none⟩) hpb).trans HCP.out; clear hr hb hg)
    go_ret2
    exact ⟨outP_none _ _, HB2.out⟩
  by_cases c3 : (m0 : Int) ≤ P
  · rw [HBAD.out (fun hh => by rw [← hP] at hh; omega)]
    clear hP
    go_enter Tryz.func66, Tryz.ntmps66
    go_wp2_with (go_at_call 60; refine (afresh_any _ _ _ ds _ (HL0.out.1.below HB1.out) (by omega)).mono ?_; rintro e w1 ⟨⟨g, rfl, hr, hg⟩, hb⟩; have HR := hide hr; have HB2 := hide (Below.on HB1.out hb); have HO2 := hide (HOP.out.below hb); obtain ⟨o0, o1, o2, o3, o4, o5, o6⟩ := HO2.out.cells; have hgg : w.heap.size + 1 ≤ g := by { simpa using hg }; have cp : w1.cell? ⟨pb, pof, none⟩ = some (.int .i64 P) := (HB2.out.cell (p := ⟨pb, pof, none⟩) hpb).trans HCP.out; clear hr hb hg)
    go_ret2
    exact ⟨outP_none _ _, HB2.out⟩
  obtain ⟨p, rfl⟩ : ∃ p : Nat, P = (p : Int) := ⟨P.toNat, by omega⟩
  have hpm : p < m0 := by omega
  have HPT : Hid ((joinAt ps).toNat = p) := by rw [Hid, ← hP]; simp
  have HJP : Hid (joinP ps xss = if (xss.drop 1).all (joinB p ds) = true then (ds.set p (joinS p xss), 0) else ([], 6)) := by
    unfold joinP
    rw [Hid, ← HDS.out, HPT.out]
    by_cases e : (xss.drop 1).all (joinB p ds) = true
    · rw [if_pos ⟨HPL.out, by omega, by omega, e⟩, if_pos e]
    · rw [if_neg (fun hh => e hh.2.2.2), if_neg e]
  have HS1 : Hid (ds.set p (joinS p (xss.take 1)) = ds) := by
    have e : xss.take 1 = [ds] := by
      have := take_snocL xss 0 (by rw [HN.out]; omega)
      simpa [← HDS.out] using this
    rw [Hid, e]
    have e2 : joinS p [ds] = ds[p]?.getD 0 := by simp [joinS]
    rw [e2]; exact set_same ds p
  have HSB : Hid (∀ m, 0 ≤ joinS p (xss.take m) ∧ joinS p (xss.take m) ≤ 4096 * 1048576) := fun m => by
    have h3 := joinS_bd p (xss.take m) (fun d hd => (sizeE_ok (HZ.out d (List.mem_of_mem_take hd))).2.1)
    have h4 : (xss.take m).length ≤ 1048576 := by simp; have := HN.out; omega
    omega
  clear hP
  by_cases cc : cap = 1
  · subst cc
    obtain rfl : len = 1 := by omega
    go_enter Tryz.func66, Tryz.ntmps66
    go_wp2_with (go_at_call 60; refine (afresh_any _ _ _ ds _ (HL0.out.1.below HB1.out) (by omega)).mono ?_; rintro e w1 ⟨⟨g, rfl, hr, hg⟩, hb⟩; have HR := hide hr; have HB2 := hide (Below.on HB1.out hb); have HO2 := hide (HOP.out.below hb); obtain ⟨o0, o1, o2, o3, o4, o5, o6⟩ := HO2.out.cells; have hgg : w.heap.size + 1 ≤ g := by { simpa using hg }; have cp : w1.cell? ⟨pb, pof, none⟩ = some (.int .i64 (p : Int)) := (HB2.out.cell (p := ⟨pb, pof, none⟩) hpb).trans HCP.out; clear hr hb hg)
    go_loopw [41] (fun i wr => i = .int .i64 0 ∧ RowI wr g m0 ds ∧ Below w.heap.size w wr) (fun _ _ => 0)
    case atStart => exact ⟨rfl, HR.out, HB2.out⟩
    case round =>
      clear HR HB2 HO2 o0 o1 o2 o3 o4 o5 o6 cp
      obtain ⟨rfl, hr, hB⟩ := hrel
      have HR := hide hr
      have HB := hide hB
      clear hr hB
      go_wp2
      go_ret2
      have e1 : xss.take 1 = xss := List.take_of_length_le (by rw [HN.out]; exact Nat.le_refl _)
      have e2 := HS1.out
      rw [e1] at e2
      have e3 : (xss.drop 1).all (joinB p ds) = true := by rw [List.drop_eq_nil_of_le (by rw [HN.out]; exact Nat.le_refl _)]; rfl
      rw [HJP.out, if_pos e3, e2]
      exact ⟨outP_new (newAt_row (w := w) HR.out (by omega) HDL.out (by omega) HL0.out.1.2.2.1) 0, HB.out⟩
  · go_enter Tryz.func66, Tryz.ntmps66
    go_wp2_with (go_at_call 60; refine (afresh_any _ _ _ ds _ (HL0.out.1.below HB1.out) (by omega)).mono ?_; rintro e w1 ⟨⟨g, rfl, hr, hg⟩, hb⟩; have HR := hide hr; have HB2 := hide (Below.on HB1.out hb); have HO2 := hide (HOP.out.below hb); obtain ⟨o0, o1, o2, o3, o4, o5, o6⟩ := HO2.out.cells; have hgg : w.heap.size + 1 ≤ g := by { simpa using hg }; have cp : w1.cell? ⟨pb, pof, none⟩ = some (.int .i64 (p : Int)) := (HB2.out.cell (p := ⟨pb, pof, none⟩) hpb).trans HCP.out; clear hr hb hg)
    go_loopw [41] (fun i wr => ∃ j : Nat, j ≤ len - 1 ∧ i = .int .i64 j ∧ (∀ t, t < j → joinB p ds (xss[t + 1]?.getD []) = true) ∧ RowI wr g m0 (ds.set p (joinS p (xss.take (j + 1)))) ∧ Below w.heap.size w wr) (fun i _ => len - 1 - (intOf i).toNat)
    case atStart => exact ⟨0, Nat.zero_le _, rfl, fun t ht => by omega, by rw [HS1.out]; exact HR.out, HB2.out⟩
    case round =>
      clear HR HB2 HO2 o0 o1 o2 o3 o4 o5 o6 cp
      obtain ⟨j, hj, rfl, hgood, hr, hB⟩ := hrel
      have HG := hide hgood
      have HR := hide hr
      have HB := hide hB
      clear hr hB hgood
      by_cases hlt : j < len - 1
      · obtain ⟨X, m, c, hcj0, hlj⟩ := HC.out (j + 1) (by omega)
        have hcj : wr.cell? ⟨b, off + 1 + j, none⟩ = some (.slice X m c) := by
          have e : off + 1 + j = off + (j + 1) := by omega
          rw [e]; exact (HB.out.cell (p := ⟨b, off + (j + 1), none⟩) (lt_of_cell hcj0)).trans hcj0
        obtain ⟨d, hd⟩ : ∃ d, d = xss[j + 1]?.getD [] := ⟨_, rfl⟩
        rw [← hd] at hlj
        have HDJ := hide hd
        have HLJ := hide hlj
        have hmemd : d ∈ xss := by rw [hd]; exact mem_getDL xss (j + 1) (by rw [HN.out]; omega)
        have hzd := sizeE_ok (HZ.out d hmemd)
        have hmd := hlj.1.1
        have HZD := hide hzd.2.1
        have hcm := hlj.2.1
        have HNO : Hid (joinB p ds d = false → joinP ps xss = ([], 6)) := fun hn => by
          rw [HJP.out, if_neg]
          intro ha
          have := (joinAll_iff _ _).1 ha j (by rw [HN.out]; omega)
          rw [← HDJ.out, hn] at this
          cases this
        have HSJ := hide (HSB.out (j + 1))
        obtain ⟨J, hJ⟩ : ∃ J, J = joinS p (xss.take (j + 1)) := ⟨_, rfl⟩
        rw [← hJ] at HR HSJ
        have HJ := hide hJ
        have i1 : (0 : Int) ≤ (j : Int) := Int.natCast_nonneg _
        have i2 : (j : Int) < ((len - 1 : Nat) : Int) := by omega
        clear hcj0 hlj hmemd hd hJ
        by_cases c4 : m = m0
        case neg =>
          have q : ((m : Int) != (m0 : Int)) = true := by simp; omega
          have HJF : Hid (joinB p ds d = false) := by
            unfold joinB
            rw [Hid, HDL.out, hmd]
            simp [c4]
          clear c4
          go_wp2_with fail
          go_quiet (fail)
          go_wp2
          go_ret2
          rw [HNO.out HJF.out]
          exact ⟨outP_none _ _, Below.on HB.out (below_drewN _ _)⟩
        subst c4
        obtain ⟨b1, off1, rfl, hb1, hc1⟩ := HLJ.out.1.at (by omega)
        have HC1 := hide (hc1 p hpm)
        have hbw : Below wr.heap.size wr wr := Below.refl _ _
        have HLR : Hid (Lst wr (some ⟨g, 0, none⟩) m m (ds.set p J)) := ⟨ints_of_rowI HR.out (by rw [List.length_set]; exact HDL.out) (by omega) (set_bd HL0.out.1.2.2.1 (by have := HSJ.out; omega)), Nat.le_refl _, fun e => by cases e⟩
        have HE1 : Hid (∀ wx, Below wr.heap.size wr wx → Ints wx (some ⟨b1, off1, none⟩) p (d.take p) ∧ Ints wx (some ⟨g, 0, none⟩) p (ds.take p)) := fun wx hx => by
          refine ⟨((lst_take HLJ.out p (by omega)).1.below HB.out).below hx, ?_⟩
          have := (lst_take HLR.out p (by omega)).1.below hx
          rwa [take_set] at this
        clear hc1 hbw
        have HEQ1 : Hid (∀ n c1 c2, Calls Tryz.prog 25 #[.slice (some ⟨b1, off1, none⟩) p c1, .slice (some ⟨g, 0, none⟩) p c2] (wr.drewN n) fun e w' => e = .returned (.bool (decide (d.take p = ds.take p))) ∧ ∃ k, w' = (wr.drewN n).drewN k) := fun n c1 c2 => equal_any _ _ _ (d.take p) _ _ _ (ds.take p) _ (HE1.out _ (below_drewN _ n)).1 (HE1.out _ (below_drewN _ n)).2
        have HEQ2 : Hid (∀ n X a1 c1 Y a2 c2, Ints wr X a1 (d.drop (p + 1)) → Ints wr Y a2 (ds.drop (p + 1)) → Calls Tryz.prog 25 #[.slice X a1 c1, .slice Y a2 c2] (wr.drewN n) fun e w' => e = .returned (.bool (decide (d.drop (p + 1) = ds.drop (p + 1)))) ∧ ∃ k, w' = (wr.drewN n).drewN k) := fun n X a1 c1 Y a2 c2 h1 h2 => equal_any _ _ _ (d.drop (p + 1)) _ _ _ (ds.drop (p + 1)) _ (h1.below (below_drewN _ n)) (h2.below (below_drewN _ n))
        have hw1 : IntKind.i64.wrap ((p : Int) + 1) = ((p + 1 : Nat) : Int) := by rw [wrap_in _ (by omega) (by omega)]; omega
        go_wp2_with fail
        go_cut [71] (fun t wc => ∃ u : Bool, t = .bool u ∧ u = !joinB p ds d ∧ Below wr.heap.size wr wc)
        case first =>
          by_cases q1 : d.take p = ds.take p
          case neg =>
            have HJF : Hid (true = !joinB p ds d) := by simp [Hid, joinB, q1]
            rw [decide_eq_false q1] at HEQ1
            clear q1 HEQ2
            go_quiet ((go_at_call 25; exact Calls.quiet_of (HEQ1.out _ _ _)))
            go_wp2
            go_meet
            exact ⟨true, rfl, HJF.out, below_drewN _ _⟩
          rw [decide_eq_true q1] at HEQ1
          have HQ1 := hide q1
          clear q1
          by_cases cA : p + 1 = m
          · have hd1 : d.drop (p + 1) = [] := List.drop_eq_nil_of_le (by omega)
            have hd2 : ds.drop (p + 1) = [] := List.drop_eq_nil_of_le (by have := HDL.out; omega)
            have HJF : Hid (false = !joinB p ds d) := by simp [Hid, joinB, HQ1.out, hd1, hd2, hmd, HDL.out]
            rw [hd1, hd2] at HEQ2
            rw [decide_eq_true (show ([] : List Int) = [] from rfl)] at HEQ2
            clear hd1 hd2
            have HI1 : Hid (∀ X n, n = 0 → Ints wr X n []) := fun X n e => ⟨e.symm, by omega, by simp, .inl e⟩
            by_cases cB : c = p + 1
            · go_quiet (first
                | (go_at_call_of 25 (Value.slice (some ⟨g, 0, none⟩) p m); exact Calls.quiet_of (HEQ1.out _ _ _))
                | (go_at_call 25; exact Calls.quiet_of (HEQ2.out _ _ _ _ _ _ _ (HI1.out _ _ (by omega)) (HI1.out _ _ (by omega)))))
              go_wp2
              go_meet
              exact ⟨false, rfl, HJF.out, below_drewN _ _⟩
            · go_quiet (first
                | (go_at_call_of 25 (Value.slice (some ⟨g, 0, none⟩) p m); exact Calls.quiet_of (HEQ1.out _ _ _))
                | (go_at_call 25; exact Calls.quiet_of (HEQ2.out _ _ _ _ _ _ _ (HI1.out _ _ (by omega)) (HI1.out _ _ (by omega)))))
              go_wp2
              go_meet
              exact ⟨false, rfl, HJF.out, below_drewN _ _⟩
          · have cB : ¬ c = p + 1 := by omega
            have cM : ¬ m = p + 1 := by omega
            have HL1 : Hid (Ints wr (some ⟨b1, off1 + (p + 1), none⟩) (m - (p + 1)) (d.drop (p + 1))) := (lst_drop HLJ.out (p + 1) (by omega)).1.below HB.out
            have hl2 := (lst_drop HLR.out (p + 1) (by omega)).1
            rw [drop_set] at hl2
            have HL2 := hide hl2
            rw [Nat.zero_add] at hl2
            have HL3 := hide hl2
            clear hl2 cA
            by_cases q2 : d.drop (p + 1) = ds.drop (p + 1)
            · have HJF : Hid (false = !joinB p ds d) := by simp [Hid, joinB, HQ1.out, q2, hmd, HDL.out]
              rw [decide_eq_true q2] at HEQ2
              clear q2
              go_quiet (first
                | (go_at_call_of 25 (Value.slice (some ⟨g, 0, none⟩) p m); exact Calls.quiet_of (HEQ1.out _ _ _))
                | (go_at_call 25; exact Calls.quiet_of (HEQ2.out _ _ _ _ _ _ _ HL1.out HL2.out))
                | (go_at_call 25; exact Calls.quiet_of (HEQ2.out _ _ _ _ _ _ _ HL1.out HL3.out)))
              go_wp2
              go_meet
              exact ⟨false, rfl, HJF.out, below_drewN _ _⟩
            · have HJF : Hid (true = !joinB p ds d) := by simp [Hid, joinB, q2]
              rw [decide_eq_false q2] at HEQ2
              clear q2
              go_quiet (first
                | (go_at_call_of 25 (Value.slice (some ⟨g, 0, none⟩) p m); exact Calls.quiet_of (HEQ1.out _ _ _))
                | (go_at_call 25; exact Calls.quiet_of (HEQ2.out _ _ _ _ _ _ _ HL1.out HL2.out))
                | (go_at_call 25; exact Calls.quiet_of (HEQ2.out _ _ _ _ _ _ _ HL1.out HL3.out)))
              go_wp2
              go_meet
              exact ⟨true, rfl, HJF.out, below_drewN _ _⟩
        case rest =>
          obtain ⟨u, rfl, hu, hW⟩ := hcut
          have HB2 := hide (Below.on HB.out hW)
          have HR2 := hide (HR.out.below hW)
          have cd := HLJ.out
          clear cd
          have cd : wc.cell? ⟨b1, off1 + p, none⟩ = some (.int .i64 (d[p]?.getD 0)) := (HB2.out.cell (p := ⟨b1, off1 + p, none⟩) hb1).trans HC1.out
          clear hW hcj HB HR HEQ1 HEQ2 HE1 HLR hw1
          cases u with
          | true =>
            have HJF : Hid (joinB p ds d = false) := by simpa [Hid] using hu
            clear hu
            go_wp2
            go_ret2
            rw [HNO.out HJF.out]
            exact ⟨outP_none _ _, HB2.out⟩
          | false =>
            have HJT : Hid (joinB p ds d = true) := by simpa [Hid] using hu
            obtain ⟨D, hD⟩ : ∃ D, D = d[p]?.getD 0 := ⟨_, rfl⟩
            rw [← hD] at cd
            have hDb : 0 ≤ D ∧ D ≤ 4096 := by rw [hD]; exact getD_bd HZD.out p
            have hJb : 0 ≤ J ∧ J ≤ 4096 * 1048576 := HSJ.out
            have HDD := hide hD
            have hpl : p < ds.length := by rw [HDL.out]; exact hpm
            have HPL2 := hide hpl
            have cr : wc.cell? ⟨g, p, none⟩ = some (.int .i64 J) := by
              have := HR2.out.cell hpm
              rwa [set_getD ds p p J hpl, if_pos rfl] at this
            have fr := HR2.out.frozen p
            clear hu hD hpl
            go_wp2_with fail
            go_region
            all_goals go_wp2
            all_goals go_roundw
            all_goals try (case measure => simp [intOf]; omega)
            all_goals
              have hsum : joinS p (xss.take (j + 1 + 1)) = J + D := by
                rw [take_snocL xss (j + 1) (by rw [HN.out]; omega), joinS_snoc, ← HJ.out, ← HDJ.out, ← HDD.out]
              have hrow : RowI ((wc.setCell ⟨g, p, none⟩ (.int .i64 (J + D))).drew) g m (ds.set p (joinS p (xss.take (j + 1 + 1)))) := by
                rw [hsum]
                refine (HR2.out.set p (.int .i64 (J + D))).congr (fun t _ => ?_)
                rw [set_getD ds p t (J + D) HPL2.out, set_getD ds p t J HPL2.out]
                by_cases e : t = p <;> simp [e]
              have hr : ∃ j' : Nat, j' ≤ len - 1 ∧ Value.int .i64 ((j : Int) + 1) = .int .i64 j' ∧ (∀ t, t < j' → joinB p ds (xss[t + 1]?.getD []) = true) ∧ RowI ((wc.setCell ⟨g, p, none⟩ (.int .i64 (J + D))).drew) g m (ds.set p (joinS p (xss.take (j' + 1)))) ∧ Below w.heap.size w ((wc.setCell ⟨g, p, none⟩ (.int .i64 (J + D))).drew) := by
                refine ⟨j + 1, by omega, by go_num, fun t ht => ?_, hrow, (HB2.out.setCell (p := ⟨g, p, none⟩) (by simp; omega) _).drew⟩
                by_cases e : t = j
                · rw [e, ← HDJ.out]; exact HJT.out
                · exact HG.out t (by omega)
              first
                | exact hr
                | (repeat apply Exists.intro
                   exact ⟨hr, rfl⟩)
      · obtain rfl : j = len - 1 := by omega
        go_wp2
        go_ret2
        have e1 : len - 1 + 1 = len := by omega
        have e2 := HR.out
        rw [e1, List.take_of_length_le (by rw [HN.out]; exact Nat.le_refl _)] at e2
        have e3 : (xss.drop 1).all (joinB p ds) = true := (joinAll_iff _ _).2 (fun t ht => HG.out t (by rw [HN.out] at ht; omega))
        have e4 := HSB.out len
        rw [List.take_of_length_le (by rw [HN.out]; exact Nat.le_refl _)] at e4
        rw [HJP.out, if_pos e3]
        exact ⟨outP_new (newAt_row (w := w) e2 (by omega) (by rw [List.length_set]; exact HDL.out) (by omega) (set_bd HL0.out.1.2.2.1 (by omega))) 0, HB.out⟩
end Go.Proofs.YteoobeldmicjhaaGreat.V
