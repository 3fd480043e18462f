/-
  Contracts: array.sumDims, reformDims. Sums and products that wrap round; array.count of anything. Products of matrices of numbers that wrap round. Contract: array.padDims. Contract: array.joinDims.
-/
import Derived.Test.YteoobeldmicjhaaGreatPAKArrayAdjoint22
import Derived.Test.YteoobeldmicjhaaGreatPAKArrayAdjoint15
import Derived.Test.YteoobeldmicjhaaGreatPAKArrayAdjoint18
import Derived.Test.YteoobeldmicjhaaGreatPAKArrayAdjoint11
import Derived.Test.YteoobeldmicjhaaGreatPAKArrayAdjoint9
namespace Go.Proofs.YteoobeldmicjhaaGreat.V
set_option maxRecDepth 20000
open Go.RowKit

theorem lsts_one {w : World} {X : Option Addr} {m c : Nat} {xs : List Int} (h : Lst w X m c xs) (t : TypeId) : Lsts (w.alloc (.cells #[.slice X m c] t)) (some ⟨w.heap.size, 0, none⟩) 1 [xs] := by
  have hb : Below w.heap.size w (w.alloc (.cells #[.slice X m c] t)) := (Below.refl _ _).alloc (Nat.le_refl _) _
  have hn := World.alloc_heap_new w (.cells #[.slice X m c] t)
  refine ⟨rfl, by omega, .inr ⟨_, _, rfl, fun j hj => ?_⟩⟩
  have e : j = 0 := by omega
  subst e
  exact ⟨X, m, c, by unfold World.cell?; rw [hn]; rfl, h.below hb⟩

theorem lsts_one' {w : World} {X : Option Addr} {m c B : Nat} {xs : List Int} (h : Lst w X m c xs) (t : TypeId) (hB : w.heap.size = B) : Lsts (w.alloc (.cells #[.slice X m c] t)) (some ⟨B, 0, none⟩) 1 [xs] := hB ▸ lsts_one h t

theorem count_ok {xs : List Int} (h : sizeE xs = 0) : ∀ k, k ≤ xs.length → 0 ≤ prod (xs.take k) ∧ prod (xs.take k) ≤ 9223372036854775807 := by
  obtain ⟨z1, z2, z3, z4⟩ := sizeE_ok h
  intro k hk
  have hm : ∀ x ∈ xs.take k, 0 ≤ x ∧ x ≤ 4096 := fun x hx => z2 x (List.mem_of_mem_take hx)
  by_cases h5 : k ≤ 5
  · have := prod_small5 (xs.take k) hm (by simp; omega)
    omega
  · have e : xs.take k = xs := List.take_of_length_le (by omega)
    rw [e]
    rcases dims_cases h with ⟨_, _, h1⟩ | ⟨_, _, h1, h2⟩ <;> omega
theorem size_prod {xs : List Int} (h : sizeE xs = 0) : sizeN xs = prod xs := by
  rcases dims_cases h with ⟨_, h1, h2⟩ | ⟨_, h1, _, _⟩ <;> omega

def reformP (ds es : List Int) : List Int × Int := if sizeE es ≠ 0 then ([], sizeE es) else if sizeN es = sizeN ds then (es, 0) else ([], 6)

set_option maxRecDepth 100000 in
set_option maxHeartbeats 1000000 in
theorem reformDims_any (k : Int) (va vl vh vs : Value) (x : Int) (ea : Option Addr) (el ec : Nat) (es : List Int) (a : Option Addr) (len cap : Nat) (ds : List Int) (w : World) (he : Ints w ea el es) (h : Ints w a len ds) (hz : sizeE ds = 0) :
    Calls Tryz.prog 63 #[.agg #[.int .i64 k, .slice ea el ec, va, vl, vh, vs, .int .i64 x], .slice a len cap] w fun e w' => OutP e w' (reformP ds es) ∧ Below w.heap.size w w' := by
  have HE := hide he
  have H := hide h
  have HZ := hide hz
  clear he h hz
  have HB1 := hide ((Below.refl w.heap.size w).alloc (Nat.le_refl _) (.cells #[.int .i64 k, .slice ea el ec, va, vl, vh, vs, .int .i64 x] 31))
  by_cases c1 : sizeE es = 0
  case neg =>
    have hp : reformP ds es = ([], sizeE es) := by unfold reformP; rw [if_pos c1]
    rw [hp]
    have q : (sizeE es != 0) = true := by simp [c1]
    clear hp c1
    go_enter Tryz.func63, Tryz.ntmps63
    go_wp2_with (go_at_call 40; refine (size_any _ _ _ es _ (HE.out.below HB1.out)).mono ?_; rintro e w' ⟨rfl, hw'⟩; obtain rfl := hw'.symm)
    go_ret2
    exact ⟨outP_none _ _, HB1.out⟩
  have HC := hide c1
  have hel : el ≤ 6 := by have := (sizeE_ok c1).1; have := HE.out.1; omega
  by_cases c2 : sizeN es = prod ds
  · have hp : reformP ds es = (es, 0) := by unfold reformP; rw [if_neg (by simp [c1]), if_pos (by rw [size_prod HZ.out]; exact c2)]
    rw [hp]
    have q : (sizeN es != prod ds) = false := by simp [c2]
    clear hp c1 c2
    go_enter Tryz.func63, Tryz.ntmps63
    go_wp2_with (first
      | (go_at_call 40; refine (size_any _ _ _ es _ (HE.out.below HB1.out)).mono ?_; rintro e w' ⟨rfl, hw'⟩; obtain rfl := hw'.symm; rw [HC.out])
      | (go_at_call 23; refine (count_any _ _ _ ds _ (H.out.below HB1.out) (count_ok HZ.out)).mono ?_; rintro e w' ⟨rfl, hw'⟩; obtain rfl := hw'.symm)
      | (go_at_call 60; refine (afresh_any _ _ _ es _ (HE.out.below HB1.out) (by omega)).mono ?_; rintro e w1 ⟨⟨g, rfl, hr, hg⟩, hb⟩; have HR := hide hr; have HB2 := hide (Below.on HB1.out hb); have hgg : w.heap.size ≤ g := Nat.le_trans HB1.out.size hg; clear hr hb hg))
    go_ret2
    exact ⟨outP_new (newAt_row HR.out hgg HE.out.1 (by omega) HE.out.2.2.1) 0, HB2.out⟩
  · have hp : reformP ds es = ([], 6) := by unfold reformP; rw [if_neg (by simp [c1]), if_neg (by rw [size_prod HZ.out]; exact c2)]
    rw [hp]
    have q : (sizeN es != prod ds) = true := by simp [c2]
    clear hp c1 c2
    go_enter Tryz.func63, Tryz.ntmps63
    go_wp2_with (first
      | (go_at_call 40; refine (size_any _ _ _ es _ (HE.out.below HB1.out)).mono ?_; rintro e w' ⟨rfl, hw'⟩; obtain rfl := hw'.symm; rw [HC.out])
      | (go_at_call 23; refine (count_any _ _ _ ds _ (H.out.below HB1.out) (count_ok HZ.out)).mono ?_; rintro e w' ⟨rfl, hw'⟩; obtain rfl := hw'.symm))
    go_ret2
    exact ⟨outP_none _ _, HB1.out⟩

/-- A rising list names none twice. -/
theorem once_of_rise {xs : List Int} {n : Nat} (h : RiseOk xs n) : Once xs n := fun i hi => ⟨(h i hi).1, (h i hi).2.1, fun j hj => by have := rise_lt h j i hj hi; omega⟩
/-- What may be flipped may be summed: an array as it lies does not go too far when it is flipped. -/
theorem flip_whole {ds : List Int} (ps : List Int) (h : sizeE ds = 0) : flipE 0 ds (stepsV ds) ps = if riseB ps ds.length = true then 0 else 6 := by
  unfold flipE
  rw [if_neg (by simp [wrong_whole h])]
  by_cases c : riseB ps ds.length = true
  · rw [if_pos c, if_pos c]
    have hpo := (riseB_iff _ _).1 c
    have hbw : beyondB (flipAcc 0 ds (stepsV ds) ps ps.length) (flipL (stepsV ds) ps) = false := by
      have ha := flipAcc_whole h ps ps.length
      have hl := rise_len hpo
      have h6 := (sizeE_ok h).1
      refine far_of (by omega) fun x hx => ?_
      simp only [flipL, List.mem_map, List.mem_range] at hx
      obtain ⟨k, _, rfl⟩ := hx
      have := steps_bd h k
      split <;> omega
    rw [hbw]; simp
  · rw [if_neg c, if_neg c]
def sumP (ds ps : List Int) : List Int × Int := if riseB ps ds.length = true then (taken ds (freeL ps ds.length), 0) else ([], 6)

theorem ints_nil (w : World) : Ints w none 0 [] := ⟨rfl, by omega, by simp, .inl rfl⟩

set_option maxRecDepth 100000 in
set_option maxHeartbeats 4000000 in
theorem sumDims_any (k : Int) (vd vl vh vs : Value) (x : Int) (pa : Option Addr) (pl pc : Nat) (ps : List Int) (a : Option Addr) (len cap : Nat) (ds : List Int) (w : World) (hp : Lst w pa pl pc ps) (h : Ints w a len ds) (hz : sizeE ds = 0) :
    Calls Tryz.prog 62 #[.agg #[.int .i64 k, vd, .slice pa pl pc, vl, vh, vs, .int .i64 x], .slice a len cap] w fun e w' => OutP e w' (sumP ds ps) ∧ Below w.heap.size w w' := by
  have HP := hide hp
  have H := hide h
  have HN := hide h.1
  have HZ := hide hz
  have h6 : len ≤ 6 := by have := (sizeE_ok hz).1; have := h.1; omega
  have HFW := hide (flip_whole ps hz)
  clear hp h hz
  have HB1 := hide ((Below.refl w.heap.size w).alloc (Nat.le_refl _) (.cells #[.int .i64 k, vd, .slice pa pl pc, vl, vh, vs, .int .i64 x] 31))
  have HOP := hide (OpAt.new w k vd (.slice pa pl pc) vl vh vs x)
  cases c : riseB ps ds.length with
  | false =>
    have hpp : sumP ds ps = ([], 6) := by unfold sumP; rw [if_neg (by simp [c])]
    rw [hpp]
    have HF6 : Hid (flipE 0 ds (stepsV ds) ps = 6) := by rw [Hid, HFW.out, if_neg (by simp [c])]
    clear hpp c
    go_enter Tryz.func62, Tryz.ntmps62
    go_wp2_with (go_at_call 61; refine (seen_flip 15 0 _ _ _ ds none 0 0 [] _ _ _ ps none 0 0 [] none 0 0 [] none 0 0 [] _ (H.out.below HB1.out) (ints_nil _) (HP.out.1.below HB1.out) (ints_nil _) (ints_nil _) (ints_nil _) HZ.out (by decide)).mono ?_; rintro e w1 ⟨hgv, hb⟩; rw [HF6.out] at hgv; obtain ⟨da1, dl1, dc1, sa1, sl1, sc1, rfl, _⟩ := hgv; have HB2 := hide (Below.on HB1.out hb); clear hb)
    go_ret2
    exact ⟨outP_none _ _, HB2.out.alloc HB2.out.size _⟩
  | true =>
    have hpp : sumP ds ps = (taken ds (freeL ps ds.length), 0) := by unfold sumP; rw [if_pos c]
    rw [hpp]
    have HF0 : Hid (flipE 0 ds (stepsV ds) ps = 0) := by rw [Hid, HFW.out, if_pos c]
    have HON : Hid (Once ps len) := by rw [Hid, ← HN.out]; exact once_of_rise ((riseB_iff _ _).1 c)
    clear hpp c
    go_enter Tryz.func62, Tryz.ntmps62
    go_wp2_with (first
      | (go_at_call 61; refine (seen_flip 15 0 _ _ _ ds none 0 0 [] _ _ _ ps none 0 0 [] none 0 0 [] none 0 0 [] _ (H.out.below HB1.out) (ints_nil _) (HP.out.1.below HB1.out) (ints_nil _) (ints_nil _) (ints_nil _) HZ.out (by decide)).mono ?_; rintro e w1 ⟨hgv, hb⟩; rw [HF0.out] at hgv; obtain ⟨da1, dl1, dc1, sa1, sl1, sc1, rfl, _⟩ := hgv; obtain ⟨S, hS⟩ : ∃ S, S = okS 0 (flipAcc 0 ds (stepsV ds) ps ps.length) := ⟨_, rfl⟩; rw [← hS]; clear hS; have HB2' := Below.on HB1.out hb; have HB2 := hide (HB2'.alloc HB2'.size (.cells #[.int .i64 S, .slice da1 dl1 dc1, .slice sa1 sl1 sc1] 68)); obtain ⟨o0, o1, o2, o3, o4, o5, o6⟩ := ((HOP.out.below hb).alloc (.cells #[.int .i64 S, .slice da1 dl1 dc1, .slice sa1 sl1 sc1] 68)).cells; clear hb HB2')
      | (go_at_call 96; refine (others_any _ _ _ _ [ps] _ (lsts_one' (HP.out.below HB2.out) _ (World.size_alloc _ _)) h6).mono ?_; rintro e w2 ⟨hop, hb⟩; rw [show [ps].flatten = ps by simp] at hop; obtain ⟨_, v, rfl, hv⟩ := hop.resolve_right (fun hh => hh.1 HON.out); obtain ⟨X, n, c, rfl, hl, _⟩ := hv; have HL := hide hl; have HB3 := hide (Below.on (HB2.out.alloc HB2.out.size _) hb); have hn6 : n ≤ 6 := by { have := hl.1.1; have := freeL_len ps len; omega }; clear hb hl hop)
      | (go_at_call 77; refine (these_any _ _ _ ds _ _ _ (freeL ps len) _ (H.out.below HB3.out) HL.out.1 (fun y hy => freeL_bd ps len y hy) hn6).mono ?_; rintro e w3 ⟨⟨v, rfl, hv⟩, hb⟩; have HV := hide hv; have HB4 := hide (Below.on HB3.out hb); clear hv hb))
    go_ret2
    rw [HN.out]
    exact ⟨outP_new HV.out 0, HB4.out⟩
end Go.Proofs.YteoobeldmicjhaaGreat.V
namespace Go.Proofs.YteoobeldmicjhaaGreat.V
set_option maxRecDepth 20000
open Go.RowKit

theorem w64 (n : Int) : wrap64 n = IntKind.i64.wrap n := by
  simp only [wrap64, IntKind.wrap, IntKind.bits, IntKind.signed]
  simp
  split <;> omega
theorem wrap_off (n : Int) : ∃ q : Int, IntKind.i64.wrap n = n + q * 18446744073709551616 := by
  simp only [IntKind.wrap, IntKind.bits, IntKind.signed]
  simp
  split
  · exact ⟨-(n / 18446744073709551616) - 1, by omega⟩
  · exact ⟨-(n / 18446744073709551616), by omega⟩
theorem wrap_plus (n q : Int) : IntKind.i64.wrap (n + q * 18446744073709551616) = IntKind.i64.wrap n := by
  simp only [IntKind.wrap, IntKind.bits, IntKind.signed]
  simp only [show ((2 : Int) ^ (64 : Nat)) = 18446744073709551616 from rfl, Int.add_mul_emod_self_right]
theorem wrap_addl (a b : Int) : IntKind.i64.wrap (IntKind.i64.wrap a + b) = IntKind.i64.wrap (a + b) := by
  obtain ⟨q, hq⟩ := wrap_off a
  rw [hq, show a + q * 18446744073709551616 + b = a + b + q * 18446744073709551616 by omega, wrap_plus]
theorem wrap_addr (a b : Int) : IntKind.i64.wrap (a + IntKind.i64.wrap b) = IntKind.i64.wrap (a + b) := by
  rw [Int.add_comm, wrap_addl, Int.add_comm]
theorem wrap_mull (a b : Int) : IntKind.i64.wrap (IntKind.i64.wrap a * b) = IntKind.i64.wrap (a * b) := by
  obtain ⟨q, hq⟩ := wrap_off a
  rw [hq, Int.add_mul, show q * 18446744073709551616 * b = (q * b) * 18446744073709551616 by rw [Int.mul_assoc, Int.mul_comm _ b, ← Int.mul_assoc], wrap_plus]
theorem wrap_mulr (a b : Int) : IntKind.i64.wrap (a * IntKind.i64.wrap b) = IntKind.i64.wrap (a * b) := by
  rw [Int.mul_comm, wrap_mull, Int.mul_comm]
end Go.Proofs.YteoobeldmicjhaaGreat.V
namespace Go.Proofs.YteoobeldmicjhaaGreat.V
set_option maxRecDepth 20000
open Go.RowKit

def sumN (f : Nat → Int) : Nat → Int
  | 0 => 0
  | k + 1 => sumN f k + f k
theorem sumN_ext {f g : Nat → Int} : ∀ k, (∀ j, j < k → f j = g j) → sumN f k = sumN g k
  | 0, _ => rfl
  | k + 1, h => by rw [sumN, sumN, sumN_ext k (fun j hj => h j (by omega)), h k (by omega)]
theorem sumN_add (f g : Nat → Int) : ∀ k, sumN (fun j => f j + g j) k = sumN f k + sumN g k
  | 0 => rfl
  | k + 1 => by rw [sumN, sumN, sumN, sumN_add f g k]; omega
theorem sumN_zero : ∀ k, sumN (fun _ => 0) k = 0
  | 0 => rfl
  | k + 1 => by rw [sumN, sumN_zero k]; rfl
theorem sumN_mull (f : Nat → Int) (c : Int) : ∀ k, c * sumN f k = sumN (fun j => c * f j) k
  | 0 => by simp [sumN]
  | k + 1 => by rw [sumN, sumN, Int.mul_add, sumN_mull f c k]
/-- Sums in either order. -/
theorem sumN_swap (f : Nat → Nat → Int) (m : Nat) : ∀ k, sumN (fun j => sumN (fun i => f i j) m) k = sumN (fun i => sumN (fun j => f i j) k) m
  | 0 => by simp only [sumN]; rw [sumN_zero]
  | k + 1 => by
    rw [sumN, sumN_swap f m k, ← sumN_add]
    exact sumN_ext m (fun j _ => by rw [sumN])
theorem wrap_sum {f g : Nat → Int} : ∀ k, (∀ j, j < k → IntKind.i64.wrap (f j) = IntKind.i64.wrap (g j)) → IntKind.i64.wrap (sumN f k) = IntKind.i64.wrap (sumN g k)
  | 0, _ => rfl
  | k + 1, h => by
    rw [sumN, sumN, ← wrap_addl, wrap_sum k (fun j hj => h j (by omega)), wrap_addl, ← wrap_addr, h k (by omega), wrap_addr]
theorem innS_sum (xs ys : List Int) : ∀ k, innS xs ys k = IntKind.i64.wrap (sumN (fun j => xs[j]?.getD 0 * ys[j]?.getD 0) k)
  | 0 => by simp [innS, sumN, wrap_in]
  | k + 1 => by rw [innS, innS_sum xs ys k, w64, w64, wrap_addl, wrap_addr, sumN]

end Go.Proofs.YteoobeldmicjhaaGreat.V
namespace Go.Proofs.YteoobeldmicjhaaGreat.V
set_option maxRecDepth 20000
open Go.RowKit

def padBad (lo hi st : List Int) (j : Nat) : Bool := decide (lo[j]?.getD 0 < 0) || (decide (4096 < lo[j]?.getD 0) || (decide (hi[j]?.getD 0 < 0) || (decide (4096 < hi[j]?.getD 0) || (decide (st[j]?.getD 0 < 1) || decide (4096 < st[j]?.getD 0)))))
def anyPad (n : Nat) (lo hi st : List Int) : Bool := (List.range n).any (padBad lo hi st)
def padV (ds lo hi st : List Int) (j : Nat) : Int := lo[j]?.getD 0 + hi[j]?.getD 0 + (if 0 < ds[j]?.getD 0 then (ds[j]?.getD 0 - 1) * st[j]?.getD 0 + 1 else 0)
def padD (ds lo hi st : List Int) : List Int := (List.range ds.length).map (padV ds lo hi st)
def padP (ds lo hi st : List Int) : List Int × Int := if lensB ds.length lo hi st = true then (if anyPad ds.length lo hi st = true then ([], 4) else (padD ds lo hi st, 0)) else ([], 6)
theorem padD_length (ds lo hi st : List Int) : (padD ds lo hi st).length = ds.length := by simp [padD]
theorem padD_getD (ds lo hi st : List Int) (k : Nat) (h : k < ds.length) : (padD ds lo hi st)[k]?.getD 0 = padV ds lo hi st k := by simp [padD, h]
theorem padV_bd {ds lo hi st : List Int} {j : Nat} (hd : 0 ≤ ds[j]?.getD 0 ∧ ds[j]?.getD 0 ≤ 4096) (hb : padBad lo hi st j = false) : 0 ≤ padV ds lo hi st j ∧ padV ds lo hi st j ≤ 33554432 := by
  simp [padBad] at hb
  unfold padV
  split
  · have h1 : 0 ≤ (ds[j]?.getD 0 - 1) * st[j]?.getD 0 := Int.mul_nonneg (by omega) (by omega)
    have h2 : (ds[j]?.getD 0 - 1) * st[j]?.getD 0 ≤ 4096 * 4096 := Int.mul_le_mul (by omega) (by omega) (by omega) (by omega)
    omega
  · omega

theorem within_any (n l : Int) (w : World) : Calls Tryz.prog 97 #[.int .i64 n, .int .i64 l] w fun e w' => e = .returned (.bool (decide (l ≤ n) && decide (n ≤ 4096))) ∧ w' = w := by
  by_cases c : l ≤ n
  · by_cases d : n ≤ 4096
    · have e : (decide (l ≤ n) && decide (n ≤ 4096)) = true := by simp [c, d]
      rw [e]
      go_enter Tryz.func97, Tryz.ntmps97
      go_wp2
      go_ret
      exact ⟨rfl, rfl⟩
    · have e : (decide (l ≤ n) && decide (n ≤ 4096)) = false := by simp [d]
      rw [e]
      have d' : decide (n ≤ 4096) = false := decide_eq_false d
      clear d e
      go_enter Tryz.func97, Tryz.ntmps97
      go_wp2
      go_ret
      exact ⟨rfl, rfl⟩
  · have e : (decide (l ≤ n) && decide (n ≤ 4096)) = false := by simp [c]
    rw [e]
    go_enter Tryz.func97, Tryz.ntmps97
    go_wp2
    go_ret
    exact ⟨rfl, rfl⟩

set_option maxRecDepth 100000 in
set_option maxHeartbeats 4000000 in
theorem padDims_any (k x : Int) (vd va : Value) (la : Option Addr) (ll lc : Nat) (lo : List Int) (ha : Option Addr) (hl hc : Nat) (hi : List Int) (ta : Option Addr) (tl tc : Nat) (st : List Int) (da : Option Addr) (dl dc : Nat) (ds : List Int) (w : World)
    (hlo : Ints w la ll lo) (hhi : Ints w ha hl hi) (hst : Ints w ta tl st) (hd : Ints w da dl ds) (hz : sizeE ds = 0) :
    Calls Tryz.prog 64 #[.agg #[.int .i64 k, vd, va, .slice la ll lc, .slice ha hl hc, .slice ta tl tc, .int .i64 x], .slice da dl dc] w fun e w' => OutP e w' (padP ds lo hi st) ∧ Below w.heap.size w w' := by
  have HLO := hide hlo
  have HHI := hide hhi
  have HST := hide hst
  have HD := hide hd
  have HN := hide hd.1
  have HZ := hide (sizeE_ok hz).2.1
  have h6 : dl ≤ 6 := by have := (sizeE_ok hz).1; have := hd.1; omega
  have hmk := run_make_row' (P := Tryz.prog) 22 3 (.int .i64 0) 8 Tryz.underlying22 info_int rfl .i64 .i64 dl (by omega) (by omega)
  have HB1 := hide ((Below.refl w.heap.size w).alloc (Nat.le_refl _) (.cells #[.int .i64 k, vd, va, .slice la ll lc, .slice ha hl hc, .slice ta tl tc, .int .i64 x] 31))
  have HOP := hide (OpAt.new w k vd va (.slice la ll lc) (.slice ha hl hc) (.slice ta tl tc) x)
  have e1 := hlo.1
  have e2 := hhi.1
  have e3 := hst.1
  have e4 := hd.1
  clear hlo hhi hst hd hz
  by_cases cl : ll = dl ∧ hl = dl ∧ tl = dl
  case neg =>
    have hp : padP ds lo hi st = ([], 6) := by
      unfold padP lensB
      rw [e1, e2, e3, e4, if_neg]
      simp only [Bool.and_eq_true, decide_eq_true_eq]; exact cl
    rw [hp]
    clear hp e1 e2 e3 e4
    by_cases q1 : ll = dl
    · by_cases q2 : hl = dl
      · have q3 : ((tl : Int) != (dl : Int)) = true := by simp; omega
        subst q1
        subst q2
        clear cl
        go_enter Tryz.func64, Tryz.ntmps64
        go_wp2
        go_ret2
        exact ⟨outP_none _ _, HB1.out⟩
      · have q3 : ((hl : Int) != (dl : Int)) = true := by simp; omega
        subst q1
        clear cl q2
        go_enter Tryz.func64, Tryz.ntmps64
        go_wp2
        go_ret2
        exact ⟨outP_none _ _, HB1.out⟩
    · have q3 : ((ll : Int) != (dl : Int)) = true := by simp; omega
      clear cl q1
      go_enter Tryz.func64, Tryz.ntmps64
      go_wp2
      go_ret2
      exact ⟨outP_none _ _, HB1.out⟩
  obtain ⟨q1, q2, q3⟩ := cl
  have hp : padP ds lo hi st = if anyPad ds.length lo hi st = true then ([], 4) else (padD ds lo hi st, 0) := by
    unfold padP lensB
    rw [e1, e2, e3, e4, if_pos]
    simp only [Bool.and_eq_true, decide_eq_true_eq]; exact ⟨q1, q2, q3⟩
  have HPP := hide hp
  obtain rfl := q1
  obtain rfl := q2
  obtain rfl := q3
  clear hp e1 e2 e3 e4
  go_enter Tryz.func64, Tryz.ntmps64
  go_wp2
  go_loopw [36] (fun i wr => ∃ m : Nat, m ≤ tl ∧ i = .int .i64 m ∧ OpAt wr w.heap.size k vd va (.slice la tl lc) (.slice ha tl hc) (.slice ta tl tc) x ∧ wr.rowIs (w.heap.size + 1) 3 tl (onWay (padD ds lo hi st) [] m) ∧ (∀ j, j < m → padBad lo hi st j = false) ∧ Below w.heap.size w wr) (fun i _ => tl - (intOf i).toNat)
  case atStart =>
    have hr := World.rowIs_made (w.alloc (.cells #[.int .i64 k, vd, va, .slice la tl lc, .slice ha tl hc, .slice ta tl tc, .int .i64 x] 31)) (.int .i64 0) tl 3
    simp only [World.size_alloc] at hr
    exact ⟨0, Nat.zero_le _, rfl, HOP.out.alloc _, hr.congr (fun j _ => by simp [onWay]), fun j hj => by omega, HB1.out.alloc HB1.out.size _⟩
  case round =>
    obtain ⟨m, hm, rfl, hop, hrow, hgood, hB⟩ := hrel
    have HO := hide hop
    have HR := hide hrow
    have HG := hide hgood
    have HB := hide hB
    clear hop hrow hgood hB hmk
    by_cases hlt : m < tl
    · obtain ⟨lb, lof, rfl, hlb, hlc⟩ := HLO.out.at (by omega)
      obtain ⟨hb, hof, rfl, hhb, hhc⟩ := HHI.out.at (by omega)
      obtain ⟨tb, tof, rfl, htb, htc⟩ := HST.out.at (by omega)
      obtain ⟨db, dof, rfl, hdb, hdc⟩ := HD.out.at (by omega)
      obtain ⟨L, hL⟩ : ∃ L, L = lo[m]?.getD 0 := ⟨_, rfl⟩
      obtain ⟨U, hU⟩ : ∃ U, U = hi[m]?.getD 0 := ⟨_, rfl⟩
      obtain ⟨T, hT⟩ : ∃ T, T = st[m]?.getD 0 := ⟨_, rfl⟩
      obtain ⟨D, hD⟩ : ∃ D, D = ds[m]?.getD 0 := ⟨_, rfl⟩
      have cl : wr.cell? ⟨lb, lof + m, none⟩ = some (.int .i64 L) := by rw [hL]; exact (HB.out.cell (p := ⟨lb, lof + m, none⟩) hlb).trans (hlc m hlt)
      have ch : wr.cell? ⟨hb, hof + m, none⟩ = some (.int .i64 U) := by rw [hU]; exact (HB.out.cell (p := ⟨hb, hof + m, none⟩) hhb).trans (hhc m hlt)
      have ct : wr.cell? ⟨tb, tof + m, none⟩ = some (.int .i64 T) := by rw [hT]; exact (HB.out.cell (p := ⟨tb, tof + m, none⟩) htb).trans (htc m hlt)
      have cd : wr.cell? ⟨db, dof + m, none⟩ = some (.int .i64 D) := by rw [hD]; exact (HB.out.cell (p := ⟨db, dof + m, none⟩) hdb).trans (hdc m hlt)
      have hDb : 0 ≤ D ∧ D ≤ 4096 := by rw [hD]; exact HZ.out _ (mem_getD ds m (by rw [HN.out]; exact hlt))
      have HPB : Hid (padBad lo hi st m = (decide (L < 0) || (decide (4096 < L) || (decide (U < 0) || (decide (4096 < U) || (decide (T < 1) || decide (4096 < T))))))) := by rw [Hid, hL, hU, hT]; rfl
      have HPV : Hid (padV ds lo hi st m = L + U + (if 0 < D then (D - 1) * T + 1 else 0)) := by rw [Hid, hL, hU, hT, hD]; rfl
      obtain ⟨o0, o1, o2, o3, o4, o5, o6⟩ := HO.out.cells
      have i1 : (0 : Int) ≤ (m : Int) := Int.natCast_nonneg _
      have i2 : (m : Int) < (tl : Int) := by omega
      have HBAD : Hid (padBad lo hi st m = true → padP ds lo hi st = ([], 4)) := fun hb => by
        rw [HPP.out, if_pos]
        unfold anyPad
        rw [List.any_eq_true]
        exact ⟨m, by rw [List.mem_range, HN.out]; exact hlt, hb⟩
      clear hlc hhc htc hdc hL hU hT hD
      cases x1 : (decide (0 ≤ L) && decide (L ≤ 4096)) with
      | false =>
        have X1 := hide x1
        clear x1
        go_wp2_with (go_at_call 97; refine (within_any _ _ _).mono ?_; rintro e w' ⟨rfl, hw'⟩; obtain rfl := hw'.symm; rw [X1.out])
        go_ret2
        rw [HBAD.out (by have := X1.out; rw [HPB.out]; simp at this ⊢; omega)]
        exact ⟨outP_none _ _, HB.out⟩
      | true =>
      have X1 := hide x1
      clear x1
      cases x2 : (decide (0 ≤ U) && decide (U ≤ 4096)) with
      | false =>
        have X2 := hide x2
        clear x2
        go_wp2_with (go_at_call 97; refine (within_any _ _ _).mono ?_; rintro e w' ⟨rfl, hw'⟩; obtain rfl := hw'.symm; first | rw [X1.out] | rw [X2.out])
        go_ret2
        rw [HBAD.out (by have := X2.out; rw [HPB.out]; simp at this ⊢; omega)]
        exact ⟨outP_none _ _, HB.out⟩
      | true =>
      have X2 := hide x2
      clear x2
      cases x3 : (decide (1 ≤ T) && decide (T ≤ 4096)) with
      | false =>
        have X3 := hide x3
        clear x3
        go_wp2_with (go_at_call 97; refine (within_any _ _ _).mono ?_; rintro e w' ⟨rfl, hw'⟩; obtain rfl := hw'.symm; first | rw [X1.out] | rw [X2.out] | rw [X3.out])
        go_ret2
        rw [HBAD.out (by have := X3.out; rw [HPB.out]; simp at this ⊢; omega)]
        exact ⟨outP_none _ _, HB.out⟩
      | true =>
      have X3 := hide x3
      clear x3
      have HOK : Hid (padBad lo hi st m = false) := by
        have h1 := X1.out
        have h2 := X2.out
        have h3 := X3.out
        rw [Hid, HPB.out]
        simp at h1 h2 h3 ⊢; omega
      have cr := HR.out.cell hlt
      have fr := HR.out.frozen m
      have bL : 0 ≤ L ∧ L ≤ 4096 := by have := X1.out; simp at this; exact this
      have bU : 0 ≤ U ∧ U ≤ 4096 := by have := X2.out; simp at this; exact this
      have bT : 1 ≤ T ∧ T ≤ 4096 := by have := X3.out; simp at this; exact this
      go_wp2_with (go_at_call 97; refine (within_any _ _ _).mono ?_; rintro e w' ⟨rfl, hw'⟩; obtain rfl := hw'.symm; first | rw [X1.out] | rw [X2.out] | rw [X3.out])
      go_region
      have HR1 := hide (HR.out.set m (.int .i64 (L + U)))
      have c1 : ((wr.setCell ⟨w.heap.size + 1, m, none⟩ (.int .i64 (L + U))).drew).cell? ⟨w.heap.size + 1, m, none⟩ = some (.int .i64 (L + U)) := by
        have := HR1.out.cell hlt
        simpa using this
      have f1 : ((wr.setCell ⟨w.heap.size + 1, m, none⟩ (.int .i64 (L + U))).drew).frozen? ⟨w.heap.size + 1, m, none⟩ = false := HR1.out.frozen m
      have HO1 : Hid (OpAt ((wr.setCell ⟨w.heap.size + 1, m, none⟩ (.int .i64 (L + U))).drew) w.heap.size k vd va (.slice (some ⟨lb, lof, none⟩) tl lc) (.slice (some ⟨hb, hof, none⟩) tl hc) (.slice (some ⟨tb, tof, none⟩) tl tc) x) := HO.out.set (p := ⟨w.heap.size + 1, m, none⟩) (by simp) _
      have HB1' := hide ((HB.out.setCell (p := ⟨w.heap.size + 1, m, none⟩) (by simp) (.int .i64 (L + U))).drew)
      have ct1 : ((wr.setCell ⟨w.heap.size + 1, m, none⟩ (.int .i64 (L + U))).drew).cell? ⟨tb, tof + m, none⟩ = some (.int .i64 T) := by
        have h1 := HB1'.out.cell (p := ⟨tb, tof + m, none⟩) htb
        have h2 := HB.out.cell (p := ⟨tb, tof + m, none⟩) htb
        rw [h1, ← h2]; exact ct
      obtain ⟨p0, p1, p2, p3, p4, p5, p6⟩ := HO1.out.cells
      have hm1 : 0 ≤ (D - 1) * T ∨ D = 0 := by
        by_cases e : D = 0
        · exact .inr e
        · exact .inl (Int.mul_nonneg (by omega) (by omega))
      have hm2 : (D - 1) * T ≤ 4096 * 4096 ∨ D = 0 := by
        by_cases e : D = 0
        · exact .inr e
        · exact .inl (Int.mul_le_mul (by omega) bT.2 (by omega) (by omega))
      have HGS : Hid (∀ j, j < m + 1 → padBad lo hi st j = false) := fun j hj => by
        by_cases e : j = m
        · rw [e]; exact HOK.out
        · exact HG.out j (by omega)
      have HKD : Hid (m < ds.length) := by rw [Hid, HN.out]; exact hlt
      by_cases cD : 0 < D
      · have hm3 : 0 ≤ (D - 1) * T := by omega
        have hm4 : (D - 1) * T ≤ 4096 * 4096 := by omega
        have HPV' : Hid (padV ds lo hi st m = L + U + ((D - 1) * T + 1)) := by rw [Hid, HPV.out, if_pos cD]
        clear hm1 hm2
        go_wp2_with fail
        go_region
        go_wp2
        go_roundw
        case rel =>
          refine ⟨m + 1, by omega, by go_num, HO1.out.set (p := ⟨w.heap.size + 1, m, none⟩) (by simp) _, ?_, HGS.out, ?_⟩
          · refine (HR1.out.set m (.int .i64 (L + U + ((D - 1) * T + 1)))).congr (fun j _ => ?_)
            have e1 := padD_getD ds lo hi st m HKD.out
            rw [← onWay_succ, e1, HPV'.out]
            by_cases e : j = m <;> simp [e]
          · exact (HB1'.out.setCell (p := ⟨w.heap.size + 1, m, none⟩) (by simp) _).drew
        case measure => simp [intOf]; omega
      · have HPV' : Hid (padV ds lo hi st m = L + U) := by rw [Hid, HPV.out, if_neg cD]; omega
        clear hm1 hm2
        go_wp2
        go_roundw
        case rel =>
          refine ⟨m + 1, by omega, by go_num, HO1.out, ?_, HGS.out, HB1'.out⟩
          refine HR1.out.congr (fun j _ => ?_)
          have e1 := padD_getD ds lo hi st m HKD.out
          rw [← onWay_succ, e1, HPV'.out]
        case measure => simp [intOf]; omega
    · obtain rfl : m = tl := by omega
      have hp : padP ds lo hi st = (padD ds lo hi st, 0) := by
        rw [HPP.out, if_neg]
        unfold anyPad
        rw [List.any_eq_true]
        rintro ⟨j, hj, hb⟩
        rw [List.mem_range, HN.out] at hj
        rw [HG.out j hj] at hb
        cases hb
      have HPF := hide hp
      clear hp
      go_wp2
      go_ret2
      rw [HPF.out]
      refine ⟨outP_new (newAt_row (w := w) (onWay_all HR.out) (by omega) (by rw [padD_length, HN.out]) (by omega) (fun y hy => ?_)) 0, HB.out⟩
      obtain ⟨j, hj, rfl⟩ := List.getElem_of_mem hy
      have hj' : j < ds.length := by rw [padD_length] at hj; exact hj
      have e1 := padD_getD ds lo hi st j hj'
      have e2 : (padD ds lo hi st)[j]?.getD 0 = (padD ds lo hi st)[j] := by simp [hj]
      rw [← e2, e1]
      have := padV_bd (ds := ds) (HZ.out _ (mem_getD ds j hj')) (HG.out j (by rw [HN.out] at hj'; exact hj'))
      omega
end Go.Proofs.YteoobeldmicjhaaGreat.V
namespace Go.Proofs.YteoobeldmicjhaaGreat.V
set_option maxRecDepth 20000
open Go.RowKit

theorem mem_getDL (xss : List (List Int)) (j : Nat) (h : j < xss.length) : xss[j]?.getD [] ∈ xss := by simp [h]
theorem set_getD (ds : List Int) (p j : Nat) (V : Int) (h : p < ds.length) : (ds.set p V)[j]?.getD 0 = if j = p then V else ds[j]?.getD 0 := by
  rw [List.getElem?_set]
  by_cases e : j = p
  · subst e; simp [h]
  · have : ¬ p = j := fun hh => e hh.symm
    simp [e, this]
end Go.Proofs.YteoobeldmicjhaaGreat.V
