/-
  The law's walk: TrainOrders.
-/
import Derived.Test.YtdiecplophahmaaTrOrder
import Derived.Test.YtdiecplophahmaaSameLists
namespace Go.Proofs.Ytdiecplophahmaa.V
open Go.RowKit

/-- Each of the numbers below n, once. -/
structure EachOnce (l : List Int) (n : Nat) : Prop where
  len : l.length = n
  low : ∀ i, i < n → 0 ≤ l[i]?.getD 0 ∧ l[i]?.getD 0 < (n : Int)
  inj : ∀ i j, i < n → j < n → l[i]?.getD 0 = l[j]?.getD 0 → i = j
theorem once_range (n : Nat) : EachOnce (rangeI n) n :=
  ⟨rangeI_len n, fun i hi => by rw [rangeI_at hi]; omega, fun i j hi hj e => by rw [rangeI_at hi, rangeI_at hj] at e; omega⟩
def swapI (a b i : Nat) : Nat := if i = b then a else if i = a then b else i
theorem swapI_lt {a b i n : Nat} (ha : a < n) (hb : b < n) (hi : i < n) : swapI a b i < n := by unfold swapI; split <;> (try split) <;> omega
theorem swapI_inj {a b i j : Nat} (h : swapI a b i = swapI a b j) : i = j := by
  unfold swapI at h
  by_cases h1 : i = b <;> by_cases h2 : i = a <;> by_cases h3 : j = b <;> by_cases h4 : j = a <;> simp only [h1, h2, h3, h4, if_true, if_false] at h <;> (try split at h) <;> omega
theorem swapL_at (l : List Int) (a b i : Nat) (ha : a < l.length) (hb : b < l.length) : (swapL l a b)[i]?.getD 0 = l[swapI a b i]?.getD 0 := by
  unfold swapL swapI
  by_cases h1 : i = b
  · subst h1; simp [ha, hb]
  · rw [if_neg h1, List.getElem?_set_ne (by omega)]
    by_cases h2 : i = a
    · subst h2; simp [ha, hb]
    · rw [if_neg h2, List.getElem?_set_ne (by omega)]
theorem EachOnce.swap {l : List Int} {n : Nat} (h : EachOnce l n) (a b : Nat) (ha : a < n) (hb : b < n) : EachOnce (swapL l a b) n := by
  have hl := h.len
  have e := fun i => swapL_at l a b i (by omega) (by omega)
  refine ⟨by rw [swapL_len]; exact hl, fun i hi => ?_, fun i j hi hj q => ?_⟩
  · rw [e i]
    exact h.low _ (swapI_lt ha hb hi)
  · rw [e i, e j] at q
    exact swapI_inj (h.inj _ _ (swapI_lt ha hb hi) (swapI_lt ha hb hj) q)
theorem once_mix : ∀ (k : Nat) (x : Int) (l : List Int) (n : Nat), EachOnce l n → k < n → EachOnce (mixL k x l) n
  | 0, _, _, _, h, _ => h
  | k + 1, x, l, n, h, hk => once_mix k (mixS x) _ n (h.swap (k + 1) _ hk (by have := mixJ_le (mixS x) (k + 1); omega)) (by omega)
theorem once_ord (s : ByteArray) (n : Nat) (ep : Int) : EachOnce (ordL s n ep) n := by
  unfold ordL
  by_cases h : n = 0
  · subst h; exact once_range 0
  · exact once_mix _ _ _ _ (once_range n) (by omega)
theorem EachOnce.bd {l : List Int} {n : Nat} (h : EachOnce l n) (hn : n ≤ 4096) : ∀ x ∈ l, -9223372036854775808 ≤ x ∧ x ≤ 9223372036854775807 := fun x hx => by
  obtain ⟨i, hi, rfl⟩ := List.getElem_of_mem hx
  have := h.low i (by have := h.len; omega)
  simp [hi] at this
  omega
theorem OI.ints {w : World} {B : Nat} {v : Value} {l : List Int} (h : OI w B v l) (hl : l.length ≤ 4096) (hb : ∀ x ∈ l, -9223372036854775808 ≤ x ∧ x ≤ 9223372036854775807) : ∃ X c, v = .slice X l.length c ∧ Ints w X l.length l := by
  rcases h.2 with ⟨rfl, h2⟩ | ⟨g, cap, cur, rfl, h3, h5, h4, _⟩
  · exact ⟨none, 0, by rw [h2], rfl, by omega, hb, .inl h2⟩
  · refine ⟨_, cap, rfl, rfl, by omega, hb, .inr ⟨g, 0, rfl, fun j hj => ?_⟩⟩
    rw [Nat.zero_add]
    exact OI.cell h rfl hj
/-- Which numbers were met so far. -/
def metV (l : List Int) (k j : Nat) : Value := .bool ((List.range k).any fun t => l[t]?.getD 0 == (j : Int))
theorem met_next {l : List Int} {k a : Nat} (ha : l[k]?.getD 0 = (a : Int)) (j : Nat) : (if j = a then .bool true else metV l k j) = metV l (k + 1) j := by
  unfold metV
  rw [List.range_succ, List.any_append]
  by_cases e : j = a
  · subst e; simp [ha]
  · have : (l[k]?.getD 0 == (j : Int)) = false := by rw [ha]; simp; omega
    simp [e, this]
theorem met_not {l : List Int} {n k a : Nat} (h : EachOnce l n) (hk : k < n) (ha : l[k]?.getD 0 = (a : Int)) : metV l k a = .bool false := by
  unfold metV
  congr 1
  rw [List.any_eq_false]
  intro t ht q
  have ht' : t < k := List.mem_range.1 ht
  have := h.inj t k (by omega) hk (by rw [ha]; simpa using q)
  omega
theorem info_boolT : (Try.prog.info? 4).map (fun i => (i.zero, i.size, i.bytes)) = some (some (.bool false), 1, 1) := by kernel_rfl

set_option maxHeartbeats 2000000 in
theorem trainOrders_bad (s : ByteArray) (rows ep : Int) (w : World) (h : ordB rows ep = true) :
    Calls Try.prog 3 #[.string s, .int .i64 rows, .int .i64 ep] w fun e w' => e = .returned (.bool true) ∧ Below w.heap.size w w' := by
  have HA := hide (order_bad s rows ep w h)
  have HR := hide (rOrder_bad s rows ep w h)
  have HI : Hid (Ints w none 0 []) := ⟨rfl, by omega, by simp, .inl rfl⟩
  have hmk := run_make_row' (P := Try.prog) 27 4 (.bool false) 1 Try.underlying27 info_boolT rfl .i64 .i64 0 (by omega) (by omega)
  simp only [Int.cast_ofNat_Int] at hmk
  clear h
  go_enter Try.func3, Try.ntmps3
  go_wp2_with (first
    | (go_at_call 4; refine HA.out.mono ?_; rintro e w' ⟨rfl, hw'⟩; obtain rfl := hw'.symm)
    | (go_at_call 5; refine HR.out.mono ?_; rintro e w' ⟨rfl, hw'⟩; obtain rfl := hw'.symm)
    | (go_at_call 6; refine (sameList_any none 0 0 [] none 0 0 [] _ HI.out HI.out).mono ?_; rintro e w1 ⟨rfl, nn, hw'⟩; obtain rfl := hw'))
  go_loopw [42] (fun i wr => i = .int .i64 0 ∧ Below w.heap.size w wr) (fun _ _ => 0)
  case atStart => exact ⟨rfl, (below_drewN _ _).alloc (Nat.le_refl _) _⟩
  case round =>
    obtain ⟨rfl, hb⟩ := hrel
    go_wp2
    go_ret
    exact ⟨rfl, hb⟩

set_option maxRecDepth 100000 in
set_option maxHeartbeats 4000000 in
theorem trainOrders_good (s : ByteArray) (n : Nat) (ep : Int) (w : World) (hs : s.size ≤ 9223372036854775807) (hn : n ≤ 4096) (h3 : 0 ≤ ep) (h4 : ep ≤ 1048576) :
    Calls Try.prog 3 #[.string s, .int .i64 n, .int .i64 ep] w fun e w' => e = .returned (.bool true) ∧ Below w.heap.size w w' := by
  have HA := hide (order_good s n ep w hs hn h3 h4)
  have HR := hide (fun W : World => rOrder_good s n ep W hs hn h3 h4)
  have HE := hide (once_ord s n ep)
  have hmk := run_make_row' (P := Try.prog) 27 4 (.bool false) 1 Try.underlying27 info_boolT rfl .i64 .i64 n (by omega) (by omega)
  obtain ⟨l, hl⟩ : ∃ l, l = ordL s n ep := ⟨_, rfl⟩
  rw [← hl] at HA HE
  have HR2 : Hid (∀ W : World, Calls Try.prog 5 #[.string s, .int .i64 n, .int .i64 ep] W fun e w' => (∃ v, e = .returned (.tuple #[v, .int .i64 0]) ∧ OI w' W.heap.size v l) ∧ Below W.heap.size W w') := by rw [hl]; exact HR.out
  clear hl HR h3 h4 hs
  go_enter Try.func3, Try.ntmps3
  go_wp2_with (first
    | (go_at_call 4; refine HA.out.mono ?_; rintro e w1 ⟨⟨v1, rfl, ho1⟩, hb1⟩; obtain ⟨X1, c1, rfl, hi1⟩ := ho1.ints (by rw [HE.out.len]; exact hn) (HE.out.bd hn); rw [HE.out.len] at hi1 ⊢; have HI1 := hide hi1; have HB1 := hide hb1; clear ho1 hi1 hb1)
    | (go_at_call 5; refine (HR2.out _).mono ?_; rintro e w2 ⟨⟨v2, rfl, ho2⟩, hb2⟩; obtain ⟨X2, c2, rfl, hi2⟩ := ho2.ints (by rw [HE.out.len]; exact hn) (HE.out.bd hn); rw [HE.out.len] at hi2 ⊢; have HI2 := hide hi2; have HJ1 := hide (HI1.out.below hb2); have HB2 := hide (bl_on HB1.out hb2); clear ho2 hi2 hb2)
    | (go_at_call 6; refine (sameList_any X1 n c1 l X2 n c2 l _ HJ1.out HI2.out).mono ?_; rintro e w3 ⟨rfl, nn, hw'⟩; obtain rfl := hw'; simp only [decide_true]))
  go_loopw [42] (fun i wr => ∃ k : Nat, k ≤ n ∧ i = .int .i64 k ∧ wr.rowIs w2.heap.size 4 n (metV l k) ∧ Below w2.heap.size w2 wr) (fun i _ => n - (intOf i).toNat)
  case atStart =>
    refine ⟨0, Nat.zero_le _, rfl, ?_, (below_drewN _ nn).alloc (Nat.le_refl _) _⟩
    exact (World.rowIs_made (w2.drewN nn) (.bool false) n 4).congr fun i _ => by simp [metV]
  case round =>
    obtain ⟨k, hk, rfl, hr, hb⟩ := hrel
    have HR := hide hr
    have HB := hide hb
    clear hr hb
    by_cases hlt : k < n
    · obtain ⟨b, off, rfl, _, hc⟩ := (HJ1.out.below HB.out).at (by omega)
      have hck := hc k hlt
      have hlow := HE.out.low k hlt
      obtain ⟨a, ha⟩ : ∃ a : Nat, l[k]?.getD 0 = (a : Int) := ⟨(l[k]?.getD 0).toNat, by omega⟩
      have hnm := met_not HE.out hlt ha
      have HNX := hide (met_next ha)
      rw [ha] at hck hlow
      clear hc ha
      have han : a < n := by omega
      have hca := HR.out.cell han
      rw [hnm] at hca
      have hfa := HR.out.frozen a
      have i1 : ¬ ((a : Int) < 0) := by omega
      have i2 : ¬ ((n : Int) ≤ (a : Int)) := by omega
      clear hnm hlow
      go_wp2
      go_roundw
      case rel =>
        refine ⟨k + 1, by omega, by go_num, ?_, HB.out.setCell (p := ⟨w2.heap.size, a, none⟩) (Nat.le_refl _) _⟩
        exact (HR.out.set a _).congr fun j _ => HNX.out j
      case measure => simp [intOf]; omega
    · go_wp2
      go_ret
      exact ⟨rfl, bl_on HB2.out HB.out⟩

theorem trainOrders_walk (s : ByteArray) (rows ep : Int) (w : World) (hs : s.size ≤ 9223372036854775807) :
    Calls Try.prog 3 #[.string s, .int .i64 rows, .int .i64 ep] w fun e w' => e = .returned (.bool true) ∧ Below w.heap.size w w' := by
  cases h : ordB rows ep with
  | true => exact trainOrders_bad s rows ep w h
  | false =>
    simp [ordB] at h
    obtain ⟨n, rfl⟩ : ∃ n : Nat, rows = (n : Int) := ⟨rows.toNat, by omega⟩
    exact trainOrders_good s n ep w hs (by omega) (by omega) (by omega)
end Go.Proofs.Ytdiecplophahmaa.V
