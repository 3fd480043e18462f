/-
  Contract: adjointref1.Steps. Contract: adjointref1.Next. Contract: adjointref1.All: all indices, in order. Contracts: adjointref1.Lies, adjointref1.Place.
-/
import Derived.Test.YteoobeldmicjhaaGreatPCKArrayCuts6
import Derived.Test.YteoobeldmicjhaaGreatPCKArrayCuts3
import Derived.Maps.AppendAt
import Derived.Deep.LoopGhost
import Derived.Test.YteoobeldmicjhaaGreatPCKArrayCuts4
namespace Go.Proofs.YteoobeldmicjhaaGreat.V
set_option maxRecDepth 20000
open Go.RowKit

def stepV (xs : List Int) (k : Nat) : Int := if (0 : Int) ∈ xs then 0 else beh xs k
def stepsV (xs : List Int) : List Int := (List.range xs.length).map (stepV xs)
theorem stepsV_take_succ (xs : List Int) (k : Nat) (h : k < xs.length) : ((stepsV xs).take (k + 1)).map (Value.int .i64) = ((stepsV xs).take k).map (Value.int .i64) ++ [.int .i64 (stepV xs k)] := by
  rw [take_succ_getD (stepsV xs) k (by simpa [stepsV] using h), List.map_append]
  simp [stepsV, h]

/-- A product of small numbers is small. -/
theorem prod_small (xs : List Int) (h : ∀ x ∈ xs, 0 ≤ x ∧ x ≤ 4096) : 0 ≤ prod xs ∧ prod xs ≤ 4096 ^ xs.length := by
  induction xs with
  | nil => simp [prod]
  | cons x r ih =>
    obtain ⟨i1, i2⟩ := ih (fun y hy => h y (by simp [hy]))
    obtain ⟨j1, j2⟩ := h x (by simp)
    refine ⟨Int.mul_nonneg j1 i1, ?_⟩
    simp only [prod, List.length_cons, Int.pow_succ]
    rw [Int.mul_comm]
    exact Int.mul_le_mul i2 j2 j1 (by have : (0 : Int) ≤ 4096 ^ r.length := Int.pow_nonneg (by omega); exact this)
theorem prod_small5 (xs : List Int) (h : ∀ x ∈ xs, 0 ≤ x ∧ x ≤ 4096) (hl : xs.length ≤ 5) : 0 ≤ prod xs ∧ prod xs ≤ 1152921504606846976 := by
  obtain ⟨h1, h2⟩ := prod_small xs h
  refine ⟨h1, Int.le_trans h2 ?_⟩
  have : xs.length = 0 ∨ xs.length = 1 ∨ xs.length = 2 ∨ xs.length = 3 ∨ xs.length = 4 ∨ xs.length = 5 := by omega
  rcases this with e | e | e | e | e | e <;> rw [e] <;> decide

theorem ints_of_own {w : World} {B : Nat} {t : TypeId} {g k c : Nat} {xs : List Int} (h : w.ownsRow B t 1 (.slice (some ⟨g, 0, none⟩) k c) k (xs.map (Value.int .i64))) (hl : xs.length = k) (hm : k ≤ 9223372036854775807)
    (hb : ∀ x ∈ xs, -9223372036854775808 ≤ x ∧ x ≤ 9223372036854775807) : Ints w (some ⟨g, 0, none⟩) k xs := by
  refine ⟨hl, hm, hb, .inr ⟨g, 0, rfl, fun j hj => ?_⟩⟩
  have := h.cellAt j (by omega)
  rw [Nat.zero_add, this]
  simp [hl, hj]
theorem ints_grown {w w' : World} {g len : Nat} {xs : List Int} {row : Option Nat} (h : Ints w (some ⟨g, 0, none⟩) len xs) (hl : g < w.heap.size) (hg : w.grownBy w' row) (hne : some g ≠ row) : Ints w' (some ⟨g, 0, none⟩) len xs := by
  obtain ⟨h1, h2, h3, h4⟩ := h
  refine ⟨h1, h2, h3, ?_⟩
  rcases h4 with h4 | ⟨b, off, ha, hc⟩
  · exact .inl h4
  · cases ha
    exact .inr ⟨_, _, rfl, fun j hj => (World.cell?_of_block (w := w) (hg.block g hl hne)).trans (hc j hj)⟩
theorem rel_below {w wr w1 : World} {t : TypeId} {g k c : Nat} {xs : List Value} {o : Obj} (hB : Below w.heap.size w wr) (ho : wr.ownsRow w.heap.size t 1 (.slice (some ⟨g, 0, none⟩) k c) k xs) (hg : (wr.alloc o).grownBy w1 (Value.slice (some ⟨g, 0, none⟩) k c).ownBlock) : Below w.heap.size w w1 := by
  refine (hB.alloc hB.size o).grown hg (by have := hB.size; simp; omega) (fun j e => ?_)
  exact (ho.lt j e).1
theorem own_below {w w' : World} {B : Nat} {t : TypeId} {n : Nat} {v : Value} {xs : List Value} (h : w.ownsRow B t 1 v n xs) (hb : Below w.heap.size w w') : w'.ownsRow B t 1 v n xs := by
  refine ⟨h.1, ?_⟩
  rcases h.2 with h2 | ⟨g, cap, cur, h1, h2, h3, h4⟩
  · exact .inl h2
  · exact .inr ⟨g, cap, cur, h1, h2, (hb.block g (Array.getElem?_eq_some_iff.1 h3).1).trans h3, h4⟩
theorem stepsV_bd {xs : List Int} (h : ∀ x ∈ xs, 0 ≤ x ∧ x ≤ 4096) (h6 : xs.length ≤ 6) : ∀ x ∈ stepsV xs, -9223372036854775808 ≤ x ∧ x ≤ 9223372036854775807 := by
  intro y hy
  simp only [stepsV, List.mem_map, List.mem_range] at hy
  obtain ⟨k, hk, rfl⟩ := hy
  have := prod_small5 (xs.drop (k + 1)) (fun z hz => h z (List.mem_of_mem_drop hz)) (by simp; omega)
  unfold stepV beh
  split <;> omega

set_option maxHeartbeats 2000000 in
theorem rsteps_any (a : Option Addr) (len cap : Nat) (xs : List Int) (w : World) (h : Ints w a len xs) (hcap : len ≤ cap) (h6 : len ≤ 6) (hx : ∀ x ∈ xs, 0 ≤ x ∧ x ≤ 4096) :
    Calls Tryz.prog 91 #[.slice a len cap] w fun e w' => (∃ (g c : Nat), e = .returned (.slice (some ⟨g, 0, none⟩) len c) ∧ (len ≤ c ∧ w.heap.size ≤ g ∧ g < w'.heap.size) ∧ Ints w' (some ⟨g, 0, none⟩) len (stepsV xs)) ∧ Below w.heap.size w w' := by
  have H := hide h
  have HX := hide hx
  have HL := hide h.1
  clear h hx
  obtain ⟨i0, hi, hz0, hz1, hz2⟩ := info_parts info_int
  have HI := hide hi
  have HZ0 := hide hz0
  have HZ1 := hide hz1
  have HZ2 := hide hz2
  clear hi hz0 hz1 hz2
  go_enter Tryz.func91, Tryz.ntmps91
  go_wp2
  go_loopw [3, 11] (fun v i wr => ∃ k : Nat, k ≤ len ∧ i = .int .i64 k ∧ wr.ownsRow w.heap.size 3 1 v k (((stepsV xs).take k).map (Value.int .i64)) ∧ Below w.heap.size w wr ∧ ∃ g c, v = .slice (some ⟨g, 0, none⟩) k c) (fun _ i _ => len - (intOf i).toNat)
  case atStart =>
    refine ⟨0, Nat.zero_le _, rfl, ?_, (Below.refl _ _).alloc (Nat.le_refl _) _, _, _, rfl⟩
    exact World.ownsRow_made w #[] 0 (Nat.le_refl _) (by decide) (by simp)
  case round =>
    obtain ⟨k, hk, rfl, hown, hB, g, c, rfl⟩ := hrel
    have HO := hide hown
    have HB := hide hB
    clear hown hB
    by_cases hlt : k < len
    · obtain ⟨b, off, rfl, hb, hc⟩ := H.out.at (by omega)
      have HC := hide hc
      clear hc
      have hkl : k < xs.length := by rw [HL.out]; exact hlt
      have HKL := hide hkl
      clear hkl
      go_wp2_with fail
      all_goals
        go_loop [5, 19] (fun s i => ∃ m : Nat, m ≤ len - (k + 1) ∧ i = .int .i64 m ∧ s = .int .i64 (prod ((xs.drop (k + 1)).take m))) (fun _ i => len - (intOf i).toNat)
        case atStart => exact ⟨0, Nat.zero_le _, rfl, by simp [prod]⟩
        case round =>
          obtain ⟨m, hm, rfl, rfl⟩ := hrel
          by_cases hmlt : m < len - (k + 1)
          · have hmem : xs[k + 1 + m]?.getD 0 ∈ xs := mem_getD xs _ (by rw [HL.out]; omega)
            have hd := HX.out _ hmem
            have HE : Hid (prod ((xs.drop (k + 1)).take (m + 1)) = prod ((xs.drop (k + 1)).take m) * xs[k + 1 + m]?.getD 0) := by
              rw [Hid, prod_take_succ _ m (by simp [HL.out]; omega)]; simp
            have hp := prod_small5 ((xs.drop (k + 1)).take m) (fun y hy => HX.out y (List.mem_of_mem_drop (List.mem_of_mem_take hy))) (by simp [HL.out]; omega)
            have hp' := prod_small5 ((xs.drop (k + 1)).take (m + 1)) (fun y hy => HX.out y (List.mem_of_mem_drop (List.mem_of_mem_take hy))) (by simp [HL.out]; omega)
            rw [HE.out] at hp'
            have hcell : wr.cell? ⟨b, off + (k + 1) + m, none⟩ = some (.int .i64 (xs[k + 1 + m]?.getD 0)) := by
              rw [Nat.add_assoc off]
              exact (HB.out.cell (p := ⟨b, off + (k + 1 + m), none⟩) hb).trans (HC.out (k + 1 + m) (by omega))
            clear hmem
            first
              | (exfalso; omega)
              | (go_wp2
                 go_round
                 case rel => exact ⟨m + 1, by omega, by go_num, by rw [HE.out]⟩
                 case measure => simp [intOf]; omega)
          · have e : (xs.drop (k + 1)).take m = xs.drop (k + 1) := List.take_of_length_le (by simp [HL.out]; omega)
            rw [e]
            clear e
            by_cases hz : (0 : Int) ∈ xs
            · have A0 : Hid (xs.any (fun x => x == 0) = true) := by rw [Hid, List.any_eq_true]; exact ⟨0, hz, by simp⟩
              have VE : Hid (stepV xs k = 0) := by simp [Hid, stepV, hz]
              clear hz
              go_wp2_with (first
                | (go_at_call 115; refine (has_any _ _ _ xs _ _ (H.out.below HB.out)).mono ?_; rintro e w' ⟨rfl, hw'⟩; obtain rfl := hw'.symm; rw [A0.out])
                | (at_builtin; refine wpList_append_own _ rfl _ _ 22 rfl w.heap.size 3 i0 (.int .i64 0) 1 8 Tryz.underlying22 HI.out HZ0.out HZ1.out HZ2.out rfl (by decide) _ _ _ rfl (HO.out.alloc _) ⟨wr.heap.size, 0, none⟩ 1 1 [.int .i64 0] rfl rfl (cell_one_new _ _ _) (by simp [Value.oneCell']) (by unfold maxLen; omega) (by omega) (by have := HB.out.size; simp; omega) ?_; intro v' w1 hown' hgrow hnn; obtain ⟨g', c', rfl⟩ := ownsRow_succ hown'; have HO' := hide hown'; have HG' := hide hgrow; clear hown' hgrow hnn))
              go_wp2
              go_roundw
              case rel =>
                have ho := HO'.out
                have hst := stepsV_take_succ xs k HKL.out
                rw [VE.out] at hst
                rw [← hst] at ho
                have hbel := rel_below HB.out HO.out HG'.out
                have hr : ∃ k' : Nat, k' ≤ len ∧ Value.int .i64 ((k : Int) + 1) = .int .i64 k' ∧ w1.ownsRow w.heap.size 3 1 (.slice (some ⟨g', 0, none⟩) (k + 1) c') k' (((stepsV xs).take k').map (Value.int .i64)) ∧ Below w.heap.size w w1 ∧ ∃ g c, Value.slice (some ⟨g', 0, none⟩) (k + 1) c' = .slice (some ⟨g, 0, none⟩) k' c := ⟨k + 1, by omega, by go_num, ho, hbel, _, _, rfl⟩
                first
                  | exact hr
                  | (repeat apply Exists.intro
                     refine ⟨hr, ?_⟩
                     first
                       | exact rfl
                       | (rw [show cap = k + 1 by omega]))
              case measure => simp [intOf]; omega
            · have A0 : Hid (xs.any (fun x => x == 0) = false) := by
                rw [Hid, List.any_eq_false]
                intro x hx e
                simp at e
                exact hz (e ▸ hx)
              have VE : Hid (stepV xs k = prod (xs.drop (k + 1))) := by simp [Hid, stepV, hz, beh]
              clear hz
              go_wp2_with (first
                | (go_at_call 115; refine (has_any _ _ _ xs _ _ (H.out.below HB.out)).mono ?_; rintro e w' ⟨rfl, hw'⟩; obtain rfl := hw'.symm; rw [A0.out])
                | (at_builtin; refine wpList_append_own _ rfl _ _ 22 rfl w.heap.size 3 i0 (.int .i64 0) 1 8 Tryz.underlying22 HI.out HZ0.out HZ1.out HZ2.out rfl (by decide) _ _ _ rfl (HO.out.alloc _) ⟨wr.heap.size, 0, none⟩ 1 1 [.int .i64 (prod (xs.drop (k + 1)))] rfl rfl (cell_one_new _ _ _) (by simp [Value.oneCell']) (by unfold maxLen; omega) (by omega) (by have := HB.out.size; simp; omega) ?_; intro v' w1 hown' hgrow hnn; obtain ⟨g', c', rfl⟩ := ownsRow_succ hown'; have HO' := hide hown'; have HG' := hide hgrow; clear hown' hgrow hnn))
              go_wp2
              go_roundw
              case rel =>
                have ho := HO'.out
                have hst := stepsV_take_succ xs k HKL.out
                rw [VE.out] at hst
                rw [← hst] at ho
                have hbel := rel_below HB.out HO.out HG'.out
                have hr : ∃ k' : Nat, k' ≤ len ∧ Value.int .i64 ((k : Int) + 1) = .int .i64 k' ∧ w1.ownsRow w.heap.size 3 1 (.slice (some ⟨g', 0, none⟩) (k + 1) c') k' (((stepsV xs).take k').map (Value.int .i64)) ∧ Below w.heap.size w w1 ∧ ∃ g c, Value.slice (some ⟨g', 0, none⟩) (k + 1) c' = .slice (some ⟨g, 0, none⟩) k' c := ⟨k + 1, by omega, by go_num, ho, hbel, _, _, rfl⟩
                first
                  | exact hr
                  | (repeat apply Exists.intro
                     refine ⟨hr, ?_⟩
                     first
                       | exact rfl
                       | (rw [show cap = k + 1 by omega]))
              case measure => simp [intOf]; omega
    · go_wp2
      go_ret
      obtain rfl : k = len := by omega
      have ho := HO.out
      have ht : (stepsV xs).take k = stepsV xs := List.take_of_length_le (by simp [stepsV, HL.out])
      rw [ht] at ho
      refine ⟨⟨_, _, rfl, ?_, ints_of_own ho (by simp [stepsV, HL.out]) (by omega) (stepsV_bd HX.out (by rw [HL.out]; exact h6))⟩, HB.out⟩
      rcases ho.2 with ⟨h1, _⟩ | ⟨_, _, _, h1, h3, _, h2, _⟩
      · cases h1
      · cases h1; exact ⟨h2, h3, (ho.lt _ rfl).2⟩
end Go.Proofs.YteoobeldmicjhaaGreat.V
namespace Go.Proofs.YteoobeldmicjhaaGreat.V
set_option maxRecDepth 20000
open Go.RowKit

theorem nextL_false : ∀ (ds zs : List Int), zs.length = ds.length → (nextL ds zs).2 = false → (nextL ds zs).1 = List.replicate ds.length 0
  | [], [], _, _ => rfl
  | d :: ds, z :: zs, h, h2 => by
    have ih := nextL_false ds zs (by simpa using h)
    rw [nextL] at h2 ⊢
    by_cases c : (nextL ds zs).2 = true
    · rw [if_pos c] at h2; cases h2
    · rw [if_neg c] at h2 ⊢
      by_cases c2 : z + 1 < d
      · rw [if_pos c2] at h2; cases h2
      · rw [if_neg c2]
        simp [ih (by simpa using c), List.replicate_succ]
  | [], z :: zs, h, _ => by simp at h
  | d :: ds, [], h, _ => by simp at h

/-- A row that a slice owns, with what lies behind it. -/
theorem row_of_own {w : World} {B t n c g : Nat} {xs : List Int} (h : w.ownsRow B t 1 (.slice (some ⟨g, 0, none⟩) n c) n (xs.map (Value.int .i64))) (hl : xs.length = n) : ∃ f, w.rowIs g t c f ∧ (∀ j, j < n → f j = .int .i64 (xs[j]?.getD 0)) ∧ n ≤ c ∧ B ≤ g := by
  rcases h.2 with ⟨h1, _⟩ | ⟨g', cap, cur, h1, hB, hb, hnc, _, hsz, ht⟩
  · cases h1
  · cases h1
    refine ⟨fun j => cur[j]?.getD undef, ⟨cur, hb, by simpa using hsz, fun i hi => ?_⟩, fun j hj => ?_, hnc, hB⟩
    · have : i < cur.size := by omega
      simp [this]
    · have h3 : (cur.toList.take (n * 1))[j]? = (xs.map (Value.int .i64))[j]? := by rw [ht]
      rw [List.getElem?_take_of_lt (by omega)] at h3
      have hj' : j < xs.length := by omega
      simp [hj'] at h3
      simp [h3, hj']

/-- The numbers, when those from k on have come. -/
def nextAt (ys : List Int) (k j : Nat) : Int := if j < k then ys[j]?.getD 0 else 0

theorem nextL_end (xs ys : List Int) (hl : ys.length = xs.length) (k : Nat) (hk : k < xs.length) (hf : (nextL (xs.drop (k + 1)) (ys.drop (k + 1))).2 = false) (hlt : ys[k]?.getD 0 + 1 < xs[k]?.getD 0) :
    (nextL xs ys).2 = true ∧ (nextL xs ys).1.length = xs.length ∧ ∀ j, j < xs.length → (nextL xs ys).1[j]?.getD 0 = if j = k then ys[k]?.getD 0 + 1 else nextAt ys (k + 1) j := by
  have h1 := nextL_drop xs ys hl k hk
  rw [if_neg (by rw [hf]; simp), if_pos hlt] at h1
  have h2 := nextL_true xs ys _ hl k (by omega) h1
  have h3 := nextL_false (xs.drop (k + 1)) (ys.drop (k + 1)) (by simp [hl]) hf
  rw [h3] at h2
  rw [h2]
  refine ⟨rfl, by simp [hl]; omega, fun j hj => ?_⟩
  unfold nextAt
  by_cases e : j = k
  · subst e
    rw [if_pos rfl, List.getElem?_append_right (by simp; omega)]
    simp [hl, show min j xs.length = j by omega]
  · rw [if_neg e]
    by_cases c : j < k
    · rw [if_pos (by omega), List.getElem?_append_left (by simp [hl]; omega), List.getElem?_take_of_lt c]
    · rw [if_neg (by omega), List.getElem?_append_right (by simp; omega)]
      have e1 : j - (ys.take k).length = (j - k - 1) + 1 := by simp [hl]; omega
      rw [e1, List.getElem?_cons_succ]
      by_cases c2 : j - k - 1 < xs.length - (k + 1) <;> simp [c2]
theorem nextL_stage (xs ys : List Int) (hl : ys.length = xs.length) (k : Nat) (hk : k < xs.length) (hf : (nextL (xs.drop (k + 1)) (ys.drop (k + 1))).2 = false) (hlt : ¬ ys[k]?.getD 0 + 1 < xs[k]?.getD 0) : (nextL (xs.drop k) (ys.drop k)).2 = false := by
  rw [nextL_drop xs ys hl k hk, if_neg (by rw [hf]; simp), if_neg hlt]

end Go.Proofs.YteoobeldmicjhaaGreat.V
namespace Go.Proofs.YteoobeldmicjhaaGreat.V
set_option maxRecDepth 20000
open Go.RowKit

theorem info_ints : (Tryz.prog.info? 22).map (fun i => (i.zero, i.size, i.bytes)) = some (some (.slice none 0 0), 1, 24) := by kernel_rfl

/-- A slice value's begin, and n: a list of n lists of len numbers each. -/
def Lists (w : World) (B : Nat) (A : Option Addr) (n len : Nat) (f : Nat → List Int) : Prop :=
  n = 0 ∨ ∃ b, A = some ⟨b, 0, none⟩ ∧ B ≤ b ∧ ∀ i, i < n → ∃ g c, B ≤ g ∧ w.cell? ⟨b, i, none⟩ = some (.slice (some ⟨g, 0, none⟩) len c) ∧ Ints w (some ⟨g, 0, none⟩) len (f i)
theorem Lists.below {w w' : World} {B : Nat} {A : Option Addr} {n len : Nat} {f : Nat → List Int} (h : Lists w B A n len f) (hb : Below w.heap.size w w') : Lists w' B A n len f := by
  rcases h with h | ⟨b, ha, hB, hc⟩
  · exact .inl h
  · refine .inr ⟨b, ha, hB, fun i hi => ?_⟩
    obtain ⟨g, c, h0, h1, h2⟩ := hc i hi
    exact ⟨g, c, h0, (hb.cell (p := ⟨b, i, none⟩) (lt_of_cell h1)).trans h1, h2.below hb⟩

theorem ints_ne_own {w : World} {g len B n : Nat} {xs : List Int} {v : Value} {vs : List Value} (h : Ints w (some ⟨g, 0, none⟩) len xs) (h0 : 0 < len) (ho : w.ownsRow B 22 1 v n vs) (hv : ∃ a l c, vs[0]? = some (.slice a l c)) : some g ≠ v.ownBlock := by
  intro e
  rcases ho.2 with ⟨rfl, _⟩ | ⟨g', cap, cur, rfl, _, hb, _, _, _, ht⟩
  · simp [Value.ownBlock] at e
  · obtain rfl : g = g' := by simpa [Value.ownBlock] using e
    obtain ⟨b, off, e1, _, hc⟩ := h.at h0
    cases e1
    have h1 := hc 0 h0
    obtain ⟨a, l, c, h2⟩ := hv
    rw [← ht] at h2
    have h3 : cur[0]? = some (.slice a l c) := by
      rw [List.getElem?_take] at h2
      split at h2
      · simpa using h2
      · cases h2
    simp [World.cell?, hb, h3] at h1
theorem ints_own_grown {w w1 : World} {o : Obj} {g len B n : Nat} {xs : List Int} {v : Value} {vs : List Value} (h : Ints w (some ⟨g, 0, none⟩) len xs) (ho : w.ownsRow B 22 1 v n vs) (hv : ∃ a l c, vs[0]? = some (.slice a l c)) (hg : (w.alloc o).grownBy w1 v.ownBlock) : Ints w1 (some ⟨g, 0, none⟩) len xs := by
  by_cases h0 : len = 0
  · exact ⟨h.1, h.2.1, h.2.2.1, .inl h0⟩
  · have hne := ints_ne_own h (by omega) ho hv
    have hl : g < w.heap.size := by
      obtain ⟨b, off, e, hb, _⟩ := h.at (by omega)
      cases e; exact hb
    exact ints_grown (h.below ((Below.refl _ _).alloc (Nat.le_refl _) o)) (by simp; omega) hg hne

def sliceLen : Value → Nat
  | .slice _ n _ => n
  | _ => 0
def boolOf : Value → Bool
  | .bool b => b
  | _ => false

end Go.Proofs.YteoobeldmicjhaaGreat.V
namespace Go.Proofs.YteoobeldmicjhaaGreat.V
set_option maxRecDepth 20000
open Go.RowKit

/-- Where the entry at an index lies: so far, for the first k numbers. -/
def liesS (s : Int) (ss ys : List Int) : Nat → Int
  | 0 => s
  | k + 1 => wrap64 (liesS s ss ys k + wrap64 (ys[k]?.getD 0 * ss[k]?.getD 0))

set_option maxHeartbeats 1000000 in
theorem rlies_any (s : Int) (dv : Value) (sa : Option Addr) (slen scap : Nat) (ss : List Int) (a : Option Addr) (len cap : Nat) (ys : List Int) (w : World) (hs : Ints w sa slen ss) (h : Ints w a len ys) (hle : len ≤ slen) (da : Option Addr) (dl dc : Nat) (hdv : dv = .slice da dl dc) :
    Calls Tryz.prog 90 #[.agg #[.int .i64 s, dv, .slice sa slen scap], .slice a len cap] w fun e w' => e = .returned (.int .i64 (liesS s ss ys len)) ∧ Below w.heap.size w w' := by
  subst hdv
  have hm := h.2.1
  have hms := hs.2.1
  have H := hide h
  have HS := hide hs
  clear h hs
  go_enter Tryz.func90, Tryz.ntmps90
  go_wp2
  go_loop [5, 12] (fun n i => ∃ k : Nat, k ≤ len ∧ i = .int .i64 k ∧ n = .int .i64 (liesS s ss ys k)) (fun _ i => len - (intOf i).toNat)
  case atStart => exact ⟨0, Nat.zero_le _, rfl, rfl⟩
  case round =>
    obtain ⟨k, hk, rfl, rfl⟩ := hrel
    by_cases hlt : k < len
    · obtain ⟨b, off, rfl, hb, hc⟩ := H.out.at (by omega)
      obtain ⟨b', off', rfl, hb', hc'⟩ := HS.out.at (by omega)
      have hck := hc k hlt
      have hck' := hc' k (by omega)
      clear hc hc'
      go_wp2
      go_round
      case rel => exact ⟨k + 1, by omega, by go_num, rfl⟩
      case measure => simp [intOf]; omega
    · go_wp2
      go_ret
      obtain rfl : k = len := by omega
      exact ⟨rfl, (Below.refl _ _).alloc (Nat.le_refl _) _⟩

theorem stepsV_getD {xs : List Int} (hz : (0 : Int) ∉ xs) {k : Nat} (h : k < xs.length) : (stepsV xs)[k]?.getD 0 = beh xs k := by simp [stepsV, h, stepV, hz]
theorem placeS_bd {xs ys : List Int} (h : IdxOk xs ys) (hb : ∀ x ∈ xs, x ≤ 4096) (hp : prod xs ≤ 65536) : ∀ k, k ≤ xs.length → 0 ≤ placeS xs ys k ∧ placeS xs ys k ≤ 268435456 * k
  | 0, _ => by simp [placeS]
  | k + 1, hk => by
    have ih := placeS_bd h hb hp k (by omega)
    have h1 := h k (by omega)
    have h2 := hb _ (mem_getD xs k (by omega))
    have h3 := prod_drop_le xs (idxOk_pos h) (k + 1)
    have h4 : 0 ≤ ys[k]?.getD 0 * beh xs k := Int.mul_nonneg h1.1 (by unfold beh; omega)
    have h5 : ys[k]?.getD 0 * beh xs k ≤ 4096 * 65536 := Int.mul_le_mul (by omega) (by unfold beh; omega) (by unfold beh; omega) (by omega)
    rw [placeS]; omega
theorem lies_place {xs ys : List Int} (h : IdxOk xs ys) (hb : ∀ x ∈ xs, x ≤ 4096) (hp : prod xs ≤ 65536) (h6 : xs.length ≤ 6) : ∀ k, k ≤ xs.length → liesS 0 (stepsV xs) ys k = placeS xs ys k
  | 0, _ => rfl
  | k + 1, hk => by
    have hz : (0 : Int) ∉ xs := fun e => by have := idxOk_pos h 0 e; omega
    have ih := lies_place h hb hp h6 k (by omega)
    have b1 := placeS_bd h hb hp k (by omega)
    have b2 := placeS_bd h hb hp (k + 1) hk
    have h1 := h k (by omega)
    have h3 := prod_drop_le xs (idxOk_pos h) (k + 1)
    have h4 : 0 ≤ ys[k]?.getD 0 * beh xs k := Int.mul_nonneg h1.1 (by unfold beh; omega)
    rw [liesS, ih, stepsV_getD hz (by omega)]
    rw [placeS] at b2 ⊢
    rw [IntWalk.wrap64_in (ys[k]?.getD 0 * beh xs k) (by omega), IntWalk.wrap64_in _ (by omega)]

set_option maxHeartbeats 2000000 in
theorem rplace_any (a : Option Addr) (len cap : Nat) (xs : List Int) (a' : Option Addr) (len' cap' : Nat) (ys : List Int) (w : World) (h : Ints w a len xs) (h' : Ints w a' len' ys) (hcap : len ≤ cap) :
    Calls Tryz.prog 56 #[.slice a len cap, .slice a' len' cap'] w fun e w' => e = .returned (.tuple #[.int .i64 (placeN xs ys), .int .i64 (placeE xs ys)]) ∧ Below w.heap.size w w' := by
  have hl := h.1
  have hm := h.2.1
  have hl' := h'.1
  have hm' := h'.2.1
  by_cases hE : sizeE xs ≠ 0
  · have e1 : placeN xs ys = 0 := by simp [placeN, hE]
    have e2 : placeE xs ys = sizeE xs := by simp [placeE, hE]
    rw [e1, e2]
    have H := hide h
    have hE1 : (sizeE xs != 0) = true := by simp [hE]
    clear h hE e1 e2 hl hl' h'
    go_enter Tryz.func56, Tryz.ntmps56
    go_wp2_with (go_at_call 27; refine (rsize_any _ _ _ xs _ H.out).mono ?_; rintro e w' ⟨rfl, rfl⟩)
    go_ret2
    exact ⟨rfl, Below.refl _ _⟩
  replace hE : sizeE xs = 0 := by simpa using hE
  by_cases hn : len' ≠ len
  · have e1 : placeN xs ys = 0 := by simp [placeN, hl, hl', hn]
    have e2 : placeE xs ys = 6 := by simp [placeE, hE, hl, hl', hn]
    rw [e1, e2]
    have H := hide h
    have HE := hide hE
    have hn1 : ((len' : Int) != (len : Int)) = true := by simp; omega
    clear h hE e1 e2 hl hl' h' hn
    go_enter Tryz.func56, Tryz.ntmps56
    go_wp2_with (go_at_call 27; refine (rsize_any _ _ _ xs _ H.out).mono ?_; rintro e w' ⟨rfl, rfl⟩; rw [HE.out])
    go_ret2
    exact ⟨rfl, Below.refl _ _⟩
  obtain rfl : len' = len := by omega
  obtain ⟨z1, z2, z3, z4⟩ := sizeE_ok hE
  have P1 : Hid (IdxOk xs ys → placeN xs ys = placeS xs ys len' ∧ placeE xs ys = 0) := fun hI => by
    have hB := (idxB_iff xs ys).2 hI
    exact ⟨by simp [placeN, hE, hB, hl, hl'], by simp [placeE, hE, hB, hl, hl']⟩
  have P2 : Hid (¬ IdxOk xs ys → placeN xs ys = 0 ∧ placeE xs ys = 4) := fun hI => by
    have hB := idxB_no hI
    exact ⟨by simp [placeN, hB], by simp [placeE, hE, hB, hl, hl']⟩
  have H := hide h
  have H' := hide h'
  have HE := hide hE
  have HL := hide hl
  have hlen : len' ≤ 6 := by omega
  have HZ2 := hide z2
  have HZ3 := hide z3
  clear h h' hE hl hl' hn z1 z2 z3 z4
  go_enter Tryz.func56, Tryz.ntmps56
  go_wp2_with (go_at_call 27; refine (rsize_any _ _ _ xs _ H.out).mono ?_; rintro e w' ⟨rfl, hw'⟩; obtain rfl := hw'.symm; rw [HE.out])
  go_loop [25] (fun i => ∃ k : Nat, k ≤ len' ∧ i = .int .i64 k ∧ ∀ j, j < k → 0 ≤ ys[j]?.getD 0 ∧ ys[j]?.getD 0 < xs[j]?.getD 0) (fun i => len' - (intOf i).toNat)
  case atStart => exact ⟨0, Nat.zero_le _, rfl, fun j hj => by omega⟩
  case round =>
    obtain ⟨k, hk, rfl, hall⟩ := hrel
    have HALL := hide hall
    clear hall
    by_cases hlt : k < len'
    · obtain ⟨b, off, rfl, hb, hc⟩ := H.out.at (by omega)
      obtain ⟨b', off', rfl, hb', hc'⟩ := H'.out.at (by omega)
      have hck := hc k hlt
      have hck' := hc' k hlt
      clear hc hc'
      by_cases q1 : ys[k]?.getD 0 < 0
      · go_wp2
        go_ret2
        have hI : ¬ IdxOk xs ys := fun hI => by have := hI k (by rw [HL.out]; exact hlt); omega
        rw [(P2.out hI).1, (P2.out hI).2]
        exact ⟨rfl, Below.refl _ _⟩
      by_cases q2 : xs[k]?.getD 0 ≤ ys[k]?.getD 0
      · go_wp2
        go_ret2
        have hI : ¬ IdxOk xs ys := fun hI => by have := hI k (by rw [HL.out]; exact hlt); omega
        rw [(P2.out hI).1, (P2.out hI).2]
        exact ⟨rfl, Below.refl _ _⟩
      go_wp2
      go_round
      case rel => exact ⟨k + 1, by omega, by go_num, fun j hj => by by_cases e : j = k; (subst e; omega); exact HALL.out j (by omega)⟩
      case measure => simp [intOf]; omega
    · have hI : IdxOk xs ys := fun j hj => HALL.out j (by rw [HL.out] at hj; omega)
      have hpos := idxOk_pos hI
      have hp := (HZ3.out hpos).1
      have HLP : Hid (liesS 0 (stepsV xs) ys len' = placeS xs ys len') := lies_place hI (fun x hx => (HZ2.out x hx).2) hp (by rw [HL.out]; exact hlen) len' (by rw [HL.out]; omega)
      have HII := hide hI
      clear hI hpos hp
      go_wp2_with fail
      refine (rsteps_any _ _ _ xs _ H.out hcap hlen HZ2.out).mono ?_
      rintro e w1 ⟨⟨g, c, rfl, hgc, hi⟩, hb1⟩
      have HI1 := hide hi
      have HB1 := hide hb1
      clear hi hb1
      go_wp2_with fail
      refine (rlies_any 0 _ _ _ _ (stepsV xs) _ _ _ ys _ HI1.out (H'.out.below HB1.out) (Nat.le_refl _) _ _ _ rfl).mono ?_
      rintro e w2 ⟨rfl, hb2⟩
      rw [HLP.out]
      have HB2 := hide (HB1.out.trans (hb2.mono HB1.out.size))
      clear hb2
      go_wp2
      go_ret2
      rw [(P1.out HII.out).1, (P1.out HII.out).2]
      exact ⟨rfl, HB2.out⟩
end Go.Proofs.YteoobeldmicjhaaGreat.V
