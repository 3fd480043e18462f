/-
  Contract: adjointref1.All: all indices, in order.
-/
import Derived.Test.YtfamaaahofjglaaRNext
import Derived.Test.YtfamaaahofjglaaRSize
namespace Go.Proofs.Ytfamaaahofjglaa.V
open Go.RowKit

theorem info_ints : (Try.prog.info? 22).map (fun i => (i.zero, i.size, i.bytes)) = some (some (.slice none 0 0), 1, 24) := by kernel_rfl

/-- A slice value's begin, and n: a list of n lists of len numbers each. -/
def Lists (w : World) (B : Nat) (A : Option Addr) (n len : Nat) (f : Nat → List Int) : Prop :=
  n = 0 ∨ ∃ b, A = some ⟨b, 0, none⟩ ∧ B ≤ b ∧ ∀ i, i < n → ∃ g c, B ≤ g ∧ w.cell? ⟨b, i, none⟩ = some (.slice (some ⟨g, 0, none⟩) len c) ∧ Ints w (some ⟨g, 0, none⟩) len (f i)
theorem Lists.below {w w' : World} {B : Nat} {A : Option Addr} {n len : Nat} {f : Nat → List Int} (h : Lists w B A n len f) (hb : Below w.heap.size w w') : Lists w' B A n len f := by
  rcases h with h | ⟨b, ha, hB, hc⟩
  · exact .inl h
  · refine .inr ⟨b, ha, hB, fun i hi => ?_⟩
    obtain ⟨g, c, h0, h1, h2⟩ := hc i hi
    exact ⟨g, c, h0, (hb.cell (p := ⟨b, i, none⟩) (lt_of_cell h1)).trans h1, h2.below hb⟩

/-- The values of a row of lists. -/
def Vals (w : World) (B n len : Nat) (f : Nat → List Int) (vs : List Value) : Prop :=
  vs.length = n ∧ ∀ i, i < n → ∃ g c, B ≤ g ∧ vs[i]? = some (.slice (some ⟨g, 0, none⟩) len c) ∧ Ints w (some ⟨g, 0, none⟩) len (f i)

theorem ints_ne_own {w : World} {g len B n : Nat} {xs : List Int} {v : Value} {vs : List Value} (h : Ints w (some ⟨g, 0, none⟩) len xs) (h0 : 0 < len) (ho : w.ownsRow B 22 1 v n vs) (hv : ∃ a l c, vs[0]? = some (.slice a l c)) : some g ≠ v.ownBlock := by
  intro e
  rcases ho.2 with ⟨rfl, _⟩ | ⟨g', cap, cur, rfl, _, hb, _, _, _, ht⟩
  · simp [Value.ownBlock] at e
  · obtain rfl : g = g' := by simpa [Value.ownBlock] using e
    obtain ⟨b, off, e1, _, hc⟩ := h.at h0
    cases e1
    have h1 := hc 0 h0
    obtain ⟨a, l, c, h2⟩ := hv
    rw [← ht] at h2
    have h3 : cur[0]? = some (.slice a l c) := by
      rw [List.getElem?_take] at h2
      split at h2
      · simpa using h2
      · cases h2
    simp [World.cell?, hb, h3] at h1
theorem ints_own_grown {w w1 : World} {o : Obj} {g len B n : Nat} {xs : List Int} {v : Value} {vs : List Value} (h : Ints w (some ⟨g, 0, none⟩) len xs) (ho : w.ownsRow B 22 1 v n vs) (hv : ∃ a l c, vs[0]? = some (.slice a l c)) (hg : (w.alloc o).grownBy w1 v.ownBlock) : Ints w1 (some ⟨g, 0, none⟩) len xs := by
  by_cases h0 : len = 0
  · exact ⟨h.1, h.2.1, h.2.2.1, .inl h0⟩
  · have hne := ints_ne_own h (by omega) ho hv
    have hl : g < w.heap.size := by
      obtain ⟨b, off, e, hb, _⟩ := h.at (by omega)
      cases e; exact hb
    exact ints_grown (h.below ((Below.refl _ _).alloc (Nat.le_refl _) o)) (by simp; omega) hg hne

def sliceLen : Value → Nat
  | .slice _ n _ => n
  | _ => 0
def boolOf : Value → Bool
  | .bool b => b
  | _ => false

set_option maxRecDepth 100000 in
set_option maxHeartbeats 4000000 in
theorem rall_ok (a : Option Addr) (len cap : Nat) (xs : List Int) (w : World) (h : Ints w a len xs) (hE : sizeE xs = 0) (hpos : ∀ x ∈ xs, 1 ≤ x) :
    Calls Try.prog 36 #[.slice a len cap] w fun e w' => (∃ (A : Option Addr) (c : Nat), e = .returned (.slice A (prod xs).toNat c) ∧ Lists w' w.heap.size A (prod xs).toNat len (fun i => dig xs i)) ∧ Below w.heap.size w w' := by
  obtain ⟨z1, z2, z3, z4⟩ := sizeE_ok hE
  obtain ⟨hp, hn⟩ := z3 hpos
  have hp1 := prod_pos xs hpos
  have hl := h.1
  have hlen : len ≤ 6 := by omega
  obtain ⟨N, hN⟩ : ∃ N : Nat, prod xs = (N : Int) := ⟨(prod xs).toNat, by omega⟩
  have hN1 : 1 ≤ N := by omega
  have hN2 : N ≤ 65536 := by omega
  have eN : (prod xs).toNat = N := by omega
  rw [eN]
  have H := hide h
  have HE := hide hE
  have HL := hide hl
  have HNP := hide hN
  have HPOS := hide hpos
  have HZ2 := hide z2
  have hne : ((N : Int) == 0) = false := by simp; omega
  have HSN : Hid (sizeN xs = (N : Int)) := by rw [Hid, hn, hN]
  clear h hE hl hp hpos z1 z2 z3 z4 hn hN hp1 eN
  obtain ⟨i0, hi, hz0, hz1, hz2⟩ := info_parts info_ints
  have HI := hide hi
  have HZ0 := hide hz0
  have HZ1 := hide hz1
  have HZ2' := hide hz2
  clear hi hz0 hz1 hz2
  have hmk := run_make_row' (P := Try.prog) 22 3 (.int .i64 0) 8 Try.underlying22 info_int rfl .i64 .i64 len (by omega) (by omega)
  go_enter Try.func36, Try.ntmps36
  go_wp2_with (go_at_call 32; refine (rsize_any _ _ _ xs _ H.out).mono ?_; rintro e w' ⟨rfl, hw'⟩; obtain rfl := hw'.symm; rw [HE.out, HSN.out])
  have hrow := World.rowIs_made w (.int .i64 0) len 3
  have hint : Ints (w.alloc (.cells (madeCells #[.int .i64 0] len) 3)) (some ⟨w.heap.size, 0, none⟩) len (dig xs 0) := by
    refine ⟨by rw [dig_length]; exact HL.out, by omega, fun x hx => ?_, .inr ⟨_, _, rfl, fun j hj => ?_⟩⟩
    · rw [dig_zero] at hx
      have := List.eq_of_mem_replicate hx; omega
    · rw [Nat.zero_add, hrow.cell hj, dig_zero]
      have : j < xs.length := by rw [HL.out]; exact hj
      simp [this]
  clear hmk
  go_loopw [5, 6, 7] (fun at' out more wr => ∃ (i : Nat) (vs : List Value) (b : Bool), i < N ∧ more = .bool b ∧ wr.ownsRow w.heap.size 22 1 out (i + 1) vs ∧ Vals wr w.heap.size (i + 1) len (fun i => dig xs i) vs ∧ (∃ g c, out = .slice (some ⟨g, 0, none⟩) (i + 1) c) ∧ (b = true → ∃ g c, at' = .slice (some ⟨g, 0, none⟩) len c ∧ Ints wr (some ⟨g, 0, none⟩) len (dig xs i)) ∧ (b = false → i + 1 = N) ∧ Below w.heap.size w wr)
    (fun _ out more _ => if boolOf more = true then N + 1 - sliceLen out else 0)
  case atStart =>
    refine ⟨0, [.slice (some ⟨w.heap.size, 0, none⟩) len len], true, by omega, rfl, ?_, ⟨rfl, fun i hi => ?_⟩, ⟨_, _, rfl⟩, fun _ => ⟨_, _, rfl, hint.below ((Below.refl _ _).alloc (Nat.le_refl _) _)⟩, (fun h => by cases h), ((Below.refl _ _).alloc (Nat.le_refl _) _).alloc (by simp) _⟩
    · refine ⟨rfl, .inr ⟨_, 1, #[.slice (some ⟨w.heap.size, 0, none⟩) len len], rfl, ?_, ?_, Nat.le_refl _, by decide, rfl, rfl⟩⟩
      · simp
      · have := World.alloc_heap_new (w.alloc (.cells (madeCells #[.int .i64 0] len) 3)) (.cells #[.slice (some ⟨w.heap.size, 0, none⟩) len len] 22)
        rwa [World.size_alloc] at this
    · obtain rfl : i = 0 := by omega
      exact ⟨_, _, Nat.le_refl _, rfl, hint.below ((Below.refl _ _).alloc (Nat.le_refl _) _)⟩
  case round =>
    clear hrow hint
    obtain ⟨i, vs, b, hi, rfl, hown, hvs, ⟨g, c, rfl⟩, hat, hend, hB⟩ := hrel
    cases b with
    | false =>
      obtain rfl := hend rfl
      go_wp2
      go_ret
      refine ⟨⟨_, ⟨_, rfl⟩, .inr ⟨g, rfl, (hown.lt g rfl).1, fun j hj => ?_⟩⟩, hB⟩
      obtain ⟨gj, cj, h0, h1, h2⟩ := hvs.2 j (by omega)
      refine ⟨gj, cj, h0, ?_, h2⟩
      rw [hown.cellAt j (by omega)]
      exact h1
    | true =>
      obtain ⟨ga, ca, rfl, hai⟩ := hat rfl
      have HO := hide hown
      have HV := hide hvs
      have HB := hide hB
      have HA := hide hai
      clear hown hvs hB hai hat hend
      have hdb : Hid (∀ j, j < len → 0 ≤ (dig xs i)[j]?.getD 0 ∧ (dig xs i)[j]?.getD 0 ≤ 4096) := fun j hj => by
        have hj' : j < xs.length := by rw [HL.out]; exact hj
        have h1 := dig_bd xs i HPOS.out (by omega) (by rw [HNP.out]; omega) j hj'
        have h2 := HZ2.out _ (mem_getD xs j hj')
        omega
      have hnx := next_dig xs i HPOS.out (by omega) (by rw [HNP.out]; omega)
      rw [HNP.out] at hnx
      by_cases hlast : i + 1 < N
      · rw [if_pos (by omega)] at hnx
        have HNX := hide hnx
        clear hnx
        go_wp2_with (first
          | (go_at_call 52; refine (rnext_any _ _ _ xs _ _ (dig xs i) _ (H.out.below HB.out) HA.out hlen hdb.out).mono ?_; rintro e w2 ⟨⟨g2, c2, rfl, hi2, hg2, hg3⟩, hb2⟩; rw [HNX.out] at hi2 ⊢; have HI2 := hide hi2; have HB2 := hide hb2; have HO2 := hide (own_below HO.out hb2); clear hi2 hb2)
          | (at_builtin; refine wpList_append_own _ rfl _ _ 52 rfl w.heap.size 22 i0 (.slice none 0 0) 1 24 Try.underlying52 HI.out HZ0.out HZ1.out HZ2'.out rfl (by decide) _ _ _ rfl (HO2.out.alloc _) ⟨w2.heap.size, 0, none⟩ 1 1 [.slice (some ⟨g2, 0, none⟩) len c2] rfl rfl (cell_one_new _ _ _) (by simp [Value.oneCell']) (by unfold maxLen; omega) (by omega) (by have := HB.out.size; have := HB2.out.size; simp; omega) ?_; intro v' w3 hown' hgrow hnn; obtain ⟨g', c', rfl⟩ := ownsRow_succ hown'; have HO' := hide hown'; have HG' := hide hgrow; clear hown' hgrow hnn))
        go_wp2
        go_roundw
        case rel =>
          have hv0 : ∃ a l c, vs[0]? = some (.slice a l c) := by obtain ⟨g, c, _, h1, _⟩ := HV.out.2 0 (by omega); exact ⟨_, _, _, h1⟩
          refine ⟨i + 1, vs ++ [.slice (some ⟨g2, 0, none⟩) len c2], true, hlast, rfl, HO'.out, ⟨by simp [HV.out.1], fun j hj => ?_⟩, ⟨_, _, rfl⟩, fun _ => ⟨_, _, rfl, ints_own_grown HI2.out HO2.out hv0 HG'.out⟩, (fun h => by cases h), ?_⟩
          · by_cases hj' : j < i + 1
            · obtain ⟨gj, cj, h0, h1, h2⟩ := HV.out.2 j hj'
              exact ⟨gj, cj, h0, by rw [List.getElem?_append_left (by rw [HV.out.1]; exact hj')]; exact h1, ints_own_grown (h2.below HB2.out) HO2.out hv0 HG'.out⟩
            · obtain rfl : j = i + 1 := by omega
              exact ⟨g2, c2, by have := HB.out.size; omega, by rw [List.getElem?_append_right (by rw [HV.out.1]; omega)]; simp [HV.out.1], ints_own_grown HI2.out HO2.out hv0 HG'.out⟩
          · have hb := Below.on HB.out HB2.out
            refine (hb.alloc hb.size _).grown HG'.out (by have := hb.size; simp; omega) (fun j e => ?_)
            exact (HO2.out.lt j e).1
        case measure => simp [boolOf, sliceLen]; omega
      · rw [if_neg (by omega)] at hnx
        have HNX := hide hnx
        clear hnx
        go_wp2_with (go_at_call 52; refine (rnext_any _ _ _ xs _ _ (dig xs i) _ (H.out.below HB.out) HA.out hlen hdb.out).mono ?_; rintro e w2 ⟨⟨g2, c2, rfl, hi2, hg2, hg3⟩, hb2⟩; rw [HNX.out] at hi2 ⊢; have HI2 := hide hi2; have HB2 := hide hb2; have HO2 := hide (own_below HO.out hb2); clear hi2 hb2)
        go_roundw
        case rel =>
          exact ⟨i, vs, false, hi, rfl, HO2.out, ⟨HV.out.1, fun j hj => by obtain ⟨gj, cj, h0, h1, h2⟩ := HV.out.2 j hj; exact ⟨gj, cj, h0, h1, h2.below HB2.out⟩⟩, ⟨_, _, rfl⟩, (fun h => by cases h), fun _ => by omega, Below.on HB.out HB2.out⟩
        case measure => simp [boolOf, sliceLen]; omega
end Go.Proofs.Ytfamaaahofjglaa.V
