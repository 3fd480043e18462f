/-
  Contract: view.Place.
-/
import Derived.Test.YtpokhjdnpheaaaaLastFirst
import Derived.Test.YtpokhjdnpheaaaaReads
namespace Go.Proofs.Ytpokhjdnpheaaaa.V
open Go.RowKit Go.Shelf
attribute [local go_sem] Oper.semAt_some

/-- The places that the first k numbers of an index are worth. -/
def placeS (xs ys : List Int) : Nat → Int
  | 0 => 0
  | k + 1 => placeS xs ys k + ys[k]?.getD 0 * beh xs k
def IdxOk (xs ys : List Int) : Prop := ∀ k, k < xs.length → 0 ≤ ys[k]?.getD 0 ∧ ys[k]?.getD 0 < xs[k]?.getD 0
def idxB (xs ys : List Int) : Bool := (List.range xs.length).all fun k => decide (0 ≤ ys[k]?.getD 0) && decide (ys[k]?.getD 0 < xs[k]?.getD 0)
theorem idxB_iff (xs ys : List Int) : idxB xs ys = true ↔ IdxOk xs ys := by simp [idxB, IdxOk]
theorem idxB_no {xs ys : List Int} (h : ¬ IdxOk xs ys) : idxB xs ys = false := by
  cases e : idxB xs ys with
  | true => exact absurd ((idxB_iff xs ys).1 e) h
  | false => rfl
def placeN (xs ys : List Int) : Int := if sizeE xs ≠ 0 then 0 else if ys.length ≠ xs.length then 0 else if idxB xs ys = true then placeS xs ys xs.length else 0
def placeE (xs ys : List Int) : Int := if sizeE xs ≠ 0 then sizeE xs else if ys.length ≠ xs.length then 6 else if idxB xs ys = true then 0 else 4

def sumK (xs ys : List Int) {n : Nat} (pre : List (Fin n)) : Int := (pre.map fun k => ys[k.1]?.getD 0 * beh xs k.1).sum
theorem sumK_snoc (xs ys : List Int) {n : Nat} (pre : List (Fin n)) (k : Fin n) : sumK xs ys (pre ++ [k]) = sumK xs ys pre + ys[k.1]?.getD 0 * beh xs k.1 := by simp [sumK]
theorem sumK_down (xs ys : List Int) (n : Nat) : ∀ d k, k + d = n → sumK xs ys (down n k) = placeS xs ys n - placeS xs ys k := by
  intro d
  induction d with
  | zero => intro k h; obtain rfl : k = n := by omega
            rw [down_all]; simp [sumK]
  | succ d ih =>
    intro k h
    rw [down_step n k (by omega), sumK_snoc, ih (k + 1) (by omega)]
    simp only [placeS]; omega
theorem sumK_all (xs ys : List Int) (n : Nat) : sumK xs ys (down n 0) = placeS xs ys n := by
  rw [sumK_down xs ys n n 0 (by omega)]; simp [placeS]
theorem sizeE_ok {xs : List Int} (h : sizeE xs = 0) : xs.length ≤ 6 ∧ (∀ x ∈ xs, 0 ≤ x ∧ x ≤ 4096) ∧ ((∀ x ∈ xs, 1 ≤ x) → prod xs ≤ 65536 ∧ sizeN xs = prod xs) ∧ ((0 : Int) ∈ xs → sizeN xs = 0) := by
  unfold sizeE at h
  by_cases c1 : 6 < xs.length
  · rw [if_pos c1] at h; omega
  rw [if_neg c1] at h
  by_cases c2 : xs.any badDim = true
  · rw [if_pos c2] at h; omega
  rw [if_neg c2] at h
  refine ⟨by omega, fun x hx => ?_, fun hg => ?_, fun h0 => ?_⟩
  · have : badDim x = false := by
      have c2' : xs.any badDim = false := by simpa using c2
      rw [List.any_eq_false] at c2'
      simpa using c2' x hx
    simp [badDim] at this; omega
  · have c3 : (0 : Int) ∉ xs := fun e => by have := hg 0 e; omega
    rw [if_neg c3] at h
    by_cases c4 : 65536 < prod xs
    · rw [if_pos c4] at h; omega
    refine ⟨by omega, ?_⟩
    unfold sizeN; rw [if_neg c1, if_neg c2, if_neg c3, if_neg c4]
  · unfold sizeN; rw [if_neg c1, if_neg c2, if_pos h0]
theorem idxOk_pos {xs ys : List Int} (h : IdxOk xs ys) : ∀ x ∈ xs, 1 ≤ x := by
  intro x hx
  obtain ⟨k, hk, rfl⟩ := List.getElem_of_mem hx
  have := h k hk
  simp [hk] at this; omega
theorem sumK_bd {xs ys : List Int} (h : IdxOk xs ys) (hb : ∀ x ∈ xs, x ≤ 4096) (hp : prod xs ≤ 65536) {n : Nat} (hn : n = xs.length) (pre : List (Fin n)) : 0 ≤ sumK xs ys pre ∧ sumK xs ys pre ≤ 268435456 * pre.length := by
  subst hn
  induction pre with
  | nil => simp [sumK]
  | cons k r ih =>
    have h1 := h k.1 k.2
    have h2 := hb _ (mem_getD xs k.1 k.2)
    have h3 := prod_drop_le xs (idxOk_pos h) (k.1 + 1)
    have h4 : 0 ≤ ys[k.1]?.getD 0 * beh xs k.1 := Int.mul_nonneg h1.1 (by unfold beh; omega)
    have h5 : ys[k.1]?.getD 0 * beh xs k.1 ≤ 4096 * 65536 := Int.mul_le_mul (by omega) (by unfold beh; omega) (by unfold beh; omega) (by omega)
    have e : sumK xs ys (k :: r) = ys[k.1]?.getD 0 * beh xs k.1 + sumK xs ys r := by simp [sumK]
    rw [e]; simp; omega

/-- The fence that shuts nothing out. -/
abbrev FW : Fence := Fence.wide

set_option maxRecDepth 100000 in
set_option maxHeartbeats 4000000 in
theorem place_ok (a : Option Addr) (len cap : Nat) (xs : List Int) (a' : Option Addr) (cap' : Nat) (ys : List Int) (w : World) (h : Ints w a len xs) (h' : Ints w a' len ys)
    (hE : sizeE xs = 0) (hI : IdxOk xs ys) :
    CallsIn FW 8 Try.prog 11 #[.slice a len cap, .slice a' len cap'] w fun e w' => e = .returned (.tuple #[.int .i64 (placeS xs ys len), .int .i64 0]) ∧ Below w.heap.size w w' := by
  obtain ⟨z1, z2, z3, z4⟩ := sizeE_ok hE
  have hl := h.1
  have hl' := h'.1
  have hpos := idxOk_pos hI
  obtain ⟨hp, _⟩ := z3 hpos
  have hlen : len ≤ 6 := by omega
  have H := hide h
  have H' := hide h'
  have HE := hide hE
  have HI := hide hI
  have HL := hide hl
  have HL' := hide hl'
  have HP := hide hp
  have HPOS := hide hpos
  have HZ := hide z2
  clear h h' hE hI hl hl' hp hpos z1 z2 z3 z4
  have hro : FW.round = none := rfl
  refine callsIn_of_wp_marks Try.func11 rfl trivial ?_ hro
  simp only [Try.ntmps11, List.size_toArray, List.length_cons, List.length_nil, Nat.reduceAdd, Nat.reduceSub, Array.replicate_succ, Array.replicate_zero, List.push_toArray, List.append_toArray, List.nil_append, List.cons_append]
  gi_wp2_with (first | (refine ⟨trivial, ?_⟩; gi_at_call 9; refine (callsIn_wide.2 (size_any _ _ _ xs _ (H.out.below ((Below.refl _ w).alloc (Nat.le_refl _) _)))).mono ?_; rintro e w' ⟨rfl, rfl⟩; rw [HE.out]) | (gi_at_call 37; refine (lastFirst_in FW _ trivial rfl _ _ _ _).mono ?_; rintro e w' ⟨rfl, rfl⟩))
  gi_loopw [28] (fun i wr => ∃ k : Nat, k ≤ len ∧ i = .int .i64 k ∧ wr = w.alloc (.cells #[.slice a' len cap'] 22)) (fun i _ => len - (intOf i).toNat)
  case atStart => exact ⟨0, Nat.zero_le _, rfl, rfl⟩
  case round =>
    obtain ⟨k, hk, rfl, rfl⟩ := hrel
    by_cases hlt : k < len
    · obtain ⟨b, off, rfl, hb, hc⟩ := H.out.at (by omega)
      obtain ⟨b', off', rfl, hb', hc'⟩ := H'.out.at (by omega)
      have hck := hc k hlt
      have hck' := hc' k hlt
      have hI := HI.out k (by rw [HL.out]; exact hlt)
      obtain ⟨hI1, hI2⟩ := hI
      clear hc hc'
      gi_wp2
      go_roundw
      case rel => exact ⟨k + 1, by omega, by go_num, by simp⟩
      case measure => simp [intOf]; omega
    · gi_wp2_with (refine ⟨trivial, ?_⟩; gi_at_call 37; refine (lastFirst_in FW _ trivial rfl _ _ _ _).mono ?_; rintro e w' ⟨rfl, rfl⟩)
      have bA := Boxed.new w 22 (.slice a' len cap')
      have bS := Boxed.new (w.alloc (.cells #[.slice a' len cap'] 22)) 3 (.int .i64 0)
      have bN := Boxed.new ((w.alloc (.cells #[.slice a' len cap'] 22)).alloc (.cells #[.int .i64 0] 3)) 22 (.slice a len cap)
      simp only [World.size_alloc] at bS bN
      have hB0 : Below w.heap.size w (((w.alloc (.cells #[.slice a' len cap'] 22)).alloc (.cells #[.int .i64 0] 3)).alloc (.cells #[.slice a len cap] 22)) := (((Below.refl _ w).alloc (Nat.le_refl _) _).alloc (by simp) _).alloc (by simp; omega) _
      refine wpIn_rangeFunc_ownG (F := FW) (n := 8) hro (by omega) (gf := 55) (lb := #[.pointer (some ⟨w.heap.size + 1 + 1, 0, none⟩)]) rfl trivial (enters_of Try.func55 (by kernel_rfl) rfl)
        (lastFirst_stops FW 7 trivial rfl (by omega) (w.heap.size + 1 + 1) w.heap.size len cap a xs HL.out hlen HPOS.out HP.out _ (by simp; omega) bN ?hints) Keep.trans (keep_b (by simp; omega) (by simp)) (Below.refl _ _) (fun _ => rfl)
        (fun pre W => (Boxed W (w.heap.size + 1) 3 (.int .i64 (sumK xs ys pre)) ∧ Boxed W w.heap.size 22 (.slice a' len cap')) ∧ Below w.heap.size w W)
        (fun _ _ _ => False)
        ?own (fun _ _ _ _ _ hs _ _ => hs)
        ⟨⟨bS.alloc _, (bA.alloc _).alloc _⟩, hB0⟩
        ?a1 ?assign ?body ?done ?stop
      case assign =>
        intro l x W K hK
        simp only [enc2]
        gi_wp2
        exact hK
      case hints =>
        by_cases h0 : len = 0
        · exact .inl h0
        · obtain ⟨b, off, ha, hb, hc⟩ := H.out.at (by omega)
          exact .inr ⟨b, off, ha, hb, fun j hj => (hB0.cell (p := ⟨b, off + j, none⟩) hb).trans (hc j hj)⟩
      case own =>
        exact OwnFrom.and (OwnFrom.and (Own.from (boxed_own _ _ _) _) (Own.from (boxed_own _ _ _) _)) (ownFrom_below (Nat.le_refl _) (by simp; omega))
      case body =>
        rintro l pre x W ⟨⟨hs, ha⟩, hB⟩ hpre
        have hx := x.2
        obtain ⟨b', off', rfl, hb', hc'⟩ := H'.out.at (by omega)
        have hcs := hs.cell
        have hfs := hs.frozen
        have hca := ha.cell
        have hcy : W.cell? ⟨b', off' + x.1, none⟩ = some (.int .i64 (ys[x.1]?.getD 0)) := (hB.cell (p := ⟨b', off' + x.1, none⟩) hb').trans (hc' x.1 hx)
        have hbd := sumK_bd HI.out (fun y hy => (HZ.out y hy).2) HP.out HL.out.symm pre
        have hbd' := sumK_bd HI.out (fun y hy => (HZ.out y hy).2) HP.out HL.out.symm (pre ++ [x])
        rw [sumK_snoc] at hbd'
        simp only [List.length_append, List.length_cons, List.length_nil] at hbd'
        have hmul : 0 ≤ ys[x.1]?.getD 0 * beh xs x.1 := Int.mul_nonneg (HI.out x.1 (by rw [HL.out]; exact hx)).1 (by unfold beh; have := prod_drop_le xs HPOS.out (x.1 + 1); omega)
        have HS := hide hs
        have HA := hide ha
        have HB := hide hB
        clear hs ha hB hc'
        gi_wp2
        refine region_reads 8 (by kernel_rfl) (by kernel_rfl) rfl ?_
        simp only [List.take]
        iterate 8
          apply Reads.step
          · go_simp
            try rfl
          · rfl
          simp only [Act.put, List.setIfInBounds_toArray, List.set_cons_succ, List.set_cons_zero]
        refine Reads.nil ?_
        gi_wp2
        refine ⟨((KeepsOthers.setCell _ _ _).trans (KeepsOthers.drew _)).from _, ?_, ⟨⟨?_, ?_⟩, ?_⟩⟩
        · exact ((Keep.refl _ _ W).setCell (p := ⟨w.heap.size + 1, 0, none⟩) (by simp) (by simp) _).drewN
        · rw [sumK_snoc]; exact HS.out.set _
        · exact HA.out.other (by omega) _
        · exact (HB.out.setCell (p := ⟨w.heap.size + 1, 0, none⟩) (by simp) _).drew
      case done =>
        rintro D zs W hD rfl ⟨⟨hs, ha⟩, hB⟩ hK
        have hcs := hs.cell
        gi_wp2
        refine ⟨by simp, .inl ⟨_, _, rfl, run_takeDeferred hK, ?_⟩⟩
        rw [sumK_all]
        exact ⟨_, results_tmp2 rfl _ _ _, rfl, hB.trans (belowK_b (w := w) (Nat.le_refl _) W D _ _ (by simp at hD; omega) hK rfl rfl)⟩
      case stop =>
        rintro D c pre W _ _ h _
        exact h.elim
end Go.Proofs.Ytpokhjdnpheaaaa.V
