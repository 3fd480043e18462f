/-
  Contract: adjointref1.Next.
-/
import Derived.Test.YtfamaaahofjglaaLie
import Derived.Test.YtfamaaahofjglaaSteps
namespace Go.Proofs.Ytfamaaahofjglaa.V
open Go.RowKit

theorem nextL_false : ∀ (ds zs : List Int), zs.length = ds.length → (nextL ds zs).2 = false → (nextL ds zs).1 = List.replicate ds.length 0
  | [], [], _, _ => rfl
  | d :: ds, z :: zs, h, h2 => by
    have ih := nextL_false ds zs (by simpa using h)
    rw [nextL] at h2 ⊢
    by_cases c : (nextL ds zs).2 = true
    · rw [if_pos c] at h2; cases h2
    · rw [if_neg c] at h2 ⊢
      by_cases c2 : z + 1 < d
      · rw [if_pos c2] at h2; cases h2
      · rw [if_neg c2]
        simp [ih (by simpa using c), List.replicate_succ]
  | [], z :: zs, h, _ => by simp at h
  | d :: ds, [], h, _ => by simp at h

/-- A row that a slice owns, with what lies behind it. -/
theorem row_of_own {w : World} {B t n c g : Nat} {xs : List Int} (h : w.ownsRow B t 1 (.slice (some ⟨g, 0, none⟩) n c) n (xs.map (Value.int .i64))) (hl : xs.length = n) : ∃ f, w.rowIs g t c f ∧ (∀ j, j < n → f j = .int .i64 (xs[j]?.getD 0)) ∧ n ≤ c ∧ B ≤ g := by
  rcases h.2 with ⟨h1, _⟩ | ⟨g', cap, cur, h1, hB, hb, hnc, _, hsz, ht⟩
  · cases h1
  · cases h1
    refine ⟨fun j => cur[j]?.getD undef, ⟨cur, hb, by simpa using hsz, fun i hi => ?_⟩, fun j hj => ?_, hnc, hB⟩
    · have : i < cur.size := by omega
      simp [this]
    · have h3 : (cur.toList.take (n * 1))[j]? = (xs.map (Value.int .i64))[j]? := by rw [ht]
      rw [List.getElem?_take_of_lt (by omega)] at h3
      have hj' : j < xs.length := by omega
      simp [hj'] at h3
      simp [h3, hj']

/-- The numbers, when those from k on have come. -/
def nextAt (ys : List Int) (k j : Nat) : Int := if j < k then ys[j]?.getD 0 else 0

theorem nextL_end (xs ys : List Int) (hl : ys.length = xs.length) (k : Nat) (hk : k < xs.length) (hf : (nextL (xs.drop (k + 1)) (ys.drop (k + 1))).2 = false) (hlt : ys[k]?.getD 0 + 1 < xs[k]?.getD 0) :
    (nextL xs ys).2 = true ∧ (nextL xs ys).1.length = xs.length ∧ ∀ j, j < xs.length → (nextL xs ys).1[j]?.getD 0 = if j = k then ys[k]?.getD 0 + 1 else nextAt ys (k + 1) j := by
  have h1 := nextL_drop xs ys hl k hk
  rw [if_neg (by rw [hf]; simp), if_pos hlt] at h1
  have h2 := nextL_true xs ys _ hl k (by omega) h1
  have h3 := nextL_false (xs.drop (k + 1)) (ys.drop (k + 1)) (by simp [hl]) hf
  rw [h3] at h2
  rw [h2]
  refine ⟨rfl, by simp [hl]; omega, fun j hj => ?_⟩
  unfold nextAt
  by_cases e : j = k
  · subst e
    rw [if_pos rfl, List.getElem?_append_right (by simp; omega)]
    simp [hl, show min j xs.length = j by omega]
  · rw [if_neg e]
    by_cases c : j < k
    · rw [if_pos (by omega), List.getElem?_append_left (by simp [hl]; omega), List.getElem?_take_of_lt c]
    · rw [if_neg (by omega), List.getElem?_append_right (by simp; omega)]
      have e1 : j - (ys.take k).length = (j - k - 1) + 1 := by simp [hl]; omega
      rw [e1, List.getElem?_cons_succ]
      by_cases c2 : j - k - 1 < xs.length - (k + 1) <;> simp [c2]
theorem nextL_stage (xs ys : List Int) (hl : ys.length = xs.length) (k : Nat) (hk : k < xs.length) (hf : (nextL (xs.drop (k + 1)) (ys.drop (k + 1))).2 = false) (hlt : ¬ ys[k]?.getD 0 + 1 < xs[k]?.getD 0) : (nextL (xs.drop k) (ys.drop k)).2 = false := by
  rw [nextL_drop xs ys hl k hk, if_neg (by rw [hf]; simp), if_neg hlt]

set_option maxRecDepth 100000 in
set_option maxHeartbeats 4000000 in
theorem rnext_any (a : Option Addr) (len cap : Nat) (xs : List Int) (gb cap' : Nat) (ys : List Int) (w : World) (h : Ints w a len xs) (h' : Ints w (some ⟨gb, 0, none⟩) len ys) (h6 : len ≤ 6) (hy : ∀ j, j < len → 0 ≤ ys[j]?.getD 0 ∧ ys[j]?.getD 0 ≤ 4096) :
    Calls Try.prog 52 #[.slice a len cap, .slice (some ⟨gb, 0, none⟩) len cap'] w fun e w' => (∃ g c : Nat, e = .returned (.tuple #[.slice (some ⟨g, 0, none⟩) len c, .bool (nextL xs ys).2]) ∧ Ints w' (some ⟨g, 0, none⟩) len (nextL xs ys).1 ∧ w.heap.size ≤ g ∧ g < w'.heap.size) ∧ Below w.heap.size w w' := by
  have H := hide h
  have H' := hide h'
  have HL := hide h.1
  have HL' := hide h'.1
  have HY := hide hy
  clear h h' hy
  obtain ⟨i0, hi, hz0, hz1, hz2⟩ := info_parts info_int
  have HI := hide hi
  have HZ0 := hide hz0
  have HZ1 := hide hz1
  have HZ2 := hide hz2
  clear hi hz0 hz1 hz2
  have hb1 : Below w.heap.size w (w.alloc (.cells #[] 3)) := (Below.refl _ _).alloc (Nat.le_refl _) _
  have HB1 := hide hb1
  clear hb1
  go_enter Try.func52, Try.ntmps52
  go_wp2_with (at_builtin; refine wpList_append_own _ rfl _ _ 22 rfl w.heap.size 3 i0 (.int .i64 0) 1 8 Try.underlying22 HI.out HZ0.out HZ1.out HZ2.out rfl (by decide) _ _ _ rfl (World.ownsRow_made w #[] 0 (Nat.le_refl _) (Nat.zero_le _) rfl) ⟨gb, 0, none⟩ len cap' (ys.map (Value.int .i64)) rfl ?l1 ?l2 ?l3 ?l4 ?l5 ?l6 ?_)
  case l1 => simp [HL'.out]
  case l2 =>
    intro j u hj
    have hjl : j < len := by have := (List.getElem?_eq_some_iff.1 hj).1; simpa [HL'.out] using this
    obtain ⟨b, off, e, hb, hc⟩ := H'.out.at (by omega)
    cases e
    have h3 : u = .int .i64 (ys[j]?.getD 0) := by
      have : j < ys.length := by rw [HL'.out]; exact hjl
      simp [this] at hj ⊢
      exact hj.symm
    rw [h3, Go.WideShapes.add_plain]
    exact (HB1.out.cell (p := ⟨gb, 0 + j, none⟩) hb).trans (hc j hjl)
  case l3 => intro u hu; simp at hu; obtain ⟨x, _, rfl⟩ := hu; rfl
  case l4 => unfold maxLen; omega
  case l5 => omega
  case l6 => simp
  intro v' w1 hown hgrow hnn
  obtain ⟨g, c, rfl⟩ : ∃ g c, v' = .slice (some ⟨g, 0, none⟩) len c := by
    rcases hown.2 with ⟨e1, e2⟩ | ⟨g, cc, cur, e, _⟩
    · exact (hnn e1).elim
    · exact ⟨g, cc, e⟩
  obtain ⟨f, hrow, hf, hnc, hBg⟩ := row_of_own hown HL'.out
  have hB1 : Below w.heap.size w w1 := by
    refine HB1.out.grown hgrow (by simp) (fun j e => ?_)
    simp [Value.ownBlock] at e
    omega
  have HB := hide hB1
  have HR := hide hrow
  have HF := hide hf
  clear hown hgrow hnn hB1 hrow hf
  go_wp2_with fail
  go_loopw [7] (fun i wr => ∃ (k : Nat) (m : Int) (f : Nat → Value), k ≤ len ∧ m + 1 = k ∧ i = .int .i64 m ∧ wr.rowIs g 3 c f ∧ (∀ j, j < len → f j = .int .i64 (nextAt ys k j)) ∧ (nextL (xs.drop k) (ys.drop k)).2 = false ∧ Below w.heap.size w wr) (fun i _ => (intOf i + 1).toNat)
  case atStart =>
    refine ⟨len, len - 1, f, Nat.le_refl _, by omega, rfl, HR.out, fun j hj => by rw [HF.out j hj, nextAt, if_pos hj], ?_, HB.out⟩
    rw [List.drop_eq_nil_of_le (by rw [HL.out]; omega), List.drop_eq_nil_of_le (by rw [HL'.out]; omega)]; rfl
  case round =>
    clear HR HF HB
    obtain ⟨k, m, f, hk, hm, rfl, hrow, hf, hst, hB⟩ := hrel
    have HB := hide hB
    have HR := hide hrow
    have HF := hide hf
    have HST := hide hst
    clear hB hrow hf hst
    by_cases hlt : 0 < k
    · obtain ⟨k', rfl⟩ : ∃ k', k = k' + 1 := ⟨k - 1, by omega⟩
      obtain rfl : m = (k' : Int) := by omega
      have hk' : k' < len := by omega
      obtain ⟨b, off, rfl, hb, hcc⟩ := H.out.at (by omega)
      obtain ⟨Y, hY⟩ : ∃ Y, Y = ys[k']?.getD 0 := ⟨_, rfl⟩
      obtain ⟨X, hX⟩ : ∃ X, X = xs[k']?.getD 0 := ⟨_, rfl⟩
      have hyb := HY.out k' hk'
      rw [← hY] at hyb
      have cr : wr.cell? ⟨g, k', none⟩ = some (.int .i64 Y) := by
        have := HR.out.cell (i := k') (by omega)
        rw [HF.out k' hk', nextAt, if_pos (by omega), ← hY] at this
        exact this
      have fr := HR.out.frozen k'
      have cx : wr.cell? ⟨b, off + k', none⟩ = some (.int .i64 X) := by rw [hX]; exact (HB.out.cell (p := ⟨b, off + k', none⟩) hb).trans (hcc k' hk')
      have hlg := HR.out.lt
      have hbg : b ≠ g := by omega
      have cr2 : (wr.setCell ⟨g, k', none⟩ (.int .i64 (Y + 1))).cell? ⟨g, k', none⟩ = some (.int .i64 (Y + 1)) := by
        have := (HR.out.set k' (.int .i64 (Y + 1))).cell (i := k') (by omega)
        simpa using this
      have cx2 : (wr.setCell ⟨g, k', none⟩ (.int .i64 (Y + 1))).cell? ⟨b, off + k', none⟩ = some (.int .i64 X) :=
        (World.cell?_of_block (w := wr) (Below.heap_setCell _ ⟨g, k', none⟩ _ b hbg)).trans cx
      have HX := hide hX
      have HY' := hide hY
      have HK : Hid (k' < xs.length) := by rw [Hid, HL.out]; exact hk'
      have i1 : (0 : Int) ≤ (k' : Int) := Int.natCast_nonneg _
      have i2 : (k' : Int) < (len : Int) := by omega
      have w1' : IntKind.i64.wrap (Y + 1) = Y + 1 := wrap_in _ (by omega) (by omega)
      clear hcc hX hY hm
      by_cases hc : Y + 1 < X
      · go_wp2_with fail
        go_region
        go_wp2
        go_ret2
        have hend := nextL_end xs ys (by rw [HL.out, HL'.out]) k' HK.out HST.out (by rw [← HX.out, ← HY'.out]; exact hc)
        rw [hend.1]
        refine ⟨⟨g, c, rfl, ⟨by rw [hend.2.1, HL.out], by omega, fun z hz => ?_, .inr ⟨g, 0, rfl, fun j hj => ?_⟩⟩, hBg, by simpa using hlg⟩, (HB.out.setCell (p := ⟨g, k', none⟩) hBg _).drew⟩
        · obtain ⟨i, hi, rfl⟩ := List.getElem_of_mem hz
          have hil : i < xs.length := by rw [← hend.2.1]; exact hi
          have := hend.2.2 i hil
          rw [List.getElem?_eq_getElem hi, Option.getD_some] at this
          rw [this]
          split
          · rw [← HY'.out]; omega
          · unfold nextAt
            split
            · have := HY.out i (by rw [← HL.out]; exact hil); omega
            · omega
        · have := (HR.out.set k' (.int .i64 (Y + 1))).cell (i := j) (by omega)
          rw [Nat.zero_add]
          show (wr.setCell ⟨g, k', none⟩ (.int .i64 (Y + 1))).cell? ⟨g, j, none⟩ = _
          rw [this, hend.2.2 j (by rw [HL.out]; exact hj), HF.out j hj, HY'.out]
          split <;> rfl
      · go_wp2_with fail
        go_region
        go_wp2
        go_roundw
        case rel =>
          refine ⟨k', (k' : Int) - 1, fun j => if j = k' then .int .i64 0 else if j = k' then .int .i64 (Y + 1) else f j, by omega, by omega, by go_num, ?_, fun j hj => ?_, nextL_stage xs ys (by rw [HL.out, HL'.out]) k' HK.out HST.out (by rw [← HX.out, ← HY'.out]; omega), ?_⟩
          · exact ((HR.out.set k' (.int .i64 (Y + 1))).drew.set k' (.int .i64 0))
          · show (if j = k' then Value.int .i64 0 else if j = k' then .int .i64 (Y + 1) else f j) = _
            by_cases e : j = k'
            · rw [if_pos e, nextAt, if_neg (by omega)]
            · rw [if_neg e, if_neg e, HF.out j hj, nextAt, nextAt]
              by_cases c2 : j < k'
              · rw [if_pos c2, if_pos (by omega)]
              · rw [if_neg c2, if_neg (by omega)]
          · exact ((HB.out.setCell (p := ⟨g, k', none⟩) hBg _).drew).setCell (p := ⟨g, k', none⟩) hBg _
        case measure => simp [intOf]
    · obtain rfl : k = 0 := by omega
      obtain rfl : m = -1 := by omega
      go_wp2
      go_ret2
      have hst := HST.out
      simp only [List.drop_zero] at hst
      have hnf := nextL_false xs ys (by rw [HL.out, HL'.out]) hst
      rw [hst, hnf]
      refine ⟨⟨g, c, rfl, ⟨by simp [HL.out], by omega, fun z hz => ?_, .inr ⟨g, 0, rfl, fun j hj => ?_⟩⟩, hBg, HR.out.lt⟩, HB.out⟩
      · have := List.eq_of_mem_replicate hz; omega
      · have := HR.out.cell (i := j) (by omega)
        rw [Nat.zero_add, this, HF.out j hj, nextAt, if_neg (by omega)]
        have hj' : j < xs.length := by rw [HL.out]; exact hj
        simp [hj']
end Go.Proofs.Ytfamaaahofjglaa.V
