/-
  Contracts: what a member knows: notes, number, round, comes. Contracts: what a member knows: notes, number, round, comes. Contracts: the functions of which kinds are made. Contract: ring.added: words are added in place. What a member's memory is behind each step. Contract: from whom a note comes, and which piece it is.
-/
import Derived.Test.YticcoacoepajpaaPK4
import Derived.BigQuiet
import Derived.Deep.QuietTactic
import Derived.BigRegion
import Derived.Deep.RegionWith
import Derived.Deep.Cut
namespace Go.Proofs.Yticcoacoepajpaa.V
open Go Go.RowKit
set_option linter.unusedVariables false
set_option linter.unusedSimpArgs false

def pm (g : Nat) : Value := .pointer (some ⟨g, 0, none⟩)
theorem notN_rd {d n : Nat} (hn : 1 ≤ n) : ((notN d n : Nat) : Int) = (rdN d : Int) * ((n : Int) - 1) := by
  unfold notN rdN
  split
  · have : ((n - 1 : Nat) : Int) = (n : Int) - 1 := by omega
    push_cast [this]; rfl
  · have : ((n - 1 : Nat) : Int) = (n : Int) - 1 := by omega
    push_cast [this]; omega
theorem wrap_small {x : Int} (h : -9223372036854775808 ≤ x) (h' : x ≤ 9223372036854775807) : wrap64 x = x := by unfold wrap64; omega
theorem rdN_bd (d : Nat) : 1 ≤ rdN d ∧ rdN d ≤ 2 := by unfold rdN; split <;> omega
set_option maxHeartbeats 1000000 in
theorem notes_any (g : Nat) (F : Nat → Prop) (d n me : Nat) (s : St) (G : Gh) (W : World) (h : MbAt W F g d n me s G) (hn : 1 ≤ n) (h16 : n ≤ 16) :
    Calls Try.prog 32 #[pm g] W fun e w' => e = .returned (.int .i64 (notN d n : Nat)) ∧ ∃ k, w' = W.drewN k := by
  obtain ⟨⟨_, _, _, c3, _⟩, ⟨c7, _⟩, z0, _⟩ := mb_cells h
  have hr := rdN_bd d
  have HN := hide (notN_rd (d := d) hn)
  obtain ⟨R, hR⟩ : ∃ R, R = rdN d := ⟨_, rfl⟩
  rw [← hR] at c3 hr HN
  clear hR h
  have q1 : wrap64 ((n : Int) - 1) = (n : Int) - 1 := by unfold wrap64; omega
  have q2 : wrap64 ((R : Int) * ((n : Int) - 1)) = (R : Int) * ((n : Int) - 1) := by
    have : R = 1 ∨ R = 2 := by omega
    rcases this with rfl | rfl <;> (unfold wrap64; omega)
  unfold pm
  go_enter Try.func32, Try.ntmps32
  go_wp2
  go_quiet (fail)
  go_wp2
  go_ret
  exact ⟨ret_int (q2.trans HN.out.symm), _, rfl⟩
set_option maxHeartbeats 1000000 in
theorem number_any (g : Nat) (F : Nat → Prop) (d n me : Nat) (s : St) (G : Gh) (W : World) (h : MbAt W F g d n me s G) (hn : 1 ≤ n) (h16 : n ≤ 16) (x : Int) :
    Calls Try.prog 34 #[pm g, .int .i64 x] W fun e w' => e = .returned (.int .i64 (modI x n : Nat)) ∧ ∃ k, w' = W.drewN k := by
  obtain ⟨_, ⟨c7, _⟩, z0, _⟩ := mb_cells h
  have HN := hide (tmod_mod (n := n) (by omega) x)
  have hb := tmod_bd (n := n) (by omega) x
  have n0 : ¬ ((n : Int) = 0) := by omega
  have n1 : ((n : Int) == 0) = false := by simp; omega
  have n2 : ¬ (n = 0) := by omega
  have q1 : wrap64 (x.tmod (n : Int) + (n : Int)) = x.tmod (n : Int) + (n : Int) := by unfold wrap64; omega
  clear h
  have q0 : wrap64 (x.tmod (n : Int)) = x.tmod (n : Int) := by unfold wrap64; omega
  have hb2 := tmod_bd (n := n) (by omega) (x.tmod (n : Int) + (n : Int))
  have q2 : wrap64 ((x.tmod (n : Int) + (n : Int)).tmod (n : Int)) = (x.tmod (n : Int) + (n : Int)).tmod (n : Int) := by unfold wrap64; omega
  clear hb hb2
  unfold pm
  go_enter Try.func34, Try.ntmps34
  go_wp2
  go_quiet (fail)
  go_wp2
  go_ret
  exact ⟨ret_int HN.out, _, rfl⟩
end Go.Proofs.Yticcoacoepajpaa.V
namespace Go.Proofs.Yticcoacoepajpaa.V
open Go Go.RowKit
set_option linter.unusedVariables false
set_option linter.unusedSimpArgs false

/-- The round and its note. -/
theorem step_div {d n t : Nat} (h2 : 2 ≤ n) (ht : t < notN d n) : t / (n - 1) < rdN d ∧ (t : Int).tdiv ((n : Int) - 1) = ((t / (n - 1) : Nat) : Int) ∧ (t : Int).tmod ((n : Int) - 1) = ((t % (n - 1) : Nat) : Int) := by
  have e : (n : Int) - 1 = ((n - 1 : Nat) : Int) := by omega
  refine ⟨?_, ?_, ?_⟩
  · have : notN d n = rdN d * (n - 1) := by unfold notN rdN; split <;> simp
    rw [this] at ht
    exact (Nat.div_lt_iff_lt_mul (by omega)).2 ht
  · rw [e, Int.tdiv_eq_ediv_of_nonneg (Int.natCast_nonneg _), Int.natCast_ediv]
  · rw [e, Int.tmod_eq_emod_of_nonneg (Int.natCast_nonneg _), Int.natCast_emod]
set_option maxHeartbeats 1000000 in
theorem round_any (g : Nat) (F : Nat → Prop) (d n me : Nat) (s : St) (G : Gh) (W : World) (h : MbAt W F g d n me s G) (h2 : 2 ≤ n) (h16 : n ≤ 16) (t : Nat) (ht : t < notN d n) :
    Calls Try.prog 33 #[pm g, .int .i64 t] W fun e w' => e = .returned (.tuple #[.agg #[fv (farF d (t / (n - 1))), fv (pceF d (t / (n - 1))), fv (useF d (t / (n - 1)))], .int .i64 (t % (n - 1) : Nat)]) ∧ Below W.heap.size W w' := by
  obtain ⟨⟨-, -, -, c3, -⟩, ⟨c7, -⟩, z0, -⟩ := mb_cells h
  obtain ⟨hr, e1, e2⟩ := step_div h2 ht
  obtain ⟨x0, x1, x2, z1⟩ := rd_cells h.rd hr
  have hrb := rdN_bd d
  have hnn := notN_le (d := d) h16
  have E1 := hide e1
  have E2 := hide e2
  obtain ⟨R, hR⟩ : ∃ R, R = t / (n - 1) := ⟨_, rfl⟩
  rw [← hR] at x0 x1 x2 hr E1 ⊢
  have hlt : t % (n - 1) < n - 1 := Nat.mod_lt _ (by omega)
  obtain ⟨T, hT⟩ : ∃ T, T = t % (n - 1) := ⟨_, rfl⟩
  rw [← hT] at E2 hlt ⊢
  clear hR hT
  have q1 : wrap64 ((n : Int) - 1) = (n : Int) - 1 := wrap_small (by omega) (by omega)
  have q3 : ¬ ((n : Int) - 1 = 0) := by omega
  have q4 : (((n : Int) - 1) == 0) = false := by simp; omega
  have q5 : (t : Int).tdiv ((n : Int) - 1) = (R : Int) := E1.out
  have q6 : (t : Int).tmod ((n : Int) - 1) = (T : Int) := E2.out
  have q7 : wrap64 (R : Int) = (R : Int) := wrap_small (by omega) (by omega)
  have q8 : wrap64 (T : Int) = (T : Int) := wrap_small (by omega) (by omega)
  have q9 : (R : Int) < (rdN d : Int) := Int.ofNat_lt.2 hr
  clear h e1 e2 E1 E2
  have q5' : (t : Int) / ((n : Int) - 1) = (R : Int) := by rw [← q5, Int.tdiv_eq_ediv_of_nonneg (Int.natCast_nonneg _)]
  have q6' : (t : Int) % ((n : Int) - 1) = (T : Int) := by rw [← q6, Int.tmod_eq_emod_of_nonneg (Int.natCast_nonneg _)]
  unfold fv at x0 x1 x2 ⊢
  unfold pm
  obtain ⟨N, hN⟩ : ∃ N, N = rdN d := ⟨_, rfl⟩
  rw [← hN] at c3 q9
  clear hN hrb hnn ht hlt hr
  go_enter Try.func33, Try.ntmps33
  go_wp2
  go_region
  go_wp2
  refine bodyPost_ret (v := .tuple #[.agg #[.func (.func (farF d R)) #[] #[], .func (.func (pceF d R)) #[] #[], .func (.func (useF d R)) #[] #[]], .int .i64 (T : Int)]) (by simp [results, Try.results33, go_sem]) rfl ⟨rfl, ?_⟩
  exact (bl_new _).drew
end Go.Proofs.Yticcoacoepajpaa.V
namespace Go.Proofs.Yticcoacoepajpaa.V
open Go Go.RowKit
set_option linter.unusedVariables false
set_option linter.unusedSimpArgs false

theorem k1_any (t : Int) (w : World) : Calls Try.prog 42 #[.int .i64 t] w fun e w' => e = .returned (.int .i64 1) ∧ w' = w := by
  go_enter Try.func42, Try.ntmps42
  go_wp2
  go_ret
  exact ⟨rfl, rfl⟩
theorem k2_any (m t : Int) (w : World) (hm : 0 ≤ m ∧ m ≤ 1000) (ht : 0 ≤ t ∧ t ≤ 1000) : Calls Try.prog 43 #[.int .i64 m, .int .i64 t] w fun e w' => e = .returned (.int .i64 (m - t - 1)) ∧ w' = w := by
  have q1 : wrap64 (m - t) = m - t := wrap_small (by omega) (by omega)
  have q2 : wrap64 (m - t - 1) = m - t - 1 := wrap_small (by omega) (by omega)
  go_enter Try.func43, Try.ntmps43
  go_wp2
  go_ret
  exact ⟨by first | rfl | exact ret_int q2, rfl⟩
theorem k3_any (m t : Int) (w : World) (hm : 0 ≤ m ∧ m ≤ 1000) (ht : 0 ≤ t ∧ t ≤ 1000) : Calls Try.prog 45 #[.int .i64 m, .int .i64 t] w fun e w' => e = .returned (.int .i64 (m - t)) ∧ w' = w := by
  have q1 : wrap64 (m - t) = m - t := wrap_small (by omega) (by omega)
  go_enter Try.func45, Try.ntmps45
  go_wp2
  go_ret
  exact ⟨by first | rfl | exact ret_int q1, rfl⟩
theorem k4_any (t : Int) (w : World) (ht : 0 ≤ t ∧ t ≤ 1000) : Calls Try.prog 47 #[.int .i64 t] w fun e w' => e = .returned (.int .i64 (t + 1)) ∧ w' = w := by
  have q1 : wrap64 (t + 1) = t + 1 := wrap_small (by omega) (by omega)
  go_enter Try.func47, Try.ntmps47
  go_wp2
  go_ret
  exact ⟨by first | rfl | exact ret_int q1, rfl⟩
theorem k5_any (m t : Int) (w : World) (hm : 0 ≤ m ∧ m ≤ 1000) (ht : 0 ≤ t ∧ t ≤ 1000) : Calls Try.prog 48 #[.int .i64 m, .int .i64 t] w fun e w' => e = .returned (.int .i64 (m + t + 1)) ∧ w' = w := by
  have q1 : wrap64 (m + t) = m + t := wrap_small (by omega) (by omega)
  have q2 : wrap64 (m + t + 1) = m + t + 1 := wrap_small (by omega) (by omega)
  go_enter Try.func48, Try.ntmps48
  go_wp2
  go_ret
  exact ⟨by first | rfl | exact ret_int q2, rfl⟩
theorem k6_any (a b : Int) (w : World) : Calls Try.prog 49 #[.int .i64 a, .int .i64 b] w fun e w' => e = .returned (.bool (decide (a = b))) ∧ w' = w := by
  go_enter Try.func49, Try.ntmps49
  go_wp2
  go_ret
  exact ⟨by first | rfl | (show Ending.returned (.bool (a == b)) = _; congr 2; rw [Bool.eq_iff_iff]; simp), rfl⟩
theorem k7_any (a b : Int) (w : World) : Calls Try.prog 50 #[.int .i64 a, .int .i64 b] w fun e w' => e = .returned (.bool (decide (a ≤ 65536))) ∧ w' = w := by
  go_enter Try.func50, Try.ntmps50
  go_wp2
  go_ret
  exact ⟨rfl, rfl⟩
theorem k8_any (a b : Int) (w : World) : Calls Try.prog 51 #[.int .i64 a, .int .i64 b] w fun e w' => e = .returned (.int .i64 b) ∧ w' = w := by
  go_enter Try.func51, Try.ntmps51
  go_wp2
  go_ret
  exact ⟨rfl, rfl⟩
theorem k9_any (a b : Int) (w : World) : Calls Try.prog 52 #[.int .i64 a, .int .i64 b] w fun e w' => e = .returned (.int .i64 a) ∧ w' = w := by
  go_enter Try.func52, Try.ntmps52
  go_wp2
  go_ret
  exact ⟨rfl, rfl⟩
theorem k10_any (v : Value) (m : Int) (w : World) : Calls Try.prog 53 #[v, .int .i64 m] w fun e w' => e = .returned v ∧ w' = w := by
  go_enter Try.func53, Try.ntmps53
  go_wp2
  go_ret
  exact ⟨rfl, rfl⟩
theorem k11_any (h n me : Nat) (w : World) (hn : n ≤ 1000) (hm : me < n) : Calls Try.prog 54 #[.slice (some ⟨h, 0, none⟩) n n, .int .i64 (me : Int)] w fun e w' => e = .returned (.slice (some ⟨h, me, none⟩) 1 (n - me)) ∧ w' = w := by
  have q1 : wrap64 ((me : Int) + 1) = (me : Int) + 1 := wrap_small (by omega) (by omega)
  have q2 : (me : Int) + 1 ≤ (n : Int) := by omega
  have q3 : me + 1 ≤ n := hm
  go_enter Try.func54, Try.ntmps54
  go_wp2
  go_ret
  exact ⟨by first | rfl | simp, rfl⟩
theorem instead_any (v u : Value) (w : World) : Calls Try.prog 46 #[v, u] w fun e w' => e = .returned u ∧ w' = w := by
  go_enter Try.func46, Try.ntmps46
  go_wp2
  go_ret
  exact ⟨rfl, rfl⟩
end Go.Proofs.Yticcoacoepajpaa.V
namespace Go.Proofs.Yticcoacoepajpaa.V
open Go Go.RowKit
set_option linter.unusedVariables false
set_option linter.unusedSimpArgs false

/-- A list's words alone have changed. -/
structure Wrote (W W' : World) (s : Sl) : Prop where
  os : W'.os = W.os
  tape : W'.tape = W.tape
  output : W'.output = W.output
  size : W'.heap.size = W.heap.size
  block : ∀ b, ¬ s.On b → W'.heap[b]? = W.heap[b]?
  kind : ∀ (b : Nat) (cur : Array Value), W.heap[b]? = some (.cells cur 2 (0, 0)) → ∃ cur', W'.heap[b]? = some (.cells cur' 2 (0, 0))
  cell : ∀ b o j, s.a = some ⟨b, o, none⟩ → (j < o ∨ o + s.n ≤ j) → W'.cell? ⟨b, j, none⟩ = W.cell? ⟨b, j, none⟩
theorem cell_set_off (w : World) (b : Nat) {i j : Nat} (v : Value) (h : i ≠ j) : (w.setCell ⟨b, i, none⟩ v).cell? ⟨b, j, none⟩ = w.cell? ⟨b, j, none⟩ := by
  simp only [World.cell?, World.setCell, Array.getElem?_modify]
  cases hb : w.heap[b]? with
  | none => rfl
  | some o => cases o <;> simp [h]
theorem Wrote.refl (W : World) (s : Sl) : Wrote W W s := ⟨rfl, rfl, rfl, rfl, fun _ _ => rfl, fun b cur h => ⟨cur, h⟩, fun _ _ _ _ _ => rfl⟩
theorem Wrote.put {W V : World} {s : Sl} (h : Wrote W V s) {b o j : Nat} (ha : s.a = some ⟨b, o, none⟩) (hj : j < s.n) (x : Int) : Wrote W (V.setCell ⟨b, o + j, none⟩ (.int .i64 x)) s := by
  have hO : s.On b := ⟨by omega, o, ha⟩
  refine ⟨h.os, h.tape, h.output, by rw [← h.size]; simp [World.setCell], fun b' hb => ?_, fun b' cur hc => ?_, fun b' o' j' e hj' => ?_⟩
  · have : b' ≠ b := fun e => hb (e ▸ hO)
    rw [Below.heap_setCell _ _ _ _ this]
    exact h.block b' hb
  · obtain ⟨cur', hc'⟩ := h.kind b' cur hc
    by_cases e : b' = b
    · subst e
      refine ⟨cur'.setIfInBounds (o + j) (.int .i64 x), ?_⟩
      simp [World.setCell, Array.getElem?_modify, hc']
    · exact ⟨cur', by rw [Below.heap_setCell _ _ _ _ e]; exact hc'⟩
  · rw [ha] at e
    simp only [Option.some.injEq, Addr.mk.injEq] at e
    obtain ⟨rfl, rfl, _⟩ := e
    rw [← h.cell b o j' ha hj']
    exact cell_set_off _ _ _ (by omega)
theorem Num.apart {W V : World} {s t : Sl} {xs : List Int} (h : Num W t xs) (hw : Wrote W V s) (ha : Ap s t) : Num V t xs := by
  refine ⟨⟨h.ints.1, h.ints.2.1, h.ints.2.2.1, ?_⟩, h.cap, fun b hO => ?_⟩
  · by_cases h0 : t.n = 0
    · exact .inl h0
    · obtain ⟨b, off, e, _, hc⟩ := h.at (by omega)
      refine .inr ⟨b, off, e, fun j hj => ?_⟩
      by_cases hs : s.On b
      · obtain ⟨h1, o, e1⟩ := hs
        have := ha b o off h1 (by omega) e1 e
        rw [hw.cell b o (off + j) e1 (by omega)]
        exact hc j hj
      · exact (World.cell?_of_block (w := W) (hw.block b hs)).trans (hc j hj)
  · obtain ⟨cur, hc⟩ := h.blk b hO
    exact hw.kind b cur hc
theorem Num.put {V : World} {s : Sl} {xs : List Int} (h : Num V s xs) {b o j : Nat} (ha : s.a = some ⟨b, o, none⟩) (hj : j < s.n) {x : Int} (hx : -9223372036854775808 ≤ x ∧ x ≤ 9223372036854775807) : Num (V.setCell ⟨b, o + j, none⟩ (.int .i64 x)) s (xs.set j x) := by
  have hO : s.On b := ⟨by omega, o, ha⟩
  obtain ⟨cur, hc⟩ := h.blk b hO
  obtain ⟨b', o', e, _, hcs⟩ := h.at (by omega)
  rw [ha] at e
  simp only [Option.some.injEq, Addr.mk.injEq] at e
  obtain ⟨rfl, rfl, _⟩ := e
  have hl := h.len
  refine ⟨⟨by rw [List.length_set]; exact h.ints.1, h.ints.2.1, fun y hy => ?_, .inr ⟨b, o, ha, fun i hi => ?_⟩⟩, h.cap, fun b' hb' => ?_⟩
  · rcases List.mem_or_eq_of_mem_set hy with h1 | h1
    · exact h.ints.2.2.1 y h1
    · rw [h1]; exact hx
  · have hblk : (V.setCell ⟨b, o + j, none⟩ (.int .i64 x)).heap[b]? = some (.cells (cur.setIfInBounds (o + j) (.int .i64 x)) 2 (0, 0)) := by simp [World.setCell, Array.getElem?_modify, hc]
    have h2 := hcs i hi
    simp only [World.cell?, hc] at h2
    simp only [World.cell?, hblk]
    show (cur.setIfInBounds (o + j) (.int .i64 x))[o + i]? = _
    have h2' : cur[o + i]? = some (.int .i64 (xs[i]?.getD 0)) := h2
    rw [Array.getElem?_setIfInBounds, List.getElem?_set]
    by_cases e : j = i
    · subst e
      have : o + j < cur.size := (Array.getElem?_eq_some_iff.1 h2').1
      rw [if_pos rfl, if_pos this, if_pos rfl, if_pos (by omega)]
      rfl
    · rw [if_neg (by omega), if_neg e]
      exact h2'
  · obtain ⟨cur', hc'⟩ := h.blk b' hb'
    by_cases e : b' = b
    · subst e
      refine ⟨cur'.setIfInBounds (o + j) (.int .i64 x), ?_⟩
      simp [World.setCell, Array.getElem?_modify, hc']
    · exact ⟨cur', by rw [Below.heap_setCell _ _ _ _ e]; exact hc'⟩
/-- So far words were added. -/
def addTo (xs ys : List Int) (k : Nat) : List Int := (List.range xs.length).map fun i => if i < k then wrap64 (xs[i]?.getD 0 + ys[i]?.getD 0) else xs[i]?.getD 0
theorem addTo_len (xs ys : List Int) (k : Nat) : (addTo xs ys k).length = xs.length := by simp [addTo]
theorem addTo_at (xs ys : List Int) (k : Nat) {i : Nat} (hi : i < xs.length) : (addTo xs ys k)[i]?.getD 0 = if i < k then wrap64 (xs[i]?.getD 0 + ys[i]?.getD 0) else xs[i]?.getD 0 := by simp [addTo, hi]
theorem addTo_all (xs ys : List Int) (h : xs.length = ys.length) : addTo xs ys ys.length = addW xs ys := by
  apply List.ext_getElem?
  intro i
  by_cases hi : i < xs.length
  · have hi' : i < ys.length := by omega
    simp [addTo, addW, hi, hi']
  · have hi' : ¬ i < ys.length := by omega
    simp [addTo, addW, hi, hi']
theorem addTo_zero (xs ys : List Int) : addTo xs ys 0 = xs := by
  apply List.ext_getElem?
  intro i
  by_cases hi : i < xs.length
  · simp [addTo, hi]
  · simp [addTo, hi]
theorem addTo_set (xs ys : List Int) (k : Nat) (hk : k < xs.length) : addTo xs ys (k + 1) = (addTo xs ys k).set k (wrap64 (xs[k]?.getD 0 + ys[k]?.getD 0)) := by
  apply List.ext_getElem?
  intro i
  rw [List.getElem?_set, addTo_len]
  by_cases hi : i < xs.length
  · by_cases e : k = i
    · subst e
      simp [addTo, hi]
    · have h1 : (i < k + 1) = (i < k) := by apply propext; omega
      simp [addTo, hi, e, h1]
  · have : k ≠ i := by omega
    simp [addTo, hi, this]
theorem wrap64_bd (x : Int) : -9223372036854775808 ≤ wrap64 x ∧ wrap64 x ≤ 9223372036854775807 := by unfold wrap64; omega
set_option maxHeartbeats 1000000 in
theorem added_any (s t : Sl) (xs ys : List Int) (W : World) (hs : Num W s xs) (ht : Num W t ys) (hl : s.n = t.n) (hap : Ap s t) (h6 : t.n ≤ 65536) :
    Calls Try.prog 44 #[s.v, t.v] W fun e w' => e = .returned s.v ∧ Wrote W w' s ∧ Num w' s (addW xs ys) := by
  obtain ⟨sa, n, sc⟩ := s
  obtain ⟨ta, n', tc⟩ := t
  obtain rfl : n = n' := hl
  simp only at h6
  have HX := hide hs.len
  have HY := hide ht.len
  have HS := hide hs
  have HT := hide ht
  have HA := hide hap
  clear hs ht hap
  unfold Sl.v
  simp only
  go_enter Try.func44, Try.ntmps44
  go_wp2
  go_loopw [9] (fun i wr => ∃ k : Nat, k ≤ n ∧ i = .int .i64 k ∧ Wrote W wr ⟨sa, n, sc⟩ ∧ Num wr ⟨sa, n, sc⟩ (addTo xs ys k)) (fun i _ => n - (intOf i).toNat)
  case atStart => exact ⟨0, Nat.zero_le _, rfl, Wrote.refl _ _, by rw [addTo_zero]; exact HS.out⟩
  case round =>
    obtain ⟨k, hk, rfl, hw, hn⟩ := hrel
    have HW := hide hw
    have HN := hide hn
    clear hw hn
    by_cases hlt : k < n
    · obtain ⟨b, o, e1, z1, c1⟩ := HN.out.at (show 0 < n by omega)
      obtain ⟨b', o', e2, z2, c2⟩ := (HT.out.apart HW.out HA.out).at (show 0 < n by omega)
      simp only at e1 e2
      subst e1 e2
      obtain ⟨cur, hc⟩ := HN.out.blk b ⟨by simp only; omega, o, rfl⟩
      have f1 : wr.frozen? ⟨b, o + k, none⟩ = false := by simp [World.frozen?, hc]
      have d1 := c1 k hlt
      have d2 := c2 k hlt
      have hkx : k < xs.length := by have h1 : xs.length = n := HX.out; omega
      rw [addTo_at xs ys k hkx, if_neg (by omega)] at d1
      obtain ⟨X, hX⟩ : ∃ X, X = xs[k]?.getD 0 := ⟨_, rfl⟩
      obtain ⟨Y, hY⟩ : ∃ Y, Y = ys[k]?.getD 0 := ⟨_, rfl⟩
      rw [← hX] at d1
      rw [← hY] at d2
      have HXX := hide hX
      have HYY := hide hY
      have hkz : (k : Int) < (n : Int) := by omega
      clear c1 c2 hc hX hY
      go_wp2
      go_roundw
      case rel =>
        refine ⟨k + 1, by omega, by go_num, HW.out.put rfl hlt _, ?_⟩
        rw [addTo_set xs ys k hkx, ← HXX.out, ← HYY.out]
        exact HN.out.put rfl hlt (wrap64_bd _)
      case measure => simp [intOf]; omega
    · obtain rfl : k = n := by omega
      go_wp2
      go_ret
      refine ⟨rfl, HW.out, ?_⟩
      have hxy : xs.length = ys.length := by have h1 : xs.length = k := HX.out; have h2 : ys.length = k := HY.out; omega
      have hn := HN.out
      have : k = ys.length := by have h2 : ys.length = k := HY.out; omega
      rw [this, addTo_all xs ys hxy] at hn
      rw [this]
      exact hn
end Go.Proofs.Yticcoacoepajpaa.V
namespace Go.Proofs.Yticcoacoepajpaa.V
open Go Go.RowKit
set_option linter.unusedVariables false
set_option linter.unusedSimpArgs false

/-- Blocks that do not belong to it, and were there, are as they were. -/
structure Wr (F : Nat → Prop) (W V : World) : Prop where
  os : V.os = W.os
  tape : V.tape = W.tape
  output : V.output = W.output
  size : W.heap.size ≤ V.heap.size
  block : ∀ b, b < W.heap.size → ¬ F b → V.heap[b]? = W.heap[b]?
theorem Wr.refl (F : Nat → Prop) (W : World) : Wr F W W := ⟨rfl, rfl, rfl, Nat.le_refl _, fun _ _ _ => rfl⟩
theorem Wr.trans {F : Nat → Prop} {W V U : World} (h : Wr F W V) (k : Wr F V U) : Wr F W U :=
  ⟨k.os.trans h.os, k.tape.trans h.tape, k.output.trans h.output, Nat.le_trans h.size k.size, fun b hb hf => (k.block b (Nat.lt_of_lt_of_le hb h.size) hf).trans (h.block b hb hf)⟩
theorem Wr.of_below {F : Nat → Prop} {W V : World} (h : Below W.heap.size W V) : Wr F W V := ⟨h.os, h.tape, h.output, h.size, fun b hb _ => h.block b hb⟩
theorem Wr.below {F : Nat → Prop} {W V U : World} (h : Wr F W V) (k : Below V.heap.size V U) : Wr F W U := h.trans (Wr.of_below k)
theorem Wr.draws {F : Nat → Prop} {W V : World} (h : Wr F W V) (k : Nat) : Wr F W (V.drewN k) := ⟨h.os, h.tape, h.output, h.size, h.block⟩
theorem Wr.grow {F : Nat → Prop} {W V : World} {F' : Nat → Prop} (h : Wr F' W V) (hF : ∀ b, b < W.heap.size → F' b → F b) : Wr F W V := ⟨h.os, h.tape, h.output, h.size, fun b hb hf => h.block b hb (fun e => hf (hF b hb e))⟩
theorem Wr.set {F : Nat → Prop} {W V : World} (h : Wr F W V) {p : Addr} (hp : F p.block) (v : Value) : Wr F W (V.setCell p v) :=
  ⟨h.os, h.tape, h.output, by simp [World.setCell]; exact h.size, fun b hb hf => by
    have hne : b ≠ p.block := fun e => hf (by rw [e]; exact hp)
    rw [Below.heap_setCell _ _ _ _ hne]
    exact h.block b hb hf⟩
theorem Wr.put {F : Nat → Prop} {W V : World} (h : Wr F W V) {b : Nat} {o : Obj} (hp : F b) : Wr F W { V with heap := V.heap.setIfInBounds b o } :=
  ⟨h.os, h.tape, h.output, by simp; exact h.size, fun b' hb hf => by
    show (V.heap.setIfInBounds b o)[b']? = _
    have hne : b' ≠ b := fun e => hf (by rw [e]; exact hp)
    rw [keep_set hne]
    exact h.block b' hb hf⟩
theorem Wr.wrote {F : Nat → Prop} {W V U : World} {s : Sl} (h : Wr F W V) (k : Wrote V U s) (hs : ∀ b, s.On b → F b) : Wr F W U :=
  ⟨k.os.trans h.os, k.tape.trans h.tape, k.output.trans h.output, by rw [k.size]; exact h.size, fun b hb hf => (k.block b (fun e => hf (hs b e))).trans (h.block b hb hf)⟩

theorem sl_v_inj {x y : Sl} (h : x.v = y.v) : x = y := by
  cases x; cases y
  simp only [Sl.v, Value.slice.injEq] at h
  obtain ⟨rfl, rfl, rfl⟩ := h
  rfl
/-- What is early matters only from the next note on. -/
theorem MbAt.early {W : World} {F : Nat → Prop} {g d n me : Nat} {s : St} {G : Gh} (h : MbAt W F g d n me s G) (E : List (Nat × List Int)) (hE : ∀ t, s.taken ≤ t → lookL t E = lookL t s.early) : MbAt W F g d n me { s with early := E } G :=
  ⟨h.blk, h.rd, h.map, h.rowS, h.rowH, h.same, h.other, h.fg, h.fra, h.feb, h.fhs, h.fhh, h.snd, h.has, h.apt, fun t xs ht => by
    show lookL t E = some xs ↔ _
    rw [hE t ht]; exact h.mem t xs ht, h.mon, h.map2⟩
/-- A list's words stand in blocks that are no map. -/
theorem Num.keepMap {W : World} {b : Nat} {M : List (Int × Value)} {s : Sl} {xs : List Int} (h : Num W s xs) (hm : MpAt W b M) (o : Obj) : Num { W with heap := W.heap.setIfInBounds b o } s xs := h.keep fun b' hO => by
  obtain ⟨cur, hc⟩ := h.blk b' hO
  exact keep_set (hm.ne hc)
/-- Only the map's block has changed. -/
theorem MbAt.reMap {W : World} {F : Nat → Prop} {g d n me : Nat} {s : St} {G : Gh} (h : MbAt W F g d n me s G) (o : Obj) (M' : List (Int × Value)) (E : List (Nat × List Int)) (hm : MpAt { W with heap := W.heap.setIfInBounds G.eb o } G.eb M')
    (hmem : ∀ (t : Nat) (xs : List Int), s.taken ≤ t → (lookL t E = some xs ↔ ∃ x : Sl, lkM (t : Int) M' = some x.v ∧ Num W x xs))
    (hmon : ∀ (t : Int) (v : Value), lkM t M' = some v → ∃ (x : Sl) (xs : List Int), v = x.v ∧ Num W x xs ∧ (∀ b, x.On b → F b) ∧ (∀ k, k < n → Ap x (G.Sh k)) ∧ (s.taken : Int) ≤ t ∧ t < notN d n)
    (hmap2 : ∀ (t t' : Int) (x y : Sl), t ≠ t' → lkM t M' = some x.v → lkM t' M' = some y.v → Ap x y) :
    MbAt { W with heap := W.heap.setIfInBounds G.eb o } F g d n me { s with early := E } { G with M := M' } := by
  have ne : ∀ {b : Nat} {cur : Array Value} {ty : TypeId} {f : Nat × Nat}, W.heap[b]? = some (.cells cur ty f) → (W.heap.setIfInBounds G.eb o)[b]? = W.heap[b]? := fun hb => keep_set (h.map.ne hb)
  have nk : ∀ {x : Sl} {xs : List Int}, Num W x xs → Num { W with heap := W.heap.setIfInBounds G.eb o } x xs := fun hx => hx.keepMap h.map o
  refine ⟨(ne h.blk).trans h.blk, ?_, hm, ?_, ?_, h.same, h.other, h.fg, h.fra, h.feb, h.fhs, h.fhh, fun k hk => ⟨nk (h.snd k hk).1, (h.snd k hk).2⟩, fun k hk => ⟨fun hK => nk ((h.has k hk).1 hK), fun b hO => ⟨((h.has k hk).2 b hO).1, by simpa using ((h.has k hk).2 b hO).2⟩⟩, h.apt, fun t xs ht => ?_, fun t v hv => ?_, hmap2⟩
  · obtain ⟨cur, h1, h2⟩ := h.rd
    exact ⟨cur, (ne h1).trans h1, h2⟩
  · obtain ⟨cur, h1, h2⟩ := h.rowS
    exact ⟨cur, (ne h1).trans h1, h2⟩
  · obtain ⟨cur, h1, h2⟩ := h.rowH
    exact ⟨cur, (ne h1).trans h1, h2⟩
  · rw [show lookL t ({ s with early := E } : St).early = lookL t E from rfl, hmem t xs ht]
    refine ⟨fun ⟨x, h1, h2⟩ => ⟨x, h1, nk h2⟩, fun ⟨x, h1, h2⟩ => ⟨x, h1, ?_⟩⟩
    obtain ⟨y, ys, e, h3, _⟩ := hmon t _ h1
    obtain rfl := sl_v_inj e
    have : ys = xs := by
      have h4 := nk h3
      have l1 := h4.len
      have l2 := h2.len
      apply List.ext_getElem (l1.trans l2.symm)
      intro i hi1 hi2
      have h0 : 0 < x.n := by omega
      obtain ⟨b, off, e1, _, c1⟩ := h4.at h0
      obtain ⟨b', off', e2, _, c2⟩ := h2.at h0
      rw [e1] at e2
      simp only [Option.some.injEq, Addr.mk.injEq] at e2
      obtain ⟨rfl, rfl, _⟩ := e2
      have := (c1 i (by omega)).symm.trans (c2 i (by omega))
      simp [hi1, hi2] at this
      exact this
    rw [← this]
    exact h3
  · obtain ⟨x, xs, e, h1, h2⟩ := hmon t v hv
    exact ⟨x, xs, e, nk h1, h2⟩
theorem num_same {W : World} {x : Sl} {xs ys : List Int} (h : Num W x xs) (k : Num W x ys) : xs = ys := by
  have l1 := h.len
  have l2 := k.len
  apply List.ext_getElem (l1.trans l2.symm)
  intro i hi1 hi2
  obtain ⟨b, off, e1, _, c1⟩ := h.at (by omega)
  obtain ⟨b', off', e2, _, c2⟩ := k.at (by omega)
  rw [e1] at e2
  simp only [Option.some.injEq, Addr.mk.injEq] at e2
  obtain ⟨rfl, rfl, _⟩ := e2
  have := (c1 i (by omega)).symm.trans (c2 i (by omega))
  simp [hi1, hi2] at this
  exact this
def dropE (k : Nat) : List (Nat × List Int) → List (Nat × List Int)
  | [] => []
  | x :: l => if x.1 = k then dropE k l else x :: dropE k l
theorem look_drop (t k : Nat) : ∀ l, lookL t (dropE k l) = if t = k then none else lookL t l
  | [] => by simp [dropE, lookL]
  | x :: l => by
    unfold dropE
    by_cases h : x.1 = k
    · rw [if_pos h, look_drop t k l]
      by_cases e : t = k
      · rw [if_pos e, if_pos e]
      · rw [if_neg e, if_neg e]
        conv => rhs; unfold lookL
        rw [if_neg (fun h' => e (h'.symm.trans h))]
    · rw [if_neg h]
      conv => lhs; unfold lookL
      conv => rhs; unfold lookL
      rw [look_drop t k l]
      by_cases e : t = k
      · rw [if_pos e, if_pos e, if_neg (fun h' => h (h'.trans e))]
      · rw [if_neg e, if_neg e]
/-- T1: an entry is taken out of the map. -/
theorem MbAt.delete {W : World} {F : Nat → Prop} {g d n me : Nat} {s : St} {G : Gh} (h : MbAt W F g d n me s G) (o : Obj) (k : Nat) (hm : MpAt { W with heap := W.heap.setIfInBounds G.eb o } G.eb (dlM (k : Int) G.M)) :
    MbAt { W with heap := W.heap.setIfInBounds G.eb o } F g d n me { s with early := dropE k s.early } { G with M := dlM (k : Int) G.M } := by
  have hl : ∀ t : Int, lkM t (dlM (k : Int) G.M) = if t = (k : Int) then none else lkM t G.M := fun t => lk_dl t k G.M h.map.2
  refine h.reMap o _ _ hm (fun t xs ht => ?_) (fun t v hv => ?_) (fun t t' x y hne h1 h2 => ?_)
  · rw [look_drop, hl]
    by_cases e : t = k
    · rw [if_pos e, if_pos (by omega)]
      exact ⟨fun h => (by cases h), fun ⟨x, h, _⟩ => (by cases h)⟩
    · rw [if_neg e, if_neg (by omega)]
      exact h.mem t xs ht
  · rw [hl] at hv
    by_cases e : t = (k : Int)
    · rw [if_pos e] at hv; cases hv
    · rw [if_neg e] at hv
      exact h.mon t v hv
  · rw [hl] at h1 h2
    by_cases e : t = (k : Int)
    · rw [if_pos e] at h1; cases h1
    · by_cases e' : t' = (k : Int)
      · rw [if_pos e'] at h2; cases h2
      · rw [if_neg e] at h1
        rw [if_neg e'] at h2
        exact h.map2 t t' x y hne h1 h2
theorem look_snoc (t k : Nat) (ys : List Int) : ∀ l, lookL t (l ++ [(k, ys)]) = match lookL t l with | some z => some z | none => if k = t then some ys else none
  | [] => by simp [lookL]
  | x :: l => by
    show lookL t (x :: (l ++ [(k, ys)])) = _
    unfold lookL
    by_cases h : x.1 = t
    · rw [if_pos h, if_pos h]
    · rw [if_neg h, if_neg h]; exact look_snoc t k ys l
/-- T4: an entry is put into the map. -/
theorem MbAt.insert {W : World} {F : Nat → Prop} {g d n me : Nat} {s : St} {G : Gh} (h : MbAt W F g d n me s G) (o : Obj) (k : Nat) (x : Sl) (xs : List Int) (hm : MpAt { W with heap := W.heap.setIfInBounds G.eb o } G.eb (ptM (k : Int) x.v G.M))
    (hk1 : s.taken ≤ k) (hk2 : k < notN d n) (hno : lkM (k : Int) G.M = none) (hx : Num W x xs) (hF : ∀ b, x.On b → F b) (hap : ∀ j, j < n → Ap x (G.Sh j)) (hap2 : ∀ (t : Int) (y : Sl), lkM t G.M = some y.v → Ap x y) :
    MbAt { W with heap := W.heap.setIfInBounds G.eb o } F g d n me { s with early := s.early ++ [(k, xs)] } { G with M := ptM (k : Int) x.v G.M } := by
  have hl : ∀ t : Int, lkM t (ptM (k : Int) x.v G.M) = if t = (k : Int) then some x.v else lkM t G.M := fun t => lk_pt t k x.v G.M
  have hnl : lookL k s.early = none := by
    cases hq : lookL k s.early with
    | none => rfl
    | some zs =>
      obtain ⟨z, h5, _⟩ := (h.mem k zs hk1).1 hq
      rw [hno] at h5
      cases h5
  refine h.reMap o _ _ hm (fun t ys ht => ?_) (fun t v hv => ?_) (fun t t' y z hne h1 h2 => ?_)
  · rw [look_snoc, hl]
    by_cases e : t = k
    · subst e
      rw [hnl, if_pos rfl, if_pos rfl]
      refine ⟨fun e => ⟨x, rfl, by cases e; exact hx⟩, fun ⟨y, e, hy⟩ => ?_⟩
      have := sl_v_inj (Option.some.inj e)
      subst this
      exact congrArg some (num_same hx hy)
    · rw [if_neg (by omega : ¬ (t : Int) = (k : Int)), ← h.mem t ys ht]
      cases lookL t s.early with
      | some z => exact Iff.rfl
      | none =>
        simp only
        rw [if_neg (Ne.symm e)]
  · rw [hl] at hv
    by_cases e : t = (k : Int)
    · rw [if_pos e] at hv
      cases hv
      exact ⟨x, xs, rfl, hx, hF, hap, by omega, by omega⟩
    · rw [if_neg e] at hv
      exact h.mon t v hv
  · rw [hl] at h1 h2
    by_cases e : t = (k : Int)
    · by_cases e' : t' = (k : Int)
      · exact absurd (e.trans e'.symm) hne
      · rw [if_pos e] at h1
        rw [if_neg e'] at h2
        have := sl_v_inj (Option.some.inj h1)
        subst this
        exact hap2 t' z h2
    · rw [if_neg e] at h1
      by_cases e' : t' = (k : Int)
      · rw [if_pos e'] at h2
        have := sl_v_inj (Option.some.inj h2)
        subst this
        exact (hap2 t y h1).symm
      · rw [if_neg e'] at h2
        exact h.map2 t t' y z hne h1 h2
theorem prt_set {P : List (List Int)} {p : Nat} (hp : p < P.length) (ys : List Int) (k : Nat) : prt (P.set p ys) k = if k = p then ys else prt P k := by
  unfold prt
  rw [List.getElem?_set]
  by_cases e : p = k
  · subst e; rw [if_pos rfl, if_pos hp, if_pos rfl]; rfl
  · rw [if_neg e, if_neg (Ne.symm e)]
/-- What the map's lists are, in a world in which they stand as before. -/
theorem mem_keep {W V : World} {M : List (Int × Value)} {t : Int} (hk : ∀ (x : Sl) (xs : List Int), lkM t M = some x.v → Num W x xs → Num V x xs) (hm : ∀ v, lkM t M = some v → ∃ (x : Sl) (xs : List Int), v = x.v ∧ Num W x xs) (ys : List Int) :
    (∃ x : Sl, lkM t M = some x.v ∧ Num W x ys) ↔ ∃ x : Sl, lkM t M = some x.v ∧ Num V x ys := by
  refine ⟨fun ⟨x, h1, h2⟩ => ⟨x, h1, hk x ys h1 h2⟩, fun ⟨x, h1, h2⟩ => ⟨x, h1, ?_⟩⟩
  obtain ⟨y, zs, e, h3⟩ := hm _ h1
  obtain rfl := sl_v_inj e
  rw [num_same h2 (hk x zs h1 h3)]
  exact h3
/-- T2: words were added in place. -/
theorem MbAt.added {W V : World} {F : Nat → Prop} {g d n me : Nat} {s : St} {G : Gh} (h : MbAt W F g d n me s G) (hd : d ≠ 4) {p : Nat} (hp : p < n) (hlp : s.parts.length = n) (hw : Wrote W V (G.Sh p)) (ys : List Int) (hn : Num V (G.Sh p) ys) :
    MbAt V F g d n me { s with parts := s.parts.set p ys } G := by
  have hN : Num W (G.Sh p) (prt s.parts p) := (h.has p hp).1 (.inl hd)
  have nb : ∀ {b : Nat} {cur : Array Value} {ty : TypeId}, W.heap[b]? = some (.cells cur ty (0, 0)) → ty ≠ 2 → V.heap[b]? = W.heap[b]? := fun {b cur ty} hb ht => hw.block b (fun hO => by
    obtain ⟨cur', hc⟩ := hN.blk b hO
    rw [hb] at hc
    simp only [Option.some.injEq, Obj.cells.injEq] at hc
    exact ht hc.2.1)
  have nm : V.heap[G.eb]? = W.heap[G.eb]? := hw.block _ (fun hO => by
    obtain ⟨cur', hc⟩ := hN.blk _ hO
    exact h.map.ne hc rfl)
  have kp : ∀ (t : Int) (x : Sl) (xs : List Int), lkM t G.M = some x.v → Num W x xs → Num V x xs := fun t x xs hx hN' => by
    obtain ⟨y, ys', e, h3, _, h5, _⟩ := h.mon t _ hx
    obtain rfl := sl_v_inj e
    exact hN'.apart hw (h5 p hp).symm
  refine ⟨(nb h.blk (by decide)).trans h.blk, ?_, h.map.keep nm, ?_, ?_, h.same, h.other, h.fg, h.fra, h.feb, h.fhs, h.fhh, fun k hk => ?_, fun k hk => ?_, h.apt, fun t xs ht => ?_, fun t v hv => ?_, h.map2⟩
  · obtain ⟨cur, h1, h2⟩ := h.rd
    exact ⟨cur, (nb h1 (by decide)).trans h1, h2⟩
  · obtain ⟨cur, h1, h2⟩ := h.rowS
    exact ⟨cur, (nb h1 (by decide)).trans h1, h2⟩
  · obtain ⟨cur, h1, h2⟩ := h.rowH
    exact ⟨cur, (nb h1 (by decide)).trans h1, h2⟩
  · refine ⟨?_, (h.snd k hk).2⟩
    rw [(h.same hd).2, if_neg hd]
    show Num V (G.Sh k) (prt (s.parts.set p ys) k)
    rw [prt_set (by omega)]
    by_cases e : k = p
    · rw [if_pos e, e]; exact hn
    · rw [if_neg e]
      exact ((h.has k hk).1 (.inl hd)).apart hw (h.apt p k hp hk (Ne.symm e))
  · refine ⟨fun _ => ?_, fun b hO => ⟨((h.has k hk).2 b hO).1, by rw [hw.size]; exact ((h.has k hk).2 b hO).2⟩⟩
    show Num V (G.Sh k) (prt (s.parts.set p ys) k)
    rw [prt_set (by omega)]
    by_cases e : k = p
    · rw [if_pos e, e]; exact hn
    · rw [if_neg e]
      exact ((h.has k hk).1 (.inl hd)).apart hw (h.apt p k hp hk (Ne.symm e))
  · rw [show lookL t ({ s with parts := s.parts.set p ys } : St).early = lookL t s.early from rfl, h.mem t xs ht]
    refine mem_keep (kp t) (fun v hv => ?_) xs
    obtain ⟨x, xs', e, h1, _⟩ := h.mon t v hv
    exact ⟨x, xs', e, h1⟩
  · obtain ⟨x, xs, e, h1, h2⟩ := h.mon t v hv
    exact ⟨x, xs, e, kp t x xs (by rw [hv, e]) h1, h2⟩
/-- T2: other words stand in the place of a piece. -/
theorem MbAt.instead {W : World} {F : Nat → Prop} {g d n me : Nat} {s : St} {G : Gh} (h : MbAt W F g d n me s G) {p : Nat} (hp : p < n) (hlp : s.parts.length = n) (x : Sl) (xs : List Int) (hx : Num W x xs) (hF : ∀ b, x.On b → F b) (hap : ∀ j, j < n → Ap x (G.Sh j)) (hap2 : ∀ (t : Int) (y : Sl), lkM t G.M = some y.v → Ap x y) :
    MbAt (W.setCell ⟨G.hh, p, none⟩ x.v) F g d n me { s with parts := s.parts.set p xs } { G with Sh := upS G.Sh p x, Ss := if d = 4 then G.Ss else upS G.Ss p x } := by
  have nb : ∀ {b : Nat}, b ≠ G.hh → (W.setCell ⟨G.hh, p, none⟩ x.v).heap[b]? = W.heap[b]? := fun hb => Below.heap_setCell _ _ _ _ hb
  have nh : ∀ {b : Nat} {cur : Array Value} {ty : TypeId}, W.heap[b]? = some (.cells cur ty (0, 0)) → ty ≠ 24 → b ≠ G.hh := fun {b cur ty} hb ht e => by
    obtain ⟨cur', hc, _⟩ := h.rowH
    rw [e, hc] at hb
    simp only [Option.some.injEq, Obj.cells.injEq] at hb
    exact ht hb.2.1.symm
  have nm : G.eb ≠ G.hh := fun e => by
    obtain ⟨cur', hc, _⟩ := h.rowH
    exact h.map.ne hc e.symm
  have nk : ∀ {y : Sl} {ys : List Int}, Num W y ys → Num (W.setCell ⟨G.hh, p, none⟩ x.v) y ys := fun hy => hy.keep fun b hO => nb (h.rowH.ne hy hO)
  have hup : ∀ k, k < n → (Known d n me s.taken k ∨ k = p) → Num (W.setCell ⟨G.hh, p, none⟩ x.v) (upS G.Sh p x k) (prt (s.parts.set p xs) k) := fun k hk hK => by
    rw [prt_set (by omega)]
    unfold upS
    by_cases e : k = p
    · rw [if_pos e, if_pos e]; exact nk hx
    · rw [if_neg e, if_neg e]
      exact nk ((h.has k hk).1 (hK.resolve_right e))
  refine ⟨(nb (nh h.blk (by decide))).trans h.blk, ?_, h.map.keep (nb nm), ?_, h.rowH.set hp x, ?_, h.other, h.fg, h.fra, h.feb, h.fhs, h.fhh, fun k hk => ?_, fun k hk => ?_, fun i j hi hj hne => ?_, fun t ys ht => ?_, fun t v hv => ?_, h.map2⟩
  · obtain ⟨cur, h1, h2⟩ := h.rd
    exact ⟨cur, (nb (nh h1 (by decide))).trans h1, h2⟩
  · by_cases hd : d = 4
    · simp only [if_pos hd]
      exact h.rowS.keep (nb (h.other hd))
    · simp only [if_neg hd]
      have e := (h.same hd).1
      have := h.rowS.set hp x
      rw [e] at this ⊢
      exact this
  · intro hd
    refine ⟨(h.same hd).1, ?_⟩
    simp only [if_neg hd, (h.same hd).2]
  · by_cases hd : d = 4
    · simp only [if_pos hd]
      have := h.snd k hk
      rw [if_pos hd] at this
      exact ⟨nk this.1, this.2⟩
    · simp only [if_neg hd]
      rw [(h.same hd).2]
      refine ⟨hup k hk (.inl (.inl hd)), fun b hO => ?_⟩
      unfold upS at hO
      by_cases e : k = p
      · rw [if_pos e] at hO; exact hF b hO
      · rw [if_neg e] at hO; exact ((h.has k hk).2 b hO).1
  · refine ⟨fun hK => hup k hk (.inl hK), fun b hO => ?_⟩
    have sz : (W.setCell ⟨G.hh, p, none⟩ x.v).heap.size = W.heap.size := by simp [World.setCell]
    rw [sz]
    simp only [upS] at hO
    by_cases e : k = p
    · rw [if_pos e] at hO; exact ⟨hF b hO, hx.lt hO⟩
    · rw [if_neg e] at hO; exact (h.has k hk).2 b hO
  · simp only [upS]
    by_cases e1 : i = p
    · rw [if_pos e1, if_neg (fun e => hne (e1.trans e.symm))]
      exact hap j hj
    · rw [if_neg e1]
      by_cases e2 : j = p
      · rw [if_pos e2]; exact (hap i hi).symm
      · rw [if_neg e2]; exact h.apt i j hi hj hne
  · rw [show lookL t ({ s with parts := s.parts.set p xs } : St).early = lookL t s.early from rfl, h.mem t ys ht]
    refine mem_keep (fun y zs _ hy => nk hy) (fun v hv => ?_) ys
    obtain ⟨y, ys', e, h1, _⟩ := h.mon t v hv
    exact ⟨y, ys', e, h1⟩
  · obtain ⟨y, ys, e, h1, h2, h3, h4⟩ := h.mon t v hv
    refine ⟨y, ys, e, nk h1, h2, fun k hk => ?_, h4⟩
    simp only [upS]
    by_cases e' : k = p
    · rw [if_pos e']; exact (hap2 t y (by rw [hv, e])).symm
    · rw [if_neg e']; exact h3 k hk
/-- A cell of the member itself changes. -/
theorem MbAt.own {W : World} {F : Nat → Prop} {g d n me : Nat} {s s' : St} {G : Gh} (h : MbAt W F g d n me s G) (i : Nat) (v : Value) (hL : (mbL d n me s G).toArray.setIfInBounds i v = (mbL d n me s' G).toArray) (ho : s'.own = s.own) (hp : s'.parts = s.parts) (he : s'.early = s.early) (ht : s.taken ≤ s'.taken)
    (hmon : ∀ t v, lkM t G.M = some v → (s'.taken : Int) ≤ t) (hkn : ∀ k, k < n → Known d n me s'.taken k → Num W (G.Sh k) (prt s.parts k)) : MbAt (W.setCell ⟨g, i, none⟩ v) F g d n me s' G := by
  have nb : ∀ {b : Nat}, b ≠ g → (W.setCell ⟨g, i, none⟩ v).heap[b]? = W.heap[b]? := fun hb => Below.heap_setCell _ _ _ _ hb
  have nh : ∀ {b : Nat} {cur : Array Value} {ty : TypeId}, W.heap[b]? = some (.cells cur ty (0, 0)) → ty ≠ 84 → b ≠ g := fun {b cur ty} hb ht e => by
    rw [e, h.blk] at hb
    simp only [Option.some.injEq, Obj.cells.injEq] at hb
    exact ht hb.2.1.symm
  have nm : G.eb ≠ g := fun e => h.map.ne h.blk e.symm
  have nk : ∀ {y : Sl} {ys : List Int}, Num W y ys → Num (W.setCell ⟨g, i, none⟩ v) y ys := fun hy => hy.keep fun b hO => by
    obtain ⟨cur, hc⟩ := hy.blk b hO
    exact nb (nh hc (by decide))
  refine ⟨?_, ?_, h.map.keep (nb nm), ?_, ?_, h.same, h.other, h.fg, h.fra, h.feb, h.fhs, h.fhh, fun k hk => ?_, fun k hk => ?_, h.apt, fun t ys ht' => ?_, fun t v' hv => ?_, h.map2⟩
  · rw [← hL]
    simp [World.setCell, Array.getElem?_modify, h.blk]
  · obtain ⟨cur, h1, h2⟩ := h.rd
    exact ⟨cur, (nb (nh h1 (by decide))).trans h1, h2⟩
  · obtain ⟨cur, h1, h2⟩ := h.rowS
    exact ⟨cur, (nb (nh h1 (by decide))).trans h1, h2⟩
  · obtain ⟨cur, h1, h2⟩ := h.rowH
    exact ⟨cur, (nb (nh h1 (by decide))).trans h1, h2⟩
  · rw [ho, hp]; exact ⟨nk (h.snd k hk).1, (h.snd k hk).2⟩
  · rw [hp]
    exact ⟨fun hK => nk (hkn k hk hK), fun b hO => ⟨((h.has k hk).2 b hO).1, by simpa [World.setCell] using ((h.has k hk).2 b hO).2⟩⟩
  · rw [he, h.mem t ys (Nat.le_trans ht ht')]
    refine mem_keep (fun y zs _ hy => nk hy) (fun v hv => ?_) ys
    obtain ⟨y, ys', e, h1, _⟩ := h.mon t v hv
    exact ⟨y, ys', e, h1⟩
  · obtain ⟨y, ys, e, h1, h2, h3, h4, h5⟩ := h.mon t v' hv
    exact ⟨y, ys, e, nk h1, h2, h3, hmon t v' hv, h5⟩
/-- T3: one note more was used. -/
theorem MbAt.used {W : World} {F : Nat → Prop} {g d n me : Nat} {s : St} {G : Gh} (h : MbAt W F g d n me s G) (hno : lkM (s.taken : Int) G.M = none) (hkn : d = 4 → ∀ k, k < n → k = fromN d n me s.taken → Num W (G.Sh k) (prt s.parts k)) :
    MbAt (W.setCell ⟨g, 10, none⟩ (.int .i64 ((s.taken : Int) + 1))) F g d n me { s with taken := s.taken + 1 } G := by
  refine h.own 10 _ ?_ rfl rfl rfl (Nat.le_succ _) (fun t v hv => ?_) (fun k hk hK => ?_)
  · simp [mbL, kindL]
  · obtain ⟨x, xs, e, h1, h2, h3, h4, h5⟩ := h.mon t v hv
    have : t ≠ (s.taken : Int) := fun e => by rw [e, hno] at hv; cases hv
    show ((s.taken + 1 : Nat) : Int) ≤ t
    omega
  · by_cases hd : d = 4
    · rcases hK with hK | hK | ⟨t, ht, hK⟩
      · exact absurd hd hK
      · exact (h.has k hk).1 (.inr (.inl hK))
      · by_cases e : t = s.taken
        · exact hkn hd k hk (by rw [hK, e])
        · exact (h.has k hk).1 (.inr (.inr ⟨t, by simp only at ht; omega, hK⟩))
    · exact (h.has k hk).1 (.inl hd)
/-- T5: one note more was sent. -/
theorem MbAt.sends {W : World} {F : Nat → Prop} {g d n me : Nat} {s : St} {G : Gh} (h : MbAt W F g d n me s G) :
    MbAt (W.setCell ⟨g, 9, none⟩ (.int .i64 ((s.sent : Int) + 1))) F g d n me { s with sent := s.sent + 1 } G := by
  refine h.own 9 _ ?_ rfl rfl rfl (Nat.le_refl _) (fun t v hv => ?_) (fun k hk hK => (h.has k hk).1 hK)
  · simp [mbL, kindL]
  · obtain ⟨x, xs, e, h1, h2, h3, h4, h5⟩ := h.mon t v hv
    exact h4
end Go.Proofs.Yticcoacoepajpaa.V
namespace Go.Proofs.Yticcoacoepajpaa.V
open Go Go.RowKit
set_option linter.unusedVariables false
set_option linter.unusedSimpArgs false

theorem below_draws {B : Nat} {a w : World} (h : Below B a w) (k : Nat) : Below B a (w.drewN k) := ⟨h.os, h.tape, h.output, h.size, h.block⟩
set_option maxHeartbeats 2000000 in
theorem comes_1a (g : Nat) (F : Nat → Prop) (n me : Nat) (s : St) (G : Gh) (W : World) (h : MbAt W F g 1 n me s G) (h2 : 2 ≤ n) (h16 : n ≤ 16) (hme : me < n) (t : Nat) (ht : t < notN 1 n) (hR : t / (n - 1) = 0) :
    Calls Try.prog 58 #[pm g, .int .i64 t] W fun e w' => e = .returned (.tuple #[.int .i64 (fromN 1 n me t : Nat), .int .i64 (sendN 1 n (fromN 1 n me t) t : Nat)]) ∧ Below W.heap.size W w' := by
  have hlt : t % (n - 1) < n - 1 := Nat.mod_lt _ (by omega)
  have hTt : t % (n - 1) + (n - 1) * 0 = t := by have := Nat.mod_add_div t (n - 1); rw [hR] at this; exact this
  have hr := round_any g F 1 n me s G W h h2 h16 t ht
  rw [hR] at hr
  obtain ⟨T, hT⟩ : ∃ T, T = t % (n - 1) := ⟨_, rfl⟩
  rw [← hT] at hlt hTt hr
  have HR := hide hr
  have HM : Hid (∀ V, Below W.heap.size W V → MbAt V F g 1 n me s G) := fun V hV => h.below hV
  obtain ⟨⟨-, -, -, -, -⟩, ⟨-, c8, -⟩, z0, -⟩ := mb_cells h
  obtain ⟨A, hA⟩ : ∃ A, A = modI ((me : Int) - 1) n := ⟨_, rfl⟩
  have eA : fromN 1 n me t = A := by rw [hA]; unfold fromN; rw [if_neg (by decide)]
  have hAl : A < n := by rw [hA]; exact modI_lt (by omega) _
  obtain ⟨P, hP⟩ : ∃ P, P = modI ((A : Int) - T - 1) n := ⟨_, rfl⟩
  have eP : sendN 1 n A t = P := by rw [hP]; unfold sendN; rw [if_neg (by decide), if_neg (by decide), if_neg (by omega), show t = T by omega]
  rw [eA, eP]
  have HA := hide hA
  have HP := hide hP
  have q1 : wrap64 ((me : Int) - 1) = (me : Int) - 1 := wrap_small (by omega) (by omega)
  clear hA hP eA eP hr hT h hR hTt ht
  unfold fv at HR
  unfold pm at HR ⊢
  simp only [show farF 1 0 = 42 from rfl, show pceF 1 0 = 43 from rfl] at HR
  go_enter Try.func58, Try.ntmps58
  go_wp2_with (go_at_call 33; refine HR.out.mono ?_; rintro e w1 ⟨rfl, hb⟩; have HB := hide hb; have c81 := (hb.cell (p := ⟨g, 8, none⟩) z0).trans c8; have z1 : g < w1.heap.size := Nat.lt_of_lt_of_le z0 hb.size; clear hb)
  go_quiet (first
    | (go_at_call 42; exact Calls.quiet_of_same (k1_any _ _))
    | (go_at_call 34; exact Calls.quiet_of (number_any g F 1 n me s G _ (HM.out _ (below_draws (HB.out.alloc HB.out.size _) _)) (by omega) h16 _)))
  rw [← HA.out]
  go_wp2_with (first
    | (go_at_call 43; refine (k2_any _ _ _ (by omega) (by omega)).mono ?_; rintro e w' ⟨rfl, rfl⟩)
    | (go_at_call 34; refine (number_any g F 1 n me s G _ (HM.out _ (below_draws (HB.out.alloc HB.out.size _) _)) (by omega) h16 _).mono ?_; rintro e w' ⟨rfl, kk, rfl⟩))
  rw [← HP.out]
  go_ret2
  exact ⟨rfl, below_draws (HB.out.alloc HB.out.size _) _⟩
set_option maxHeartbeats 2000000 in
theorem comes_1b (g : Nat) (F : Nat → Prop) (n me : Nat) (s : St) (G : Gh) (W : World) (h : MbAt W F g 1 n me s G) (h2 : 2 ≤ n) (h16 : n ≤ 16) (hme : me < n) (t : Nat) (ht : t < notN 1 n) (hR : t / (n - 1) = 1) :
    Calls Try.prog 58 #[pm g, .int .i64 t] W fun e w' => e = .returned (.tuple #[.int .i64 (fromN 1 n me t : Nat), .int .i64 (sendN 1 n (fromN 1 n me t) t : Nat)]) ∧ Below W.heap.size W w' := by
  have hlt : t % (n - 1) < n - 1 := Nat.mod_lt _ (by omega)
  have hTt : t % (n - 1) + (n - 1) * 1 = t := by have := Nat.mod_add_div t (n - 1); rw [hR] at this; exact this
  have hr := round_any g F 1 n me s G W h h2 h16 t ht
  rw [hR] at hr
  obtain ⟨T, hT⟩ : ∃ T, T = t % (n - 1) := ⟨_, rfl⟩
  rw [← hT] at hlt hTt hr
  have HR := hide hr
  have HM : Hid (∀ V, Below W.heap.size W V → MbAt V F g 1 n me s G) := fun V hV => h.below hV
  obtain ⟨⟨-, -, -, -, -⟩, ⟨-, c8, -⟩, z0, -⟩ := mb_cells h
  obtain ⟨A, hA⟩ : ∃ A, A = modI ((me : Int) - 1) n := ⟨_, rfl⟩
  have eA : fromN 1 n me t = A := by rw [hA]; unfold fromN; rw [if_neg (by decide)]
  have hAl : A < n := by rw [hA]; exact modI_lt (by omega) _
  obtain ⟨P, hP⟩ : ∃ P, P = modI ((A : Int) - T) n := ⟨_, rfl⟩
  have eP : sendN 1 n A t = P := by rw [hP]; unfold sendN; rw [if_neg (by decide), if_neg (by decide), if_pos ⟨rfl, by omega⟩, show (A : Int) - ((t : Int) - ((n : Int) - 1)) = (A : Int) - T by omega]
  rw [eA, eP]
  have HA := hide hA
  have HP := hide hP
  have q1 : wrap64 ((me : Int) - 1) = (me : Int) - 1 := wrap_small (by omega) (by omega)
  clear hA hP eA eP hr hT h hR hTt ht
  unfold fv at HR
  unfold pm at HR ⊢
  simp only [show farF 1 1 = 42 from rfl, show pceF 1 1 = 45 from rfl] at HR
  go_enter Try.func58, Try.ntmps58
  go_wp2_with (go_at_call 33; refine HR.out.mono ?_; rintro e w1 ⟨rfl, hb⟩; have HB := hide hb; have c81 := (hb.cell (p := ⟨g, 8, none⟩) z0).trans c8; have z1 : g < w1.heap.size := Nat.lt_of_lt_of_le z0 hb.size; clear hb)
  go_quiet (first
    | (go_at_call 42; exact Calls.quiet_of_same (k1_any _ _))
    | (go_at_call 34; exact Calls.quiet_of (number_any g F 1 n me s G _ (HM.out _ (below_draws (HB.out.alloc HB.out.size _) _)) (by omega) h16 _)))
  rw [← HA.out]
  go_wp2_with (first
    | (go_at_call 45; refine (k3_any _ _ _ (by omega) (by omega)).mono ?_; rintro e w' ⟨rfl, rfl⟩)
    | (go_at_call 34; refine (number_any g F 1 n me s G _ (HM.out _ (below_draws (HB.out.alloc HB.out.size _) _)) (by omega) h16 _).mono ?_; rintro e w' ⟨rfl, kk, rfl⟩))
  rw [← HP.out]
  go_ret2
  exact ⟨rfl, below_draws (HB.out.alloc HB.out.size _) _⟩
set_option maxHeartbeats 2000000 in
theorem comes_2 (g : Nat) (F : Nat → Prop) (n me : Nat) (s : St) (G : Gh) (W : World) (h : MbAt W F g 2 n me s G) (h2 : 2 ≤ n) (h16 : n ≤ 16) (hme : me < n) (t : Nat) (ht : t < notN 2 n) (hR : t / (n - 1) = 0) :
    Calls Try.prog 58 #[pm g, .int .i64 t] W fun e w' => e = .returned (.tuple #[.int .i64 (fromN 2 n me t : Nat), .int .i64 (sendN 2 n (fromN 2 n me t) t : Nat)]) ∧ Below W.heap.size W w' := by
  have hlt : t % (n - 1) < n - 1 := Nat.mod_lt _ (by omega)
  have hTt : t % (n - 1) + (n - 1) * 0 = t := by have := Nat.mod_add_div t (n - 1); rw [hR] at this; exact this
  have hr := round_any g F 2 n me s G W h h2 h16 t ht
  rw [hR] at hr
  obtain ⟨T, hT⟩ : ∃ T, T = t % (n - 1) := ⟨_, rfl⟩
  rw [← hT] at hlt hTt hr
  have HR := hide hr
  have HM : Hid (∀ V, Below W.heap.size W V → MbAt V F g 2 n me s G) := fun V hV => h.below hV
  obtain ⟨⟨-, -, -, -, -⟩, ⟨-, c8, -⟩, z0, -⟩ := mb_cells h
  obtain ⟨A, hA⟩ : ∃ A, A = modI ((me : Int) - 1) n := ⟨_, rfl⟩
  have eA : fromN 2 n me t = A := by rw [hA]; unfold fromN; rw [if_neg (by decide)]
  have hAl : A < n := by rw [hA]; exact modI_lt (by omega) _
  obtain ⟨P, hP⟩ : ∃ P, P = modI ((A : Int) - T - 1) n := ⟨_, rfl⟩
  have eP : sendN 2 n A t = P := by rw [hP]; unfold sendN; rw [if_neg (by decide), if_neg (by decide), if_neg (by omega), show t = T by omega]
  rw [eA, eP]
  have HA := hide hA
  have HP := hide hP
  have q1 : wrap64 ((me : Int) - 1) = (me : Int) - 1 := wrap_small (by omega) (by omega)
  clear hA hP eA eP hr hT h hR hTt ht
  unfold fv at HR
  unfold pm at HR ⊢
  simp only [show farF 2 0 = 42 from rfl, show pceF 2 0 = 43 from rfl] at HR
  go_enter Try.func58, Try.ntmps58
  go_wp2_with (go_at_call 33; refine HR.out.mono ?_; rintro e w1 ⟨rfl, hb⟩; have HB := hide hb; have c81 := (hb.cell (p := ⟨g, 8, none⟩) z0).trans c8; have z1 : g < w1.heap.size := Nat.lt_of_lt_of_le z0 hb.size; clear hb)
  go_quiet (first
    | (go_at_call 42; exact Calls.quiet_of_same (k1_any _ _))
    | (go_at_call 34; exact Calls.quiet_of (number_any g F 2 n me s G _ (HM.out _ (below_draws (HB.out.alloc HB.out.size _) _)) (by omega) h16 _)))
  rw [← HA.out]
  go_wp2_with (first
    | (go_at_call 43; refine (k2_any _ _ _ (by omega) (by omega)).mono ?_; rintro e w' ⟨rfl, rfl⟩)
    | (go_at_call 34; refine (number_any g F 2 n me s G _ (HM.out _ (below_draws (HB.out.alloc HB.out.size _) _)) (by omega) h16 _).mono ?_; rintro e w' ⟨rfl, kk, rfl⟩))
  rw [← HP.out]
  go_ret2
  exact ⟨rfl, below_draws (HB.out.alloc HB.out.size _) _⟩
set_option maxHeartbeats 2000000 in
theorem comes_3 (g : Nat) (F : Nat → Prop) (n me : Nat) (s : St) (G : Gh) (W : World) (h : MbAt W F g 3 n me s G) (h2 : 2 ≤ n) (h16 : n ≤ 16) (hme : me < n) (t : Nat) (ht : t < notN 3 n) (hR : t / (n - 1) = 0) :
    Calls Try.prog 58 #[pm g, .int .i64 t] W fun e w' => e = .returned (.tuple #[.int .i64 (fromN 3 n me t : Nat), .int .i64 (sendN 3 n (fromN 3 n me t) t : Nat)]) ∧ Below W.heap.size W w' := by
  have hlt : t % (n - 1) < n - 1 := Nat.mod_lt _ (by omega)
  have hTt : t % (n - 1) + (n - 1) * 0 = t := by have := Nat.mod_add_div t (n - 1); rw [hR] at this; exact this
  have hr := round_any g F 3 n me s G W h h2 h16 t ht
  rw [hR] at hr
  obtain ⟨T, hT⟩ : ∃ T, T = t % (n - 1) := ⟨_, rfl⟩
  rw [← hT] at hlt hTt hr
  have HR := hide hr
  have HM : Hid (∀ V, Below W.heap.size W V → MbAt V F g 3 n me s G) := fun V hV => h.below hV
  obtain ⟨⟨-, -, -, -, -⟩, ⟨-, c8, -⟩, z0, -⟩ := mb_cells h
  obtain ⟨A, hA⟩ : ∃ A, A = modI ((me : Int) - 1) n := ⟨_, rfl⟩
  have eA : fromN 3 n me t = A := by rw [hA]; unfold fromN; rw [if_neg (by decide)]
  have hAl : A < n := by rw [hA]; exact modI_lt (by omega) _
  obtain ⟨P, hP⟩ : ∃ P, P = modI ((A : Int) - T) n := ⟨_, rfl⟩
  have eP : sendN 3 n A t = P := by rw [hP]; unfold sendN; rw [if_pos rfl, show t = T by omega]
  rw [eA, eP]
  have HA := hide hA
  have HP := hide hP
  have q1 : wrap64 ((me : Int) - 1) = (me : Int) - 1 := wrap_small (by omega) (by omega)
  clear hA hP eA eP hr hT h hR hTt ht
  unfold fv at HR
  unfold pm at HR ⊢
  simp only [show farF 3 0 = 42 from rfl, show pceF 3 0 = 45 from rfl] at HR
  go_enter Try.func58, Try.ntmps58
  go_wp2_with (go_at_call 33; refine HR.out.mono ?_; rintro e w1 ⟨rfl, hb⟩; have HB := hide hb; have c81 := (hb.cell (p := ⟨g, 8, none⟩) z0).trans c8; have z1 : g < w1.heap.size := Nat.lt_of_lt_of_le z0 hb.size; clear hb)
  go_quiet (first
    | (go_at_call 42; exact Calls.quiet_of_same (k1_any _ _))
    | (go_at_call 34; exact Calls.quiet_of (number_any g F 3 n me s G _ (HM.out _ (below_draws (HB.out.alloc HB.out.size _) _)) (by omega) h16 _)))
  rw [← HA.out]
  go_wp2_with (first
    | (go_at_call 45; refine (k3_any _ _ _ (by omega) (by omega)).mono ?_; rintro e w' ⟨rfl, rfl⟩)
    | (go_at_call 34; refine (number_any g F 3 n me s G _ (HM.out _ (below_draws (HB.out.alloc HB.out.size _) _)) (by omega) h16 _).mono ?_; rintro e w' ⟨rfl, kk, rfl⟩))
  rw [← HP.out]
  go_ret2
  exact ⟨rfl, below_draws (HB.out.alloc HB.out.size _) _⟩
set_option maxHeartbeats 2000000 in
theorem comes_4 (g : Nat) (F : Nat → Prop) (n me : Nat) (s : St) (G : Gh) (W : World) (h : MbAt W F g 4 n me s G) (h2 : 2 ≤ n) (h16 : n ≤ 16) (hme : me < n) (t : Nat) (ht : t < notN 4 n) (hR : t / (n - 1) = 0) :
    Calls Try.prog 58 #[pm g, .int .i64 t] W fun e w' => e = .returned (.tuple #[.int .i64 (fromN 4 n me t : Nat), .int .i64 (sendN 4 n (fromN 4 n me t) t : Nat)]) ∧ Below W.heap.size W w' := by
  have hlt : t % (n - 1) < n - 1 := Nat.mod_lt _ (by omega)
  have hTt : t % (n - 1) + (n - 1) * 0 = t := by have := Nat.mod_add_div t (n - 1); rw [hR] at this; exact this
  have hr := round_any g F 4 n me s G W h h2 h16 t ht
  rw [hR] at hr
  obtain ⟨T, hT⟩ : ∃ T, T = t % (n - 1) := ⟨_, rfl⟩
  rw [← hT] at hlt hTt hr
  have HR := hide hr
  have HM : Hid (∀ V, Below W.heap.size W V → MbAt V F g 4 n me s G) := fun V hV => h.below hV
  obtain ⟨⟨-, -, -, -, -⟩, ⟨-, c8, -⟩, z0, -⟩ := mb_cells h
  obtain ⟨A, hA⟩ : ∃ A, A = modI ((me : Int) - ((T : Int) + 1)) n := ⟨_, rfl⟩
  have eA : fromN 4 n me t = A := by rw [hA]; unfold fromN; rw [if_pos rfl, show (me : Int) - (t : Int) - 1 = (me : Int) - ((T : Int) + 1) by omega]
  have hAl : A < n := by rw [hA]; exact modI_lt (by omega) _
  obtain ⟨P, hP⟩ : ∃ P, P = modI ((A : Int) + T + 1) n := ⟨_, rfl⟩
  have eP : sendN 4 n A t = P := by rw [hP]; unfold sendN; rw [if_neg (by decide), if_pos rfl, show t = T by omega]
  rw [eA, eP]
  have HA := hide hA
  have HP := hide hP
  have q1 : wrap64 ((me : Int) - ((T : Int) + 1)) = (me : Int) - ((T : Int) + 1) := wrap_small (by omega) (by omega)
  clear hA hP eA eP hr hT h hR hTt ht
  unfold fv at HR
  unfold pm at HR ⊢
  simp only [show farF 4 0 = 47 from rfl, show pceF 4 0 = 48 from rfl] at HR
  go_enter Try.func58, Try.ntmps58
  go_wp2_with (go_at_call 33; refine HR.out.mono ?_; rintro e w1 ⟨rfl, hb⟩; have HB := hide hb; have c81 := (hb.cell (p := ⟨g, 8, none⟩) z0).trans c8; have z1 : g < w1.heap.size := Nat.lt_of_lt_of_le z0 hb.size; clear hb)
  go_quiet (first
    | (go_at_call 47; exact Calls.quiet_of_same (k4_any _ _ (by omega)))
    | (go_at_call 34; exact Calls.quiet_of (number_any g F 4 n me s G _ (HM.out _ (below_draws (HB.out.alloc HB.out.size _) _)) (by omega) h16 _)))
  rw [← HA.out]
  go_wp2_with (first
    | (go_at_call 48; refine (k5_any _ _ _ (by omega) (by omega)).mono ?_; rintro e w' ⟨rfl, rfl⟩)
    | (go_at_call 34; refine (number_any g F 4 n me s G _ (HM.out _ (below_draws (HB.out.alloc HB.out.size _) _)) (by omega) h16 _).mono ?_; rintro e w' ⟨rfl, kk, rfl⟩))
  rw [← HP.out]
  go_ret2
  exact ⟨rfl, below_draws (HB.out.alloc HB.out.size _) _⟩
theorem comes_any (g : Nat) (F : Nat → Prop) (d n me : Nat) (s : St) (G : Gh) (W : World) (h : MbAt W F g d n me s G) (h1 : 1 ≤ d) (h4 : d ≤ 4) (h2 : 2 ≤ n) (h16 : n ≤ 16) (hme : me < n) (t : Nat) (ht : t < notN d n) :
    Calls Try.prog 58 #[pm g, .int .i64 t] W fun e w' => e = .returned (.tuple #[.int .i64 (fromN d n me t : Nat), .int .i64 (sendN d n (fromN d n me t) t : Nat)]) ∧ Below W.heap.size W w' := by
  have hr := (step_div h2 ht).1
  obtain ⟨q, hq⟩ : ∃ q, q = t / (n - 1) := ⟨_, rfl⟩
  rw [← hq] at hr
  have : d = 1 ∨ d = 2 ∨ d = 3 ∨ d = 4 := by omega
  rcases this with rfl | rfl | rfl | rfl
  · have hr' : q < 2 := hr
    have : q = 0 ∨ q = 1 := by clear hq; omega
    rcases this with e | e
    · exact comes_1a g F n me s G W h h2 h16 hme t ht (hq.symm.trans e)
    · exact comes_1b g F n me s G W h h2 h16 hme t ht (hq.symm.trans e)
  · have hr' : q < 1 := hr
    exact comes_2 g F n me s G W h h2 h16 hme t ht (hq.symm.trans (by clear hq; omega))
  · have hr' : q < 1 := hr
    exact comes_3 g F n me s G W h h2 h16 hme t ht (hq.symm.trans (by clear hq; omega))
  · have hr' : q < 1 := hr
    exact comes_4 g F n me s G W h h2 h16 hme t ht (hq.symm.trans (by clear hq; omega))
end Go.Proofs.Yticcoacoepajpaa.V
