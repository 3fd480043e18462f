/-
  Contracts: adjointlaw2.times, adjointlaw2.one of a Turn, adjointlaw2.alive. Contract: array.landing: where the entries of what is summed or padded go. Contract: array.work of Sum and Pad, over where entries land. Copying numbers into a row. Contract: array.work of Reform. Contract: adjointlaw2.alive.
-/
import Derived.Test.YteoobeldmicjhaaGreatPCKArrayCuts37
import Derived.Test.YteoobeldmicjhaaGreatPCKArrayCuts28
import Derived.Test.YteoobeldmicjhaaGreatPCKArrayCuts34
import Derived.Test.YteoobeldmicjhaaGreatPCKArrayCuts36
import Derived.Deep.Cut
import Derived.Laws.CopyOwn
namespace Go.Proofs.YteoobeldmicjhaaGreat.V
set_option maxRecDepth 20000
open Go.RowKit

/-- One number in a block. -/
theorem ints_one {w : World} {B : Nat} (x : Int) (hx : -9223372036854775808 ≤ x ∧ x ≤ 9223372036854775807) (t : TypeId) (h : w.heap.size = B) : Ints (w.alloc (.cells #[.int .i64 x] t)) (some ⟨B, 0, none⟩) 1 [x] := by
  subst h
  refine ⟨rfl, by omega, by simpa using hx, .inr ⟨_, _, rfl, fun j hj => ?_⟩⟩
  obtain rfl : j = 0 := by omega
  simp

end Go.Proofs.YteoobeldmicjhaaGreat.V
namespace Go.Proofs.YteoobeldmicjhaaGreat.V
set_option maxRecDepth 20000
open Go.RowKit
set_option linter.unusedVariables false

end Go.Proofs.YteoobeldmicjhaaGreat.V
namespace Go.Proofs.YteoobeldmicjhaaGreat.V
set_option maxRecDepth 20000
open Go.RowKit

theorem Save.on {g : Nat} {w w1 w2 : World} (h : Below w.heap.size w w1) (h2 : Save g w1 w2) : Save g w w2 :=
  ⟨fun c hc hne => (h2.1 c (by have := h.size; omega) hne).trans (h.block c hc), (h.mono (Nat.zero_le _)).trans h2.2⟩
theorem replicate_zero_at (n j : Nat) : (List.replicate n (0 : Int))[j]?.getD 0 = 0 := by
  by_cases h : j < n <;> simp [h]

end Go.Proofs.YteoobeldmicjhaaGreat.V
namespace Go.Proofs.YteoobeldmicjhaaGreat.V
set_option maxRecDepth 20000
open Go Go.RowKit

/-- Some numbers of a list are put in the place of others. -/
def copyL (zs : List Int) (off : Nat) (ys : List Int) : List Int := zs.take off ++ (ys ++ zs.drop (off + ys.length))
theorem copyL_at (zs : List Int) (off : Nat) (ys : List Int) (h : off + ys.length ≤ zs.length) (j : Nat) : (copyL zs off ys)[j]?.getD 0 = if off ≤ j ∧ j < off + ys.length then ys[j - off]?.getD 0 else zs[j]?.getD 0 := by
  unfold copyL
  have ht : (zs.take off).length = off := by simp; omega
  by_cases h1 : j < off
  · rw [if_neg (by omega), List.getElem?_append_left (by omega), List.getElem?_take_of_lt h1]
  · rw [List.getElem?_append_right (by omega), ht]
    by_cases h2 : j < off + ys.length
    · rw [if_pos ⟨by omega, h2⟩, List.getElem?_append_left (by omega)]
    · rw [if_neg (by omega), List.getElem?_append_right (by omega), List.getElem?_drop]
      congr 2; omega

theorem wpList_copy_row {P : Program} {w : World} {ops : Array Oper} {rest : List Oper} {o : Oper} {a : Act} {Q : Exit → Act → World → Prop} (hgd : o.guard = none) (d s : Operand) (dT sT : TypeId)
    (ho : o.op = .call { callee := .builtin .copy, args := #[d, s], argTypes := #[dT, sT] }) (elem : TypeId) (hu : P.underlying dT = some (.slice elem)) (hsz : (P.info? elem).map (·.size) = some 1)
    (dp sp : Option Addr) (dLen dCap sLen sCap : Nat) (hd : a.eval d = .slice dp dLen dCap) (hs : a.eval s = .slice sp sLen sCap) (g n t off : Nat) (zs xs ys : List Int)
    (hrow : w.rowIs g t n (fun j => .int .i64 (zs[j]?.getD 0))) (hzl : zs.length = n) (hx : Ints w sp sLen xs) (hys : ys = xs.take (Nat.min sLen dLen)) (hdp : 0 < ys.length → dp = some ⟨g, off, none⟩) (hfit : off + ys.length ≤ n)
    (h : ∀ w', w'.rowIs g t n (fun j => .int .i64 ((copyL zs off ys)[j]?.getD 0)) → But g w w' → Below 0 w w' → wpList P ops Q rest (a.put o.dst (goInt ys.length)) w') : wpList P ops Q (o :: rest) a w := by
  have hyl : ys.length = Nat.min sLen dLen := by
    rw [hys, List.length_take, hx.1]
    exact Nat.min_eq_left (Nat.min_le_left _ _)
  by_cases h0 : ys.length = 0
  · refine wpList_copy_nothing hgd d s dT sT ho elem hu hsz dp sp dLen dCap sLen sCap hd hs (by rw [← hyl]; exact h0) ?_
    have h' := h w (hrow.congr (fun j hj => ?_)) (But.refl _ _) (Below.refl _ _)
    · rw [h0] at h'; exact h'
    · rw [copyL_at zs off ys (by omega), if_neg (by omega)]
  · have hdp' := hdp (by omega)
    subst hdp'
    have hle : ys.length ≤ sLen := by rw [hyl]; exact Nat.min_le_left _ _
    obtain ⟨b, o', rfl, hb, hc⟩ := hx.at (by omega)
    obtain ⟨cur, hg, hcs, hcv⟩ := hrow
    refine wpList_copy_own hgd d s dT sT ho elem hu hsz g off dLen dCap ⟨b, o', none⟩ sLen sCap hd hs cur t hg (ys.map (Value.int .i64)) (by rw [List.length_map]; exact hyl) (fun j v hj => ?_) (by rw [List.length_map, hcs]; exact hfit) (fun v hv => ?_) ?_
    · have hjl : j < ys.length := by
        have := (List.getElem?_eq_some_iff.1 hj).1
        simpa using this
      rw [List.getElem?_map] at hj
      have hy : ys[j]? = some (xs[j]?.getD 0) := by
        rw [hys, List.getElem?_take_of_lt (by rw [← hyl]; exact hjl)]
        have : j < xs.length := by rw [hx.1]; omega
        simp [this]
      rw [hy] at hj
      simp only [Option.map_some, Option.some.injEq] at hj
      rw [← hj, Go.WideShapes.add_plain]
      exact hc j (by omega)
    · simp only [List.mem_map] at hv
      obtain ⟨x, _, rfl⟩ := hv
      rfl
    · have h' := h (w.setRow g (cur.toList.take off ++ (ys.map (Value.int .i64) ++ cur.toList.drop (off + (ys.map (Value.int .i64)).length))).toArray) ?_ ⟨fun x hx => setRow_other _ _ _ _ hx, by simp⟩ ⟨rfl, rfl, rfl, by simp, fun k hk => by omega⟩
      · rw [List.length_map] at h' ⊢; exact h'
      · refine ⟨_, setRow_heap _ _ _ _ _ _ hg, ?_, fun i hi => ?_⟩
        · simp [hcs]; omega
        · show _ = some (Value.int .i64 ((copyL zs off ys)[i]?.getD 0))
          rw [copyL_at zs off ys (by omega)]
          have hct : (cur.toList.take off).length = off := by simp [hcs]; omega
          have hcl : ∀ i, i < n → cur.toList[i]? = some (.int .i64 (zs[i]?.getD 0)) := fun i hi => by rw [Array.getElem?_toList]; exact hcv i hi
          rw [List.getElem?_toArray]
          by_cases c1 : i < off
          · rw [if_neg (by omega), List.getElem?_append_left (by omega), List.getElem?_take_of_lt c1, hcl i hi]
          · rw [List.getElem?_append_right (by omega), hct]
            by_cases c2 : i < off + ys.length
            · rw [if_pos ⟨by omega, c2⟩, List.getElem?_append_left (by simp; omega), List.getElem?_map]
              have : i - off < ys.length := by omega
              simp [this]
            · rw [if_neg (by omega), List.getElem?_append_right (by simp; omega), List.getElem?_drop, List.length_map]
              rw [show off + ys.length + (i - off - ys.length) = i by omega, hcl i hi]
end Go.Proofs.YteoobeldmicjhaaGreat.V
namespace Go.Proofs.YteoobeldmicjhaaGreat.V
set_option maxRecDepth 20000
open Go.RowKit

theorem size_int64 : (Tryz.prog.info? 2).map (·.size) = some 1 := by kernel_rfl

end Go.Proofs.YteoobeldmicjhaaGreat.V
namespace Go.Proofs.YteoobeldmicjhaaGreat.V
set_option maxRecDepth 20000
open Go.RowKit

set_option maxRecDepth 100000 in
set_option maxHeartbeats 2000000 in
theorem alive2_any (w : World) : Calls Tryz.prog 7 #[] w fun e w' => e = .returned (.bool true) ∧ Below w.heap.size w w' := by
  have HB1 := (Below.refl w.heap.size w).alloc (Nat.le_refl _) (.cells #[.int .i64 2] 2)
  have HB2 := HB1.alloc HB1.size (.cells #[.int .i64 3] 2)
  have HB3 := HB2.alloc HB2.size (.cells #[.slice none 0 0, .slice (some ⟨w.heap.size, 0, none⟩) 1 1, .slice none 0 0, .slice (some ⟨w.heap.size + 1, 0, none⟩) 1 1] 25)
  have HB := hide HB3
  have i2 := ((ints_one 2 (by omega) 2 (w := w) (B := w.heap.size) rfl).below ((Below.refl _ _).alloc (Nat.le_refl _) (.cells #[.int .i64 3] 2))).below ((Below.refl _ _).alloc (Nat.le_refl _) (.cells #[.slice none 0 0, .slice (some ⟨w.heap.size, 0, none⟩) 1 1, .slice none 0 0, .slice (some ⟨w.heap.size + 1, 0, none⟩) 1 1] 25))
  have i3 := (ints_one 3 (by omega) 2 (w := (w.alloc (.cells #[.int .i64 2] 2))) (B := w.heap.size + 1) (by simp)).below ((Below.refl _ _).alloc (Nat.le_refl _) (.cells #[.slice none 0 0, .slice (some ⟨w.heap.size, 0, none⟩) 1 1, .slice none 0 0, .slice (some ⟨w.heap.size + 1, 0, none⟩) 1 1] 25))
  have f4 := FourAt.new (w := ((w.alloc (.cells #[.int .i64 2] 2)).alloc (.cells #[.int .i64 3] 2))) (B := w.heap.size + 1 + 1) (.slice none 0 0) (.slice (some ⟨w.heap.size, 0, none⟩) 1 1) (.slice none 0 0) (.slice (some ⟨w.heap.size + 1, 0, none⟩) 1 1) (by simp)
  obtain ⟨c0, c1, c2, c3⟩ := f4.cells
  have hS := Do_two 3 (.inl rfl) (w.heap.size + 1 + 1) 0 2 none 0 0 none 0 0 [] 1 (some ⟨w.heap.size, 0, none⟩) 1 [2] (some ⟨w.heap.size + 1, 0, none⟩) 1 [3] _ c0 c1 c2 c3 (ints_nil _) (ints_nil _) i2 i3 (by decide)
  have ht : twoL 3 [2] [3] 1 = [5] := by simp [twoL, twoV, List.range_succ, w64, wrap_in 5 (by omega) (by omega)]
  rw [ht] at hS
  have HS := hide hS
  clear i2 i3 f4 c0 c1 c2 c3 HB1 HB2 HB3 hS ht
  go_enter Tryz.func7, Tryz.ntmps7
  go_wp2_with (go_at_call 9; refine HS.out.mono ?_; rintro e w1 ⟨⟨g, G, rfl, hi1, hi2, hg1, hg2⟩, hb⟩; obtain ⟨b5, o5, e5, _, hc5⟩ := hi2.at (by omega); cases e5; have c5 := alloc_cell (o := .cells #[.slice (some ⟨g, 0, none⟩) 0 0, .slice (some ⟨G, 0, none⟩) 1 1] 25) (hc5 0 (by omega)); simp only [Nat.add_zero, List.getElem?_cons_zero, Option.getD_some] at c5; have HB5 := hide (Below.on HB.out hb); obtain ⟨⟨a0, a1⟩, _⟩ := (ArrAt.new w1 (.slice (some ⟨g, 0, none⟩) 0 0) (.slice (some ⟨G, 0, none⟩) 1 1)).cells; clear hi1 hi2 hb hc5 hg1 hg2)
  all_goals go_ret
  all_goals exact ⟨rfl, HB5.out.alloc HB5.out.size _⟩
end Go.Proofs.YteoobeldmicjhaaGreat.V
