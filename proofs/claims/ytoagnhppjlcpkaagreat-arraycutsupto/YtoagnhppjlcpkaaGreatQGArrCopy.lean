/-
  Two dimensions: what may be asked, and what is read.
-/
import Derived.Test.YtoagnhppjlcpkaaGreatQGArrWrap
import Derived.Test.YtoagnhppjlcpkaaGreatQGArrDotF
import Derived.Laws.CopyOwn
namespace Go.Proofs.YtoagnhppjlcpkaaGreat.V
set_option maxRecDepth 20000
open Go.RowKit

theorem sub_at (xs : List Int) (f l k : Nat) (h : k < l) : (sub xs f l)[k]?.getD 0 = xs[f + k]?.getD 0 := by
  simp [sub, List.getElem?_take_of_lt h]
end Go.Proofs.YtoagnhppjlcpkaaGreat.V

/-
  Copying numbers into a row.
-/
namespace Go.Proofs.YtoagnhppjlcpkaaGreat.V
set_option maxRecDepth 20000
open Go Go.RowKit

/-- Some numbers of a list are put in the place of others. -/
def copyL (zs : List Int) (off : Nat) (ys : List Int) : List Int := zs.take off ++ (ys ++ zs.drop (off + ys.length))
theorem copyL_at (zs : List Int) (off : Nat) (ys : List Int) (h : off + ys.length ≤ zs.length) (j : Nat) : (copyL zs off ys)[j]?.getD 0 = if off ≤ j ∧ j < off + ys.length then ys[j - off]?.getD 0 else zs[j]?.getD 0 := by
  unfold copyL
  have ht : (zs.take off).length = off := by simp; omega
  by_cases h1 : j < off
  · rw [if_neg (by omega), List.getElem?_append_left (by omega), List.getElem?_take_of_lt h1]
  · rw [List.getElem?_append_right (by omega), ht]
    by_cases h2 : j < off + ys.length
    · rw [if_pos ⟨by omega, h2⟩, List.getElem?_append_left (by omega)]
    · rw [if_neg (by omega), List.getElem?_append_right (by omega), List.getElem?_drop]
      congr 2; omega

theorem wpList_copy_row {P : Program} {w : World} {ops : Array Oper} {rest : List Oper} {o : Oper} {a : Act} {Q : Exit → Act → World → Prop} (hgd : o.guard = none) (d s : Operand) (dT sT : TypeId)
    (ho : o.op = .call { callee := .builtin .copy, args := #[d, s], argTypes := #[dT, sT] }) (elem : TypeId) (hu : P.underlying dT = some (.slice elem)) (hsz : (P.info? elem).map (·.size) = some 1)
    (dp sp : Option Addr) (dLen dCap sLen sCap : Nat) (hd : a.eval d = .slice dp dLen dCap) (hs : a.eval s = .slice sp sLen sCap) (g n t off : Nat) (zs xs ys : List Int)
    (hrow : w.rowIs g t n (fun j => .int .i64 (zs[j]?.getD 0))) (hzl : zs.length = n) (hx : Ints w sp sLen xs) (hys : ys = xs.take (Nat.min sLen dLen)) (hdp : 0 < ys.length → dp = some ⟨g, off, none⟩) (hfit : off + ys.length ≤ n)
    (h : ∀ w', w'.rowIs g t n (fun j => .int .i64 ((copyL zs off ys)[j]?.getD 0)) → But g w w' → Below 0 w w' → wpList P ops Q rest (a.put o.dst (goInt ys.length)) w') : wpList P ops Q (o :: rest) a w := by
  have hyl : ys.length = Nat.min sLen dLen := by
    rw [hys, List.length_take, hx.1]
    exact Nat.min_eq_left (Nat.min_le_left _ _)
  by_cases h0 : ys.length = 0
  · refine wpList_copy_nothing hgd d s dT sT ho elem hu hsz dp sp dLen dCap sLen sCap hd hs (by rw [← hyl]; exact h0) ?_
    have h' := h w (hrow.congr (fun j hj => ?_)) (But.refl _ _) (Below.refl _ _)
    · rw [h0] at h'; exact h'
    · rw [copyL_at zs off ys (by omega), if_neg (by omega)]
  · have hdp' := hdp (by omega)
    subst hdp'
    have hle : ys.length ≤ sLen := by rw [hyl]; exact Nat.min_le_left _ _
    obtain ⟨b, o', rfl, hb, hc⟩ := hx.at (by omega)
    obtain ⟨cur, hg, hcs, hcv⟩ := hrow
    refine wpList_copy_own hgd d s dT sT ho elem hu hsz g off dLen dCap ⟨b, o', none⟩ sLen sCap hd hs cur t hg (ys.map (Value.int .i64)) (by rw [List.length_map]; exact hyl) (fun j v hj => ?_) (by rw [List.length_map, hcs]; exact hfit) (fun v hv => ?_) ?_
    · have hjl : j < ys.length := by
        have := (List.getElem?_eq_some_iff.1 hj).1
        simpa using this
      rw [List.getElem?_map] at hj
      have hy : ys[j]? = some (xs[j]?.getD 0) := by
        rw [hys, List.getElem?_take_of_lt (by rw [← hyl]; exact hjl)]
        have : j < xs.length := by rw [hx.1]; omega
        simp [this]
      rw [hy] at hj
      simp only [Option.map_some, Option.some.injEq] at hj
      rw [← hj, Go.WideShapes.add_plain]
      exact hc j (by omega)
    · simp only [List.mem_map] at hv
      obtain ⟨x, _, rfl⟩ := hv
      rfl
    · have h' := h (w.setRow g (cur.toList.take off ++ (ys.map (Value.int .i64) ++ cur.toList.drop (off + (ys.map (Value.int .i64)).length))).toArray) ?_ ⟨fun x hx => setRow_other _ _ _ _ hx, by simp⟩ ⟨rfl, rfl, rfl, by simp, fun k hk => by omega⟩
      · rw [List.length_map] at h' ⊢; exact h'
      · refine ⟨_, setRow_heap _ _ _ _ _ _ hg, ?_, fun i hi => ?_⟩
        · simp [hcs]; omega
        · show _ = some (Value.int .i64 ((copyL zs off ys)[i]?.getD 0))
          rw [copyL_at zs off ys (by omega)]
          have hct : (cur.toList.take off).length = off := by simp [hcs]; omega
          have hcl : ∀ i, i < n → cur.toList[i]? = some (.int .i64 (zs[i]?.getD 0)) := fun i hi => by rw [Array.getElem?_toList]; exact hcv i hi
          rw [List.getElem?_toArray]
          by_cases c1 : i < off
          · rw [if_neg (by omega), List.getElem?_append_left (by omega), List.getElem?_take_of_lt c1, hcl i hi]
          · rw [List.getElem?_append_right (by omega), hct]
            by_cases c2 : i < off + ys.length
            · rw [if_pos ⟨by omega, c2⟩, List.getElem?_append_left (by simp; omega), List.getElem?_map]
              have : i - off < ys.length := by omega
              simp [this]
            · rw [if_neg (by omega), List.getElem?_append_right (by simp; omega), List.getElem?_drop, List.length_map]
              rw [show off + ys.length + (i - off - ys.length) = i by omega, hcl i hi]
end Go.Proofs.YtoagnhppjlcpkaaGreat.V

/-
  Contract: array.work of Reform.
-/
namespace Go.Proofs.YtoagnhppjlcpkaaGreat.V
set_option maxRecDepth 20000
open Go.RowKit

theorem size_int64 : (Tryz.prog.info? 2).map (·.size) = some 1 := by kernel_rfl

end Go.Proofs.YtoagnhppjlcpkaaGreat.V

/-
  Contract: array.takeRows.
-/
namespace Go.Proofs.YtoagnhppjlcpkaaGreat.V
set_option maxRecDepth 20000
open Go.RowKit

theorem ints_off {w W W' : World} {g n : Nat} {a : Option Addr} {xs : List Int} (h : Ints w a n xs) (hb : Below w.heap.size w W) (hs : Save g W W') (ho : 0 < n → OffG g a) : Ints W' a n xs := by
  obtain ⟨h1, h2, h3, h4⟩ := h
  refine ⟨h1, h2, h3, ?_⟩
  by_cases h0 : n = 0
  · exact .inl h0
  · rcases h4 with h4 | ⟨b, off, e, hc⟩
    · exact .inl h4
    · have hl := lt_of_cell (hc 0 (by omega))
      simp only at hl
      exact .inr ⟨b, off, e, fun j hj => (World.cell?_of_block (w := W) (hs.1 b (by have := hb.size; omega) (ho (by omega) b off e))).trans ((hb.cell (p := ⟨b, off + j, none⟩) hl).trans (hc j hj))⟩

end Go.Proofs.YtoagnhppjlcpkaaGreat.V

/-
  Contract: array.putRows.
-/
namespace Go.Proofs.YtoagnhppjlcpkaaGreat.V
set_option maxRecDepth 20000
open Go.RowKit

end Go.Proofs.YtoagnhppjlcpkaaGreat.V

/-
  Contracts: array.work of Take and Put, over what takeRows and putRows do.
-/
namespace Go.Proofs.YtoagnhppjlcpkaaGreat.V
set_option maxRecDepth 20000
open Go.RowKit

end Go.Proofs.YtoagnhppjlcpkaaGreat.V
