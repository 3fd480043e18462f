/-
  Contract: array.Do, whatever it is asked, over what 'work' does.
-/
import Derived.Test.YtoagnhppjlcpkaaGreatRGArrWork
import Derived.Test.YtoagnhppjlcpkaaGreatRHArrDims
namespace Go.Proofs.YtoagnhppjlcpkaaGreat.V
set_option maxRecDepth 20000
open Go.RowKit

/-- A list of arrays, as it lies. -/
def Arrs (w : World) (A : Option Addr) (m : Nat) (v : Nat → ArrV) : Prop :=
  m = 0 ∨ ∃ b off, A = some ⟨b, off, none⟩ ∧ ∀ j, j < m → w.cell? ⟨b, off + j * 2, none⟩ = some (v j).d ∧ w.cell? ⟨b, off + j * 2 + 1, none⟩ = some (v j).x ∧ Lst w (v j).da (v j).dl (v j).dc (v j).ds
theorem Arrs.below {w w' : World} {A : Option Addr} {m : Nat} {v : Nat → ArrV} (h : Arrs w A m v) (hb : Below w.heap.size w w') : Arrs w' A m v := by
  rcases h with h | ⟨b, off, e, h⟩
  · exact .inl h
  · exact .inr ⟨b, off, e, fun j hj => ⟨(hb.cell (p := ⟨b, off + j * 2, none⟩) (lt_of_cell (h j hj).1)).trans (h j hj).1, (hb.cell (p := ⟨b, off + j * 2 + 1, none⟩) (lt_of_cell (h j hj).2.1)).trans (h j hj).2.1, (h j hj).2.2.below hb⟩⟩
/-- The dimensions of the arrays. -/
def dimsOf (m : Nat) (v : Nat → ArrV) : List (List Int) := (List.range m).map fun j => (v j).ds
theorem dimsOf_len (m : Nat) (v : Nat → ArrV) : (dimsOf m v).length = m := by simp [dimsOf]
theorem dimsOf_at (m : Nat) (v : Nat → ArrV) (j : Nat) (h : j < m) : (dimsOf m v)[j]?.getD [] = (v j).ds := by simp [dimsOf, h]
/-- What is wrong with the first array with which something is. -/
def arrsE (v : Nat → ArrV) : Nat → Int
  | 0 => 0
  | m + 1 => if arrsE v m ≠ 0 then arrsE v m else arrE (v m).ds (v m).xl
theorem arrsE_all {v : Nat → ArrV} : ∀ m, (∀ j, j < m → arrE (v j).ds (v j).xl = 0) → arrsE v m = 0
  | 0, _ => rfl
  | m + 1, h => by rw [arrsE, arrsE_all m (fun j hj => h j (by omega)), if_neg (by simp)]; exact h m (by omega)
theorem arrsE_at {v : Nat → ArrV} {j : Nat} (h : ∀ t, t < j → arrE (v t).ds (v t).xl = 0) (hj : arrE (v j).ds (v j).xl ≠ 0) : ∀ m, j < m → arrsE v m = arrE (v j).ds (v j).xl
  | 0, hm => by omega
  | m + 1, hm => by
    rw [arrsE]
    by_cases c : m = j
    · subst c; rw [arrsE_all m h, if_neg (by simp)]
    · rw [arrsE_at h hj m (by omega), if_pos hj]
/-- What Do tells. -/
def doE (k : Int) (es ps lo hi st : List Int) (m : Nat) (v : Nat → ArrV) : Int :=
  if takesE k m ≠ 0 then takesE k m else if arrsE v m ≠ 0 then arrsE v m else (dimsP k es ps lo hi st (dimsOf m v)).2
/-- The row of the arguments' dimensions, as far as it has come. -/
def rowV (v : Nat → ArrV) (j t : Nat) : Value := if t < j then (v t).d else .slice none 0 0
end Go.Proofs.YtoagnhppjlcpkaaGreat.V

/-
  Contract: array.Do, where nothing is wrong, over what 'work' does.
-/
namespace Go.Proofs.YtoagnhppjlcpkaaGreat.V
set_option maxRecDepth 20000
open Go.RowKit

theorem dimsP_ok {k : Int} {es ps lo hi st : List Int} {xss : List (List Int)} (h : (dimsP k es ps lo hi st xss).2 = 0) : sizeE (dimsP k es ps lo hi st xss).1 = 0 := by
  unfold dimsP at h ⊢
  by_cases c1 : takesE k xss.length ≠ 0
  · rw [if_pos c1] at h; exact absurd h c1
  rw [if_neg c1] at h ⊢
  by_cases c2 : sizesE xss ≠ 0
  · rw [if_pos c2] at h; exact absurd h c2
  rw [if_neg c2] at h ⊢
  by_cases c3 : (shapeP k es ps lo hi st xss).2 ≠ 0
  · rw [if_pos c3] at h; exact absurd h c3
  rw [if_neg c3] at h ⊢
  by_cases c4 : sizeE (shapeP k es ps lo hi st xss).1 ≠ 0
  · rw [if_pos c4] at h; exact absurd h c4
  rw [if_neg c4]
  exact Decidable.not_not.1 c4
theorem doE_ok {k : Int} {es ps lo hi st : List Int} {m : Nat} {v : Nat → ArrV} (h : doE k es ps lo hi st m v = 0) : takesE k m = 0 ∧ arrsE v m = 0 ∧ (dimsP k es ps lo hi st (dimsOf m v)).2 = 0 := by
  unfold doE at h
  by_cases c1 : takesE k m ≠ 0
  · rw [if_pos c1] at h; exact absurd h c1
  rw [if_neg c1] at h
  by_cases c2 : arrsE v m ≠ 0
  · rw [if_pos c2] at h; exact absurd h c2
  rw [if_neg c2] at h
  exact ⟨Decidable.not_not.1 c1, Decidable.not_not.1 c2, h⟩
theorem arrsE_ok {v : Nat → ArrV} : ∀ m, arrsE v m = 0 → ∀ j, j < m → arrE (v j).ds (v j).xl = 0
  | 0, _, j, hj => by omega
  | m + 1, h, j, hj => by
    rw [arrsE] at h
    by_cases c : arrsE v m ≠ 0
    · rw [if_pos c] at h; exact absurd h c
    · rw [if_neg c] at h
      by_cases e : j = m
      · rw [e]; exact h
      · exact arrsE_ok m (Decidable.not_not.1 c) j (by omega)
theorem ints_not_arr {w : World} {b off n B : Nat} {xs : List Int} {c0 c1 : Value} (ha : ArrAt w B c0 c1) (n0 : ∀ k i, c0 ≠ .int k i) (n1 : ∀ k i, c1 ≠ .int k i) (hn : 0 < n) (hc : ∀ j, j < n → w.cell? ⟨b, off + j, none⟩ = some (.int .i64 (xs[j]?.getD 0))) : b ≠ B := by
  intro e
  subst e
  have h := hc 0 hn
  unfold ArrAt at ha
  match off, h with
  | 0, h => simp [World.cell?, ha] at h; exact n0 _ _ h
  | 1, h => simp [World.cell?, ha] at h; exact n1 _ _ h
  | off + 2, h => simp [World.cell?, ha] at h
theorem ints_put_arr {w : World} {Z : Option Addr} {nz B : Nat} {L : List Int} {c0 c1 : Value} (h : Ints w Z nz L) (ha : ArrAt w B c0 c1) (n0 : ∀ k i, c0 ≠ .int k i) (n1 : ∀ k i, c1 ≠ .int k i) (u u' : Value) : Ints ((w.setCell ⟨B, 0, none⟩ u).setCell ⟨B, 1, none⟩ u') Z nz L := by
  obtain ⟨h1, h2, h3, h4⟩ := h
  refine ⟨h1, h2, h3, ?_⟩
  by_cases h0 : nz = 0
  · exact .inl h0
  · rcases h4 with h4 | ⟨b, off, e, hc⟩
    · exact .inl h4
    · have hne := ints_not_arr ha n0 n1 (by omega) hc
      exact .inr ⟨b, off, e, fun j hj => setc_cell (setc_cell (hc j hj) hne) hne⟩
theorem ints_save {w1 W w2 : World} {Z : Option Addr} {nz : Nat} {L : List Int} (h : Ints w1 Z nz L) (hb : Below w1.heap.size w1 W) (hs : Save w1.heap.size W w2) : Ints w2 Z nz L := by
  obtain ⟨h1, h2, h3, h4⟩ := h
  refine ⟨h1, h2, h3, ?_⟩
  rcases h4 with h4 | ⟨b, off, e, hc⟩
  · exact .inl h4
  · by_cases h0 : nz = 0
    · exact .inl h0
    · have hl := lt_of_cell (hc 0 (by omega))
      simp only at hl
      exact .inr ⟨b, off, e, fun j hj => (World.cell?_of_block (w := W) (hs.1 b (by have := hb.size; omega) (by omega))).trans ((hb.cell (p := ⟨b, off + j, none⟩) hl).trans (hc j hj))⟩

end Go.Proofs.YtoagnhppjlcpkaaGreat.V

/-
  Contract: array.add.
-/
namespace Go.Proofs.YtoagnhppjlcpkaaGreat.V
set_option maxRecDepth 20000
open Go.RowKit

/-- Numbers added to those at places, as far as it has come. -/
def addS (zs Q xs : List Int) : Nat → List Int
  | 0 => zs
  | k + 1 => (addS zs Q xs k).set (Q[k]?.getD 0).toNat (wrap64 ((addS zs Q xs k)[(Q[k]?.getD 0).toNat]?.getD 0 + xs[k]?.getD 0))
theorem addS_length (zs Q xs : List Int) : ∀ k, (addS zs Q xs k).length = zs.length
  | 0 => rfl
  | k + 1 => by rw [addS, List.length_set, addS_length zs Q xs k]
theorem addS_bd {zs Q xs : List Int} (hz : ∀ x ∈ zs, -9223372036854775808 ≤ x ∧ x ≤ 9223372036854775807) : ∀ k, ∀ x ∈ addS zs Q xs k, -9223372036854775808 ≤ x ∧ x ≤ 9223372036854775807
  | 0, x, hx => hz x hx
  | k + 1, x, hx => by
    rw [addS] at hx
    rcases List.mem_or_eq_of_mem_set hx with h | h
    · exact addS_bd hz k x h
    · rw [h]; unfold wrap64; omega

set_option maxRecDepth 100000 in
set_option maxHeartbeats 2000000 in
theorem add_any (g n : Nat) (zs : List Int) (P : Option Addr) (p pc : Nat) (Q : List Int) (xa : Option Addr) (m xc : Nat) (xs : List Int) (w : World) (hzl : zs.length = n)
    (hrow : w.rowIs g 2 n (fun j => .int .i64 (zs[j]?.getD 0))) (hP : Ints w P p Q) (hx : Ints w xa m xs) (oP : OffG g P) (ox : 0 < m → OffG g xa) (hmp : m ≤ p) (hq : ∀ i, i < m → 0 ≤ Q[i]?.getD 0 ∧ Q[i]?.getD 0 < n) :
    Calls Tryz.prog 29 #[.slice (some ⟨g, 0, none⟩) n n, .slice P p pc, .slice xa m xc] w fun e w' => e = .returned (.tuple #[]) ∧ w'.rowIs g 2 n (fun j => .int .i64 ((addS zs Q xs m)[j]?.getD 0)) ∧ But g w w' ∧ Below 0 w w' := by
  have hm1 := hP.2.1
  have hm2 := hx.2.1
  have HP := hide hP
  have HX := hide hx
  have HR0 := hide hrow
  have HQ := hide hq
  have HOP := hide oP
  have HOX := hide ox
  have HZL := hide hzl
  clear hP hx hrow hq oP ox hzl
  go_enter Tryz.func29, Tryz.ntmps29
  go_wp2
  go_loopw [10] (fun i wr => ∃ k : Nat, k ≤ m ∧ i = .int .i64 k ∧ wr.rowIs g 2 n (fun j => .int .i64 ((addS zs Q xs k)[j]?.getD 0)) ∧ But g w wr ∧ Below 0 w wr) (fun i _ => m - (intOf i).toNat)
  case atStart => exact ⟨0, Nat.zero_le _, rfl, HR0.out, But.refl _ _, Below.refl _ _⟩
  case round =>
    obtain ⟨k, hk, rfl, hrow, hB, h0⟩ := hrel
    have HR := hide hrow
    have HB := hide hB
    have H0 := hide h0
    clear hrow hB h0
    by_cases hlt : k < m
    · have hpw := HB.out.ints HP.out HOP.out
      have hxw := HB.out.ints HX.out (HOX.out (by omega))
      obtain ⟨b, off, rfl, _, hc⟩ := hpw.at (by omega)
      obtain ⟨b', off', rfl, _, hc'⟩ := hxw.at (by omega)
      have hqk := HQ.out k hlt
      obtain ⟨q, hqq⟩ : ∃ q : Nat, Q[k]?.getD 0 = (q : Int) := ⟨(Q[k]?.getD 0).toNat, by omega⟩
      have HS : Hid (addS zs Q xs (k + 1) = (addS zs Q xs k).set q (wrap64 ((addS zs Q xs k)[q]?.getD 0 + xs[k]?.getD 0))) := by rw [Hid, addS, hqq, Int.toNat_natCast]
      have hck := hc k (by omega)
      have hck' := hc' k hlt
      rw [hqq] at hck hqk
      have hqn : q < n := by omega
      have hr := HR.out.cell hqn
      have hf := HR.out.frozen q
      obtain ⟨X, hX⟩ : ∃ X, X = xs[k]?.getD 0 := ⟨_, rfl⟩
      obtain ⟨Y, hY⟩ : ∃ Y, Y = (addS zs Q xs k)[q]?.getD 0 := ⟨_, rfl⟩
      rw [← hX] at hck' HS
      rw [← hY] at hr HS
      have i1 : (0 : Int) ≤ (k : Int) := Int.natCast_nonneg _
      have i2 : (k : Int) < (p : Int) := by omega
      have i3 : (0 : Int) ≤ (q : Int) := Int.natCast_nonneg _
      have i4 : (q : Int) < (n : Int) := by omega
      have HQL : Hid (q < (addS zs Q xs k).length) := by rw [Hid, addS_length, HZL.out]; exact hqn
      clear hpw hxw hc hc' hqq hX hY hqk
      go_wp2
      go_roundw
      case rel =>
        refine ⟨k + 1, by omega, by go_num, (HR.out.set q (.int .i64 (wrap64 (Y + X)))).congr (fun j _ => ?_), HB.out.set q _, H0.out.setCell (p := ⟨g, q, none⟩) (Nat.zero_le _) _⟩
        rw [HS.out]
        by_cases e : j = q
        · subst e
          rw [if_pos rfl, List.getElem?_set_self HQL.out]
          rfl
        · rw [if_neg e, List.getElem?_set_ne (fun h => e h.symm)]
      case measure => simp [intOf]; omega
    · obtain rfl : k = m := by omega
      go_wp2
      exact bodyPost_end (v := .tuple #[]) (by simp [results, Tryz.results29, go_sem]) rfl ⟨rfl, HR.out, HB.out, H0.out⟩
end Go.Proofs.YtoagnhppjlcpkaaGreat.V

/-
  Contracts: array.entry and array.work of Fill.
-/
namespace Go.Proofs.YtoagnhppjlcpkaaGreat.V
set_option maxRecDepth 20000
open Go.RowKit

end Go.Proofs.YtoagnhppjlcpkaaGreat.V
