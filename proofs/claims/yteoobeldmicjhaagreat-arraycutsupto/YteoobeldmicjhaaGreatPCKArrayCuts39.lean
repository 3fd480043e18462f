/-
  Contract: adjointref2.viewEntry. Plain mathematics: of which index an entry of a view is read.
-/
import Derived.Test.YteoobeldmicjhaaGreatPCKArrayCuts28
import Derived.Test.YteoobeldmicjhaaGreatPCKArrayCuts36
import Derived.Test.YteoobeldmicjhaaGreatPCKArrayCuts3
import Derived.Test.YteoobeldmicjhaaGreatPCKArrayCuts18
import Derived.Test.YteoobeldmicjhaaGreatPCKArrayCuts7
namespace Go.Proofs.YteoobeldmicjhaaGreat.V
set_option maxRecDepth 20000
open Go.RowKit

end Go.Proofs.YteoobeldmicjhaaGreat.V
namespace Go.Proofs.YteoobeldmicjhaaGreat.V
set_option maxRecDepth 20000

/-- Each entry of what is made is the entry at an index that is told. -/
def ThroughY (ds D : List Int) (Y : Nat → List Int) (S : Int → List Int → Int) (T : List Int → List Int) : Prop :=
  ∀ i : Nat, i < (prod D).toNat → (Y i).length = ds.length ∧ IdxOk ds (Y i) ∧ ∀ s ss, ss.length = ds.length → S s ss + lieN D (T ss) i = s + dotT (Y i) ss ds.length
theorem idx_cut {ds lo hi st : List Int} (hE : sizeE (cutD ds lo hi st) = 0) (hb : anyBad ds lo hi st = false) : ThroughY ds (cutD ds lo hi st) (fun i => (List.range ds.length).map fun k => lo[k]?.getD 0 + (dig (cutD ds lo hi st) i)[k]?.getD 0 * st[k]?.getD 0) (fun s ss => cutAcc s ss lo ds.length) (fun ss => cutS ss st) := by
  intro i hi'
  have hpos := pos_of hE hi'
  have hbd := dig_bd (cutD ds lo hi st) i hpos (by omega) (by omega)
  have hcl := cutD_length ds lo hi st
  refine ⟨by simp, fun k hk => ?_, fun s ss hss => ?_⟩
  · have h1 := hbd k (by omega)
    rw [cutD_getD ds lo hi st k hk] at h1
    have h2 := badCut_false (of_anyBad_false hb k hk)
    have h3 := kept_lt h2.2.2.2.1 h1.2
    have h4 : 0 ≤ (dig (cutD ds lo hi st) i)[k]?.getD 0 * st[k]?.getD 0 := Int.mul_nonneg h1.1 (by omega)
    simp only [List.getElem?_map, List.getElem?_range hk, Option.map_some, Option.getD_some]
    omega
  · show cutAcc s ss lo ds.length + lieN (cutD ds lo hi st) (cutS ss st) i = s + dotT ((List.range ds.length).map fun k => lo[k]?.getD 0 + (dig (cutD ds lo hi st) i)[k]?.getD 0 * st[k]?.getD 0) ss ds.length
    rw [lieN_dig _ _ _ (by rw [cutS_length, hcl]; exact hss), cutAcc_eq, hcl]
    have key : ∀ k, k ≤ ds.length → dotT lo ss k + dotT (dig (cutD ds lo hi st) i) (cutS ss st) k = dotT ((List.range ds.length).map fun k => lo[k]?.getD 0 + (dig (cutD ds lo hi st) i)[k]?.getD 0 * st[k]?.getD 0) ss k := by
      intro k
      induction k with
      | zero => intro _; simp [dotT]
      | succ k ih =>
        intro hk
        have ih' := ih (by omega)
        have hk' : k < ds.length := by omega
        rw [dotT, dotT, dotT, cutS_getD ss st k (by omega)]
        simp only [List.getElem?_map, List.getElem?_range hk', Option.map_some, Option.getD_some]
        rw [Int.add_mul, Int.mul_assoc]
        omega
    have := key ds.length (Nat.le_refl _)
    omega
theorem place_dot {ds y : List Int} (hE : sizeE ds = 0) (hl : y.length = ds.length) (hi : IdxOk ds y) : placeN ds y = dotT y (stepsV ds) ds.length := by
  have e : placeN ds y = placeS ds y ds.length := by rw [placeN, if_neg (by simp [hE]), if_neg (by simp [hl]), if_pos ((idxB_iff _ _).2 hi)]
  have hz : (0 : Int) ∉ ds := fun e => by have := idxOk_pos hi 0 e; omega
  have key : ∀ k, k ≤ ds.length → placeS ds y k = dotT y (stepsV ds) k := fun k => by
    induction k with
    | zero => intro _; rfl
    | succ k ih => intro hk; rw [placeS, dotT, ih (by omega), stepsV_getD hz (by omega)]
  rw [e, key _ (Nat.le_refl _)]
theorem idx_read {ds D : List Int} {Y : Nat → List Int} {S : Int → List Int → Int} {T : List Int → List Int} (h : ThroughY ds D Y S T) (hE : sizeE ds = 0) (i : Nat) (hi : i < (prod D).toNat) :
    ∃ p : Nat, p < (prod ds).toNat ∧ placeN ds (Y i) = (p : Int) ∧ (readsV (S 0 (stepsV ds)) D (T (stepsV ds)))[i]?.getD 0 = (p : Int) := by
  obtain ⟨h1, h2, h3⟩ := h i hi
  have h4 := h3 0 (stepsV ds) (stepsV_len ds)
  obtain ⟨q0, q1, _⟩ := place_lie ds (stepsV ds) (Y i) (stepsV_len ds) h1 h2
  refine ⟨(dotT (Y i) (stepsV ds) ds.length).toNat, by omega, ?_, ?_⟩
  · rw [place_dot hE h1 h2]; omega
  · rw [readsV_getD _ _ _ i hi, h4]; omega
theorem setAll_hit {zs ps vs : List Int} {q j : Nat} (hq : q < zs.length) (hj : (ps[j]?.getD 0).toNat = q) : ∀ k, j < k → (∀ i, j < i → i < k → (ps[i]?.getD 0).toNat ≠ q) → (setAll zs ps vs k)[q]?.getD 0 = vs[j]?.getD 0
  | 0, h, _ => by omega
  | k + 1, h, hn => by
    rw [setAll]
    by_cases e : j = k
    · subst e
      rw [hj, List.getElem?_set_self (by rw [setAll_length]; exact hq)]; rfl
    · rw [List.getElem?_set_ne (hn k (by omega) (by omega)), setAll_hit hq hj k (by omega) (fun i h1 h2 => hn i h1 (by omega))]
end Go.Proofs.YteoobeldmicjhaaGreat.V
