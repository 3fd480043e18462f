/-
  Plain mathematics: of which index an entry of a view is read.
-/
import Derived.Test.YtoagnhppjlcpkaaGreatQGAgainMath
import Derived.Test.YtoagnhppjlcpkaaGreatQGArrSubs
import Derived.Test.YtoagnhppjlcpkaaGreatQJArrRPlaced
import Derived.Test.YtoagnhppjlcpkaaGreatQJRAllC
import Derived.Test.YtoagnhppjlcpkaaGreatQJLinMath
namespace Go.Proofs.YtoagnhppjlcpkaaGreat.V
set_option maxRecDepth 20000

/-- Each entry of what is made is the entry at an index that is told. -/
def ThroughY (ds D : List Int) (Y : Nat → List Int) (S : Int → List Int → Int) (T : List Int → List Int) : Prop :=
  ∀ i : Nat, i < (prod D).toNat → (Y i).length = ds.length ∧ IdxOk ds (Y i) ∧ ∀ s ss, ss.length = ds.length → S s ss + lieN D (T ss) i = s + dotT (Y i) ss ds.length
theorem idx_cut {ds lo hi st : List Int} (hE : sizeE (cutD ds lo hi st) = 0) (hb : anyBad ds lo hi st = false) : ThroughY ds (cutD ds lo hi st) (fun i => (List.range ds.length).map fun k => lo[k]?.getD 0 + (dig (cutD ds lo hi st) i)[k]?.getD 0 * st[k]?.getD 0) (fun s ss => cutAcc s ss lo ds.length) (fun ss => cutS ss st) := by
  intro i hi'
  have hpos := pos_of hE hi'
  have hbd := dig_bd (cutD ds lo hi st) i hpos (by omega) (by omega)
  have hcl := cutD_length ds lo hi st
  refine ⟨by simp, fun k hk => ?_, fun s ss hss => ?_⟩
  · have h1 := hbd k (by omega)
    rw [cutD_getD ds lo hi st k hk] at h1
    have h2 := badCut_false (of_anyBad_false hb k hk)
    have h3 := kept_lt h2.2.2.2.1 h1.2
    have h4 : 0 ≤ (dig (cutD ds lo hi st) i)[k]?.getD 0 * st[k]?.getD 0 := Int.mul_nonneg h1.1 (by omega)
    simp only [List.getElem?_map, List.getElem?_range hk, Option.map_some, Option.getD_some]
    omega
  · show cutAcc s ss lo ds.length + lieN (cutD ds lo hi st) (cutS ss st) i = s + dotT ((List.range ds.length).map fun k => lo[k]?.getD 0 + (dig (cutD ds lo hi st) i)[k]?.getD 0 * st[k]?.getD 0) ss ds.length
    rw [lieN_dig _ _ _ (by rw [cutS_length, hcl]; exact hss), cutAcc_eq, hcl]
    have key : ∀ k, k ≤ ds.length → dotT lo ss k + dotT (dig (cutD ds lo hi st) i) (cutS ss st) k = dotT ((List.range ds.length).map fun k => lo[k]?.getD 0 + (dig (cutD ds lo hi st) i)[k]?.getD 0 * st[k]?.getD 0) ss k := by
      intro k
      induction k with
      | zero => intro _; simp [dotT]
      | succ k ih =>
        intro hk
        have ih' := ih (by omega)
        have hk' : k < ds.length := by omega
        rw [dotT, dotT, dotT, cutS_getD ss st k (by omega)]
        simp only [List.getElem?_map, List.getElem?_range hk', Option.map_some, Option.getD_some]
        rw [Int.add_mul, Int.mul_assoc]
        omega
    have := key ds.length (Nat.le_refl _)
    omega
theorem place_dot {ds y : List Int} (hE : sizeE ds = 0) (hl : y.length = ds.length) (hi : IdxOk ds y) : placeN ds y = dotT y (stepsV ds) ds.length := by
  have e : placeN ds y = placeS ds y ds.length := by rw [placeN, if_neg (by simp [hE]), if_neg (by simp [hl]), if_pos ((idxB_iff _ _).2 hi)]
  have hz : (0 : Int) ∉ ds := fun e => by have := idxOk_pos hi 0 e; omega
  have key : ∀ k, k ≤ ds.length → placeS ds y k = dotT y (stepsV ds) k := fun k => by
    induction k with
    | zero => intro _; rfl
    | succ k ih => intro hk; rw [placeS, dotT, ih (by omega), stepsV_getD hz (by omega)]
  rw [e, key _ (Nat.le_refl _)]
theorem idx_read {ds D : List Int} {Y : Nat → List Int} {S : Int → List Int → Int} {T : List Int → List Int} (h : ThroughY ds D Y S T) (hE : sizeE ds = 0) (i : Nat) (hi : i < (prod D).toNat) :
    ∃ p : Nat, p < (prod ds).toNat ∧ placeN ds (Y i) = (p : Int) ∧ (readsV (S 0 (stepsV ds)) D (T (stepsV ds)))[i]?.getD 0 = (p : Int) := by
  obtain ⟨h1, h2, h3⟩ := h i hi
  have h4 := h3 0 (stepsV ds) (stepsV_len ds)
  obtain ⟨q0, q1, _⟩ := place_lie ds (stepsV ds) (Y i) (stepsV_len ds) h1 h2
  refine ⟨(dotT (Y i) (stepsV ds) ds.length).toNat, by omega, ?_, ?_⟩
  · rw [place_dot hE h1 h2]; omega
  · rw [readsV_getD _ _ _ i hi, h4]; omega
theorem setAll_hit {zs ps vs : List Int} {q j : Nat} (hq : q < zs.length) (hj : (ps[j]?.getD 0).toNat = q) : ∀ k, j < k → (∀ i, j < i → i < k → (ps[i]?.getD 0).toNat ≠ q) → (setAll zs ps vs k)[q]?.getD 0 = vs[j]?.getD 0
  | 0, h, _ => by omega
  | k + 1, h, hn => by
    rw [setAll]
    by_cases e : j = k
    · subst e
      rw [hj, List.getElem?_set_self (by rw [setAll_length]; exact hq)]; rfl
    · rw [List.getElem?_set_ne (hn k (by omega) (by omega)), setAll_hit hq hj k (by omega) (fun i h1 h2 => hn i h1 (by omega))]
end Go.Proofs.YtoagnhppjlcpkaaGreat.V

/-
  Contracts: adjointref2.Do of what looks at an array through a view: just what is made.
-/
namespace Go.Proofs.YtoagnhppjlcpkaaGreat.V
set_option maxRecDepth 20000
open Go.RowKit

/-- What the document's Do answers, where it tells no error. -/
def DoesR (L f : List Int) (N : Nat) (e : Ending) (W' : World) : Prop :=
  ∃ (Z : Option Addr) (nz cz : Nat) (G : Option Addr) (cg : Nat), e = .returned (.tuple #[.agg #[.slice Z nz cz, .slice G N cg], .int .i64 0]) ∧ (Ints W' Z nz L ∧ nz ≤ cz) ∧ Ints W' G N f
theorem rdo_gen (k : Int) (x : Int) (ea : Option Addr) (el ec : Nat) (es : List Int) (pa : Option Addr) (pl pc : Nat) (ps : List Int) (la : Option Addr) (ll lc : Nat) (lo : List Int) (ha : Option Addr) (hl hc : Nat) (hi : List Int) (ta : Option Addr) (tl tc : Nat) (st : List Int) (A : Option Addr) (m cap : Nat) (v : Nat → ArrV) (L F : List Int) (w : World)
    (he : Lst w ea el ec es) (hp : Lst w pa pl pc ps) (hlo : Lst w la ll lc lo) (hhi : Lst w ha hl hc hi) (hst : Lst w ta tl tc st) (b0 : el ≤ 1048576) (b1 : pl ≤ 1048576) (b2 : ll ≤ 1048576) (b3 : hl ≤ 1048576) (b4 : tl ≤ 1048576) (hA : Arrs w A m v) (hm : m ≤ 1048576) (hE : doE k es ps lo hi st m v = 0) (hL : L = (dimsP k es ps lo hi st (dimsOf m v)).1) (hF : F.length = (prod L).toNat) (hFb : Bnd F)
    (hent : ∀ W, Below w.heap.size w W → ∀ n : Nat, n < (prod L).toNat → ∀ g c, Ints W (some ⟨g, 0, none⟩) L.length (dig L n) → L.length ≤ c → Calls Tryz.prog 24 #[.agg #[.int .i64 k, .slice ea el ec, .slice pa pl pc, .slice la ll lc, .slice ha hl hc, .slice ta tl tc, .int .i64 x], .slice A m cap, .slice (some ⟨g, 0, none⟩) L.length c, .int .i64 n] W fun e w' => e = .returned (.int .i64 (F[n]?.getD 0)) ∧ Below W.heap.size W w') :
    Calls Tryz.prog 8 #[.agg #[.int .i64 k, .slice ea el ec, .slice pa pl pc, .slice la ll lc, .slice ha hl hc, .slice ta tl tc, .int .i64 x], .slice A m cap] w fun e w' => DoesR L F (prod L).toNat e w' ∧ Below w.heap.size w w' := by
  refine (rDo_good k x ea el ec es pa pl pc ps la ll lc lo ha hl hc hi ta tl tc st A m cap v L (fun n => F[n]?.getD 0) w he hp hlo hhi hst b0 b1 b2 b3 b4 hA hm hE hL (fun n _ => bnd_at hFb n) hent).mono ?_
  rintro e w' ⟨⟨Z, nz, cz, G, cg, h1, h2, h3⟩, hb⟩
  rw [← list_map_range F _ hF] at h3
  exact ⟨⟨Z, nz, cz, G, cg, h1, h2, h3⟩, hb⟩
end Go.Proofs.YtoagnhppjlcpkaaGreat.V
