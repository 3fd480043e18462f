/-
  Plain mathematics: of which index an entry of a view is read.
-/
import Derived.Test.YtoagnhppjlcpkaaGreatRGAgainMath
import Derived.Test.YtoagnhppjlcpkaaGreatRGArrSubs
import Derived.Test.YtoagnhppjlcpkaaGreatRGArrRPlaced
import Derived.Test.YtoagnhppjlcpkaaGreatRGRAllC
import Derived.Test.YtoagnhppjlcpkaaGreatRGLinMath
import Derived.Test.YtoagnhppjlcpkaaGreatRHArrLists
import Derived.Test.YtoagnhppjlcpkaaGreatRHArrTakes
import Derived.Test.YtoagnhppjlcpkaaGreatRGRTurn
import Derived.Test.YtoagnhppjlcpkaaGreatRGBut
import Derived.Test.YtoagnhppjlcpkaaGreatRGArrOthers
namespace Go.Proofs.YtoagnhppjlcpkaaGreat.V
set_option maxRecDepth 20000

/-- Each entry of what is made is the entry at an index that is told. -/
def ThroughY (ds D : List Int) (Y : Nat → List Int) (S : Int → List Int → Int) (T : List Int → List Int) : Prop :=
  ∀ i : Nat, i < (prod D).toNat → (Y i).length = ds.length ∧ IdxOk ds (Y i) ∧ ∀ s ss, ss.length = ds.length → S s ss + lieN D (T ss) i = s + dotT (Y i) ss ds.length
theorem idx_turn {ds ps : List Int} (hE : sizeE ds = 0) (hp : PermOk ps ds.length) : ThroughY ds (taken ds ps) (fun i => taken (dig (taken ds ps) i) (invL ps)) (fun s _ => s) (fun ss => taken ss ps) := by
  intro i hi
  have hl := hp.1
  have hpm := taken_perm hp
  have hpos := pos_of (by rw [sizeE_perm hpm]; exact hE) hi
  have hb := dig_bd (taken ds ps) i hpos (by omega) (by omega)
  have hdl : (dig (taken ds ps) i).length = ds.length := by rw [dig_length, taken_length, hl]
  refine ⟨by rw [taken_length, invL_length, hl], fun k hk => ?_, fun s ss hss => ?_⟩
  · obtain ⟨j, h1, h2, h3⟩ := perm_at hp k hk
    have e1 : (taken (dig (taken ds ps) i) (invL ps))[k]?.getD 0 = (dig (taken ds ps) i)[j]?.getD 0 := taken_getD _ _ k j (by rw [invL_length]; omega) (by rw [invL_getD ps k (by omega), hl, h2])
    have e2 : (taken ds ps)[j]?.getD 0 = ds[k]?.getD 0 := taken_getD _ _ j k (by omega) h3
    have := hb j (by rw [taken_length]; omega)
    rw [e1, ← e2]; exact this
  · rw [lieN_dig _ _ _ (by rw [taken_length, taken_length]), taken_length, hl, dotT_sumL, dotT_sumL]
    congr 1
    have hpr : (ps.map Int.toNat).Perm (List.range ds.length) := by
      refine perm_range _ _ (by simp [hl]) (fun k hk => ?_)
      have := (perm_iff hp.1).1 hp.2 k hk
      simp only [List.mem_map]
      exact ⟨(k : Int), this, by simp⟩
    have h2 := sumL_perm (hpr.map (fun k => (taken (dig (taken ds ps) i) (invL ps))[k]?.getD 0 * ss[k]?.getD 0))
    rw [← h2]
    congr 1
    rw [List.map_map]
    apply List.ext_getElem?
    intro j
    by_cases hj : j < ds.length
    · have hjp : j < ps.length := by omega
      have hpj := hp.2 j hj
      obtain ⟨m, hm⟩ : ∃ m : Nat, ps[j]?.getD 0 = (m : Int) := ⟨(ps[j]?.getD 0).toNat, by omega⟩
      have hmn : m < ds.length := by omega
      obtain ⟨j', h1, h2', h3⟩ := perm_at hp m hmn
      have ejj := perm_inj hp hj h1 (hm.trans h3.symm)
      subst ejj
      have e1 : (taken (dig (taken ds ps) i) (invL ps))[m]?.getD 0 = (dig (taken ds ps) i)[j]?.getD 0 := taken_getD _ _ m j (by rw [invL_length]; omega) (by rw [invL_getD ps m (by omega), hl, h2'])
      have e2 : (taken ss ps)[j]?.getD 0 = ss[m]?.getD 0 := taken_getD _ _ j m hjp hm
      have hm' : ps[j] = (m : Int) := by simpa [hjp] using hm
      simp only [List.getElem?_map, List.getElem?_range hj, Option.map_some, List.getElem?_eq_getElem hjp, Function.comp, hm', Int.toNat_natCast, e1, e2]
    · rw [List.getElem?_eq_none (by simp; omega), List.getElem?_eq_none (by simp; omega)]
theorem idx_flip {ds ps : List Int} (hE : sizeE ds = 0) (hp : RiseOk ps ds.length) : ThroughY ds ds (fun i => (List.range ds.length).map fun k => if inB ps k = true then ds[k]?.getD 0 - 1 - (dig ds i)[k]?.getD 0 else (dig ds i)[k]?.getD 0) (fun s ss => flipAcc s ds ss ps ps.length) (fun ss => flipL ss ps) := by
  intro i hi
  have hpos := pos_of hE hi
  have hb := dig_bd ds i hpos (by omega) (by omega)
  refine ⟨by simp, fun k hk => ?_, fun s ss hss => ?_⟩
  · have := hb k hk
    simp only [List.getElem?_map, List.getElem?_range hk, Option.map_some, Option.getD_some]
    split <;> omega
  · show flipAcc s ds ss ps ps.length + lieN ds (flipL ss ps) i = _
    rw [← rAcc_flipAcc s ds ss ps ds.length hp, lieN_dig ds _ _ (by rw [flipL_length]; exact hss)]
    have key : ∀ k, k ≤ ds.length → rAcc s ds ss ps k + dotT (dig ds i) (flipL ss ps) k = s + dotT ((List.range ds.length).map fun k => if inB ps k = true then ds[k]?.getD 0 - 1 - (dig ds i)[k]?.getD 0 else (dig ds i)[k]?.getD 0) ss k := by
      intro k
      induction k with
      | zero => intro _; simp [rAcc, dotT]
      | succ k ih =>
        intro hk
        have ih' := ih (by omega)
        have hk' : k < ds.length := by omega
        have hd := hpos _ (mem_getD ds k hk')
        rw [rAcc, dotT, dotT, flipL_getD ss ps k (by omega)]
        simp only [List.getElem?_map, List.getElem?_range hk', Option.map_some, Option.getD_some]
        by_cases c : inB ps k = true
        · rw [if_pos c, if_pos c, if_pos c]
          unfold flipTerm
          rw [if_pos (by omega)]
          simp only [Int.sub_mul, Int.mul_neg, Int.one_mul]
          omega
        · rw [if_neg c, if_neg c, if_neg c]
          omega
    exact key ds.length (Nat.le_refl _)
theorem idx_cut {ds lo hi st : List Int} (hE : sizeE (cutD ds lo hi st) = 0) (hb : anyBad ds lo hi st = false) : ThroughY ds (cutD ds lo hi st) (fun i => (List.range ds.length).map fun k => lo[k]?.getD 0 + (dig (cutD ds lo hi st) i)[k]?.getD 0 * st[k]?.getD 0) (fun s ss => cutAcc s ss lo ds.length) (fun ss => cutS ss st) := by
  intro i hi'
  have hpos := pos_of hE hi'
  have hbd := dig_bd (cutD ds lo hi st) i hpos (by omega) (by omega)
  have hcl := cutD_length ds lo hi st
  refine ⟨by simp, fun k hk => ?_, fun s ss hss => ?_⟩
  · have h1 := hbd k (by omega)
    rw [cutD_getD ds lo hi st k hk] at h1
    have h2 := badCut_false (of_anyBad_false hb k hk)
    have h3 := kept_lt h2.2.2.2.1 h1.2
    have h4 : 0 ≤ (dig (cutD ds lo hi st) i)[k]?.getD 0 * st[k]?.getD 0 := Int.mul_nonneg h1.1 (by omega)
    simp only [List.getElem?_map, List.getElem?_range hk, Option.map_some, Option.getD_some]
    omega
  · show cutAcc s ss lo ds.length + lieN (cutD ds lo hi st) (cutS ss st) i = s + dotT ((List.range ds.length).map fun k => lo[k]?.getD 0 + (dig (cutD ds lo hi st) i)[k]?.getD 0 * st[k]?.getD 0) ss ds.length
    rw [lieN_dig _ _ _ (by rw [cutS_length, hcl]; exact hss), cutAcc_eq, hcl]
    have key : ∀ k, k ≤ ds.length → dotT lo ss k + dotT (dig (cutD ds lo hi st) i) (cutS ss st) k = dotT ((List.range ds.length).map fun k => lo[k]?.getD 0 + (dig (cutD ds lo hi st) i)[k]?.getD 0 * st[k]?.getD 0) ss k := by
      intro k
      induction k with
      | zero => intro _; simp [dotT]
      | succ k ih =>
        intro hk
        have ih' := ih (by omega)
        have hk' : k < ds.length := by omega
        rw [dotT, dotT, dotT, cutS_getD ss st k (by omega)]
        simp only [List.getElem?_map, List.getElem?_range hk', Option.map_some, Option.getD_some]
        rw [Int.add_mul, Int.mul_assoc]
        omega
    have := key ds.length (Nat.le_refl _)
    omega
theorem idx_spread {ds es ps : List Int} (hE : sizeE es = 0) (hl : ps.length = ds.length) (hp : RiseOk ps es.length) (hm : anyMis ds es ps = false) : ThroughY ds es (fun i => (List.range ds.length).map fun k => (dig es i)[(ps[k]?.getD 0).toNat]?.getD 0) (fun s _ => s) (fun ss => sprS es.length ss ps) := by
  intro i hi
  have hpos := pos_of hE hi
  have hb := dig_bd es i hpos (by omega) (by omega)
  refine ⟨by simp, fun k hk => ?_, fun s ss hss => ?_⟩
  · have h1 := hp k (by omega)
    have h2 := hb (ps[k]?.getD 0).toNat (by omega)
    have h3 : misAt ds es ps k = false := by
      unfold anyMis at hm
      rw [List.any_eq_false] at hm
      have := hm k (List.mem_range.2 (by omega))
      simpa using this
    simp [misAt] at h3
    simp only [List.getElem?_map, List.getElem?_range hk, Option.map_some, Option.getD_some]
    rw [h3]; exact h2
  · rw [lieN_dig _ _ _ (by rw [sprS_length])]
    have key : ∀ k, k ≤ ds.length → dotT (dig es i) ((List.range es.length).map (sprV ss ps k)) es.length = dotT ((List.range ds.length).map fun k => (dig es i)[(ps[k]?.getD 0).toNat]?.getD 0) ss k := by
      intro k
      induction k with
      | zero => intro _; exact dotT_zero _ _ _ (Nat.le_refl _)
      | succ k ih =>
        intro hk
        have ih' := ih (by omega)
        have hk' : k < ds.length := by omega
        have h1 := hp k (by omega)
        have hf : sprV ss ps k (ps[k]?.getD 0).toNat = 0 := sprV_none k fun j hj e => by
          have h2 := rise_lt hp j k hj (by omega)
          have h3 := hp j (by omega)
          omega
        have e := dotT_put (dig es i) (sprV ss ps k) (sprV ss ps (k + 1)) es.length (ps[k]?.getD 0).toNat (ss[k]?.getD 0) (fun j => rfl) es.length (Nat.le_refl _)
        rw [e, ih', if_pos (by omega), hf, dotT, Int.sub_zero]
        simp only [List.getElem?_map, List.getElem?_range hk', Option.map_some, Option.getD_some]
    have := key ds.length (Nat.le_refl _)
    unfold sprS
    rw [hl, this]
theorem place_dot {ds y : List Int} (hE : sizeE ds = 0) (hl : y.length = ds.length) (hi : IdxOk ds y) : placeN ds y = dotT y (stepsV ds) ds.length := by
  have e : placeN ds y = placeS ds y ds.length := by rw [placeN, if_neg (by simp [hE]), if_neg (by simp [hl]), if_pos ((idxB_iff _ _).2 hi)]
  have hz : (0 : Int) ∉ ds := fun e => by have := idxOk_pos hi 0 e; omega
  have key : ∀ k, k ≤ ds.length → placeS ds y k = dotT y (stepsV ds) k := fun k => by
    induction k with
    | zero => intro _; rfl
    | succ k ih => intro hk; rw [placeS, dotT, ih (by omega), stepsV_getD hz (by omega)]
  rw [e, key _ (Nat.le_refl _)]
theorem idx_read {ds D : List Int} {Y : Nat → List Int} {S : Int → List Int → Int} {T : List Int → List Int} (h : ThroughY ds D Y S T) (hE : sizeE ds = 0) (i : Nat) (hi : i < (prod D).toNat) :
    ∃ p : Nat, p < (prod ds).toNat ∧ placeN ds (Y i) = (p : Int) ∧ (readsV (S 0 (stepsV ds)) D (T (stepsV ds)))[i]?.getD 0 = (p : Int) := by
  obtain ⟨h1, h2, h3⟩ := h i hi
  have h4 := h3 0 (stepsV ds) (stepsV_len ds)
  obtain ⟨q0, q1, _⟩ := place_lie ds (stepsV ds) (Y i) (stepsV_len ds) h1 h2
  refine ⟨(dotT (Y i) (stepsV ds) ds.length).toNat, by omega, ?_, ?_⟩
  · rw [place_dot hE h1 h2]; omega
  · rw [readsV_getD _ _ _ i hi, h4]; omega
theorem fillF_full (f : Nat → Int) (r : Nat) : fillF f r r = (List.range r).map f := by
  unfold fillF
  refine List.map_congr_left (fun j hj => ?_)
  rw [if_pos (List.mem_range.1 hj)]
theorem setAll_miss {zs ps vs : List Int} {q : Nat} : ∀ k, (∀ j, j < k → (ps[j]?.getD 0).toNat ≠ q) → (setAll zs ps vs k)[q]?.getD 0 = zs[q]?.getD 0
  | 0, _ => rfl
  | k + 1, h => by
    rw [setAll, List.getElem?_set_ne (h k (by omega)), setAll_miss k (fun j hj => h j (by omega))]
theorem setAll_hit {zs ps vs : List Int} {q j : Nat} (hq : q < zs.length) (hj : (ps[j]?.getD 0).toNat = q) : ∀ k, j < k → (∀ i, j < i → i < k → (ps[i]?.getD 0).toNat ≠ q) → (setAll zs ps vs k)[q]?.getD 0 = vs[j]?.getD 0
  | 0, h, _ => by omega
  | k + 1, h, hn => by
    rw [setAll]
    by_cases e : j = k
    · subst e
      rw [hj, List.getElem?_set_self (by rw [setAll_length]; exact hq)]; rfl
    · rw [List.getElem?_set_ne (hn k (by omega) (by omega)), setAll_hit hq hj k (by omega) (fun i h1 h2 => hn i h1 (by omega))]
theorem setAll_inv {ps at' : List Int} {r : Nat} (hp : PermOk ps r) : setAll (List.replicate r 0) ps at' ps.length = taken at' (invL ps) := by
  have hpl := hp.1
  apply List.ext_getElem?
  intro k
  by_cases hk : k < r
  · obtain ⟨j, h1, h2, h3⟩ := perm_at hp k hk
    have e1 : (taken at' (invL ps))[k]?.getD 0 = at'[j]?.getD 0 := taken_getD _ _ k j (by rw [invL_length]; omega) (by rw [invL_getD ps k (by omega), hpl, h2])
    have e2 : (setAll (List.replicate r 0) ps at' ps.length)[k]?.getD 0 = at'[j]?.getD 0 := setAll_hit (by simp; exact hk) (by rw [h3]; omega) ps.length (by omega) (fun i hi1 hi2 e => by
      have hpi := hp.2 i (by omega)
      have := perm_inj hp (i := i) (j := j) (by omega) h1 (by rw [h3]; omega)
      omega)
    have l1 : k < (setAll (List.replicate r 0) ps at' ps.length).length := by rw [setAll_length]; simp; exact hk
    have l2 : k < (taken at' (invL ps)).length := by rw [taken_length, invL_length]; omega
    rw [List.getElem?_eq_getElem l1, List.getElem?_eq_getElem l2] at *
    simp only [Option.getD_some] at e1 e2
    rw [e1, e2]
  · rw [List.getElem?_eq_none (by rw [setAll_length]; simp; omega), List.getElem?_eq_none (by rw [taken_length, invL_length]; omega)]
end Go.Proofs.YtoagnhppjlcpkaaGreat.V

/-
  Contracts: adjointref2.Do of what looks at an array through a view: just what is made.
-/
namespace Go.Proofs.YtoagnhppjlcpkaaGreat.V
set_option maxRecDepth 20000
open Go.RowKit

/-- What the document's Do answers, where it tells no error. -/
def DoesR (L f : List Int) (N : Nat) (e : Ending) (W' : World) : Prop :=
  ∃ (Z : Option Addr) (nz cz : Nat) (G : Option Addr) (cg : Nat), e = .returned (.tuple #[.agg #[.slice Z nz cz, .slice G N cg], .int .i64 0]) ∧ (Ints W' Z nz L ∧ nz ≤ cz) ∧ Ints W' G N f
theorem dig_pos {L : List Int} (hz : sizeE L = 0) {n : Nat} (hn : n < (prod L).toNat) : ∀ j, j < L.length → 0 ≤ (dig L n)[j]?.getD 0 ∧ (dig L n)[j]?.getD 0 < L[j]?.getD 0 :=
  dig_bd L n (pos_of hz hn) (by omega) (by omega)
theorem spr_parts {ds es ps : List Int} (h : sprE 0 ds (stepsV ds) es ps = 0) : (ps.length = ds.length ∧ riseB ps es.length = true) ∧ anyMis ds es ps = false := by
  have hW : wrongE 0 ds (stepsV ds) = 0 := by
    unfold sprE at h
    by_cases c : wrongE 0 ds (stepsV ds) = 0
    · exact c
    · rw [if_pos c] at h; exact absurd h c
  unfold sprE at h
  rw [if_neg (by simp [hW])] at h
  have hE : sizeE es = 0 := by
    by_cases c : sizeE es = 0
    · exact c
    · rw [if_pos c] at h; exact absurd h c
  rw [if_neg (by simp [hE])] at h
  have hl : ps.length = ds.length ∧ riseB ps es.length = true := by
    by_cases c : ps.length = ds.length ∧ riseB ps es.length = true
    · exact c
    · rw [if_neg c] at h; omega
  rw [if_pos hl] at h
  refine ⟨hl, ?_⟩
  cases c : anyMis ds es ps with
  | false => rfl
  | true => rw [c] at h; simp at h
theorem lens_of {n : Nat} {lo hi st : List Int} (h : lensB n lo hi st = true) : lo.length = n ∧ hi.length = n ∧ st.length = n := by
  simpa [lensB, and_assoc] using h
theorem cut_small {ds lo hi st : List Int} (hz : sizeE ds = 0) (hs : sizeE (cutD ds lo hi st) = 0) (hb : anyBad ds lo hi st = false) {n : Nat} (hn : n < (prod (cutD ds lo hi st)).toNat) (k : Nat) (hk : k < ds.length) : 0 ≤ (dig (cutD ds lo hi st) n)[k]?.getD 0 * st[k]?.getD 0 ∧ 0 ≤ lo[k]?.getD 0 ∧ lo[k]?.getD 0 + (dig (cutD ds lo hi st) n)[k]?.getD 0 * st[k]?.getD 0 ≤ 4096 := by
  have h1 := dig_pos hs hn k (by rw [cutD_length]; exact hk)
  rw [cutD_getD ds lo hi st k hk] at h1
  have h2 := badCut_false (of_anyBad_false hb k hk)
  have h3 := kept_lt h2.2.2.2.1 h1.2
  have h4 : 0 ≤ (dig (cutD ds lo hi st) n)[k]?.getD 0 * st[k]?.getD 0 := Int.mul_nonneg h1.1 (by omega)
  have h5 := ((sizeE_ok hz).2.1 _ (mem_getD ds k hk)).2
  omega
end Go.Proofs.YtoagnhppjlcpkaaGreat.V

/-
  Contract: adjointref2.entry, of Sum.
-/
namespace Go.Proofs.YtoagnhppjlcpkaaGreat.V
set_option maxRecDepth 20000
open Go.RowKit

/-- A sum that wraps round at each step. -/
def accS (g : Nat → Int) : Nat → Int
  | 0 => 0
  | t + 1 => IntKind.i64.wrap (accS g t + g t)
/-- A list of indices. -/
def fAllC (N len : Nat) (ds : List Int) : Fact := ⟨fun v w => ∃ B A c, v = .slice A N c ∧ ListsC w B A N len (fun i => dig ds i), false⟩
theorem fAllC_good (N len : Nat) (ds : List Int) : (fAllC N len ds).Good := ⟨fun _ _ _ ⟨B, A, c, h1, h2⟩ hb => ⟨B, A, c, h1, h2.below hb⟩, fun h => by cases h⟩
/-- A list of r numbers, in a row of its own. -/
def fRowL (r : Nat) (xs : List Int) : Fact := ⟨fun v w => ∃ g, v = .slice (some ⟨g, 0, none⟩) r r ∧ Ints w (some ⟨g, 0, none⟩) r xs, false⟩
theorem fRowL_good (r : Nat) (xs : List Int) : (fRowL r xs).Good := ⟨fun _ _ _ ⟨g, h1, h2⟩ hb => ⟨g, h1, h2.below hb⟩, fun h => by cases h⟩

set_option maxRecDepth 100000 in
set_option maxHeartbeats 2000000 in
theorem rentry_sum (x : Int) (vd vl vh vs : Value) (pa : Option Addr) (pl pc : Nat) (ps : List Int) (b off cap : Nat) (da : Option Addr) (dl dc : Nat) (ds : List Int) (xa : Option Addr) (n1 xc : Nat) (xs : List Int) (aa : Option Addr) (al ac : Nat) (at' : List Int) (nn : Int) (w : World) (q : Nat → Nat)
    (h0 : w.cell? ⟨b, off, none⟩ = some (.slice da dl dc)) (h1 : w.cell? ⟨b, off + 1, none⟩ = some (.slice xa n1 xc)) (hps : Ints w pa pl ps) (hd : Ints w da dl ds) (hdc : dl ≤ dc) (hx : Ints w xa n1 xs) (hat : Ints w aa al at') (h6 : dl ≤ 6) (hp6 : pl ≤ 6)
    (hpb : ∀ y ∈ ps, 0 ≤ y ∧ y < dl) (hz : sizeE (taken ds ps) = 0) (hfl : (freeL ps dl).length ≤ al)
    (hq : ∀ t : Nat, t < (prod (taken ds ps)).toNat → placeN ds (setAll (setAll (List.replicate dl 0) ps (dig (taken ds ps) t) pl) (freeL ps dl) at' (freeL ps dl).length) = (q t : Int) ∧ q t < n1) :
    Calls Tryz.prog 24 #[.agg #[.int .i64 10, vd, .slice pa pl pc, vl, vh, vs, .int .i64 x], .slice (some ⟨b, off, none⟩) 1 cap, .slice aa al ac, .int .i64 nn] w fun e w' => e = .returned (.int .i64 (accS (fun t => xs[q t]?.getD 0) (prod (taken ds ps)).toNat)) ∧ Below w.heap.size w w' := by
  have HB1 := hide ((Below.refl w.heap.size w).alloc (Nat.le_refl _) (.cells #[.int .i64 10, vd, .slice pa pl pc, vl, vh, vs, .int .i64 x] 24))
  have HOP := hide (OpAt.new w 10 vd (.slice pa pl pc) vl vh vs x)
  obtain ⟨o0, o1, o2, o3, o4, o5, o6⟩ := HOP.out.cells
  have k0 := (HB1.out.cell (p := ⟨b, off, none⟩) (lt_of_cell h0)).trans h0
  have k1 := (HB1.out.cell (p := ⟨b, off + 1, none⟩) (lt_of_cell h1)).trans h1
  have hmd := hd.2.1
  have HPS := hide hps
  have HD := hide hd
  have HX := hide hx
  have HAT := hide hat
  have HPB := hide hpb
  have HZ := hide hz
  have HQ := hide hq
  obtain ⟨NC, hNC⟩ : ∃ NC, NC = (prod (taken ds ps)).toNat := ⟨_, rfl⟩
  rw [← hNC] at HQ ⊢
  have HNC := hide hNC
  have hN6 : NC ≤ 65536 := by rw [hNC]; rcases dims_cases hz with ⟨_, _, e⟩ | ⟨_, _, _, e⟩ <;> omega
  have HFB : Hid (∀ i, i < (freeL ps dl).length → 0 ≤ (freeL ps dl)[i]?.getD 0 ∧ (freeL ps dl)[i]?.getD 0 < (dl : Int)) := fun i hi => by have := freeL_rise ps dl i hi; exact ⟨this.1, this.2.1⟩
  have HPB2 : Hid (∀ i, i < pl → 0 ≤ ps[i]?.getD 0 ∧ ps[i]?.getD 0 < (dl : Int)) := fun i hi => HPB.out _ (mem_getD ps i (by rw [HPS.out.1]; exact hi))
  clear h0 h1 hps hd hx hat hpb hz hq hNC
  go_enter Tryz.func24, Tryz.ntmps24
  go_wp2_with fail
  refine region_made 7 8 [fIs (.slice (some ⟨b, off, none⟩) 1 cap), fIs (.pointer (some ⟨b, off, none⟩)), fIs (.pointer (some ⟨b, off, none⟩)), fIs (.slice da dl dc), fIs (.pointer (some ⟨w.heap.size, 2, none⟩)), fIs (.slice pa pl pc), fLst (freeL ps dl)] (by kernel_rfl) (by kernel_rfl) (by kernel_rfl) (fun _ ⟨_, _⟩ ⟨_, _⟩ _ e h => by cases e; exact h) ⟨fIs_good _, fIs_good _, fIs_good _, fIs_good _, fIs_good _, fIs_good _, fLst_good _, trivial⟩ ?mk ?rest
  case mk =>
    refine ⟨fun u wz hb hd => ?_, fun u wz hb hd => ?_, fun u wz hb hd => ?_, fun u wz hb hd => ?_, fun u wz hb hd => ?_, fun u wz hb hd => ?_, fun u wz hb hd => ?_, trivial⟩
    all_goals simp only [Act.put, List.setIfInBounds_toArray, List.set_cons_zero, List.set_cons_succ]
    · go_simp
      exact ⟨rfl, Below.refl _ _, fun h => by cases h⟩
    · have e0 : u 0 = .slice (some ⟨b, off, none⟩) 1 cap := hd 0 (by omega) (by kernel_rfl)
      rw [e0]
      go_simp
      exact ⟨rfl, Below.refl _ _, fun h => by cases h⟩
    · have e1 : u 1 = .pointer (some ⟨b, off, none⟩) := hd 1 (by omega) (by kernel_rfl)
      rw [e1]
      go_simp
      exact ⟨rfl, Below.refl _ _, fun h => by cases h⟩
    · have e2 : u 2 = .pointer (some ⟨b, off, none⟩) := hd 2 (by omega) (by kernel_rfl)
      rw [e2]
      have k0' := (hb.cell (p := ⟨b, off, none⟩) (lt_of_cell k0)).trans k0
      go_simp
      exact ⟨rfl, Below.refl _ _, fun h => by cases h⟩
    · go_simp
      exact ⟨rfl, Below.refl _ _, fun h => by cases h⟩
    · have e4 : u 4 = .pointer (some ⟨w.heap.size, 2, none⟩) := hd 4 (by omega) (by kernel_rfl)
      rw [e4]
      have o2' := (hb.cell (p := ⟨w.heap.size, 2, none⟩) (lt_of_cell o2)).trans o2
      go_simp
      exact ⟨rfl, Below.refl _ _, fun h => by cases h⟩
    · have e3 : u 3 = .slice da dl dc := hd 3 (by omega) (by kernel_rfl)
      have e5 : u 5 = .slice pa pl pc := hd 5 (by omega) (by kernel_rfl)
      rw [e3, e5]
      go_simp
      refine (free_any _ _ _ ds _ _ _ ps wz (HD.out.below (Below.on HB1.out hb)) (HPS.out.below (Below.on HB1.out hb)) h6).mono ?_
      rintro e w2 ⟨⟨v, rfl, hv⟩, hb2⟩
      obtain ⟨X, nx, cx, rfl, hl2, _⟩ := hv
      exact ⟨⟨X, nx, cx, rfl, hl2⟩, hb2, fun h => by cases h⟩
  case rest =>
    intro u wz hb hf hp
    have f0 : u 0 = .slice (some ⟨b, off, none⟩) 1 cap := hf 0 (by omega)
    have f1 : u 1 = .pointer (some ⟨b, off, none⟩) := hf 1 (by omega)
    have f2 : u 2 = .pointer (some ⟨b, off, none⟩) := hf 2 (by omega)
    have f3 : u 3 = .slice da dl dc := hf 3 (by omega)
    have f4 : u 4 = .pointer (some ⟨w.heap.size, 2, none⟩) := hf 4 (by omega)
    have f5 : u 5 = .slice pa pl pc := hf 5 (by omega)
    obtain ⟨FX, fn, fc, f6, hfx⟩ := hf 6 (by omega)
    refine UptoW.rest 1 7 (by rfl) (by kernel_rfl) ?_
    simp only [List.take, List.drop, putOps, Act.put, List.setIfInBounds_toArray, List.set_cons_zero, List.set_cons_succ, Nat.reduceAdd, f0, f1, f2, f3, f4, f5, f6]
    clear f0 f1 f2 f3 f4 f5 f6 hf hp
    have HBz := hide (Below.on HB1.out hb)
    refine wpList_plain rfl (fun K hK => ?_)
    go_simp
    refine hK _ _ (wpList_nil ?_)
    clear hK K
    replace k0 := (hb.cell (p := ⟨b, off, none⟩) (lt_of_cell k0)).trans k0
    replace k1 := (hb.cell (p := ⟨b, off + 1, none⟩) (lt_of_cell k1)).trans k1
    replace o2 := (hb.cell (p := ⟨w.heap.size, 2, none⟩) (lt_of_cell o2)).trans o2
    have HFX := hide hfx
    clear hb hfx o0 o1 o3 o4 o5 o6 HOP
    go_wp2_with fail
    refine region_made 10 11 [fIs (.slice (some ⟨b, off, none⟩) 1 cap), fIs (.pointer (some ⟨b, off, none⟩)), fIs (.pointer (some ⟨b, off, none⟩)), fIs (.slice da dl dc), fIs (.pointer (some ⟨w.heap.size, 2, none⟩)), fIs (.slice pa pl pc), fLst (taken ds ps), fAllC NC pl (taken ds ps), fIs (.int .i64 (NC : Int)), fIs (.int .i64 0)] (by kernel_rfl) (by kernel_rfl) (by kernel_rfl) (fun _ ⟨_, _⟩ ⟨_, _⟩ _ e h => by cases e; exact h) ⟨fIs_good _, fIs_good _, fIs_good _, fIs_good _, fIs_good _, fIs_good _, fLst_good _, fAllC_good _ _ _, fIs_good _, fIs_good _, trivial⟩ ?mk ?rest
    case mk =>
      refine ⟨fun u wz hb hd => ?_, fun u wz hb hd => ?_, fun u wz hb hd => ?_, fun u wz hb hd => ?_, fun u wz hb hd => ?_, fun u wz hb hd => ?_, fun u wz hb hd => ?_, fun u wz hb hd => ?_, fun u wz hb hd => ?_, fun u wz hb hd => ?_, trivial⟩
      all_goals simp only [Act.put, List.setIfInBounds_toArray, List.set_cons_zero, List.set_cons_succ]
      · go_simp
        exact ⟨rfl, Below.refl _ _, fun h => by cases h⟩
      · have e0 : u 0 = .slice (some ⟨b, off, none⟩) 1 cap := hd 0 (by omega) (by kernel_rfl)
        rw [e0]
        go_simp
        exact ⟨rfl, Below.refl _ _, fun h => by cases h⟩
      · have e1 : u 1 = .pointer (some ⟨b, off, none⟩) := hd 1 (by omega) (by kernel_rfl)
        rw [e1]
        go_simp
        exact ⟨rfl, Below.refl _ _, fun h => by cases h⟩
      · have e2 : u 2 = .pointer (some ⟨b, off, none⟩) := hd 2 (by omega) (by kernel_rfl)
        rw [e2]
        have k0' := (hb.cell (p := ⟨b, off, none⟩) (lt_of_cell k0)).trans k0
        go_simp
        exact ⟨rfl, Below.refl _ _, fun h => by cases h⟩
      · go_simp
        exact ⟨rfl, Below.refl _ _, fun h => by cases h⟩
      · have e4 : u 4 = .pointer (some ⟨w.heap.size, 2, none⟩) := hd 4 (by omega) (by kernel_rfl)
        rw [e4]
        have o2' := (hb.cell (p := ⟨w.heap.size, 2, none⟩) (lt_of_cell o2)).trans o2
        go_simp
        exact ⟨rfl, Below.refl _ _, fun h => by cases h⟩
      · have e3 : u 3 = .slice da dl dc := hd 3 (by omega) (by kernel_rfl)
        have e5 : u 5 = .slice pa pl pc := hd 5 (by omega) (by kernel_rfl)
        rw [e3, e5]
        go_simp
        refine (chosen_any _ _ _ ds _ _ _ ps wz (HD.out.below (Below.on HBz.out hb)) (HPS.out.below (Below.on HBz.out hb)) HPB.out hp6).mono ?_
        rintro e w2 ⟨⟨v, rfl, hv⟩, hb2⟩
        obtain ⟨X, nx, cx, rfl, hl2, _⟩ := hv
        exact ⟨⟨X, nx, cx, rfl, hl2⟩, hb2, fun h => by cases h⟩
      · obtain ⟨X, nx, cx, e6, h6'⟩ := hd 6 (by omega) (by kernel_rfl)
        rw [e6]
        go_simp
        have enx : nx = pl := by rw [← h6'.1.1, taken_length, HPS.out.1]
        subst enx
        refine (rall_anyC _ _ _ (taken ds ps) wz h6'.1 HZ.out).mono ?_
        rintro e w2 ⟨⟨A, c, rfl, hls⟩, hb2⟩
        rw [← HNC.out] at hls ⊢
        exact ⟨⟨_, A, c, rfl, hls⟩, hb2, fun h => by cases h⟩
      · obtain ⟨BA, AA, ca, e7, _⟩ := hd 7 (by omega) (by kernel_rfl)
        rw [e7]
        go_simp
        exact ⟨rfl, Below.refl _ _, fun h => by cases h⟩
      · go_simp
        exact ⟨rfl, Below.refl _ _, fun h => by cases h⟩
    case rest =>
      intro u wz hb hf hp
      have f0 : u 0 = .slice (some ⟨b, off, none⟩) 1 cap := hf 0 (by omega)
      have f1 : u 1 = .pointer (some ⟨b, off, none⟩) := hf 1 (by omega)
      have f2 : u 2 = .pointer (some ⟨b, off, none⟩) := hf 2 (by omega)
      have f3 : u 3 = .slice da dl dc := hf 3 (by omega)
      have f4 : u 4 = .pointer (some ⟨w.heap.size, 2, none⟩) := hf 4 (by omega)
      have f5 : u 5 = .slice pa pl pc := hf 5 (by omega)
      obtain ⟨_, _, _, f6, _⟩ := hf 6 (by omega)
      obtain ⟨BA, AA, ca, f7, hls⟩ := hf 7 (by omega)
      have f8 : u 8 = .int .i64 (NC : Int) := hf 8 (by omega)
      have f9 : u 9 = .int .i64 0 := hf 9 (by omega)
      refine UptoW.rest 0 10 (by rfl) (by kernel_rfl) ?_
      simp only [List.take, List.drop, putOps, Act.put, List.setIfInBounds_toArray, List.set_cons_zero, List.set_cons_succ, Nat.reduceAdd, f0, f1, f2, f3, f4, f5, f6, f7, f8, f9]
      clear f0 f1 f2 f3 f4 f5 f6 f7 f8 f9 hf hp
      refine wpList_nil ?_
      have HW2 := hide (Below.on HBz.out hb)
      have HFX2 := hide (HFX.out.below hb)
      have HLS := hide hls
      replace k0 := (hb.cell (p := ⟨b, off, none⟩) (lt_of_cell k0)).trans k0
      replace k1 := (hb.cell (p := ⟨b, off + 1, none⟩) (lt_of_cell k1)).trans k1
      replace o2 := (hb.cell (p := ⟨w.heap.size, 2, none⟩) (lt_of_cell o2)).trans o2
      have HK0 := hide k0
      have HK1 := hide k1
      have HO2 := hide o2
      clear hb hls HFX HBz HB1
      have hfn : fn = (freeL ps dl).length := HFX2.out.1.1.symm
      have hfn2 : (freeL ps dl).length = fn := hfn.symm
      have HFN := hide hfn
      clear hfn hfn2
      go_wp2_with fail
      go_loopw [9, 161] (fun v i wr => ∃ t : Nat, t ≤ NC ∧ i = .int .i64 t ∧ v = .int .i64 (accS (fun t => xs[q t]?.getD 0) t) ∧ Below wz.heap.size wz wr) (fun _ i _ => NC - (intOf i).toNat)
      case atStart => exact ⟨0, Nat.zero_le _, rfl, rfl, Below.refl _ _⟩
      case round =>
        obtain ⟨t, ht, rfl, rfl, hB⟩ := hrel
        have HB := hide hB
        clear hB k0 k1 o2
        by_cases hlt : t < NC
        · obtain ⟨ba, rfl, _, hcs⟩ := HLS.out.resolve_left (by omega)
          obtain ⟨gk, ck, _, y0, hgk, _⟩ := hcs t hlt
          have y1 := (HB.out.cell (p := ⟨ba, t, none⟩) (lt_of_cell y0)).trans y0
          have HGK := hide (hgk.below HB.out)
          have k0 := (HB.out.cell (p := ⟨b, off, none⟩) (lt_of_cell HK0.out)).trans HK0.out
          have k1 := (HB.out.cell (p := ⟨b, off + 1, none⟩) (lt_of_cell HK1.out)).trans HK1.out
          have o2 := (HB.out.cell (p := ⟨w.heap.size, 2, none⟩) (lt_of_cell HO2.out)).trans HO2.out
          obtain ⟨hq1, hq2⟩ := HQ.out t hlt
          have HQ1 := hide hq1
          obtain ⟨Q, hQ⟩ : ∃ Q, Q = q t := ⟨_, rfl⟩
          rw [← hQ] at hq2 HQ1
          have HQQ := hide hQ
          obtain ⟨SV, hSV⟩ : ∃ SV, SV = accS (fun t => xs[q t]?.getD 0) t := ⟨_, rfl⟩
          have HSV := hide hSV
          rw [← hSV]
          obtain ⟨XV, hXV⟩ : ∃ XV, XV = xs[Q]?.getD 0 := ⟨_, rfl⟩
          have HXV := hide hXV
          have i1 : (0 : Int) ≤ (t : Int) := Int.natCast_nonneg _
          have i2 : (t : Int) < (NC : Int) := by omega
          clear hcs y0 hgk hq1 hQ hSV hXV
          go_wp2_with fail
          refine region_made 17 18 [fIs (.int .i64 SV), fIs (.slice (some ⟨b, off, none⟩) 1 cap), fIs (.pointer (some ⟨b, off, none⟩)), fIs (.agg #[.slice da dl dc, .slice xa n1 xc]), fIs (.slice (some ⟨b, off, none⟩) 1 cap), fIs (.pointer (some ⟨b, off, none⟩)), fIs (.pointer (some ⟨b, off, none⟩)), fIs (.slice da dl dc), fIs (.int .i64 (dl : Int)), fIs (.pointer (some ⟨w.heap.size, 2, none⟩)), fIs (.slice pa pl pc), fIs (.slice (some ⟨gk, 0, none⟩) pl ck), fIs (.slice FX fn fc), fIs (.slice aa al ac), fRowL dl (setAll (setAll (List.replicate dl 0) ps (dig (taken ds ps) t) pl) (freeL ps dl) at' (freeL ps dl).length), fIs (.int .i64 XV), fIs (.int .i64 (IntKind.i64.wrap (SV + XV)))] (by kernel_rfl) (by kernel_rfl) (by kernel_rfl) (fun _ ⟨_, _⟩ ⟨_, _⟩ _ e h => by cases e; exact h) ⟨fIs_good _, fIs_good _, fIs_good _, fIs_good _, fIs_good _, fIs_good _, fIs_good _, fIs_good _, fIs_good _, fIs_good _, fIs_good _, fIs_good _, fIs_good _, fIs_good _, fRowL_good _ _, fIs_good _, fIs_good _, trivial⟩ ?mk ?rest
          case mk =>
            refine ⟨fun u wy hb hd => ?_, fun u wy hb hd => ?_, fun u wy hb hd => ?_, fun u wy hb hd => ?_, fun u wy hb hd => ?_, fun u wy hb hd => ?_, fun u wy hb hd => ?_, fun u wy hb hd => ?_, fun u wy hb hd => ?_, fun u wy hb hd => ?_, fun u wy hb hd => ?_, fun u wy hb hd => ?_, fun u wy hb hd => ?_, fun u wy hb hd => ?_, fun u wy hb hd => ?_, fun u wy hb hd => ?_, fun u wy hb hd => ?_, trivial⟩
            all_goals simp only [Act.put, List.setIfInBounds_toArray, List.set_cons_zero, List.set_cons_succ]
            · go_simp
              exact ⟨rfl, Below.refl _ _, fun h => by cases h⟩
            · go_simp
              exact ⟨rfl, Below.refl _ _, fun h => by cases h⟩
            · have e1 : u 1 = .slice (some ⟨b, off, none⟩) 1 cap := hd 1 (by omega) (by kernel_rfl)
              rw [e1]
              go_simp
              exact ⟨rfl, Below.refl _ _, fun h => by cases h⟩
            · have e2 : u 2 = .pointer (some ⟨b, off, none⟩) := hd 2 (by omega) (by kernel_rfl)
              rw [e2]
              have k0' := (hb.cell (p := ⟨b, off, none⟩) (lt_of_cell k0)).trans k0
              have k1' := (hb.cell (p := ⟨b, off + 1, none⟩) (lt_of_cell k1)).trans k1
              go_simp
              exact ⟨rfl, Below.refl _ _, fun h => by cases h⟩
            · go_simp
              exact ⟨rfl, Below.refl _ _, fun h => by cases h⟩
            · have e4 : u 4 = .slice (some ⟨b, off, none⟩) 1 cap := hd 4 (by omega) (by kernel_rfl)
              rw [e4]
              go_simp
              exact ⟨rfl, Below.refl _ _, fun h => by cases h⟩
            · have e5 : u 5 = .pointer (some ⟨b, off, none⟩) := hd 5 (by omega) (by kernel_rfl)
              rw [e5]
              go_simp
              exact ⟨rfl, Below.refl _ _, fun h => by cases h⟩
            · have e6 : u 6 = .pointer (some ⟨b, off, none⟩) := hd 6 (by omega) (by kernel_rfl)
              rw [e6]
              have k0' := (hb.cell (p := ⟨b, off, none⟩) (lt_of_cell k0)).trans k0
              go_simp
              exact ⟨rfl, Below.refl _ _, fun h => by cases h⟩
            · have e7 : u 7 = .slice da dl dc := hd 7 (by omega) (by kernel_rfl)
              rw [e7]
              go_simp
              exact ⟨rfl, Below.refl _ _, fun h => by cases h⟩
            · go_simp
              exact ⟨rfl, Below.refl _ _, fun h => by cases h⟩
            · have e9 : u 9 = .pointer (some ⟨w.heap.size, 2, none⟩) := hd 9 (by omega) (by kernel_rfl)
              rw [e9]
              have o2' := (hb.cell (p := ⟨w.heap.size, 2, none⟩) (lt_of_cell o2)).trans o2
              go_simp
              exact ⟨rfl, Below.refl _ _, fun h => by cases h⟩
            · go_simp
              exact ⟨rfl, Below.refl _ _, fun h => by cases h⟩
            · go_simp
              exact ⟨rfl, Below.refl _ _, fun h => by cases h⟩
            · go_simp
              exact ⟨rfl, Below.refl _ _, fun h => by cases h⟩
            · have e8 : u 8 = .int .i64 (dl : Int) := hd 8 (by omega) (by kernel_rfl)
              have e10 : u 10 = .slice pa pl pc := hd 10 (by omega) (by kernel_rfl)
              have e11 : u 11 = .slice (some ⟨gk, 0, none⟩) pl ck := hd 11 (by omega) (by kernel_rfl)
              have e12 : u 12 = .slice FX fn fc := hd 12 (by omega) (by kernel_rfl)
              have e13 : u 13 = .slice aa al ac := hd 13 (by omega) (by kernel_rfl)
              rw [e8, e10, e11, e12, e13]
              go_simp
              have hbw := Below.on HB.out hb
              have hww := Below.on HW2.out hbw
              have hpl : (freeL ps dl).length = fn := HFN.out.symm
              refine (placed_any dl _ _ _ ps _ _ _ (dig (taken ds ps) t) _ _ _ (freeL ps dl) _ _ _ at' wy h6 (HPS.out.below hww) (HGK.out.below hb) (HFX2.out.1.below hbw) (HAT.out.below hww) (Nat.le_refl _) (by omega) HPB2.out (fun i hi => HFB.out i (by omega))).mono ?_
              rintro e w2 ⟨⟨g, rfl, hg, _⟩, hb2⟩
              rw [← hpl] at hg
              exact ⟨⟨g, rfl, hg⟩, hb2, fun h => by cases h⟩
            · have e3 : u 3 = .agg #[.slice da dl dc, .slice xa n1 xc] := hd 3 (by omega) (by kernel_rfl)
              obtain ⟨g, e14, hg⟩ := hd 14 (by omega) (by kernel_rfl)
              rw [e3, e14]
              go_simp
              have hww := Below.on HW2.out (Below.on HB.out hb)
              refine (rget_any _ _ _ ds _ _ _ xs _ _ _ _ wy Q (HD.out.below hww) hdc (HX.out.below hww) hg HQ1.out hq2).mono ?_
              rintro e w2 ⟨rfl, hb2⟩
              rw [← HXV.out]
              exact ⟨rfl, hb2, fun h => by cases h⟩
            · have e0 : u 0 = .int .i64 SV := hd 0 (by omega) (by kernel_rfl)
              have e15 : u 15 = .int .i64 XV := hd 15 (by omega) (by kernel_rfl)
              rw [e0, e15]
              go_simp
              exact ⟨rfl, Below.refl _ _, fun h => by cases h⟩
          case rest =>
            intro u wy hb hf hp
            have f0 : u 0 = .int .i64 SV := hf 0 (by omega)
            have f1 : u 1 = .slice (some ⟨b, off, none⟩) 1 cap := hf 1 (by omega)
            have f2 : u 2 = .pointer (some ⟨b, off, none⟩) := hf 2 (by omega)
            have f3 : u 3 = .agg #[.slice da dl dc, .slice xa n1 xc] := hf 3 (by omega)
            have f4 : u 4 = .slice (some ⟨b, off, none⟩) 1 cap := hf 4 (by omega)
            have f5 : u 5 = .pointer (some ⟨b, off, none⟩) := hf 5 (by omega)
            have f6 : u 6 = .pointer (some ⟨b, off, none⟩) := hf 6 (by omega)
            have f7 : u 7 = .slice da dl dc := hf 7 (by omega)
            have f8 : u 8 = .int .i64 (dl : Int) := hf 8 (by omega)
            have f9 : u 9 = .pointer (some ⟨w.heap.size, 2, none⟩) := hf 9 (by omega)
            have f10 : u 10 = .slice pa pl pc := hf 10 (by omega)
            have f11 : u 11 = .slice (some ⟨gk, 0, none⟩) pl ck := hf 11 (by omega)
            have f12 : u 12 = .slice FX fn fc := hf 12 (by omega)
            have f13 : u 13 = .slice aa al ac := hf 13 (by omega)
            obtain ⟨_, f14, _⟩ := hf 14 (by omega)
            have f15 : u 15 = .int .i64 XV := hf 15 (by omega)
            have f16 : u 16 = .int .i64 (IntKind.i64.wrap (SV + XV)) := hf 16 (by omega)
            refine UptoW.rest 1 17 (by rfl) (by kernel_rfl) ?_
            simp only [List.take, List.drop, putOps, Act.put, List.setIfInBounds_toArray, List.set_cons_zero, List.set_cons_succ, Nat.reduceAdd, f0, f1, f2, f3, f4, f5, f6, f7, f8, f9, f10, f11, f12, f13, f14, f15, f16]
            clear f0 f1 f2 f3 f4 f5 f6 f7 f8 f9 f10 f11 f12 f13 f14 f15 f16 hf hp
            refine wpList_plain rfl (fun K hK => ?_)
            go_simp
            refine hK _ _ (wpList_nil ?_)
            clear hK K
            go_wp2
            go_roundw
            case rel => exact ⟨t + 1, by omega, by go_num, by rw [accS, ← HSV.out, ← HQQ.out, ← HXV.out], Below.on HB.out hb⟩
            case measure => simp [intOf]; omega
        · obtain rfl : t = NC := by omega
          go_wp2
          go_ret
          exact ⟨rfl, Below.on HW2.out HB.out⟩
end Go.Proofs.YtoagnhppjlcpkaaGreat.V

/-
  Plain mathematics: what is added at places, entry by entry: Pad and Sum.
-/
namespace Go.Proofs.YtoagnhppjlcpkaaGreat.V
set_option maxRecDepth 20000
open Go.RowKit

theorem accS_sum (g : Nat → Int) : ∀ k, accS g k = IntKind.i64.wrap (sumN g k)
  | 0 => by rw [accS, sumN, wrap_in 0 (by omega) (by omega)]
  | k + 1 => by rw [accS, accS_sum g k, wrap_addl, sumN]
theorem sumN_nil {f : Nat → Int} {n : Nat} (h : ∀ t, t < n → f t = 0) : sumN f n = 0 := by rw [sumN_ext n h, sumN_zero]
theorem sumN_one {f : Nat → Int} {n t0 : Nat} (h0 : t0 < n) (h : ∀ t, t < n → t ≠ t0 → f t = 0) : sumN f n = f t0 := by
  have e := sumN_delta t0 (f t0) (fun _ => 1) n
  rw [if_pos h0, Int.mul_one] at e
  rw [← e]
  refine sumN_ext n (fun t ht => ?_)
  by_cases c : t0 = t
  · subst c; rw [if_pos rfl, Int.mul_one]
  · rw [if_neg c, h t ht (fun x => c x.symm), Int.zero_mul]
theorem sum_fiber {n NC : Nat} (B : Nat → Prop) [DecidablePred B] (q : Nat → Nat) (x : Nat → Int) (h1 : ∀ t, t < NC → q t < n ∧ B (q t)) (h2 : ∀ t t', t < NC → t' < NC → q t = q t' → t = t') (h3 : ∀ j, j < n → B j → ∃ t, t < NC ∧ q t = j) : sumN (fun j => (if B j then 1 else 0) * x j) n = sumN (fun t => x (q t)) NC := by
  have e : ∀ j, j < n → (if B j then 1 else 0) * x j = sumN (fun t => if q t = j then x j else 0) NC := fun j hj => by
    by_cases hB : B j
    · obtain ⟨t0, ht, hq⟩ := h3 j hj hB
      rw [if_pos hB, sumN_one ht (fun t h hne => if_neg (fun e => hne (h2 t t0 h ht (e.trans hq.symm)))), if_pos hq, Int.one_mul]
    · rw [if_neg hB, sumN_nil (fun t h => if_neg (fun (e : q t = j) => hB (e ▸ (h1 t h).2))), Int.zero_mul]
  rw [sumN_ext n e, sumN_swap (fun t j => if q t = j then x j else 0) NC n]
  refine sumN_ext NC (fun t ht => ?_)
  rw [sumN_one (h1 t ht).1 (fun j _ hne => if_neg (fun e => hne e.symm)), if_pos rfl]
theorem addS_fiber {N n NC : Nat} {Q xs : List Int} (hQ : ∀ j, j < n → 0 ≤ Q[j]?.getD 0 ∧ Q[j]?.getD 0 < (N : Int)) (i : Nat) (hi : i < N) (q : Nat → Nat) (h1 : ∀ t, t < NC → q t < n ∧ Q[q t]?.getD 0 = (i : Int)) (h2 : ∀ t t', t < NC → t' < NC → q t = q t' → t = t') (h3 : ∀ j, j < n → Q[j]?.getD 0 = (i : Int) → ∃ t, t < NC ∧ q t = j) :
    (addS (List.replicate N 0) Q xs n)[i]?.getD 0 = accS (fun t => xs[q t]?.getD 0) NC := by
  rw [addS_at (fun x hx => by simp at hx; rw [hx.2]; omega) i (by simp; exact hi) n (fun j hj => by simpa using hQ j hj), accS_sum, repl0_at, Int.zero_add]
  congr 1
  exact sum_fiber (fun j => Q[j]?.getD 0 = (i : Int)) q (fun j => xs[j]?.getD 0) h1 h2 h3

theorem dig_place {L : List Int} (hE : sizeE L = 0) {i : Nat} (hi : i < (prod L).toNat) : placeN L (dig L i) = (i : Int) ∧ IdxOk L (dig L i) := by
  have hpos := pos_of hE hi
  have hio : IdxOk L (dig L i) := dig_bd L i hpos (by omega) (by omega)
  refine ⟨?_, hio⟩
  rw [place_dot hE (dig_length _ _) hio, ← lieN_dig L _ _ (stepsV_len L), lieN_whole L i hpos (by omega) (by omega)]
theorem placeN_S {xs ys : List Int} (hE : sizeE xs = 0) (hl : ys.length = xs.length) (h : IdxOk xs ys) : placeN xs ys = placeS xs ys xs.length := by
  rw [placeN, if_neg (by simp [hE]), if_neg (by simp [hl]), if_pos ((idxB_iff _ _).2 h)]
theorem place_inj {ds y y' : List Int} (hE : sizeE ds = 0) (hl : y.length = ds.length) (hl' : y'.length = ds.length) (h : IdxOk ds y) (h' : IdxOk ds y') (e : placeN ds y = placeN ds y') : y = y' := by
  rw [placeN_S hE hl h, placeN_S hE hl' h'] at e
  rw [← index_place h hl, ← index_place h' hl', e]
theorem place_nat {ds y : List Int} (hE : sizeE ds = 0) (hl : y.length = ds.length) (h : IdxOk ds y) : ∃ p : Nat, placeN ds y = (p : Int) ∧ p < (prod ds).toNat ∧ dig ds p = y := by
  have hb := place_bd h
  rw [← placeN_S hE hl h] at hb
  obtain ⟨p, hp⟩ : ∃ p : Nat, placeN ds y = (p : Int) := ⟨(placeN ds y).toNat, by omega⟩
  have hlt : p < (prod ds).toNat := by omega
  refine ⟨p, hp, hlt, ?_⟩
  have := dig_place hE hlt
  exact place_inj hE (dig_length _ _) hl this.2 h (this.1.trans hp.symm)
theorem reads_hit {ds D : List Int} {Y : Nat → List Int} {S : Int → List Int → Int} {T : List Int → List Int} (h : ThroughY ds D Y S T) (hE : sizeE ds = 0) {i j : Nat} (hi : i < (prod ds).toNat) (hj : j < (prod D).toNat) :
    (readsV (S 0 (stepsV ds)) D (T (stepsV ds)))[j]?.getD 0 = (i : Int) ↔ Y j = dig ds i := by
  obtain ⟨p, _, h2, h3⟩ := idx_read h hE j hj
  obtain ⟨hl, hio, _⟩ := h j hj
  have hd := dig_place hE hi
  rw [h3]
  constructor
  · intro e
    exact place_inj hE hl (dig_length _ _) hio hd.2 (h2.trans (e.trans hd.1.symm))
  · intro e
    rw [e, hd.1] at h2
    exact h2.symm
theorem list_at_ext {xs ys : List Int} (hl : xs.length = ys.length) (h : ∀ k, k < ys.length → xs[k]?.getD 0 = ys[k]?.getD 0) : xs = ys := by
  apply List.ext_getElem hl
  intro k h1 h2
  have := h k h2
  rw [List.getElem?_eq_getElem h1, List.getElem?_eq_getElem h2] at this
  simpa using this

/-! ### Pad -/
theorem pad_entry {ds lo hi st xs : List Int} {n i : Nat} (hz : sizeE ds = 0) (hl1 : lensB ds.length lo hi st = true) (hl2 : anyPad ds.length lo hi st = false) (hs2 : sizeE (padD ds lo hi st) = 0) (hn : (n : Int) = prod ds) (hi' : i < (prod (padD ds lo hi st)).toNat) (hx : Bnd xs)
    (hqq : ∀ j, j < n → 0 ≤ (readsV (cutAcc 0 (stepsV (padD ds lo hi st)) lo (padD ds lo hi st).length) ds (cutS (stepsV (padD ds lo hi st)) st))[j]?.getD 0 ∧ (readsV (cutAcc 0 (stepsV (padD ds lo hi st)) lo (padD ds lo hi st).length) ds (cutS (stepsV (padD ds lo hi st)) st))[j]?.getD 0 < ((prod (padD ds lo hi st)).toNat : Int)) :
    ((∀ k, k < (padD ds lo hi st).length → padOk (dig (padD ds lo hi st) i) lo st ds k) → ∃ p : Nat, p < n ∧ placeN ds (fillF (fun j => ((dig (padD ds lo hi st) i)[j]?.getD 0 - lo[j]?.getD 0) / st[j]?.getD 0) (padD ds lo hi st).length (padD ds lo hi st).length) = (p : Int) ∧ (addS (List.replicate (prod (padD ds lo hi st)).toNat 0) (readsV (cutAcc 0 (stepsV (padD ds lo hi st)) lo (padD ds lo hi st).length) ds (cutS (stepsV (padD ds lo hi st)) st)) xs n)[i]?.getD 0 = xs[p]?.getD 0) ∧
    (∀ k, k < (padD ds lo hi st).length → ¬ padOk (dig (padD ds lo hi st) i) lo st ds k → (addS (List.replicate (prod (padD ds lo hi st)).toNat 0) (readsV (cutAcc 0 (stepsV (padD ds lo hi st)) lo (padD ds lo hi st).length) ds (cutS (stepsV (padD ds lo hi st)) st)) xs n)[i]?.getD 0 = 0) := by
  obtain ⟨k1, k2, k3⟩ := pad_cut hz hl1 hl2
  have hpl := padD_length ds lo hi st
  have hth := idx_cut (by rw [k3]; exact hz) k2
  rw [k3, hpl] at hth
  have hit : ∀ j, j < n → ((readsV (cutAcc 0 (stepsV (padD ds lo hi st)) lo (padD ds lo hi st).length) ds (cutS (stepsV (padD ds lo hi st)) st))[j]?.getD 0 = (i : Int) ↔ (List.range ds.length).map (fun k => lo[k]?.getD 0 + (dig ds j)[k]?.getD 0 * st[k]?.getD 0) = dig (padD ds lo hi st) i) := fun j hj => by
    have := reads_hit hth hs2 hi' (j := j) (by omega)
    rw [← hpl] at this ⊢
    exact this
  generalize readsV (cutAcc 0 (stepsV (padD ds lo hi st)) lo (padD ds lo hi st).length) ds (cutS (stepsV (padD ds lo hi st)) st) = Q at *
  have hdl : (dig (padD ds lo hi st) i).length = ds.length := by rw [dig_length, hpl]
  generalize dig (padD ds lo hi st) i = at' at *
  rw [hpl]
  have hat : ∀ j, j < n → Q[j]?.getD 0 = (i : Int) → ∀ k, k < ds.length → at'[k]?.getD 0 = lo[k]?.getD 0 + (dig ds j)[k]?.getD 0 * st[k]?.getD 0 := fun j hj e k hk => by
    rw [← (hit j hj).1 e]
    simp [hk]
  have hst : ∀ k, k < ds.length → 1 ≤ st[k]?.getD 0 := fun k hk => (of_anyPad_false hl2 k hk).2.2.1
  constructor
  · intro hok
    have hio : IdxOk ds (fillF (fun j => (at'[j]?.getD 0 - lo[j]?.getD 0) / st[j]?.getD 0) ds.length ds.length) := fun k hk => by
      obtain ⟨h1, _, h3⟩ := hok k hk
      rw [fillF_full]
      simp only [List.getElem?_map, List.getElem?_range hk, Option.map_some, Option.getD_some]
      exact ⟨Int.ediv_nonneg h1 (by have := hst k hk; omega), h3⟩
    obtain ⟨p, hp1, hp2, hp3⟩ := place_nat hz (by rw [fillF_length]) hio
    refine ⟨p, by omega, hp1, ?_⟩
    have hd : ∀ k, k < ds.length → (dig ds p)[k]?.getD 0 = (at'[k]?.getD 0 - lo[k]?.getD 0) / st[k]?.getD 0 := fun k hk => by
      rw [hp3, fillF_full]
      simp [hk]
    have hQp : Q[p]?.getD 0 = (i : Int) := by
      rw [hit p (by omega)]
      refine list_at_ext (by simp; exact hdl.symm) (fun k hk => ?_)
      rw [hdl] at hk
      obtain ⟨_, h2, _⟩ := hok k hk
      simp only [List.getElem?_map, List.getElem?_range hk, Option.map_some, Option.getD_some]
      rw [hd k hk]
      have := Int.mul_ediv_add_emod (at'[k]?.getD 0 - lo[k]?.getD 0) (st[k]?.getD 0)
      rw [h2, Int.mul_comm] at this
      omega
    have := addS_fiber (NC := 1) (xs := xs) hqq i hi' (fun _ => p) (fun t _ => ⟨by omega, hQp⟩) (fun t t' h h' _ => by omega) (fun j hj e => ⟨0, by omega, ?_⟩)
    · rw [this, accS, accS, Int.zero_add]
      have := bnd_at hx p
      exact wrap_in _ this.1 this.2
    · have h1 : dig ds j = dig ds p := by
        refine list_at_ext (by rw [dig_length, dig_length]) (fun k hk => ?_)
        rw [dig_length] at hk
        have h2 := hat j hj e k hk
        rw [hd k hk, h2]
        have e2 : lo[k]?.getD 0 + (dig ds j)[k]?.getD 0 * st[k]?.getD 0 - lo[k]?.getD 0 = (dig ds j)[k]?.getD 0 * st[k]?.getD 0 := by omega
        rw [e2, Int.mul_ediv_cancel _ (by have := hst k hk; omega)]
      have a1 := (dig_place hz (i := j) (by omega)).1
      have a2 := (dig_place hz (i := p) (by omega)).1
      rw [h1, a2] at a1
      omega
  · intro k hk hno
    refine addS_fiber (NC := 0) (xs := xs) hqq i hi' (fun _ => 0) (fun t h => by omega) (fun t t' h h' _ => by omega) (fun j hj e => absurd ?_ hno)
    have h2 := hat j hj e k hk
    have hb := dig_bd ds j (pos_of hz (i := j) (by omega)) (by omega) (by omega) k hk
    unfold padOk
    rw [h2]
    have e2 : lo[k]?.getD 0 + (dig ds j)[k]?.getD 0 * st[k]?.getD 0 - lo[k]?.getD 0 = (dig ds j)[k]?.getD 0 * st[k]?.getD 0 := by omega
    have := hst k hk
    rw [e2, Int.mul_emod_left, Int.mul_ediv_cancel _ (by omega)]
    exact ⟨Int.mul_nonneg hb.1 (by omega), rfl, hb.2⟩
end Go.Proofs.YtoagnhppjlcpkaaGreat.V

/-
  Plain mathematics: an index that is put together of two parts; Sum, entry by entry.
-/
namespace Go.Proofs.YtoagnhppjlcpkaaGreat.V
set_option maxRecDepth 20000
open Go.RowKit

/-- The index whose numbers at P are vs, and at all others us. -/
def merge (dl : Nat) (P vs us : List Int) : List Int := setAll (setAll (List.replicate dl 0) P vs P.length) (freeL P dl) us (freeL P dl).length
theorem merge_length (dl : Nat) (P vs us : List Int) : (merge dl P vs us).length = dl := by unfold merge; rw [setAll_length, setAll_length, List.length_replicate]
theorem once_at {P : List Int} {n : Nat} (h : Once P n) (i : Nat) (hi : i < P.length) : 0 ≤ P[i]?.getD 0 ∧ P[i]?.getD 0 < n := (once_iff.1 h).1 _ (mem_getD P i hi)
theorem once_inj {P : List Int} {n : Nat} (h : Once P n) {i j : Nat} (hi : i < P.length) (hj : j < P.length) (e : P[i]?.getD 0 = P[j]?.getD 0) : i = j := by
  have hn := (once_iff.1 h).2
  rw [List.getElem?_eq_getElem hi, List.getElem?_eq_getElem hj] at e
  simp only [Option.getD_some] at e
  exact (List.getElem_inj hn).1 e
theorem free_once (P : List Int) (n : Nat) : Once (freeL P n) n := once_of_rise (freeL_rise P n)
theorem merge_free {dl : Nat} {P vs us : List Int} (k : Nat) (hk : k < (freeL P dl).length) : (merge dl P vs us)[((freeL P dl)[k]?.getD 0).toNat]?.getD 0 = us[k]?.getD 0 := by
  have hf := once_at (free_once P dl) k hk
  refine setAll_hit (by rw [setAll_length, List.length_replicate]; omega) rfl _ hk (fun i h1 h2 e => ?_)
  have hg := once_at (free_once P dl) i h2
  have := once_inj (free_once P dl) h2 hk (by omega)
  omega
theorem free_apart {P : List Int} {dl k a : Nat} (hk : k < (freeL P dl).length) (ha : a < P.length) : (freeL P dl)[k]?.getD 0 ≠ P[a]?.getD 0 := fun e => by
  obtain ⟨j, hj, e1, e2⟩ := mem_freeL.1 (mem_getD (freeL P dl) k hk)
  have h1 := mem_getD P a ha
  rw [← e, e1] at h1
  exact inB_not.1 e2 h1
theorem merge_in {dl : Nat} {P vs us : List Int} (hP : Once P dl) (a : Nat) (ha : a < P.length) : (merge dl P vs us)[(P[a]?.getD 0).toNat]?.getD 0 = vs[a]?.getD 0 := by
  have hf := once_at hP a ha
  unfold merge
  rw [setAll_miss _ (fun j hj e => ?_)]
  · refine setAll_hit (by rw [List.length_replicate]; omega) rfl _ ha (fun i h1 h2 e => ?_)
    have hg := once_at hP i h2
    have := once_inj hP h2 ha (by omega)
    omega
  · have hg := once_at (free_once P dl) j hj
    exact free_apart hj ha (by omega)
theorem part_cases {P : List Int} {dl : Nat} (d : Nat) (hd : d < dl) : (∃ a, a < P.length ∧ P[a]?.getD 0 = (d : Int)) ∨ (∃ k, k < (freeL P dl).length ∧ (freeL P dl)[k]?.getD 0 = (d : Int)) := by
  by_cases c : (d : Int) ∈ P
  · obtain ⟨a, ha, e⟩ := List.getElem_of_mem c
    exact .inl ⟨a, ha, by rw [List.getElem?_eq_getElem ha]; exact e⟩
  · obtain ⟨k, hk, e⟩ := List.getElem_of_mem (mem_freeL.2 ⟨d, hd, rfl, inB_not.2 c⟩)
    exact .inr ⟨k, hk, by rw [List.getElem?_eq_getElem hk]; exact e⟩
theorem merge_idx {ds P vs us : List Int} (hP : Once P ds.length) (hv : IdxOk (taken ds P) vs) (hu : IdxOk (taken ds (freeL P ds.length)) us) : IdxOk ds (merge ds.length P vs us) := fun d hd => by
  rcases part_cases (P := P) d hd with ⟨a, ha, e⟩ | ⟨k, hk, e⟩
  · have h1 := merge_in (vs := vs) (us := us) hP a ha
    have h2 := hv a (by rw [taken_length]; exact ha)
    rw [taken_at _ _ _ ha, e, Int.toNat_natCast] at h2
    rw [e, Int.toNat_natCast] at h1
    rw [h1]; exact h2
  · have h1 := merge_free (dl := ds.length) (P := P) (vs := vs) (us := us) k hk
    have h2 := hu k (by rw [taken_length]; exact hk)
    rw [taken_at _ _ _ hk, e, Int.toNat_natCast] at h2
    rw [e, Int.toNat_natCast] at h1
    rw [h1]; exact h2
theorem merge_eq {dl : Nat} {P vs us y : List Int} (hP : Once P dl) (hl : y.length = dl) (hv : ∀ a, a < P.length → y[(P[a]?.getD 0).toNat]?.getD 0 = vs[a]?.getD 0) (hu : ∀ k, k < (freeL P dl).length → y[((freeL P dl)[k]?.getD 0).toNat]?.getD 0 = us[k]?.getD 0) : merge dl P vs us = y := by
  refine list_at_ext (by rw [merge_length, hl]) (fun d hd => ?_)
  rw [hl] at hd
  rcases part_cases (P := P) d hd with ⟨a, ha, e⟩ | ⟨k, hk, e⟩
  · have h1 := merge_in (vs := vs) (us := us) hP a ha
    have h2 := hv a ha
    rw [e, Int.toNat_natCast] at h1 h2
    rw [h1, h2]
  · have h1 := merge_free (dl := dl) (P := P) (vs := vs) (us := us) k hk
    have h2 := hu k hk
    rw [e, Int.toNat_natCast] at h1 h2
    rw [h1, h2]
theorem size_part {ds P : List Int} {c : Int} (hz : sizeE ds = 0) (hl : P.length ≤ 6) (hb : ∀ y ∈ P, 0 ≤ y ∧ y < ds.length) (hp : prod ds = c * prod (taken ds P)) (hc : 1 ≤ c) : sizeE (taken ds P) = 0 := by
  have hm : ∀ x ∈ taken ds P, x ∈ ds := fun x hx => by
    simp only [taken, List.mem_map] at hx
    obtain ⟨y, hy, rfl⟩ := hx
    have := hb y hy
    exact mem_getD ds _ (by omega)
  obtain ⟨_, z2, z3, _⟩ := sizeE_ok hz
  unfold sizeE
  rw [if_neg (by rw [taken_length]; omega), if_neg ?_]
  · by_cases h0 : (0 : Int) ∈ taken ds P
    · rw [if_pos h0]
    · rw [if_neg h0, if_neg ?_]
      have h1 : ∀ x ∈ taken ds P, 1 ≤ x := fun x hx => by
        have := z2 x (hm x hx)
        have : x ≠ 0 := fun e => h0 (e ▸ hx)
        omega
      have h2 := prod_pos _ h1
      have h3 : 1 * prod (taken ds P) ≤ c * prod (taken ds P) := Int.mul_le_mul_of_nonneg_right hc (by omega)
      rcases dims_cases hz with ⟨_, _, e⟩ | ⟨_, _, e, _⟩ <;> omega
  · have : (taken ds P).any badDim = false := by
      rw [List.any_eq_false]
      intro x hx
      have := z2 x (hm x hx)
      simp [badDim]; omega
    rw [this]; simp

/-! ### Sum -/
theorem sum_entry {ds ps xs : List Int} {n i : Nat} (hz : sizeE ds = 0) (hr : RiseOk ps ds.length) (hs2 : sizeE (taken ds (freeL ps ds.length)) = 0) (hn : (n : Int) = prod ds) (hi' : i < (prod (taken ds (freeL ps ds.length))).toNat)
    (hqq : ∀ j, j < n → 0 ≤ (readsV 0 ds (sprS ds.length (stepsV (taken ds (freeL ps ds.length))) (freeL ps ds.length)))[j]?.getD 0 ∧ (readsV 0 ds (sprS ds.length (stepsV (taken ds (freeL ps ds.length))) (freeL ps ds.length)))[j]?.getD 0 < ((prod (taken ds (freeL ps ds.length))).toNat : Int)) :
    sizeE (taken ds ps) = 0 ∧ ∃ q : Nat → Nat, (∀ t : Nat, t < (prod (taken ds ps)).toNat → placeN ds (merge ds.length ps (dig (taken ds ps) t) (dig (taken ds (freeL ps ds.length)) i)) = (q t : Int) ∧ q t < n) ∧
      (addS (List.replicate (prod (taken ds (freeL ps ds.length))).toNat 0) (readsV 0 ds (sprS ds.length (stepsV (taken ds (freeL ps ds.length))) (freeL ps ds.length))) xs n)[i]?.getD 0 = accS (fun t => xs[q t]?.getD 0) (prod (taken ds ps)).toNat := by
  have hO := once_of_rise hr
  have hob := (once_iff.1 hO).1
  have h6 := (sizeE_ok hz).1
  have hpl : ps.length ≤ ds.length := by have := freeL_count ds.length ps (once_iff.1 hO).2 hob; omega
  have hpp : prod ds = prod (taken ds (freeL ps ds.length)) * prod (taken ds ps) := by
    have := (dot_parts (lo := []) (ps := ps) (ds := ds) ((onceB_iff _ _).2 hO)).2
    simpa [taken, prod] using this
  have hC : sizeE (taken ds ps) = 0 := size_part hz (by omega) hob hpp (by omega)
  refine ⟨hC, ?_⟩
  have hth := idx_spread (ds := taken ds (freeL ps ds.length)) (ps := freeL ps ds.length) hz (taken_length _ _).symm (freeL_rise ps ds.length) (anyMis_false (fun j hj => by unfold misAt; rw [taken_at _ _ _ hj]; simp))
  have hit : ∀ j, j < n → ((readsV 0 ds (sprS ds.length (stepsV (taken ds (freeL ps ds.length))) (freeL ps ds.length)))[j]?.getD 0 = (i : Int) ↔ (List.range (taken ds (freeL ps ds.length)).length).map (fun k => (dig ds j)[((freeL ps ds.length)[k]?.getD 0).toNat]?.getD 0) = dig (taken ds (freeL ps ds.length)) i) := fun j hj => reads_hit hth hs2 hi' (j := j) (by omega)
  rw [taken_length] at hit
  have hio : ∀ t : Nat, t < (prod (taken ds ps)).toNat → IdxOk ds (merge ds.length ps (dig (taken ds ps) t) (dig (taken ds (freeL ps ds.length)) i)) := fun t ht => merge_idx hO (dig_place hC ht).2 (dig_place hs2 hi').2
  have hdi : (dig (taken ds (freeL ps ds.length)) i).length = (freeL ps ds.length).length := by rw [dig_length, taken_length]
  have hch : ∀ t : Nat, ∃ p : Nat, t < (prod (taken ds ps)).toNat → placeN ds (merge ds.length ps (dig (taken ds ps) t) (dig (taken ds (freeL ps ds.length)) i)) = (p : Int) ∧ p < (prod ds).toNat ∧ dig ds p = merge ds.length ps (dig (taken ds ps) t) (dig (taken ds (freeL ps ds.length)) i) := fun t => by
    by_cases ht : t < (prod (taken ds ps)).toNat
    · obtain ⟨p, h1, h2, h3⟩ := place_nat hz (merge_length _ _ _ _) (hio t ht)
      exact ⟨p, fun _ => ⟨h1, h2, h3⟩⟩
    · exact ⟨0, fun h => absurd h ht⟩
  obtain ⟨q, hq⟩ : ∃ q : Nat → Nat, ∀ t : Nat, t < (prod (taken ds ps)).toNat → placeN ds (merge ds.length ps (dig (taken ds ps) t) (dig (taken ds (freeL ps ds.length)) i)) = (q t : Int) ∧ q t < (prod ds).toNat ∧ dig ds (q t) = merge ds.length ps (dig (taken ds ps) t) (dig (taken ds (freeL ps ds.length)) i) := ⟨fun t => Classical.choose (hch t), fun t => Classical.choose_spec (hch t)⟩
  clear hch
  refine ⟨q, fun t ht => ?_, addS_fiber hqq i hi' _ (fun t ht => ?_) (fun t t' ht ht' e => ?_) (fun j hj e => ?_)⟩
  · obtain ⟨h1, h2, _⟩ := hq t ht
    exact ⟨h1, by omega⟩
  · obtain ⟨_, h2, h3⟩ := hq t ht
    refine ⟨by omega, ?_⟩
    rw [hit _ (by omega), h3]
    refine list_at_ext (by simp; exact hdi.symm) (fun k hk => ?_)
    rw [hdi] at hk
    simp only [List.getElem?_map, List.getElem?_range hk, Option.map_some, Option.getD_some]
    exact merge_free k hk
  · have h1 := (hq t ht).2.2
    have h2 := (hq t' ht').2.2
    rw [e, h2] at h1
    have h3 : dig (taken ds ps) t = dig (taken ds ps) t' := by
      refine list_at_ext (by rw [dig_length, dig_length]) (fun a ha => ?_)
      rw [dig_length, taken_length] at ha
      rw [← merge_in (us := dig (taken ds (freeL ps ds.length)) i) hO a ha, ← merge_in (vs := dig (taken ds ps) t') (us := dig (taken ds (freeL ps ds.length)) i) hO a ha, h1]
    have a1 := (dig_place hC ht).1
    have a2 := (dig_place hC ht').1
    rw [h3, a2] at a1
    omega
  · have h1 := (hit j hj).1 e
    have hdj := dig_place hz (i := j) (by omega)
    have hti : IdxOk (taken ds ps) (taken (dig ds j) ps) := fun a ha => by
      rw [taken_length] at ha
      rw [taken_at _ _ _ ha, taken_at _ _ _ ha]
      have := once_at hO a ha
      exact hdj.2 _ (by omega)
    obtain ⟨t, t1, t2, t3⟩ := place_nat hC (by rw [taken_length, taken_length]) hti
    refine ⟨t, t2, ?_⟩
    have hm : merge ds.length ps (dig (taken ds ps) t) (dig (taken ds (freeL ps ds.length)) i) = dig ds j := merge_eq hO (dig_length _ _) (fun a ha => by rw [t3, taken_at _ _ _ ha]) (fun k hk => by
      rw [← h1]
      simp [hk])
    have h2 := (hq t t2).1
    rw [hm, hdj.1] at h2
    omega
end Go.Proofs.YtoagnhppjlcpkaaGreat.V

/-
  Each way has its way back: the mathematics.
-/
namespace Go.Proofs.YtoagnhppjlcpkaaGreat.V
set_option maxRecDepth 20000
open Go.RowKit

/-- What is looked at, times y, is what it is looked at in, times y put there. -/
theorem adj_core {M N : Nat} {xs R ys : List Int} (hR : ∀ j, j < N → 0 ≤ R[j]?.getD 0 ∧ R[j]?.getD 0 < (M : Int)) (hl : N ≤ R.length) : innS (lookL xs R) ys N = innS xs (addS (List.replicate M 0) R ys N) M := by
  rw [innS_sum, innS_sum]
  have h1 : IntKind.i64.wrap (sumN (fun j => xs[j]?.getD 0 * (addS (List.replicate M 0) R ys N)[j]?.getD 0) M) = IntKind.i64.wrap (sumN (fun j => xs[j]?.getD 0 * sumN (fun t => (if R[t]?.getD 0 = (j : Int) then 1 else 0) * ys[t]?.getD 0) N) M) := by
    refine wrap_sum _ (fun j hj => ?_)
    rw [addS_at (fun x hx => by simp at hx; rw [hx.2]; omega) j (by simp; exact hj) N (fun j hj => by simpa using hR j hj), repl0_at, Int.zero_add, wrap_mulr]
  rw [h1]
  congr 1
  have h2 : ∀ j : Nat, xs[j]?.getD 0 * sumN (fun t => (if R[t]?.getD 0 = (j : Int) then 1 else 0) * ys[t]?.getD 0) N = sumN (fun t => if R[t]?.getD 0 = (j : Int) then xs[j]?.getD 0 * ys[t]?.getD 0 else 0) N := fun j => by
    rw [sumN_mull]
    refine sumN_ext _ (fun t _ => ?_)
    split <;> simp
  rw [sumN_ext M (fun j _ => h2 j), sumN_swap]
  refine sumN_ext N (fun t ht => ?_)
  rw [sumN_pick (R[t]?.getD 0) (fun j => xs[j]?.getD 0 * ys[t]?.getD 0) M, if_pos (hR t ht), lookL_at _ _ _ (by omega)]

theorem innS_ext {xs ys zs : List Int} (n : Nat) (h : ∀ j, j < n → ys[j]?.getD 0 = zs[j]?.getD 0) : innS xs ys n = innS xs zs n := by
  rw [innS_sum, innS_sum, sumN_ext n (fun j hj => by rw [h j hj])]
theorem innS_comm (xs ys : List Int) (n : Nat) : innS xs ys n = innS ys xs n := by
  rw [innS_sum, innS_sum, sumN_ext n (fun j _ => Int.mul_comm _ _)]

/-- Two ways of looking that undo each other. -/
theorem adj_perm {n : Nat} {xs R R' ys : List Int} (hl : R.length = n) (hl' : R'.length = n) (h1 : ∀ i, i < n → ∃ p : Nat, p < n ∧ R'[i]?.getD 0 = (p : Int) ∧ R[p]?.getD 0 = (i : Int)) (h2 : ∀ i, i < n → ∃ p : Nat, p < n ∧ R[i]?.getD 0 = (p : Int) ∧ R'[p]?.getD 0 = (i : Int)) (hy : ∀ y ∈ ys, -9223372036854775808 ≤ y ∧ y ≤ 9223372036854775807) :
    innS (lookL xs R) ys n = innS xs (lookL ys R') n := by
  have hR : ∀ j, j < n → 0 ≤ R[j]?.getD 0 ∧ R[j]?.getD 0 < (n : Int) := fun j hj => by
    obtain ⟨p, hp, e, _⟩ := h2 j hj
    omega
  rw [adj_core hR (by omega)]
  refine innS_ext n (fun j hj => ?_)
  obtain ⟨p, hp, e, e'⟩ := h1 j hj
  rw [addS_fiber (NC := 1) hR j hj (fun _ => p) (fun t _ => ⟨hp, e'⟩) (fun t t' h h' _ => by omega) (fun i hi hij => ⟨0, by omega, by
    obtain ⟨q, hq, q1, q2⟩ := h2 i hi
    have hqj : q = j := by omega
    subst hqj
    omega⟩), lookL_at _ _ _ (by omega), e, accS_sum, Int.toNat_natCast]
  simp only [sumN, Int.zero_add]
  have hb : -9223372036854775808 ≤ ys[p]?.getD 0 ∧ ys[p]?.getD 0 ≤ 9223372036854775807 := by
    by_cases c : p < ys.length
    · exact hy _ (mem_getD ys p c)
    · rw [List.getElem?_eq_none (by omega)]; simp
  exact wrap_in _ hb.1 hb.2

/-- A turn, and the turn back. -/
theorem taken_inv {xs ps : List Int} (hp : PermOk ps xs.length) : taken (taken xs (invL ps)) ps = xs := by
  have hl := hp.1
  refine list_at_ext (by rw [taken_length, hl]) (fun k hk => ?_)
  obtain ⟨h0, h1, _⟩ := hp.2 k hk
  obtain ⟨m, hm⟩ : ∃ m : Nat, ps[k]?.getD 0 = (m : Int) := ⟨(ps[k]?.getD 0).toNat, by omega⟩
  obtain ⟨i, hi, e1, e2⟩ := perm_at hp m (by omega)
  have hik : i = k := perm_inj hp hi hk (e2.trans hm.symm)
  subst hik
  rw [taken_at _ _ _ (by omega), hm, Int.toNat_natCast, taken_at _ _ _ (by rw [invL_length]; omega), invL_getD _ _ (by omega), hl, e1, Int.toNat_natCast]
theorem turn_maps {ds ps : List Int} (hz : sizeE ds = 0) (hp : PermOk ps ds.length) :
    (∀ i, i < (prod ds).toNat → ∃ p : Nat, p < (prod ds).toNat ∧ (readsV 0 ds (taken (stepsV (taken ds ps)) (invL ps)))[i]?.getD 0 = (p : Int) ∧ (readsV 0 (taken ds ps) (taken (stepsV ds) ps))[p]?.getD 0 = (i : Int)) ∧
    (∀ i, i < (prod ds).toNat → ∃ p : Nat, p < (prod ds).toNat ∧ (readsV 0 (taken ds ps) (taken (stepsV ds) ps))[i]?.getD 0 = (p : Int) ∧ (readsV 0 ds (taken (stepsV (taken ds ps)) (invL ps)))[p]?.getD 0 = (i : Int)) := by
  have hpm := taken_perm hp
  have hzL : sizeE (taken ds ps) = 0 := by rw [sizeE_perm hpm]; exact hz
  have hpr : prod (taken ds ps) = prod ds := prod_perm hpm
  have hl := hp.1
  have hsl : (stepsV ds).length = ds.length := by simp [stepsV]
  have hLl : (taken ds ps).length = ds.length := by rw [taken_length, hl]
  have hsL : (stepsV (taken ds ps)).length = ds.length := by simp [stepsV, hLl]
  have hpi : PermOk (invL ps) (taken ds ps).length := by rw [hLl]; exact invL_perm hp
  have hb : taken (taken ds ps) (invL ps) = ds := taken_back hp
  constructor
  · intro i hi
    have ht := through_of (s := 0) (ss := taken (stepsV ds) ps) (by rw [taken_length, hl, hLl]) (through_turn hzL hpi) i (by rw [hb]; exact hi)
    rw [hb, taken_back (xs := stepsV ds) (ps := ps) (by rw [hsl]; exact hp)] at ht
    obtain ⟨p, h1, h2, h3⟩ := ht
    refine ⟨p, by rw [← hpr]; exact h1, h2, ?_⟩
    rw [← h3]
    exact readsV_whole (pos_of hz hi) i hi
  · intro i hi
    have ht := through_of (s := 0) (ss := taken (stepsV (taken ds ps)) (invL ps)) (by rw [taken_length, invL_length, hl]) (through_turn hz hp) i (by rw [hpr]; exact hi)
    rw [taken_inv (xs := stepsV (taken ds ps)) (ps := ps) (by rw [hsL]; exact hp)] at ht
    obtain ⟨p, h1, h2, h3⟩ := ht
    refine ⟨p, h1, h2, ?_⟩
    rw [← h3]
    exact readsV_whole (pos_of hzL (by rw [hpr]; exact hi)) i (by rw [hpr]; exact hi)

/-- A flip undoes itself. -/
theorem flip_maps {ds ps : List Int} (hz : sizeE ds = 0) (hp : RiseOk ps ds.length) : ∀ i, i < (prod ds).toNat → ∃ p : Nat, p < (prod ds).toNat ∧ (readsV (flipAcc 0 ds (stepsV ds) ps ps.length) ds (flipL (stepsV ds) ps))[i]?.getD 0 = (p : Int) ∧ (readsV (flipAcc 0 ds (stepsV ds) ps ps.length) ds (flipL (stepsV ds) ps))[p]?.getD 0 = (i : Int) := by
  intro i hi
  have hE : flipE 0 ds (stepsV ds) ps = 0 := by rw [flip_whole ps hz, if_pos ((riseB_iff _ _).2 hp)]
  obtain ⟨_, f2, f3⟩ := flip_again hE
  have ht := through_of (s := flipAcc 0 ds (stepsV ds) ps ps.length) (ss := flipL (stepsV ds) ps) (by simp [flipL, stepsV]) (through_flip hz hp) i hi
  rw [f2, f3] at ht
  obtain ⟨p, h1, h2, h3⟩ := ht
  refine ⟨p, h1, h2, ?_⟩
  rw [← h3]
  exact readsV_whole (pos_of hz hi) i hi

/-- Those that are not among those that a rising list does not name are the list. -/
theorem rise_tail {x : Int} {l : List Int} {n : Nat} (h : RiseOk (x :: l) n) : RiseOk l n ∧ ∀ y ∈ l, x < y := by
  refine ⟨fun i hi => ?_, fun y hy => ?_⟩
  · obtain ⟨h1, h2, h3⟩ := h (i + 1) (by simp; omega)
    simp only [List.getElem?_cons_succ] at h1 h2 h3
    refine ⟨h1, h2, fun h0 => ?_⟩
    have := h3 (by omega)
    obtain ⟨k, rfl⟩ : ∃ k, i = k + 1 := ⟨i - 1, by omega⟩
    simpa using this
  · obtain ⟨k, hk, e⟩ := List.getElem_of_mem hy
    have := rise_lt h 0 (k + 1) (by omega) (by simp; omega)
    simp [hk] at this
    omega
theorem rise_filter {n k : Nat} : ∀ (l : List Int), RiseOk l n → l.filter (fun x => decide (x < ((k + 1 : Nat) : Int))) = l.filter (fun x => decide (x < (k : Int))) ++ (if (k : Int) ∈ l then [(k : Int)] else [])
  | [], _ => by simp
  | x :: l, h => by
    obtain ⟨h1, h2⟩ := rise_tail h
    have ih := rise_filter (k := k) l h1
    by_cases c : x < (k : Int)
    · have c' : x < ((k + 1 : Nat) : Int) := by omega
      have e : ((k : Int) ∈ x :: l) = ((k : Int) ∈ l) := by
        apply propext
        rw [List.mem_cons]
        exact ⟨fun q => q.resolve_left (by omega), .inr⟩
      rw [List.filter_cons_of_pos (by simpa using c'), List.filter_cons_of_pos (by simpa using c), ih, List.cons_append]
      simp only [e]
    · have hno : ∀ y ∈ l, ¬ y < ((k + 1 : Nat) : Int) := fun y hy => by have := h2 y hy; omega
      have f1 : l.filter (fun x => decide (x < ((k + 1 : Nat) : Int))) = [] := List.filter_eq_nil_iff.2 (fun y hy => by simpa using hno y hy)
      have f2 : l.filter (fun x => decide (x < (k : Int))) = [] := List.filter_eq_nil_iff.2 (fun y hy => by have := hno y hy; simp; omega)
      have f3 : (x :: l).filter (fun x => decide (x < (k : Int))) = [] := by rw [List.filter_cons_of_neg (by simpa using c), f2]
      rw [f3]
      by_cases c2 : x = (k : Int)
      · subst c2
        rw [List.filter_cons_of_pos (by simp; omega), f1]
        simp
      · have hk : (k : Int) ∉ x :: l := by
          rw [List.mem_cons]
          rintro (q | q)
          · exact c2 q.symm
          · have := h2 _ q; omega
        rw [List.filter_cons_of_neg (by simp; omega), f1, if_neg hk]
        simp
theorem freeL_twice {ps : List Int} {n : Nat} (hp : RiseOk ps n) : freeL (freeL ps n) n = ps := by
  have key : ∀ k, k ≤ n → freeL (freeL ps n) k = ps.filter (fun x => decide (x < (k : Int))) := by
    intro k
    induction k with
    | zero =>
      intro _
      rw [freeL]
      refine (List.filter_eq_nil_iff.2 (fun y hy => ?_)).symm
      obtain ⟨i, hi, e⟩ := List.getElem_of_mem hy
      have := (hp i hi).1
      simp [hi] at this
      simp; omega
    | succ k ih =>
      intro hk
      rw [freeL, ih (by omega), rise_filter ps hp]
      congr 1
      by_cases c : (k : Int) ∈ ps
      · have : inB (freeL ps n) k = false := by
          rw [inB_not, mem_freeL]
          rintro ⟨j, _, e, h⟩
          have : j = k := by omega
          subst this
          rw [inB_not] at h
          exact h c
        rw [this, if_pos c]; rfl
      · have : inB (freeL ps n) k = true := by
          rw [inB_iff, mem_freeL]
          exact ⟨k, by omega, rfl, inB_not.2 c⟩
        rw [this, if_pos rfl, if_neg c]
  rw [key n (Nat.le_refl _)]
  refine List.filter_eq_self.2 (fun y hy => ?_)
  obtain ⟨i, hi, e⟩ := List.getElem_of_mem hy
  have := (hp i hi).2.1
  simp [hi] at this
  simp; omega
end Go.Proofs.YtoagnhppjlcpkaaGreat.V

/-
  adjointlaw2.back: the kinds without a loop.
-/
namespace Go.Proofs.YtoagnhppjlcpkaaGreat.V
set_option maxRecDepth 20000
open Go.RowKit

theorem op7_put {w : World} {b : Nat} {k : Int} {vd va vl vh vs : Value} {x : Int} (h : OpAt w b k vd va vl vh vs x) (k' : Int) (d a l g s : Value) (x' : Int) : OpAt (((((((w.setCell ⟨b, 0, none⟩ (.int .i64 k')).setCell ⟨b, 1, none⟩ d).setCell ⟨b, 2, none⟩ a).setCell ⟨b, 3, none⟩ l).setCell ⟨b, 4, none⟩ g).setCell ⟨b, 5, none⟩ s).setCell ⟨b, 6, none⟩ (.int .i64 x')) b k' d a l g s x' := by
  have hl := h.lt
  unfold OpAt at *
  simp [World.setCell, Array.getElem?_modify, h]
theorem op7_frozen {w : World} {b : Nat} {k : Int} {vd va vl vh vs : Value} {x : Int} (h : OpAt w b k vd va vl vh vs x) (j : Nat) : w.frozen? ⟨b, j, none⟩ = false := by
  unfold OpAt at h
  simp [World.frozen?, h]
theorem op7_lst {w : World} {X : Option Addr} {n c b : Nat} {xs : List Int} (h : Lst w X n c xs) (hne : ∀ g o, X = some ⟨g, o, none⟩ → g ≠ b) (c0 c1 c2 c3 c4 c5 c6 : Value) : Lst (((((((w.setCell ⟨b, 0, none⟩ c0).setCell ⟨b, 1, none⟩ c1).setCell ⟨b, 2, none⟩ c2).setCell ⟨b, 3, none⟩ c3).setCell ⟨b, 4, none⟩ c4).setCell ⟨b, 5, none⟩ c5).setCell ⟨b, 6, none⟩ c6) X n c xs :=
  ⟨But.ints (((((((But.refl b w).set 0 c0).set 1 c1).set 2 c2).set 3 c3).set 4 c4).set 5 c5 |>.set 6 c6) h.1 hne, h.2⟩
theorem op7_below {B : Nat} {w w1 : World} (h : Below B w w1) {b : Nat} (hb : B ≤ b) (c0 c1 c2 c3 c4 c5 c6 : Value) : Below B w (((((((w1.setCell ⟨b, 0, none⟩ c0).setCell ⟨b, 1, none⟩ c1).setCell ⟨b, 2, none⟩ c2).setCell ⟨b, 3, none⟩ c3).setCell ⟨b, 4, none⟩ c4).setCell ⟨b, 5, none⟩ c5).setCell ⟨b, 6, none⟩ c6) :=
  ((((((h.setCell (p := ⟨b, 0, none⟩) hb _).setCell (p := ⟨b, 1, none⟩) hb _).setCell (p := ⟨b, 2, none⟩) hb _).setCell (p := ⟨b, 3, none⟩) hb _).setCell (p := ⟨b, 4, none⟩) hb _).setCell (p := ⟨b, 5, none⟩) hb _).setCell (p := ⟨b, 6, none⟩) hb _

set_option maxRecDepth 100000 in
set_option maxHeartbeats 2000000 in
theorem back_12 (ea : Option Addr) (el ec : Nat) (pa : Option Addr) (pl pc : Nat) (la : Option Addr) (ll lc : Nat) (ha : Option Addr) (hl hc : Nat) (ta : Option Addr) (tl tc : Nat) (x : Int) (da : Option Addr) (dl dc : Nat) (w : World) :
    Calls Tryz.prog 12 #[.agg #[.int .i64 12, .slice ea el ec, .slice pa pl pc, .slice la ll lc, .slice ha hl hc, .slice ta tl tc, .int .i64 x], .slice da dl dc] w fun e w' => e = .returned (.agg #[.int .i64 12, .slice da dl dc, .slice none 0 0, .slice none 0 0, .slice none 0 0, .slice none 0 0, .int .i64 0]) ∧ Below w.heap.size w w' := by
  have HB1 := (Below.refl w.heap.size w).alloc (Nat.le_refl _) (.cells #[.int .i64 12, .slice ea el ec, .slice pa pl pc, .slice la ll lc, .slice ha hl hc, .slice ta tl tc, .int .i64 x] 24)
  have HBF := hide (HB1.alloc HB1.size (.cells #[.int .i64 12, .slice da dl dc, .slice none 0 0, .slice none 0 0, .slice none 0 0, .slice none 0 0, .int .i64 0] 24))
  have HOP := hide (OpAt.new w 12 (.slice ea el ec) (.slice pa pl pc) (.slice la ll lc) (.slice ha hl hc) (.slice ta tl tc) x)
  have hop2 := HOP.out.alloc (.cells #[.int .i64 0, .slice none 0 0, .slice none 0 0, .slice none 0 0, .slice none 0 0, .slice none 0 0, .int .i64 0] 24)
  obtain ⟨o0, o1, o2, o3, o4, o5, o6⟩ := hop2.cells
  have hput := OpAt.new (w.alloc (.cells #[.int .i64 12, .slice ea el ec, .slice pa pl pc, .slice la ll lc, .slice ha hl hc, .slice ta tl tc, .int .i64 x] 24)) 12 (.slice da dl dc) (.slice none 0 0) (.slice none 0 0) (.slice none 0 0) (.slice none 0 0) 0
  simp only [World.size_alloc] at hput
  obtain ⟨u0, u1, u2, u3, u4, u5, u6⟩ := hput.cells
  clear hput HB1 hop2
  go_enter Tryz.func12, Tryz.ntmps12
  go_wp2
  exact bodyPost_ret (v := .agg #[.int .i64 12, .slice da dl dc, .slice none 0 0, .slice none 0 0, .slice none 0 0, .slice none 0 0, .int .i64 0]) (by simp [results, Tryz.results12, go_sem, u0, u1, u2, u3, u4, u5, u6]) rfl ⟨rfl, HBF.out⟩

set_option maxRecDepth 100000 in
set_option maxHeartbeats 2000000 in
theorem back_15 (ea : Option Addr) (el ec : Nat) (pa : Option Addr) (pl pc : Nat) (la : Option Addr) (ll lc : Nat) (ha : Option Addr) (hl hc : Nat) (ta : Option Addr) (tl tc : Nat) (x : Int) (da : Option Addr) (dl dc : Nat) (w : World) :
    Calls Tryz.prog 12 #[.agg #[.int .i64 15, .slice ea el ec, .slice pa pl pc, .slice la ll lc, .slice ha hl hc, .slice ta tl tc, .int .i64 x], .slice da dl dc] w fun e w' => e = .returned (.agg #[.int .i64 15, .slice ea el ec, .slice pa pl pc, .slice la ll lc, .slice ha hl hc, .slice ta tl tc, .int .i64 x]) ∧ Below w.heap.size w w' := by
  have HB1 := (Below.refl w.heap.size w).alloc (Nat.le_refl _) (.cells #[.int .i64 15, .slice ea el ec, .slice pa pl pc, .slice la ll lc, .slice ha hl hc, .slice ta tl tc, .int .i64 x] 24)
  have HBF := hide (HB1.alloc HB1.size (.cells #[.int .i64 15, .slice ea el ec, .slice pa pl pc, .slice la ll lc, .slice ha hl hc, .slice ta tl tc, .int .i64 x] 24))
  have HOP := hide (OpAt.new w 15 (.slice ea el ec) (.slice pa pl pc) (.slice la ll lc) (.slice ha hl hc) (.slice ta tl tc) x)
  have hop2 := HOP.out.alloc (.cells #[.int .i64 0, .slice none 0 0, .slice none 0 0, .slice none 0 0, .slice none 0 0, .slice none 0 0, .int .i64 0] 24)
  obtain ⟨o0, o1, o2, o3, o4, o5, o6⟩ := hop2.cells
  have hput := OpAt.new (w.alloc (.cells #[.int .i64 15, .slice ea el ec, .slice pa pl pc, .slice la ll lc, .slice ha hl hc, .slice ta tl tc, .int .i64 x] 24)) 15 (.slice ea el ec) (.slice pa pl pc) (.slice la ll lc) (.slice ha hl hc) (.slice ta tl tc) x
  simp only [World.size_alloc] at hput
  obtain ⟨u0, u1, u2, u3, u4, u5, u6⟩ := hput.cells
  clear hput HB1 hop2
  go_enter Tryz.func12, Tryz.ntmps12
  go_wp2
  exact bodyPost_ret (v := .agg #[.int .i64 15, .slice ea el ec, .slice pa pl pc, .slice la ll lc, .slice ha hl hc, .slice ta tl tc, .int .i64 x]) (by simp [results, Tryz.results12, go_sem, u0, u1, u2, u3, u4, u5, u6]) rfl ⟨rfl, HBF.out⟩

end Go.Proofs.YtoagnhppjlcpkaaGreat.V

/-
  adjointlaw2.back: the kind Cut.
-/
namespace Go.Proofs.YtoagnhppjlcpkaaGreat.V
set_option maxRecDepth 20000
open Go.RowKit

/-- How far what is kept of a cut reaches. -/
def bkN (l u s : Int) : Int := if l < u then (u - l - 1) / s * s + 1 else 0
def bkHi (ds lo hi st : List Int) : List Int := (List.range ds.length).map fun j => ds[j]?.getD 0 - lo[j]?.getD 0 - bkN (lo[j]?.getD 0) (hi[j]?.getD 0) (st[j]?.getD 0)
theorem bkHi_length (ds lo hi st : List Int) : (bkHi ds lo hi st).length = ds.length := by simp [bkHi]
theorem bkHi_at (ds lo hi st : List Int) (j : Nat) (h : j < ds.length) : (bkHi ds lo hi st)[j]?.getD 0 = ds[j]?.getD 0 - lo[j]?.getD 0 - bkN (lo[j]?.getD 0) (hi[j]?.getD 0) (st[j]?.getD 0) := by simp [bkHi, h]
theorem bkN_bd {l u s : Int} (hs : 1 ≤ s) (h : l ≤ u) : 0 ≤ bkN l u s ∧ bkN l u s ≤ u - l := by
  unfold bkN
  split
  · have h1 := Int.ediv_mul_le (u - l - 1) (b := s) (by omega)
    have h2 : 0 ≤ (u - l - 1) / s := Int.ediv_nonneg (by omega) (by omega)
    have h3 : 0 ≤ (u - l - 1) / s * s := Int.mul_nonneg h2 (by omega)
    omega
  · omega
/-- What is cut, of one dimension. -/
structure CutOne (X L U S : Int) : Prop where
  lo : 0 ≤ L
  le : L ≤ U
  top : U ≤ X
  one : 1 ≤ S
  big : S ≤ 4096
  dim : X ≤ 4096

set_option maxRecDepth 100000 in
set_option maxHeartbeats 2000000 in
theorem back_13 (ea : Option Addr) (el ec : Nat) (pa : Option Addr) (pl pc : Nat) (la : Option Addr) (ll lc : Nat) (ha : Option Addr) (hl hc : Nat) (ta : Option Addr) (tl tc : Nat) (x : Int) (da : Option Addr) (dl dc : Nat) (ds lo hi st : List Int) (w : World) (hd : Ints w da dl ds) (hl' : Ints w la ll lo) (hh : Ints w ha hl hi) (ht : Ints w ta tl st) (e1 : dl = ll) (e2 : dl = hl) (e3 : dl = tl) (h6 : dl ≤ 6) (hok : ∀ j, j < dl → CutOne (ds[j]?.getD 0) (lo[j]?.getD 0) (hi[j]?.getD 0) (st[j]?.getD 0)) :
    Calls Tryz.prog 12 #[.agg #[.int .i64 13, .slice ea el ec, .slice pa pl pc, .slice la ll lc, .slice ha hl hc, .slice ta tl tc, .int .i64 x], .slice da dl dc] w fun e w' => (∃ (X : Option Addr) (n c : Nat), e = .returned (.agg #[.int .i64 14, .slice none 0 0, .slice none 0 0, .slice la ll lc, .slice X n c, .slice ta tl tc, .int .i64 0]) ∧ Lst w' X n c (bkHi ds lo hi st)) ∧ Below w.heap.size w w' := by
  subst e1
  subst e2
  subst e3
  have HB1 := (Below.refl w.heap.size w).alloc (Nat.le_refl _) (.cells #[.int .i64 13, .slice ea el ec, .slice pa pl pc, .slice la dl lc, .slice ha dl hc, .slice ta dl tc, .int .i64 x] 24)
  have HB2 := hide (HB1.alloc HB1.size (.cells #[.int .i64 0, .slice none 0 0, .slice none 0 0, .slice none 0 0, .slice none 0 0, .slice none 0 0, .int .i64 0] 24))
  have HOP := hide ((OpAt.new w 13 (.slice ea el ec) (.slice pa pl pc) (.slice la dl lc) (.slice ha dl hc) (.slice ta dl tc) x).alloc (.cells #[.int .i64 0, .slice none 0 0, .slice none 0 0, .slice none 0 0, .slice none 0 0, .slice none 0 0, .int .i64 0] 24))
  have hrs := OpAt.new (w.alloc (.cells #[.int .i64 13, .slice ea el ec, .slice pa pl pc, .slice la dl lc, .slice ha dl hc, .slice ta dl tc, .int .i64 x] 24)) 0 (.slice none 0 0) (.slice none 0 0) (.slice none 0 0) (.slice none 0 0) (.slice none 0 0) 0
  simp only [World.size_alloc] at hrs
  have HRS := hide hrs
  obtain ⟨o0, o1, o2, o3, o4, o5, o6⟩ := HOP.out.cells
  clear hrs HB1
  have Hd2 := hide (hd.below HB2.out)
  have Hl2 := hide (hl'.below HB2.out)
  have Hh2 := hide (hh.below HB2.out)
  have Ht2 := hide (ht.below HB2.out)
  have HOK := hide hok
  have HDL := hide hd.1
  have hdm := hd.2.1
  have hmk := run_make_row' (P := Tryz.prog) 22 3 (.int .i64 0) 8 Tryz.underlying22 info_int rfl .i64 .i64 dl (by omega) (by omega)
  have hob := HOP.out.alloc (.cells (madeCells #[.int .i64 0] dl) 3)
  obtain ⟨q0, q1, q2, q3, q4, q5, q6⟩ := hob.cells
  clear hd hl' hh ht hok hob
  go_enter Tryz.func12, Tryz.ntmps12
  go_wp2
  obtain ⟨W2, hW2⟩ : ∃ W2, W2 = ((w.alloc (.cells #[.int .i64 13, .slice ea el ec, .slice pa pl pc, .slice la dl lc, .slice ha dl hc, .slice ta dl tc, .int .i64 x] 24)).alloc (.cells #[.int .i64 0, .slice none 0 0, .slice none 0 0, .slice none 0 0, .slice none 0 0, .slice none 0 0, .int .i64 0] 24)) := ⟨_, rfl⟩
  have hs2 : W2.heap.size = w.heap.size + 2 := by rw [hW2]; simp
  have hs2' : w.heap.size + 1 + 1 = W2.heap.size := by omega
  rw [← hW2] at HB2 HOP HRS Hd2 Hl2 Hh2 Ht2 ⊢
  rw [hs2']
  have HS2 := hide hs2
  clear hs2 hs2' hW2 o0 o1 o2 o3 o4 o5 o6 q0 q1 q2 q3 q4 q5 q6 hmk
  go_loopw [121] (fun i wr => ∃ k : Nat, k ≤ dl ∧ i = .int .i64 k ∧ wr.rowIs W2.heap.size 3 dl (onWay (bkHi ds lo hi st) [] k) ∧ Below W2.heap.size W2 wr) (fun i _ => dl - (intOf i).toNat)
  case atStart => exact ⟨0, Nat.zero_le _, rfl, (World.rowIs_made W2 (.int .i64 0) dl 3).congr (fun j _ => by simp [onWay]), (Below.refl _ _).alloc (Nat.le_refl _) _⟩
  case round =>
    obtain ⟨k, hk, rfl, hrow, hB⟩ := hrel
    have HR := hide hrow
    have HB := hide hB
    clear hrow hB
    by_cases hlt : k < dl
    · have hok := HOK.out k hlt
      obtain ⟨db, doff, ed, hdb, hdc⟩ := Hd2.out.at (by omega)
      subst ed
      have HdC := hide (hdc k hlt)
      obtain ⟨lb, loff, el, hlb, hlc⟩ := Hl2.out.at (by omega)
      subst el
      have HlC := hide (hlc k hlt)
      obtain ⟨hb, hoff, eh, hhb, hhc⟩ := Hh2.out.at (by omega)
      subst eh
      have HhC := hide (hhc k hlt)
      obtain ⟨tb, toff, et, htb, htc⟩ := Ht2.out.at (by omega)
      subst et
      have HtC := hide (htc k hlt)
      have HV : Hid ((bkHi ds lo hi st)[k]?.getD 0 = ds[k]?.getD 0 - lo[k]?.getD 0 - bkN (lo[k]?.getD 0) (hi[k]?.getD 0) (st[k]?.getD 0)) := bkHi_at _ _ _ _ k (by rw [HDL.out]; exact hlt)
      obtain ⟨X, hX⟩ : ∃ X, X = ds[k]?.getD 0 := ⟨_, rfl⟩
      obtain ⟨L, hL⟩ : ∃ L, L = lo[k]?.getD 0 := ⟨_, rfl⟩
      obtain ⟨U, hU⟩ : ∃ U, U = hi[k]?.getD 0 := ⟨_, rfl⟩
      obtain ⟨S, hS⟩ : ∃ S, S = st[k]?.getD 0 := ⟨_, rfl⟩
      rw [← hX, ← hL, ← hU, ← hS] at HV hok
      rw [← hX] at HdC
      rw [← hL] at HlC
      rw [← hU] at HhC
      rw [← hS] at HtC
      clear hX hL hU hS hdc hlc hhc htc
      obtain ⟨k1, k2, k3, k4, k5, k6⟩ := hok
      have hbn := bkN_bd k4 k2
      obtain ⟨BN, hBN⟩ : ∃ BN, BN = bkN L U S := ⟨_, rfl⟩
      rw [← hBN] at hbn HV
      have HBN := hide hBN
      have HOR := hide (HOP.out.below HB.out)
      obtain ⟨o0, o1, o2, o3, o4, o5, o6⟩ := HOR.out.cells
      have cd := (HB.out.cell (p := ⟨db, doff + k, none⟩) hdb).trans HdC.out
      have cl := (HB.out.cell (p := ⟨lb, loff + k, none⟩) hlb).trans HlC.out
      have ch := (HB.out.cell (p := ⟨hb, hoff + k, none⟩) hhb).trans HhC.out
      have ct := (HB.out.cell (p := ⟨tb, toff + k, none⟩) htb).trans HtC.out
      have hr := HR.out.cell (i := k) (by omega)
      have hf := HR.out.frozen k
      have i1 : (0 : Int) ≤ (k : Int) := Int.natCast_nonneg _
      have i2 : (k : Int) < (dl : Int) := by omega
      clear hBN
      go_wp2_with fail
      go_cut [136] (fun v wc => v = .bool (decide (L < U)) ∧ wc.rowIs W2.heap.size 3 dl (onWay (bkHi ds lo hi st) [] k) ∧ Below W2.heap.size W2 wc)
      case first =>
        go_quiet (fail)
        all_goals go_wp2
        all_goals go_meet
        all_goals exact ⟨by simp, HR.out.of_block ((below_drewN _ _).block _ HR.out.lt), HB.out.trans ((below_drewN _ _).mono HB.out.size)⟩
      case rest =>
        obtain ⟨rfl, hrow, hB⟩ := hcut
        have HR1 := hide hrow
        have HB1 := hide hB
        clear hrow hB o0 o1 o2 o3 o4 o5 o6 cd cl ch ct hr hf
        have HOR1 := hide (HOP.out.below HB1.out)
        obtain ⟨o0, o1, o2, o3, o4, o5, o6⟩ := HOR1.out.cells
        have cd := (HB1.out.cell (p := ⟨db, doff + k, none⟩) hdb).trans HdC.out
        have cl := (HB1.out.cell (p := ⟨lb, loff + k, none⟩) hlb).trans HlC.out
        have ch := (HB1.out.cell (p := ⟨hb, hoff + k, none⟩) hhb).trans HhC.out
        have ct := (HB1.out.cell (p := ⟨tb, toff + k, none⟩) htb).trans HtC.out
        have hr := HR1.out.cell (i := k) (by omega)
        have hf := HR1.out.frozen k
        by_cases hLU : L < U
        · have hdec : decide (L < U) = true := by simpa using hLU
          rw [hdec]
          clear hdec
          have hQ0 : 0 ≤ (U - L - 1) / S := Int.ediv_nonneg (by omega) (by omega)
          have hQ1 := Int.ediv_mul_le (U - L - 1) (b := S) (by omega)
          obtain ⟨Q, hQ⟩ : ∃ Q, Q = (U - L - 1) / S := ⟨_, rfl⟩
          rw [← hQ] at hQ0 hQ1
          have hQ2 : Q ≤ Q * S := by have := Int.mul_le_mul_of_nonneg_left k4 hQ0; omega
          have hbq : BN = Q * S + 1 := by rw [HBN.out, bkN, if_pos hLU, ← hQ]
          obtain ⟨T, hT⟩ : ∃ T, T = Q * S := ⟨_, rfl⟩
          rw [← hT] at hbq hQ1 hQ2
          have w1' : IntKind.i64.wrap (U - L) = U - L := wrap_in _ (by omega) (by omega)
          have w2' : IntKind.i64.wrap (U - L - 1) = U - L - 1 := wrap_in _ (by omega) (by omega)
          have w3' : IntKind.i64.wrap ((U - L - 1).tdiv S) = Q := by
            rw [Int.tdiv_eq_ediv_of_nonneg (by omega), ← hQ]; exact wrap_in _ (by omega) (by omega)
          have w4' : IntKind.i64.wrap (Q * S) = T := by rw [hT]; exact wrap_in _ (by omega) (by omega)
          have w5' : IntKind.i64.wrap (T + 1) = T + 1 := wrap_in _ (by omega) (by omega)
          have hz' : ¬ S = 0 := by omega
          have HBQ := hide hbq
          clear hQ0 hQ1 hQ hQ2 hT hbq hLU
          go_wp2_with fail
          go_cut [21] (fun v wc => v = .int .i64 BN ∧ wc.rowIs W2.heap.size 3 dl (onWay (bkHi ds lo hi st) [] k) ∧ Below W2.heap.size W2 wc)
          case first =>
            go_quiet (fail)
            all_goals go_wp2
            all_goals go_meet
            all_goals exact ⟨by rw [HBQ.out], HR1.out.of_block ((below_drewN _ _).block _ HR1.out.lt), HB1.out.trans ((below_drewN _ _).mono HB1.out.size)⟩
          case rest =>
            obtain ⟨rfl, hrow, hB⟩ := hcut
            have HR3 := hide hrow
            have HB3 := hide hB
            clear hrow hB o0 o1 o2 o3 o4 o5 o6 cd cl ch ct hr hf w1' w2' w3' w4' w5' HBQ
            have HOR3 := hide (HOP.out.below HB3.out)
            obtain ⟨o0, o1, o2, o3, o4, o5, o6⟩ := HOR3.out.cells
            have cd := (HB3.out.cell (p := ⟨db, doff + k, none⟩) hdb).trans HdC.out
            have cl := (HB3.out.cell (p := ⟨lb, loff + k, none⟩) hlb).trans HlC.out
            have ch := (HB3.out.cell (p := ⟨hb, hoff + k, none⟩) hhb).trans HhC.out
            have ct := (HB3.out.cell (p := ⟨tb, toff + k, none⟩) htb).trans HtC.out
            have hr := HR3.out.cell (i := k) (by omega)
            have hf := HR3.out.frozen k
            have w6' : IntKind.i64.wrap (X - L) = X - L := wrap_in _ (by omega) (by omega)
            have w7' : IntKind.i64.wrap (X - L - BN) = X - L - BN := wrap_in _ (by omega) (by omega)
            go_wp2
            go_roundw
            case rel =>
              refine ⟨k + 1, by omega, by go_num, (HR3.out.set k (.int .i64 (X - L - BN))).congr (fun j _ => ?_), HB3.out.setCell (p := ⟨W2.heap.size, k, none⟩) (Nat.le_refl _) _⟩
              rw [← HV.out]; exact onWay_succ _ _ k j
            case measure => simp [intOf]; omega
        · have hdec : decide (L < U) = false := by simpa using hLU
          rw [hdec]
          clear hdec
          have hbq : BN = 0 := by rw [HBN.out, bkN, if_neg hLU]
          subst hbq
          have w6' : IntKind.i64.wrap (X - L) = X - L := wrap_in _ (by omega) (by omega)
          clear hLU
          go_wp2
          go_roundw
          case rel =>
            refine ⟨k + 1, by omega, by go_num, (HR1.out.set k (.int .i64 (X - L))).congr (fun j _ => ?_), HB1.out.setCell (p := ⟨W2.heap.size, k, none⟩) (Nat.le_refl _) _⟩
            have hv := HV.out
            rw [Int.sub_zero] at hv
            rw [← hv]; exact onWay_succ _ _ k j
          case measure => simp [intOf]; omega
    · have hkp : k = dl := by omega
      have hs2 := HS2.out
      have hrr := HRS.out.below HB.out
      have HRR := hide hrr
      have HOR := hide (HOP.out.below HB.out)
      obtain ⟨o0, o1, o2, o3, o4, o5, o6⟩ := HOR.out.cells
      have hrow := HR.out
      rw [hkp] at hrow
      have hlst : Lst wr (some ⟨W2.heap.size, 0, none⟩) dl dl (bkHi ds lo hi st) := ⟨ints_of_rowI (onWay_all hrow) (by rw [bkHi_length, HDL.out]) (by omega) (fun x hx => by
        obtain ⟨j, hj, e⟩ := List.getElem_of_mem hx
        have hj' : j < dl := by rw [bkHi_length, HDL.out] at hj; exact hj
        have h1 := HOK.out j hj'
        have h2 := bkN_bd h1.one h1.le
        have h3 := bkHi_at ds lo hi st j (by rw [HDL.out]; exact hj')
        simp [hj] at h3
        have := h1.lo
        have := h1.le
        have := h1.top
        have := h1.dim
        omega), Nat.le_refl _, fun e => by cases e⟩
      obtain ⟨y0, y1, y2, y3, y4, y5, y6⟩ := HRR.out.cells
      have z0 := op7_frozen HRR.out 0
      have z1 := op7_frozen HRR.out 1
      have z2 := op7_frozen HRR.out 2
      have z3 := op7_frozen HRR.out 3
      have z4 := op7_frozen HRR.out 4
      have z5 := op7_frozen HRR.out 5
      have z6 := op7_frozen HRR.out 6
      have HBF := hide (op7_below (b := w.heap.size + 1) (Below.on HB2.out HB.out) (by omega) (.int .i64 14) (.slice none 0 0) (.slice none 0 0) (.slice la dl lc) (.slice (some ⟨W2.heap.size, 0, none⟩) dl dl) (.slice ta dl tc) (.int .i64 0))
      have HXF := hide (op7_lst (b := w.heap.size + 1) hlst (fun g o e => by cases e; omega) (.int .i64 14) (.slice none 0 0) (.slice none 0 0) (.slice la dl lc) (.slice (some ⟨W2.heap.size, 0, none⟩) dl dl) (.slice ta dl tc) (.int .i64 0))
      clear hlst hrow hs2 hrr
      go_wp2
      have hput := op7_put HRR.out 14 (.slice none 0 0) (.slice none 0 0) (.slice la dl lc) (.slice (some ⟨W2.heap.size, 0, none⟩) dl dl) (.slice ta dl tc) 0
      obtain ⟨u0, u1, u2, u3, u4, u5, u6⟩ := hput.cells
      exact bodyPost_ret (v := .agg #[.int .i64 14, .slice none 0 0, .slice none 0 0, .slice la dl lc, .slice (some ⟨W2.heap.size, 0, none⟩) dl dl, .slice ta dl tc, .int .i64 0]) (by simp [results, Tryz.results12, go_sem, u0, u1, u2, u3, u4, u5, u6]) rfl ⟨⟨_, _, _, rfl, HXF.out⟩, HBF.out⟩

end Go.Proofs.YtoagnhppjlcpkaaGreat.V

/-
  adjointlaw2.back: the kind Pad.
-/
namespace Go.Proofs.YtoagnhppjlcpkaaGreat.V
set_option maxRecDepth 20000
open Go.RowKit

/-- Where what was padded ends. -/
def pdE (x l s : Int) : Int := l + (if 0 < x then (x - 1) * s + 1 else 0)
def pdHi (ds lo st : List Int) : List Int := (List.range ds.length).map fun j => pdE (ds[j]?.getD 0) (lo[j]?.getD 0) (st[j]?.getD 0)
theorem pdHi_length (ds lo st : List Int) : (pdHi ds lo st).length = ds.length := by simp [pdHi]
theorem pdHi_at (ds lo st : List Int) (j : Nat) (h : j < ds.length) : (pdHi ds lo st)[j]?.getD 0 = pdE (ds[j]?.getD 0) (lo[j]?.getD 0) (st[j]?.getD 0) := by simp [pdHi, h]
/-- What is padded, of one dimension. -/
structure PadOne (X L S : Int) : Prop where
  dim : 0 ≤ X
  top : X ≤ 4096
  lo : 0 ≤ L
  big : L ≤ 4096
  one : 1 ≤ S
  far : S ≤ 4096
theorem pdE_bd {x l s : Int} (h : PadOne x l s) : 0 ≤ pdE x l s ∧ pdE x l s ≤ 16785409 := by
  obtain ⟨h1, h2, h3, h4, h5, h6⟩ := h
  unfold pdE
  split
  · have a1 : 0 ≤ (x - 1) * s := Int.mul_nonneg (by omega) (by omega)
    have a2 : (x - 1) * s ≤ 4096 * 4096 := Int.mul_le_mul (by omega) h6 (by omega) (by omega)
    omega
  · omega

set_option maxRecDepth 100000 in
set_option maxHeartbeats 2000000 in
theorem back_14 (ea : Option Addr) (el ec : Nat) (pa : Option Addr) (pl pc : Nat) (la : Option Addr) (ll lc : Nat) (ha : Option Addr) (hl hc : Nat) (ta : Option Addr) (tl tc : Nat) (x : Int) (da : Option Addr) (dl dc : Nat) (ds lo hi st : List Int) (w : World) (hd : Ints w da dl ds) (hl' : Ints w la ll lo) (hh : Ints w ha hl hi) (ht : Ints w ta tl st) (e1 : dl = ll) (e2 : dl = hl) (e3 : dl = tl) (h6 : dl ≤ 6) (hok : ∀ j, j < dl → PadOne (ds[j]?.getD 0) (lo[j]?.getD 0) (st[j]?.getD 0)) :
    Calls Tryz.prog 12 #[.agg #[.int .i64 14, .slice ea el ec, .slice pa pl pc, .slice la ll lc, .slice ha hl hc, .slice ta tl tc, .int .i64 x], .slice da dl dc] w fun e w' => (∃ (X : Option Addr) (n c : Nat), e = .returned (.agg #[.int .i64 13, .slice none 0 0, .slice none 0 0, .slice la ll lc, .slice X n c, .slice ta tl tc, .int .i64 0]) ∧ Lst w' X n c (pdHi ds lo st)) ∧ Below w.heap.size w w' := by
  subst e1
  subst e2
  subst e3
  have HB1 := (Below.refl w.heap.size w).alloc (Nat.le_refl _) (.cells #[.int .i64 14, .slice ea el ec, .slice pa pl pc, .slice la dl lc, .slice ha dl hc, .slice ta dl tc, .int .i64 x] 24)
  have HB2 := hide (HB1.alloc HB1.size (.cells #[.int .i64 0, .slice none 0 0, .slice none 0 0, .slice none 0 0, .slice none 0 0, .slice none 0 0, .int .i64 0] 24))
  have HOP := hide ((OpAt.new w 14 (.slice ea el ec) (.slice pa pl pc) (.slice la dl lc) (.slice ha dl hc) (.slice ta dl tc) x).alloc (.cells #[.int .i64 0, .slice none 0 0, .slice none 0 0, .slice none 0 0, .slice none 0 0, .slice none 0 0, .int .i64 0] 24))
  have hrs := OpAt.new (w.alloc (.cells #[.int .i64 14, .slice ea el ec, .slice pa pl pc, .slice la dl lc, .slice ha dl hc, .slice ta dl tc, .int .i64 x] 24)) 0 (.slice none 0 0) (.slice none 0 0) (.slice none 0 0) (.slice none 0 0) (.slice none 0 0) 0
  simp only [World.size_alloc] at hrs
  have HRS := hide hrs
  obtain ⟨o0, o1, o2, o3, o4, o5, o6⟩ := HOP.out.cells
  clear hrs HB1
  have Hd2 := hide (hd.below HB2.out)
  have Hl2 := hide (hl'.below HB2.out)
  have Hh2 := hide (hh.below HB2.out)
  have Ht2 := hide (ht.below HB2.out)
  have HOK := hide hok
  have HDL := hide hd.1
  have hdm := hd.2.1
  have hmk := run_make_row' (P := Tryz.prog) 22 3 (.int .i64 0) 8 Tryz.underlying22 info_int rfl .i64 .i64 dl (by omega) (by omega)
  have hob := HOP.out.alloc (.cells (madeCells #[.int .i64 0] dl) 3)
  obtain ⟨q0, q1, q2, q3, q4, q5, q6⟩ := hob.cells
  clear hd hl' hh ht hok hob
  go_enter Tryz.func12, Tryz.ntmps12
  go_wp2
  obtain ⟨W2, hW2⟩ : ∃ W2, W2 = ((w.alloc (.cells #[.int .i64 14, .slice ea el ec, .slice pa pl pc, .slice la dl lc, .slice ha dl hc, .slice ta dl tc, .int .i64 x] 24)).alloc (.cells #[.int .i64 0, .slice none 0 0, .slice none 0 0, .slice none 0 0, .slice none 0 0, .slice none 0 0, .int .i64 0] 24)) := ⟨_, rfl⟩
  have hs2 : W2.heap.size = w.heap.size + 2 := by rw [hW2]; simp
  have hs2' : w.heap.size + 1 + 1 = W2.heap.size := by omega
  rw [← hW2] at HB2 HOP HRS Hd2 Hl2 Hh2 Ht2 ⊢
  rw [hs2']
  have HS2 := hide hs2
  clear hs2 hs2' hW2 o0 o1 o2 o3 o4 o5 o6 q0 q1 q2 q3 q4 q5 q6 hmk
  go_loopw [188] (fun i wr => ∃ k : Nat, k ≤ dl ∧ i = .int .i64 k ∧ wr.rowIs W2.heap.size 3 dl (onWay (pdHi ds lo st) [] k) ∧ Below W2.heap.size W2 wr) (fun i _ => dl - (intOf i).toNat)
  case atStart => exact ⟨0, Nat.zero_le _, rfl, (World.rowIs_made W2 (.int .i64 0) dl 3).congr (fun j _ => by simp [onWay]), (Below.refl _ _).alloc (Nat.le_refl _) _⟩
  case round =>
    obtain ⟨k, hk, rfl, hrow, hB⟩ := hrel
    have HR := hide hrow
    have HB := hide hB
    clear hrow hB
    by_cases hlt : k < dl
    · have hok := HOK.out k hlt
      obtain ⟨db, doff, ed, hdb, hdc⟩ := Hd2.out.at (by omega)
      subst ed
      have HdC := hide (hdc k hlt)
      obtain ⟨lb, loff, el, hlb, hlc⟩ := Hl2.out.at (by omega)
      subst el
      have HlC := hide (hlc k hlt)
      obtain ⟨tb, toff, et, htb, htc⟩ := Ht2.out.at (by omega)
      subst et
      have HtC := hide (htc k hlt)
      have HV : Hid ((pdHi ds lo st)[k]?.getD 0 = pdE (ds[k]?.getD 0) (lo[k]?.getD 0) (st[k]?.getD 0)) := pdHi_at _ _ _ k (by rw [HDL.out]; exact hlt)
      obtain ⟨X, hX⟩ : ∃ X, X = ds[k]?.getD 0 := ⟨_, rfl⟩
      obtain ⟨L, hL⟩ : ∃ L, L = lo[k]?.getD 0 := ⟨_, rfl⟩
      obtain ⟨S, hS⟩ : ∃ S, S = st[k]?.getD 0 := ⟨_, rfl⟩
      rw [← hX, ← hL, ← hS] at HV hok
      rw [← hX] at HdC
      rw [← hL] at HlC
      rw [← hS] at HtC
      clear hX hL hS hdc hlc htc
      have hbd := pdE_bd hok
      obtain ⟨k1, k2, k3, k4, k5, k6⟩ := hok
      have HOR := hide (HOP.out.below HB.out)
      obtain ⟨o0, o1, o2, o3, o4, o5, o6⟩ := HOR.out.cells
      have cd := (HB.out.cell (p := ⟨db, doff + k, none⟩) hdb).trans HdC.out
      have cl := (HB.out.cell (p := ⟨lb, loff + k, none⟩) hlb).trans HlC.out
      have ct := (HB.out.cell (p := ⟨tb, toff + k, none⟩) htb).trans HtC.out
      have hr := HR.out.cell (i := k) (by omega)
      have hf := HR.out.frozen k
      have HR5 := hide (HR.out.set k (.int .i64 L))
      have HB5 := hide (HB.out.setCell (p := ⟨W2.heap.size, k, none⟩) (Nat.le_refl _) (.int .i64 L))
      have HOR5 := hide (HOP.out.below HB5.out)
      obtain ⟨v0, v1, v2, v3, v4, v5, v6⟩ := HOR5.out.cells
      have cl5 := (HB5.out.cell (p := ⟨lb, loff + k, none⟩) hlb).trans HlC.out
      have ct5 := (HB5.out.cell (p := ⟨tb, toff + k, none⟩) htb).trans HtC.out
      have hr5 := HR5.out.cell (i := k) (by omega)
      have hf5 := HR5.out.frozen k
      have i1 : (0 : Int) ≤ (k : Int) := Int.natCast_nonneg _
      have i2 : (k : Int) < (dl : Int) := by omega
      by_cases hX0 : 0 < X
      · obtain ⟨M, hM⟩ : ∃ M, M = (X - 1) * S := ⟨_, rfl⟩
        have hm1 : 0 ≤ M := by rw [hM]; exact Int.mul_nonneg (by omega) (by omega)
        have hm2 : M ≤ 4096 * 4096 := by rw [hM]; exact Int.mul_le_mul (by omega) k6 (by omega) (by omega)
        have HE : Hid (pdE X L S = L + M + 1) := by rw [Hid, pdE, if_pos hX0, ← hM]; omega
        have w1' : IntKind.i64.wrap (X - 1) = X - 1 := wrap_in _ (by omega) (by omega)
        have w2' : IntKind.i64.wrap ((X - 1) * S) = M := by rw [← hM]; exact wrap_in _ (by omega) (by omega)
        have w3' : IntKind.i64.wrap (L + M) = L + M := wrap_in _ (by omega) (by omega)
        have w4' : IntKind.i64.wrap (L + M + 1) = L + M + 1 := wrap_in _ (by omega) (by omega)
        clear hM hbd
        go_wp2_with fail
        go_region
        all_goals go_wp2
        all_goals go_roundw
        case rel =>
          refine ⟨k + 1, by omega, by go_num, ((HR5.out.set k (.int .i64 (L + M + 1))).drew).congr (fun j _ => ?_), (HB5.out.setCell (p := ⟨W2.heap.size, k, none⟩) (Nat.le_refl _) _).drew⟩
          rw [← HE.out, ← HV.out]
          have := onWay_succ (pdHi ds lo st) [] k j
          by_cases e : j = k
          · subst e; simpa using this
          · simpa [e] using this
        case measure => simp [intOf]; omega
      · have HE : Hid (pdE X L S = L) := by rw [Hid, pdE, if_neg hX0]; omega
        have hx0 : X = 0 := by omega
        clear hbd
        go_wp2
        go_roundw
        case rel =>
          refine ⟨k + 1, by omega, by go_num, HR5.out.congr (fun j _ => ?_), HB5.out⟩
          have hv := HV.out
          rw [HE.out] at hv
          rw [← hv]; exact onWay_succ _ _ k j
        case measure => simp [intOf]; omega
    · have hkp : k = dl := by omega
      have hs2 := HS2.out
      have hrr := HRS.out.below HB.out
      have HRR := hide hrr
      have HOR := hide (HOP.out.below HB.out)
      obtain ⟨o0, o1, o2, o3, o4, o5, o6⟩ := HOR.out.cells
      have hrow := HR.out
      rw [hkp] at hrow
      have hlst : Lst wr (some ⟨W2.heap.size, 0, none⟩) dl dl (pdHi ds lo st) := ⟨ints_of_rowI (onWay_all hrow) (by rw [pdHi_length, HDL.out]) (by omega) (fun x hx => by
        obtain ⟨j, hj, e⟩ := List.getElem_of_mem hx
        have hj' : j < dl := by rw [pdHi_length, HDL.out] at hj; exact hj
        have h2 := pdE_bd (HOK.out j hj')
        have h3 := pdHi_at ds lo st j (by rw [HDL.out]; exact hj')
        simp [hj] at h3
        omega), Nat.le_refl _, fun e => by cases e⟩
      obtain ⟨y0, y1, y2, y3, y4, y5, y6⟩ := HRR.out.cells
      have z0 := op7_frozen HRR.out 0
      have z1 := op7_frozen HRR.out 1
      have z2 := op7_frozen HRR.out 2
      have z3 := op7_frozen HRR.out 3
      have z4 := op7_frozen HRR.out 4
      have z5 := op7_frozen HRR.out 5
      have z6 := op7_frozen HRR.out 6
      have HBF := hide (op7_below (b := w.heap.size + 1) (Below.on HB2.out HB.out) (by omega) (.int .i64 13) (.slice none 0 0) (.slice none 0 0) (.slice la dl lc) (.slice (some ⟨W2.heap.size, 0, none⟩) dl dl) (.slice ta dl tc) (.int .i64 0))
      have HXF := hide (op7_lst (b := w.heap.size + 1) hlst (fun g o e => by cases e; omega) (.int .i64 13) (.slice none 0 0) (.slice none 0 0) (.slice la dl lc) (.slice (some ⟨W2.heap.size, 0, none⟩) dl dl) (.slice ta dl tc) (.int .i64 0))
      clear hlst hrow hs2 hrr
      go_wp2
      have hput := op7_put HRR.out 13 (.slice none 0 0) (.slice none 0 0) (.slice la dl lc) (.slice (some ⟨W2.heap.size, 0, none⟩) dl dl) (.slice ta dl tc) 0
      obtain ⟨u0, u1, u2, u3, u4, u5, u6⟩ := hput.cells
      exact bodyPost_ret (v := .agg #[.int .i64 13, .slice none 0 0, .slice none 0 0, .slice la dl lc, .slice (some ⟨W2.heap.size, 0, none⟩) dl dl, .slice ta dl tc, .int .i64 0]) (by simp [results, Tryz.results12, go_sem, u0, u1, u2, u3, u4, u5, u6]) rfl ⟨⟨_, _, _, rfl, HXF.out⟩, HBF.out⟩

end Go.Proofs.YtoagnhppjlcpkaaGreat.V

/-
  Each way has its way back: the dimensions.
-/
namespace Go.Proofs.YtoagnhppjlcpkaaGreat.V
set_option maxRecDepth 20000
open Go.RowKit

theorem doE_one {k : Int} {es ps lo hi st L D : List Int} {N : Nat} (ht : takesE k 1 = 0) (hL : arrE L N = 0) (hs : shapeP k es ps lo hi st [L] = (D, 0)) (hD : sizeE D = 0) : doE k es ps lo hi st 1 (oneV L N) = 0 := by
  have h2 : arrsE (oneV L N) 1 = 0 := arrsE_all 1 (fun j hj => hL)
  have h3 : dimsOf 1 (oneV L N) = [L] := rfl
  have h6 : sizesE [L] = 0 := sizesE_all _ (fun t ht => by
    match t, ht with
    | 0, _ => exact (arrE_ok hL).1)
  unfold doE
  rw [if_neg (by rw [ht]; simp), if_neg (by rw [h2]; simp), h3]
  unfold dimsP
  rw [if_neg (by simp [ht]), if_neg (by rw [h6]; simp), hs, if_neg (by simp), if_neg (by rw [hD]; simp)]
theorem nn_of {ds : List Int} {n : Nat} (h : arrE ds n = 0) : (prod ds).toNat = n := by
  have := (arrE_ok h).2.1
  omega
theorem adj_9 {es ps lo hi st ds : List Int} {n : Nat} (hE : doE 9 es ps lo hi st 1 (oneV ds n) = 0) :
    arrE ds n = 0 ∧ arrE es (prod es).toNat = 0 ∧ freeL (freeL ps es.length) es.length = ps ∧ taken es ps = ds ∧ doE 10 [] (freeL ps es.length) [] [] [] 1 (oneV es (prod es).toNat) = 0 ∧
    ∀ i : Nat, i < (prod es).toNat → 0 ≤ (readsV 0 es (sprS es.length (stepsV ds) ps))[i]?.getD 0 ∧ (readsV 0 es (sprS es.length (stepsV ds) ps))[i]?.getD 0 < (n : Int) := by
  obtain ⟨hae, hs1, _, _⟩ := oneV_parts hE
  have e0 : sprE 0 ds (stepsV ds) es ps = 0 := hs1
  obtain ⟨_, _, _, _, t5⟩ := thr_spread e0
  have hz := (arrE_ok hae).1
  have hn := nn_of hae
  unfold sprE at e0
  rw [if_neg (by rw [wrong_whole hz]; simp)] at e0
  by_cases c1 : sizeE es ≠ 0
  · rw [if_pos c1] at e0; exact absurd e0 c1
  rw [if_neg c1] at e0
  have hes : sizeE es = 0 := by simpa using c1
  by_cases c2 : ps.length = ds.length ∧ riseB ps es.length = true
  · rw [if_pos c2] at e0
    by_cases c3 : anyMis ds es ps = true
    · rw [if_pos c3] at e0; exact absurd e0 (by simp)
    · have hr := (riseB_iff _ _).1 c2.2
      have htw := freeL_twice hr
      have htk : taken es ps = ds := list_at_ext (by rw [taken_length, c2.1]) (fun k hk => by
        rw [taken_at _ _ _ (by omega)]
        by_cases c4 : misAt ds es ps k = true
        · exact absurd (anyMis_true k (by omega) c4) c3
        · simp [misAt] at c4
          exact c4.symm)
      refine ⟨hae, (arrE_of hes).1, htw, htk, ?_, fun i hi' => ?_⟩
      · refine doE_one (D := ds) (by kernel_rfl) (arrE_of hes).1 ?_ hz
        show sumP es (freeL ps es.length) = _
        unfold sumP
        rw [if_pos ((riseB_iff _ _).2 (freeL_rise _ _)), htw, htk]
      · obtain ⟨p, h1, h2, _⟩ := t5 i hi'
        rw [h2]; omega
  · rw [if_neg c2] at e0; exact absurd e0 (by simp)
theorem adj_10 {es ps lo hi st ds : List Int} {n : Nat} (hE : doE 10 es ps lo hi st 1 (oneV ds n) = 0) :
    arrE ds n = 0 ∧ arrE (taken ds (freeL ps ds.length)) (prod (taken ds (freeL ps ds.length))).toNat = 0 ∧ doE 9 ds (freeL ps ds.length) [] [] [] 1 (oneV (taken ds (freeL ps ds.length)) (prod (taken ds (freeL ps ds.length))).toNat) = 0 ∧
    ∀ i : Nat, i < n → 0 ≤ (readsV 0 ds (sprS ds.length (stepsV (taken ds (freeL ps ds.length))) (freeL ps ds.length)))[i]?.getD 0 ∧ (readsV 0 ds (sprS ds.length (stepsV (taken ds (freeL ps ds.length))) (freeL ps ds.length)))[i]?.getD 0 < ((prod (taken ds (freeL ps ds.length))).toNat : Int) := by
  obtain ⟨hae, hs1, hs2, _⟩ := oneV_parts hE
  have hsh : shapeP 10 es ps lo hi st [ds] = sumP ds ps := rfl
  rw [hsh] at hs1 hs2
  have hz := (arrE_ok hae).1
  have hn := nn_of hae
  have hq1 : (sumP ds ps).1 = taken ds (freeL ps ds.length) := by
    unfold sumP at hs1 ⊢
    by_cases c : riseB ps ds.length = true
    · rw [if_pos c]
    · rw [if_neg c] at hs1; exact absurd hs1 (by simp)
  rw [hq1] at hs2
  have hsp := sum_spread hz hs2
  obtain ⟨_, _, _, _, t5⟩ := thr_spread hsp
  refine ⟨hae, (arrE_of hs2).1, ?_, fun i hi' => ?_⟩
  · refine doE_one (D := ds) (by kernel_rfl) (arrE_of hs2).1 ?_ hz
    show (okL (sprE 0 (taken ds (freeL ps ds.length)) (stepsV (taken ds (freeL ps ds.length))) ds (freeL ps ds.length)) ds, sprE 0 (taken ds (freeL ps ds.length)) (stepsV (taken ds (freeL ps ds.length))) ds (freeL ps ds.length)) = _
    rw [hsp]; rfl
  · obtain ⟨p, h1, h2, _⟩ := t5 i (by omega)
    rw [h2]; omega
theorem adj_11 {es ps lo hi st ds : List Int} {n : Nat} (hE : doE 11 es ps lo hi st 1 (oneV ds n) = 0) :
    arrE ds n = 0 ∧ arrE (taken ds ps) n = 0 ∧ PermOk ps ds.length ∧ prod (taken ds ps) = prod ds ∧ taken (taken ds ps) (invL ps) = ds ∧ doE 11 [] (invL ps) [] [] [] 1 (oneV (taken ds ps) n) = 0 := by
  obtain ⟨hae, hs1, _, _⟩ := oneV_parts hE
  have e0 : turnE 0 ds (stepsV ds) ps = 0 := hs1
  obtain ⟨hp, _, hb, _⟩ := turn_again e0
  have hz := (arrE_ok hae).1
  have hpm := taken_perm hp
  have hzL : sizeE (taken ds ps) = 0 := by rw [sizeE_perm hpm]; exact hz
  have hpr : prod (taken ds ps) = prod ds := prod_perm hpm
  have hL : arrE (taken ds ps) n = 0 := by
    have := (arrE_of hzL).1
    rw [hpr, nn_of hae] at this
    exact this
  refine ⟨hae, hL, hp, hpr, hb, doE_one (D := ds) (by kernel_rfl) hL ?_ hz⟩
  have ht : turnE 0 (taken ds ps) (stepsV (taken ds ps)) (invL ps) = 0 := by
    unfold turnE
    rw [if_neg (by rw [wrong_whole hzL]; simp), if_pos]
    rw [permB_iff, taken_length, hp.1]
    exact invL_perm hp
  show (okL (turnE 0 (taken ds ps) (stepsV (taken ds ps)) (invL ps)) (taken (taken ds ps) (invL ps)), turnE 0 (taken ds ps) (stepsV (taken ds ps)) (invL ps)) = _
  rw [ht, hb]; rfl
theorem adj_12 {es ps lo hi st ds : List Int} {n : Nat} (hE : doE 12 es ps lo hi st 1 (oneV ds n) = 0) : arrE ds n = 0 ∧ arrE es n = 0 ∧ doE 12 ds [] [] [] [] 1 (oneV es n) = 0 := by
  obtain ⟨hae, hs1, hs2, _⟩ := oneV_parts hE
  have hsh : shapeP 12 es ps lo hi st [ds] = reformP ds es := rfl
  rw [hsh] at hs1 hs2
  have hz := (arrE_ok hae).1
  unfold reformP at hs1 hs2
  by_cases c1 : sizeE es ≠ 0
  · rw [if_pos c1] at hs1; exact absurd hs1 c1
  rw [if_neg c1] at hs1
  have hes : sizeE es = 0 := by simpa using c1
  by_cases c2 : sizeN es = sizeN ds
  · have hpe : prod es = prod ds := by rw [← size_prod hes, ← size_prod hz, c2]
    have hL : arrE es n = 0 := by
      have := (arrE_of hes).1
      rw [hpe, nn_of hae] at this
      exact this
    refine ⟨hae, hL, doE_one (D := ds) (by kernel_rfl) hL ?_ hz⟩
    show reformP es ds = _
    unfold reformP
    rw [if_neg (by rw [hz]; simp), if_pos c2.symm]
  · rw [if_neg c2] at hs1; exact absurd hs1 (by simp)
theorem kept_bk {l u s : Int} (hs : 1 ≤ s) (h : l ≤ u) : (if 0 < keptN l u s then (keptN l u s - 1) * s + 1 else 0) = bkN l u s := by
  unfold bkN keptN
  by_cases c : l < u
  · have e : (u - l + s - 1) / s = (u - l - 1) / s + 1 := by
      have : u - l + s - 1 = (u - l - 1) + s * 1 := by omega
      rw [this, Int.add_mul_ediv_left _ _ (by omega)]
    have h0 : 0 ≤ (u - l - 1) / s := Int.ediv_nonneg (by omega) (by omega)
    rw [e, if_pos (by omega), if_pos c]
    congr 2
    omega
  · have e : (u - l + s - 1) / s = 0 := Int.ediv_eq_zero_of_lt (by omega) (by omega)
    rw [e, if_neg (by omega), if_neg c]
theorem adj_13 {es ps lo hi st ds : List Int} {n : Nat} (hE : doE 13 es ps lo hi st 1 (oneV ds n) = 0) :
    arrE ds n = 0 ∧ arrE (cutD ds lo hi st) (prod (cutD ds lo hi st)).toNat = 0 ∧ (lo.length = ds.length ∧ hi.length = ds.length ∧ st.length = ds.length) ∧ (∀ j, j < ds.length → CutOne (ds[j]?.getD 0) (lo[j]?.getD 0) (hi[j]?.getD 0) (st[j]?.getD 0)) ∧ padD (cutD ds lo hi st) lo (bkHi ds lo hi st) st = ds ∧
    doE 14 [] [] lo (bkHi ds lo hi st) st 1 (oneV (cutD ds lo hi st) (prod (cutD ds lo hi st)).toNat) = 0 ∧
    ∀ i : Nat, i < (prod (cutD ds lo hi st)).toNat → 0 ≤ (readsV (cutAcc 0 (stepsV ds) lo ds.length) (cutD ds lo hi st) (cutS (stepsV ds) st))[i]?.getD 0 ∧ (readsV (cutAcc 0 (stepsV ds) lo ds.length) (cutD ds lo hi st) (cutS (stepsV ds) st))[i]?.getD 0 < (n : Int) := by
  obtain ⟨hae, hs1, hs2, _⟩ := oneV_parts hE
  have e0 : cutE 0 ds (stepsV ds) lo hi st = 0 := hs1
  obtain ⟨_, _, _, _, t5⟩ := thr_cut e0
  have hL : (shapeP 13 es ps lo hi st [ds]).1 = cutD ds lo hi st := by
    show okL (cutE 0 ds (stepsV ds) lo hi st) (cutD ds lo hi st) = _
    rw [e0]; rfl
  rw [hL] at hs2
  have hz := (arrE_ok hae).1
  have hn := nn_of hae
  unfold cutE at e0
  rw [if_neg (by rw [wrong_whole hz]; simp)] at e0
  by_cases c1 : lensB ds.length lo hi st = true
  · rw [if_pos c1] at e0
    by_cases c2 : anyBad ds lo hi st = true
    · rw [if_pos c2] at e0; exact absurd e0 (by simp)
    · have hbad : anyBad ds lo hi st = false := by simpa using c2
      obtain ⟨l1, l2, l3⟩ := lensB_true.1 c1
      have hok : ∀ j, j < ds.length → CutOne (ds[j]?.getD 0) (lo[j]?.getD 0) (hi[j]?.getD 0) (st[j]?.getD 0) := fun j hj => by
        have h1 := of_anyBad_false hbad j hj
        have h2 := ((sizeE_ok hz).2.1 _ (mem_getD ds j hj))
        unfold badAt badCut at h1
        simp only [Bool.or_eq_false_iff, decide_eq_false_iff_not] at h1
        exact ⟨by omega, by omega, by omega, by omega, by omega, by omega⟩
      have hpd : padD (cutD ds lo hi st) lo (bkHi ds lo hi st) st = ds := list_at_ext (by rw [padD_length, cutD_length]) (fun j hj => by
        have h1 := hok j hj
        have h2 := kept_bk h1.one h1.le
        rw [padD_getD _ _ _ _ _ (by rw [cutD_length]; exact hj), padV, cutD_getD _ _ _ _ _ hj, bkHi_at _ _ _ _ _ hj, h2]
        omega)
      have hap : anyPad (cutD ds lo hi st).length lo (bkHi ds lo hi st) st = false := by
        unfold anyPad
        rw [List.any_eq_false]
        intro j hj
        have hj' : j < ds.length := by rw [cutD_length] at hj; simpa using hj
        have h1 := hok j hj'
        have h2 := bkN_bd h1.one h1.le
        have h3 := bkHi_at ds lo hi st j hj'
        obtain ⟨a1, a2, a3, a4, a5, a6⟩ := h1
        simp only [padBad, Bool.or_eq_true, decide_eq_true_eq]
        omega
      refine ⟨hae, (arrE_of hs2).1, ⟨l1, l2, l3⟩, hok, hpd, doE_one (D := ds) (by kernel_rfl) (arrE_of hs2).1 ?_ hz, fun i hi' => ?_⟩
      · show padP (cutD ds lo hi st) lo (bkHi ds lo hi st) st = _
        unfold padP
        rw [if_pos (lensB_true.2 ⟨by rw [cutD_length]; exact l1, by rw [cutD_length, bkHi_length], by rw [cutD_length]; exact l3⟩), if_neg (by rw [hap]; simp), hpd]
      · obtain ⟨p, h1, h2, _⟩ := t5 i hi'
        rw [h2]; omega
  · rw [if_neg c1] at e0; exact absurd e0 (by simp)
theorem adj_14 {es ps lo hi st ds : List Int} {n : Nat} (hE : doE 14 es ps lo hi st 1 (oneV ds n) = 0) :
    arrE ds n = 0 ∧ arrE (padD ds lo hi st) (prod (padD ds lo hi st)).toNat = 0 ∧ (lo.length = ds.length ∧ hi.length = ds.length ∧ st.length = ds.length) ∧ (∀ j, j < ds.length → PadOne (ds[j]?.getD 0) (lo[j]?.getD 0) (st[j]?.getD 0)) ∧ cutD (padD ds lo hi st) lo (pdHi ds lo st) st = ds ∧
    doE 13 [] [] lo (pdHi ds lo st) st 1 (oneV (padD ds lo hi st) (prod (padD ds lo hi st)).toNat) = 0 ∧
    ∀ i : Nat, i < n → 0 ≤ (readsV (cutAcc 0 (stepsV (padD ds lo hi st)) lo (padD ds lo hi st).length) ds (cutS (stepsV (padD ds lo hi st)) st))[i]?.getD 0 ∧ (readsV (cutAcc 0 (stepsV (padD ds lo hi st)) lo (padD ds lo hi st).length) ds (cutS (stepsV (padD ds lo hi st)) st))[i]?.getD 0 < ((prod (padD ds lo hi st)).toNat : Int) := by
  obtain ⟨hae, hs1, hs2, _⟩ := oneV_parts hE
  have hsh : shapeP 14 es ps lo hi st [ds] = padP ds lo hi st := rfl
  rw [hsh] at hs1 hs2
  have hz := (arrE_ok hae).1
  have hn := nn_of hae
  unfold padP at hs1 hs2
  by_cases c1 : lensB ds.length lo hi st = true
  · rw [if_pos c1] at hs1 hs2
    by_cases c2 : anyPad ds.length lo hi st = true
    · rw [if_pos c2] at hs1; exact absurd hs1 (by simp)
    · rw [if_neg c2] at hs2
      have hs2' : sizeE (padD ds lo hi st) = 0 := hs2
      have hb : anyPad ds.length lo hi st = false := by simpa using c2
      obtain ⟨l1, l2, l3⟩ := lensB_true.1 c1
      obtain ⟨k1, k2, k3⟩ := pad_cut hz c1 hb
      have hpe : pdHi ds lo st = endL (padD ds lo hi st) hi := list_at_ext (by rw [pdHi_length, endL_length, padD_length]) (fun j hj => by
        rw [endL_length, padD_length] at hj
        rw [pdHi_at _ _ _ _ hj, endL_at _ _ _ (by rw [padD_length]; exact hj), padD_getD _ _ _ _ _ hj, padV, pdE]; omega)
      rw [← hpe] at k1 k2 k3
      have hcw := cut_whole hs2' k1 k2
      obtain ⟨_, _, _, _, t5⟩ := thr_cut hcw
      rw [k3] at t5
      refine ⟨hae, (arrE_of hs2').1, ⟨l1, l2, l3⟩, fun j hj => ?_, k3, doE_one (D := ds) (by kernel_rfl) (arrE_of hs2').1 ?_ hz, fun i hi' => ?_⟩
      · have h1 := of_anyPad_false hb j hj
        have h2 := ((sizeE_ok hz).2.1 _ (mem_getD ds j hj))
        exact ⟨by omega, by omega, by omega, by omega, by omega, by omega⟩
      · show (okL (cutE 0 (padD ds lo hi st) (stepsV (padD ds lo hi st)) lo (pdHi ds lo st) st) (cutD (padD ds lo hi st) lo (pdHi ds lo st) st), cutE 0 (padD ds lo hi st) (stepsV (padD ds lo hi st)) lo (pdHi ds lo st) st) = _
        rw [hcw, k3]; rfl
      · obtain ⟨p, h1, h2, _⟩ := t5 i (by omega)
        rw [h2]; omega
  · rw [if_neg c1] at hs1; exact absurd hs1 (by simp)
theorem adj_15 {es ps lo hi st ds : List Int} {n : Nat} (hE : doE 15 es ps lo hi st 1 (oneV ds n) = 0) : arrE ds n = 0 ∧ RiseOk ps ds.length := by
  obtain ⟨hae, hs1, _, _⟩ := oneV_parts hE
  have e0 : flipE 0 ds (stepsV ds) ps = 0 := hs1
  have hz := (arrE_ok hae).1
  refine ⟨hae, (riseB_iff _ _).1 ?_⟩
  rw [flip_whole ps hz] at e0
  by_cases c : riseB ps ds.length = true
  · exact c
  · rw [if_neg c] at e0; exact absurd e0 (by simp)
end Go.Proofs.YtoagnhppjlcpkaaGreat.V

/-
  Contracts: adjointref2.Do of Sum, Reform and Pad: just what is made.
-/
namespace Go.Proofs.YtoagnhppjlcpkaaGreat.V
set_option maxRecDepth 20000
open Go.RowKit

end Go.Proofs.YtoagnhppjlcpkaaGreat.V

/-
  adjointlaw2.back: the kinds Spread and Sum.
-/
namespace Go.Proofs.YtoagnhppjlcpkaaGreat.V
set_option maxRecDepth 20000
open Go.RowKit

set_option maxRecDepth 100000 in
set_option maxHeartbeats 2000000 in
theorem back_9 (ea : Option Addr) (el ec : Nat) (pa : Option Addr) (pl pc : Nat) (la : Option Addr) (ll lc : Nat) (ha : Option Addr) (hl hc : Nat) (ta : Option Addr) (tl tc : Nat) (x : Int) (da : Option Addr) (dl dc : Nat) (ps : List Int) (w : World) (hp : Ints w pa pl ps) (h6 : el ≤ 6) :
    Calls Tryz.prog 12 #[.agg #[.int .i64 9, .slice ea el ec, .slice pa pl pc, .slice la ll lc, .slice ha hl hc, .slice ta tl tc, .int .i64 x], .slice da dl dc] w fun e w' => (∃ (X : Option Addr) (n c : Nat), e = .returned (.agg #[.int .i64 10, .slice none 0 0, .slice X n c, .slice none 0 0, .slice none 0 0, .slice none 0 0, .int .i64 0]) ∧ Lst w' X n c (freeL ps el)) ∧ Below w.heap.size w w' := by
  have HB1 := (Below.refl w.heap.size w).alloc (Nat.le_refl _) (.cells #[.int .i64 9, .slice ea el ec, .slice pa pl pc, .slice la ll lc, .slice ha hl hc, .slice ta tl tc, .int .i64 x] 24)
  have HB2 := hide (HB1.alloc HB1.size (.cells #[.int .i64 0, .slice none 0 0, .slice none 0 0, .slice none 0 0, .slice none 0 0, .slice none 0 0, .int .i64 0] 24))
  have HOP := hide ((OpAt.new w 9 (.slice ea el ec) (.slice pa pl pc) (.slice la ll lc) (.slice ha hl hc) (.slice ta tl tc) x).alloc (.cells #[.int .i64 0, .slice none 0 0, .slice none 0 0, .slice none 0 0, .slice none 0 0, .slice none 0 0, .int .i64 0] 24))
  have hrs := OpAt.new (w.alloc (.cells #[.int .i64 9, .slice ea el ec, .slice pa pl pc, .slice la ll lc, .slice ha hl hc, .slice ta tl tc, .int .i64 x] 24)) 0 (.slice none 0 0) (.slice none 0 0) (.slice none 0 0) (.slice none 0 0) (.slice none 0 0) 0
  simp only [World.size_alloc] at hrs
  have HRS := hide hrs
  obtain ⟨o0, o1, o2, o3, o4, o5, o6⟩ := HOP.out.cells
  clear hrs HB1
  have HPP := hide (hp.below HB2.out)
  have HPL := hide hp.1
  have hpm := hp.2.1
  clear hp
  go_enter Tryz.func12, Tryz.ntmps12
  go_wp2
  obtain ⟨W2, hW2⟩ : ∃ W2, W2 = ((w.alloc (.cells #[.int .i64 9, .slice ea el ec, .slice pa pl pc, .slice la ll lc, .slice ha hl hc, .slice ta tl tc, .int .i64 x] 24)).alloc (.cells #[.int .i64 0, .slice none 0 0, .slice none 0 0, .slice none 0 0, .slice none 0 0, .slice none 0 0, .int .i64 0] 24)) := ⟨_, rfl⟩
  have hs2 : W2.heap.size = w.heap.size + 2 := by rw [hW2]; simp
  rw [← hW2] at HB2 HOP HRS HPP ⊢
  clear hW2 o0 o1 o2 o3 o4 o5 o6
  go_loopw [5, 32] (fun v i wr => ∃ k : Nat, k ≤ el ∧ i = .int .i64 k ∧ wr.ownsRow W2.heap.size 3 1 v (freeL ps k).length ((freeL ps k).map (Value.int .i64)) ∧ Below W2.heap.size W2 wr) (fun _ i _ => el - (intOf i).toNat)
  case atStart => exact ⟨0, Nat.zero_le _, rfl, World.ownsRow_nil _ _ _ _, Below.refl _ _⟩
  case round =>
    obtain ⟨k, hk, rfl, hown, hB⟩ := hrel
    have HO := hide hown
    have HB := hide hB
    have HOR := hide (HOP.out.below hB)
    have HPR := hide (HPP.out.below hB)
    have hrr := HRS.out.below hB
    have HRR := hide hrr
    obtain ⟨o0, o1, o2, o3, o4, o5, o6⟩ := HOR.out.cells
    have hfl := freeL_len ps k
    clear hown hB hrr
    by_cases hlt : k < el
    · go_wp2
      go_loop [7, 38] (fun b i => ∃ j : Nat, j ≤ pl ∧ i = .int .i64 j ∧ b = .bool ((ps.take j).any fun x => x == (k : Int))) (fun _ i => pl - (intOf i).toNat)
      case atStart => exact ⟨0, Nat.zero_le _, rfl, rfl⟩
      case round =>
        obtain ⟨j, hj, rfl, rfl⟩ := hrel
        by_cases hjl : j < pl
        · obtain ⟨pb, po, hpa, _, hpc⟩ := HPR.out.at (by omega)
          subst hpa
          have cj := hpc j hjl
          have HT : Hid ((ps.take (j + 1)).any (fun x => x == (k : Int)) = ((ps.take j).any (fun x => x == (k : Int)) || (ps[j]?.getD 0 == (k : Int)))) := any_take_succ ps j (by rw [HPL.out]; exact hjl)
          clear hpc
          cases q : (ps.take j).any (fun x => x == (k : Int)) with
          | true =>
            have Q : Hid ((ps.take j).any (fun x => x == (k : Int)) = true) := q
            clear q
            go_wp2
            all_goals go_round
            case rel => exact ⟨j + 1, by omega, by go_num, by rw [HT.out, Q.out]; rfl⟩
            case measure => simp [intOf]; omega
          | false =>
            have Q : Hid ((ps.take j).any (fun x => x == (k : Int)) = false) := q
            clear q
            obtain ⟨y, hy⟩ : ∃ y, y = ps[j]?.getD 0 := ⟨_, rfl⟩
            rw [← hy] at cj HT
            clear hy
            obtain ⟨bb, hbb⟩ : ∃ bb, bb = (y == (k : Int)) := ⟨_, rfl⟩
            have hbb' := hbb.symm
            rw [hbb'] at HT
            clear hbb
            go_wp2
            all_goals go_round
            case rel => exact ⟨j + 1, by omega, by go_num, by rw [HT.out, Q.out]; simp⟩
            case measure => simp [intOf]; omega
        · have hjp : j = pl := by omega
          have HT : Hid ((ps.take j).any (fun x => x == (k : Int)) = inB ps k) := by rw [Hid, List.take_of_length_le (by rw [HPL.out]; omega)]; rfl
          rw [HT.out]
          clear HT
          cases q : inB ps k with
          | true =>
            have HE : Hid (freeL ps (k + 1) = freeL ps k) := by rw [Hid, freeL, if_pos q]; simp
            clear q
            go_wp2
            go_roundw
            case rel => exact ⟨k + 1, by omega, by go_num, by rw [HE.out]; exact HO.out, HB.out⟩
            case measure => simp [intOf]; omega
          | false =>
            have HE : Hid (freeL ps (k + 1) = freeL ps k ++ [(k : Int)]) := by rw [Hid, freeL, if_neg (by simp [q])]
            clear q
            go_wp2_with (at_builtin; refine append_list (by rfl) (.tmp 51) (.tmp 53) (by rfl) W2.heap.size _ _ _ (by rfl) (HO.out.alloc _) _ _ _ [(k : Int)] (by rfl) (lst_one wr k (by omega) 3) (by omega) (by have := HB.out.size; simp; omega) ?_; intro v1 w1 hown1 hg1; have HO1 := hide hown1; have HB1 := hide (grown_own (HB.out.alloc HB.out.size _) (HO.out.alloc _) hg1); clear hown1 hg1)
            go_roundw
            case rel =>
              have ho := HO1.out
              refine ⟨k + 1, by omega, by go_num, ?_, HB1.out⟩
              rw [HE.out, List.map_append, List.length_append]
              exact ho
            case measure => simp [intOf]; omega
    · obtain rfl : k = el := by omega
      obtain ⟨X, n, c, rfl, hX, hfar⟩ := newAt_own' (w := W2) HO.out (Nat.le_refl _) rfl (by omega) (fun x hx => by have := freeL_bd ps k x hx; omega)
      obtain ⟨y0, y1, y2, y3, y4, y5, y6⟩ := HRR.out.cells
      have z0 := op7_frozen HRR.out 0
      have z1 := op7_frozen HRR.out 1
      have z2 := op7_frozen HRR.out 2
      have z3 := op7_frozen HRR.out 3
      have z4 := op7_frozen HRR.out 4
      have z5 := op7_frozen HRR.out 5
      have z6 := op7_frozen HRR.out 6
      have HBF := hide (op7_below (b := w.heap.size + 1) (Below.on HB2.out HB.out) (by omega) (.int .i64 10) (.slice none 0 0) (.slice X n c) (.slice none 0 0) (.slice none 0 0) (.slice none 0 0) (.int .i64 0))
      have HXF := hide (op7_lst (b := w.heap.size + 1) hX (fun g o e => by have := hfar g o e; omega) (.int .i64 10) (.slice none 0 0) (.slice X n c) (.slice none 0 0) (.slice none 0 0) (.slice none 0 0) (.int .i64 0))
      go_wp2
      have hput := op7_put HRR.out 10 (.slice none 0 0) (.slice X n c) (.slice none 0 0) (.slice none 0 0) (.slice none 0 0) 0
      obtain ⟨u0, u1, u2, u3, u4, u5, u6⟩ := hput.cells
      exact bodyPost_ret (v := .agg #[.int .i64 10, .slice none 0 0, .slice X n c, .slice none 0 0, .slice none 0 0, .slice none 0 0, .int .i64 0]) (by simp [results, Tryz.results12, go_sem, u0, u1, u2, u3, u4, u5, u6]) rfl ⟨⟨X, n, c, rfl, HXF.out⟩, HBF.out⟩

end Go.Proofs.YtoagnhppjlcpkaaGreat.V

/-
  adjointlaw2.back: the kind Sum.
-/
namespace Go.Proofs.YtoagnhppjlcpkaaGreat.V
set_option maxRecDepth 20000
open Go.RowKit

set_option maxRecDepth 100000 in
set_option maxHeartbeats 2000000 in
theorem back_10 (ea : Option Addr) (el ec : Nat) (pa : Option Addr) (pl pc : Nat) (la : Option Addr) (ll lc : Nat) (ha : Option Addr) (hl hc : Nat) (ta : Option Addr) (tl tc : Nat) (x : Int) (da : Option Addr) (dl dc : Nat) (ps : List Int) (w : World) (hp : Ints w pa pl ps) (h6 : dl ≤ 6) :
    Calls Tryz.prog 12 #[.agg #[.int .i64 10, .slice ea el ec, .slice pa pl pc, .slice la ll lc, .slice ha hl hc, .slice ta tl tc, .int .i64 x], .slice da dl dc] w fun e w' => (∃ (X : Option Addr) (n c : Nat), e = .returned (.agg #[.int .i64 9, .slice da dl dc, .slice X n c, .slice none 0 0, .slice none 0 0, .slice none 0 0, .int .i64 0]) ∧ Lst w' X n c (freeL ps dl)) ∧ Below w.heap.size w w' := by
  have HB1 := (Below.refl w.heap.size w).alloc (Nat.le_refl _) (.cells #[.int .i64 10, .slice ea el ec, .slice pa pl pc, .slice la ll lc, .slice ha hl hc, .slice ta tl tc, .int .i64 x] 24)
  have HB2 := hide (HB1.alloc HB1.size (.cells #[.int .i64 0, .slice none 0 0, .slice none 0 0, .slice none 0 0, .slice none 0 0, .slice none 0 0, .int .i64 0] 24))
  have HOP := hide ((OpAt.new w 10 (.slice ea el ec) (.slice pa pl pc) (.slice la ll lc) (.slice ha hl hc) (.slice ta tl tc) x).alloc (.cells #[.int .i64 0, .slice none 0 0, .slice none 0 0, .slice none 0 0, .slice none 0 0, .slice none 0 0, .int .i64 0] 24))
  have hrs := OpAt.new (w.alloc (.cells #[.int .i64 10, .slice ea el ec, .slice pa pl pc, .slice la ll lc, .slice ha hl hc, .slice ta tl tc, .int .i64 x] 24)) 0 (.slice none 0 0) (.slice none 0 0) (.slice none 0 0) (.slice none 0 0) (.slice none 0 0) 0
  simp only [World.size_alloc] at hrs
  have HRS := hide hrs
  obtain ⟨o0, o1, o2, o3, o4, o5, o6⟩ := HOP.out.cells
  clear hrs HB1
  have HPP := hide (hp.below HB2.out)
  have HPL := hide hp.1
  have hpm := hp.2.1
  clear hp
  go_enter Tryz.func12, Tryz.ntmps12
  go_wp2
  obtain ⟨W2, hW2⟩ : ∃ W2, W2 = ((w.alloc (.cells #[.int .i64 10, .slice ea el ec, .slice pa pl pc, .slice la ll lc, .slice ha hl hc, .slice ta tl tc, .int .i64 x] 24)).alloc (.cells #[.int .i64 0, .slice none 0 0, .slice none 0 0, .slice none 0 0, .slice none 0 0, .slice none 0 0, .int .i64 0] 24)) := ⟨_, rfl⟩
  have hs2 : W2.heap.size = w.heap.size + 2 := by rw [hW2]; simp
  rw [← hW2] at HB2 HOP HRS HPP ⊢
  clear hW2 o0 o1 o2 o3 o4 o5 o6
  go_loopw [10, 62] (fun v i wr => ∃ k : Nat, k ≤ dl ∧ i = .int .i64 k ∧ wr.ownsRow W2.heap.size 3 1 v (freeL ps k).length ((freeL ps k).map (Value.int .i64)) ∧ Below W2.heap.size W2 wr) (fun _ i _ => dl - (intOf i).toNat)
  case atStart => exact ⟨0, Nat.zero_le _, rfl, World.ownsRow_nil _ _ _ _, Below.refl _ _⟩
  case round =>
    obtain ⟨k, hk, rfl, hown, hB⟩ := hrel
    have HO := hide hown
    have HB := hide hB
    have HOR := hide (HOP.out.below hB)
    have HPR := hide (HPP.out.below hB)
    have hrr := HRS.out.below hB
    have HRR := hide hrr
    obtain ⟨o0, o1, o2, o3, o4, o5, o6⟩ := HOR.out.cells
    have hfl := freeL_len ps k
    clear hown hB hrr
    by_cases hlt : k < dl
    · go_wp2
      go_loop [12, 68] (fun b i => ∃ j : Nat, j ≤ pl ∧ i = .int .i64 j ∧ b = .bool ((ps.take j).any fun x => x == (k : Int))) (fun _ i => pl - (intOf i).toNat)
      case atStart => exact ⟨0, Nat.zero_le _, rfl, rfl⟩
      case round =>
        obtain ⟨j, hj, rfl, rfl⟩ := hrel
        by_cases hjl : j < pl
        · obtain ⟨pb, po, hpa, _, hpc⟩ := HPR.out.at (by omega)
          subst hpa
          have cj := hpc j hjl
          have HT : Hid ((ps.take (j + 1)).any (fun x => x == (k : Int)) = ((ps.take j).any (fun x => x == (k : Int)) || (ps[j]?.getD 0 == (k : Int)))) := any_take_succ ps j (by rw [HPL.out]; exact hjl)
          clear hpc
          cases q : (ps.take j).any (fun x => x == (k : Int)) with
          | true =>
            have Q : Hid ((ps.take j).any (fun x => x == (k : Int)) = true) := q
            clear q
            go_wp2
            all_goals go_round
            case rel => exact ⟨j + 1, by omega, by go_num, by rw [HT.out, Q.out]; rfl⟩
            case measure => simp [intOf]; omega
          | false =>
            have Q : Hid ((ps.take j).any (fun x => x == (k : Int)) = false) := q
            clear q
            obtain ⟨y, hy⟩ : ∃ y, y = ps[j]?.getD 0 := ⟨_, rfl⟩
            rw [← hy] at cj HT
            clear hy
            obtain ⟨bb, hbb⟩ : ∃ bb, bb = (y == (k : Int)) := ⟨_, rfl⟩
            have hbb' := hbb.symm
            rw [hbb'] at HT
            clear hbb
            go_wp2
            all_goals go_round
            case rel => exact ⟨j + 1, by omega, by go_num, by rw [HT.out, Q.out]; simp⟩
            case measure => simp [intOf]; omega
        · have hjp : j = pl := by omega
          have HT : Hid ((ps.take j).any (fun x => x == (k : Int)) = inB ps k) := by rw [Hid, List.take_of_length_le (by rw [HPL.out]; omega)]; rfl
          rw [HT.out]
          clear HT
          cases q : inB ps k with
          | true =>
            have HE : Hid (freeL ps (k + 1) = freeL ps k) := by rw [Hid, freeL, if_pos q]; simp
            clear q
            go_wp2
            go_roundw
            case rel => exact ⟨k + 1, by omega, by go_num, by rw [HE.out]; exact HO.out, HB.out⟩
            case measure => simp [intOf]; omega
          | false =>
            have HE : Hid (freeL ps (k + 1) = freeL ps k ++ [(k : Int)]) := by rw [Hid, freeL, if_neg (by simp [q])]
            clear q
            go_wp2_with (at_builtin; refine append_list (by rfl) (.tmp 81) (.tmp 83) (by rfl) W2.heap.size _ _ _ (by rfl) (HO.out.alloc _) _ _ _ [(k : Int)] (by rfl) (lst_one wr k (by omega) 3) (by omega) (by have := HB.out.size; simp; omega) ?_; intro v1 w1 hown1 hg1; have HO1 := hide hown1; have HB1 := hide (grown_own (HB.out.alloc HB.out.size _) (HO.out.alloc _) hg1); clear hown1 hg1)
            go_roundw
            case rel =>
              have ho := HO1.out
              refine ⟨k + 1, by omega, by go_num, ?_, HB1.out⟩
              rw [HE.out, List.map_append, List.length_append]
              exact ho
            case measure => simp [intOf]; omega
    · have hkn : k = dl := by omega
      have ho := HO.out
      rw [hkn] at ho
      have hfl2 := freeL_len ps dl
      obtain ⟨X, n, c, rfl, hX, hfar⟩ := newAt_own' (w := W2) ho (Nat.le_refl _) rfl (by omega) (fun x hx => by have := freeL_bd ps dl x hx; omega)
      clear ho hkn
      obtain ⟨y0, y1, y2, y3, y4, y5, y6⟩ := HRR.out.cells
      have z0 := op7_frozen HRR.out 0
      have z1 := op7_frozen HRR.out 1
      have z2 := op7_frozen HRR.out 2
      have z3 := op7_frozen HRR.out 3
      have z4 := op7_frozen HRR.out 4
      have z5 := op7_frozen HRR.out 5
      have z6 := op7_frozen HRR.out 6
      have HBF := hide (op7_below (b := w.heap.size + 1) (Below.on HB2.out HB.out) (by omega) (.int .i64 9) (.slice da dl dc) (.slice X n c) (.slice none 0 0) (.slice none 0 0) (.slice none 0 0) (.int .i64 0))
      have HXF := hide (op7_lst (b := w.heap.size + 1) hX (fun g o e => by have := hfar g o e; omega) (.int .i64 9) (.slice da dl dc) (.slice X n c) (.slice none 0 0) (.slice none 0 0) (.slice none 0 0) (.int .i64 0))
      go_wp2
      have hput := op7_put HRR.out 9 (.slice da dl dc) (.slice X n c) (.slice none 0 0) (.slice none 0 0) (.slice none 0 0) 0
      obtain ⟨u0, u1, u2, u3, u4, u5, u6⟩ := hput.cells
      exact bodyPost_ret (v := .agg #[.int .i64 9, .slice da dl dc, .slice X n c, .slice none 0 0, .slice none 0 0, .slice none 0 0, .int .i64 0]) (by simp [results, Tryz.results12, go_sem, u0, u1, u2, u3, u4, u5, u6]) rfl ⟨⟨X, n, c, rfl, HXF.out⟩, HBF.out⟩

end Go.Proofs.YtoagnhppjlcpkaaGreat.V

/-
  adjointlaw2.back: the kind Turn.
-/
namespace Go.Proofs.YtoagnhppjlcpkaaGreat.V
set_option maxRecDepth 20000
open Go.RowKit

/-- The numbers from 0 on. -/
def iotaL (n : Nat) : List Int := (List.range n).map fun k : Nat => (k : Int)
theorem iotaL_at (n k : Nat) (h : k < n) : (iotaL n)[k]?.getD 0 = (k : Int) := by simp [iotaL, h]
theorem list_ext_at {xs ys : List Int} (hl : xs.length = ys.length) (h : ∀ k, k < ys.length → xs[k]?.getD 0 = ys[k]?.getD 0) : xs = ys := by
  refine List.ext_getElem hl (fun k h1 h2 => ?_)
  have := h k h2
  simpa [h1, h2] using this
theorem set_inv {ps : List Int} {n : Nat} (hp : PermOk ps n) : setAll (List.replicate n 0) ps (iotaL n) n = invL ps := by
  have h1 := setAll_inv (at' := iotaL n) hp
  rw [hp.1] at h1
  rw [h1]
  refine list_ext_at (by rw [taken_length]) (fun k hk => ?_)
  have hq := invL_perm hp
  rw [invL_length, hp.1] at hk
  obtain ⟨h0, h2, _⟩ := hq.2 k hk
  obtain ⟨m, hm⟩ : ∃ m : Nat, (invL ps)[k]?.getD 0 = (m : Int) := ⟨((invL ps)[k]?.getD 0).toNat, by omega⟩
  rw [taken_getD (iotaL n) (invL ps) k m (by rw [invL_length, hp.1]; exact hk) hm, hm, iotaL_at n m (by omega)]

set_option maxRecDepth 100000 in
set_option maxHeartbeats 2000000 in
theorem back_11 (ea : Option Addr) (el ec : Nat) (pa : Option Addr) (pl pc : Nat) (la : Option Addr) (ll lc : Nat) (ha : Option Addr) (hl hc : Nat) (ta : Option Addr) (tl tc : Nat) (x : Int) (da : Option Addr) (dl dc : Nat) (ps : List Int) (w : World) (hp : Ints w pa pl ps) (hperm : PermOk ps pl) (h6 : pl ≤ 6) :
    Calls Tryz.prog 12 #[.agg #[.int .i64 11, .slice ea el ec, .slice pa pl pc, .slice la ll lc, .slice ha hl hc, .slice ta tl tc, .int .i64 x], .slice da dl dc] w fun e w' => (∃ (X : Option Addr) (n c : Nat), e = .returned (.agg #[.int .i64 11, .slice none 0 0, .slice X n c, .slice none 0 0, .slice none 0 0, .slice none 0 0, .int .i64 0]) ∧ Lst w' X n c (invL ps)) ∧ Below w.heap.size w w' := by
  have HB1 := (Below.refl w.heap.size w).alloc (Nat.le_refl _) (.cells #[.int .i64 11, .slice ea el ec, .slice pa pl pc, .slice la ll lc, .slice ha hl hc, .slice ta tl tc, .int .i64 x] 24)
  have HB2 := hide (HB1.alloc HB1.size (.cells #[.int .i64 0, .slice none 0 0, .slice none 0 0, .slice none 0 0, .slice none 0 0, .slice none 0 0, .int .i64 0] 24))
  have HOP := hide ((OpAt.new w 11 (.slice ea el ec) (.slice pa pl pc) (.slice la ll lc) (.slice ha hl hc) (.slice ta tl tc) x).alloc (.cells #[.int .i64 0, .slice none 0 0, .slice none 0 0, .slice none 0 0, .slice none 0 0, .slice none 0 0, .int .i64 0] 24))
  have hrs := OpAt.new (w.alloc (.cells #[.int .i64 11, .slice ea el ec, .slice pa pl pc, .slice la ll lc, .slice ha hl hc, .slice ta tl tc, .int .i64 x] 24)) 0 (.slice none 0 0) (.slice none 0 0) (.slice none 0 0) (.slice none 0 0) (.slice none 0 0) 0
  simp only [World.size_alloc] at hrs
  have HRS := hide hrs
  obtain ⟨o0, o1, o2, o3, o4, o5, o6⟩ := HOP.out.cells
  clear hrs HB1
  have HPP := hide (hp.below HB2.out)
  have HPM := hide hperm
  have HPL := hide hp.1
  have hpm := hp.2.1
  have hmk := run_make_row' (P := Tryz.prog) 22 3 (.int .i64 0) 8 Tryz.underlying22 info_int rfl .i64 .i64 pl (by omega) (by omega)
  have hob := HOP.out.alloc (.cells (madeCells #[.int .i64 0] pl) 3)
  obtain ⟨q0, q1, q2, q3, q4, q5, q6⟩ := hob.cells
  clear hp hperm hob
  go_enter Tryz.func12, Tryz.ntmps12
  go_wp2
  obtain ⟨W2, hW2⟩ : ∃ W2, W2 = ((w.alloc (.cells #[.int .i64 11, .slice ea el ec, .slice pa pl pc, .slice la ll lc, .slice ha hl hc, .slice ta tl tc, .int .i64 x] 24)).alloc (.cells #[.int .i64 0, .slice none 0 0, .slice none 0 0, .slice none 0 0, .slice none 0 0, .slice none 0 0, .int .i64 0] 24)) := ⟨_, rfl⟩
  have hs2 : W2.heap.size = w.heap.size + 2 := by rw [hW2]; simp
  have hs2' : w.heap.size + 1 + 1 = W2.heap.size := by omega
  rw [← hW2] at HB2 HOP HRS HPP ⊢
  rw [hs2']
  have HS2 := hide hs2
  clear hs2 hs2' hW2 o0 o1 o2 o3 o4 o5 o6 q0 q1 q2 q3 q4 q5 q6 hmk
  go_loopw [98] (fun i wr => ∃ k : Nat, k ≤ pl ∧ i = .int .i64 k ∧ wr.rowIs W2.heap.size 3 pl (fun j => .int .i64 ((setAll (List.replicate pl 0) ps (iotaL pl) k)[j]?.getD 0)) ∧ Below W2.heap.size W2 wr) (fun i _ => pl - (intOf i).toNat)
  case atStart => exact ⟨0, Nat.zero_le _, rfl, (World.rowIs_made W2 (.int .i64 0) pl 3).congr (fun j _ => by rw [setAll, repl0_at]), (Below.refl _ _).alloc (Nat.le_refl _) _⟩
  case round =>
    obtain ⟨k, hk, rfl, hrow, hB⟩ := hrel
    have HR := hide hrow
    have HB := hide hB
    have HOR := hide (HOP.out.below hB)
    have HPR := hide (HPP.out.below hB)
    have hrr := HRS.out.below hB
    have HRR := hide hrr
    obtain ⟨o0, o1, o2, o3, o4, o5, o6⟩ := HOR.out.cells
    clear hrow hB hrr
    by_cases hlt : k < pl
    · obtain ⟨pb, po, hpa, _, hpc⟩ := HPR.out.at (by omega)
      subst hpa
      have cj := hpc k hlt
      obtain ⟨h0, h1, _⟩ := HPM.out.2 k hlt
      obtain ⟨m, hm⟩ : ∃ m : Nat, ps[k]?.getD 0 = (m : Int) := ⟨(ps[k]?.getD 0).toNat, by omega⟩
      rw [hm] at cj h0 h1
      have HM := hide hm
      have hml : m < pl := by omega
      have hr := HR.out.cell (i := m) (by omega)
      have hf := HR.out.frozen m
      clear hpc hm
      go_wp2
      go_roundw
      case rel =>
        refine ⟨k + 1, by omega, by go_num, (HR.out.set m (.int .i64 (k : Int))).congr (fun j hj => ?_), HB.out.setCell (p := ⟨W2.heap.size, m, none⟩) (Nat.le_refl _) _⟩
        rw [setAll, HM.out, Int.toNat_natCast, iotaL_at pl k hlt]
        by_cases e : j = m
        · subst e
          rw [if_pos rfl]
          have : j < (setAll (List.replicate pl 0) ps (iotaL pl) k).length := by rw [setAll_length]; simp; omega
          simp [this]
        · rw [if_neg e, List.getElem?_set_ne (fun h => e h.symm)]
      case measure => simp [intOf]; omega
    · have hkp : k = pl := by omega
      have hs2 := HS2.out
      have hi := set_inv HPM.out
      have hrow := HR.out
      rw [hkp, hi] at hrow
      have hlst : Lst wr (some ⟨W2.heap.size, 0, none⟩) pl pl (invL ps) := ⟨ints_of_rowI hrow (by rw [invL_length, HPL.out]) (by omega) (fun x hx => by
        obtain ⟨j, hj, e⟩ := List.getElem_of_mem hx
        have hj' : j < pl := by rw [invL_length, HPL.out] at hj; exact hj
        have := (invL_perm HPM.out).2 j hj'
        simp [hj] at this
        omega), Nat.le_refl _, fun e => by cases e⟩
      obtain ⟨y0, y1, y2, y3, y4, y5, y6⟩ := HRR.out.cells
      have z0 := op7_frozen HRR.out 0
      have z1 := op7_frozen HRR.out 1
      have z2 := op7_frozen HRR.out 2
      have z3 := op7_frozen HRR.out 3
      have z4 := op7_frozen HRR.out 4
      have z5 := op7_frozen HRR.out 5
      have z6 := op7_frozen HRR.out 6
      have HBF := hide (op7_below (b := w.heap.size + 1) (Below.on HB2.out HB.out) (by omega) (.int .i64 11) (.slice none 0 0) (.slice (some ⟨W2.heap.size, 0, none⟩) pl pl) (.slice none 0 0) (.slice none 0 0) (.slice none 0 0) (.int .i64 0))
      have HXF := hide (op7_lst (b := w.heap.size + 1) hlst (fun g o e => by cases e; omega) (.int .i64 11) (.slice none 0 0) (.slice (some ⟨W2.heap.size, 0, none⟩) pl pl) (.slice none 0 0) (.slice none 0 0) (.slice none 0 0) (.int .i64 0))
      clear hlst hrow hi hs2
      go_wp2
      have hput := op7_put HRR.out 11 (.slice none 0 0) (.slice (some ⟨W2.heap.size, 0, none⟩) pl pl) (.slice none 0 0) (.slice none 0 0) (.slice none 0 0) 0
      obtain ⟨u0, u1, u2, u3, u4, u5, u6⟩ := hput.cells
      exact bodyPost_ret (v := .agg #[.int .i64 11, .slice none 0 0, .slice (some ⟨W2.heap.size, 0, none⟩) pl pl, .slice none 0 0, .slice none 0 0, .slice none 0 0, .int .i64 0]) (by simp [results, Tryz.results12, go_sem, u0, u1, u2, u3, u4, u5, u6]) rfl ⟨⟨_, _, _, rfl, HXF.out⟩, HBF.out⟩

end Go.Proofs.YtoagnhppjlcpkaaGreat.V
