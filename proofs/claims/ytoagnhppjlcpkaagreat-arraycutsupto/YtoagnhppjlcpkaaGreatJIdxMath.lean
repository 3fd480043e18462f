/-
  Plain mathematics: of which index an entry of a view is read.
-/
import Derived.Test.YtoagnhppjlcpkaaGreatGAgainMath
import Derived.Test.YtoagnhppjlcpkaaGreatGArrSubs
import Derived.Test.YtoagnhppjlcpkaaGreatJArrRPlaced
import Derived.Test.YtoagnhppjlcpkaaGreatJRAllC
import Derived.Test.YtoagnhppjlcpkaaGreatJLinMath
namespace Go.Proofs.YtoagnhppjlcpkaaGreat.V
set_option maxRecDepth 20000

/-- Each entry of what is made is the entry at an index that is told. -/
def ThroughY (ds D : List Int) (Y : Nat → List Int) (S : Int → List Int → Int) (T : List Int → List Int) : Prop :=
  ∀ i : Nat, i < (prod D).toNat → (Y i).length = ds.length ∧ IdxOk ds (Y i) ∧ ∀ s ss, ss.length = ds.length → S s ss + lieN D (T ss) i = s + dotT (Y i) ss ds.length
theorem idx_turn {ds ps : List Int} (hE : sizeE ds = 0) (hp : PermOk ps ds.length) : ThroughY ds (taken ds ps) (fun i => taken (dig (taken ds ps) i) (invL ps)) (fun s _ => s) (fun ss => taken ss ps) := by
  intro i hi
  have hl := hp.1
  have hpm := taken_perm hp
  have hpos := pos_of (by rw [sizeE_perm hpm]; exact hE) hi
  have hb := dig_bd (taken ds ps) i hpos (by omega) (by omega)
  have hdl : (dig (taken ds ps) i).length = ds.length := by rw [dig_length, taken_length, hl]
  refine ⟨by rw [taken_length, invL_length, hl], fun k hk => ?_, fun s ss hss => ?_⟩
  · obtain ⟨j, h1, h2, h3⟩ := perm_at hp k hk
    have e1 : (taken (dig (taken ds ps) i) (invL ps))[k]?.getD 0 = (dig (taken ds ps) i)[j]?.getD 0 := taken_getD _ _ k j (by rw [invL_length]; omega) (by rw [invL_getD ps k (by omega), hl, h2])
    have e2 : (taken ds ps)[j]?.getD 0 = ds[k]?.getD 0 := taken_getD _ _ j k (by omega) h3
    have := hb j (by rw [taken_length]; omega)
    rw [e1, ← e2]; exact this
  · rw [lieN_dig _ _ _ (by rw [taken_length, taken_length]), taken_length, hl, dotT_sumL, dotT_sumL]
    congr 1
    have hpr : (ps.map Int.toNat).Perm (List.range ds.length) := by
      refine perm_range _ _ (by simp [hl]) (fun k hk => ?_)
      have := (perm_iff hp.1).1 hp.2 k hk
      simp only [List.mem_map]
      exact ⟨(k : Int), this, by simp⟩
    have h2 := sumL_perm (hpr.map (fun k => (taken (dig (taken ds ps) i) (invL ps))[k]?.getD 0 * ss[k]?.getD 0))
    rw [← h2]
    congr 1
    rw [List.map_map]
    apply List.ext_getElem?
    intro j
    by_cases hj : j < ds.length
    · have hjp : j < ps.length := by omega
      have hpj := hp.2 j hj
      obtain ⟨m, hm⟩ : ∃ m : Nat, ps[j]?.getD 0 = (m : Int) := ⟨(ps[j]?.getD 0).toNat, by omega⟩
      have hmn : m < ds.length := by omega
      obtain ⟨j', h1, h2', h3⟩ := perm_at hp m hmn
      have ejj := perm_inj hp hj h1 (hm.trans h3.symm)
      subst ejj
      have e1 : (taken (dig (taken ds ps) i) (invL ps))[m]?.getD 0 = (dig (taken ds ps) i)[j]?.getD 0 := taken_getD _ _ m j (by rw [invL_length]; omega) (by rw [invL_getD ps m (by omega), hl, h2'])
      have e2 : (taken ss ps)[j]?.getD 0 = ss[m]?.getD 0 := taken_getD _ _ j m hjp hm
      have hm' : ps[j] = (m : Int) := by simpa [hjp] using hm
      simp only [List.getElem?_map, List.getElem?_range hj, Option.map_some, List.getElem?_eq_getElem hjp, Function.comp, hm', Int.toNat_natCast, e1, e2]
    · rw [List.getElem?_eq_none (by simp; omega), List.getElem?_eq_none (by simp; omega)]
theorem idx_flip {ds ps : List Int} (hE : sizeE ds = 0) (hp : RiseOk ps ds.length) : ThroughY ds ds (fun i => (List.range ds.length).map fun k => if inB ps k = true then ds[k]?.getD 0 - 1 - (dig ds i)[k]?.getD 0 else (dig ds i)[k]?.getD 0) (fun s ss => flipAcc s ds ss ps ps.length) (fun ss => flipL ss ps) := by
  intro i hi
  have hpos := pos_of hE hi
  have hb := dig_bd ds i hpos (by omega) (by omega)
  refine ⟨by simp, fun k hk => ?_, fun s ss hss => ?_⟩
  · have := hb k hk
    simp only [List.getElem?_map, List.getElem?_range hk, Option.map_some, Option.getD_some]
    split <;> omega
  · show flipAcc s ds ss ps ps.length + lieN ds (flipL ss ps) i = _
    rw [← rAcc_flipAcc s ds ss ps ds.length hp, lieN_dig ds _ _ (by rw [flipL_length]; exact hss)]
    have key : ∀ k, k ≤ ds.length → rAcc s ds ss ps k + dotT (dig ds i) (flipL ss ps) k = s + dotT ((List.range ds.length).map fun k => if inB ps k = true then ds[k]?.getD 0 - 1 - (dig ds i)[k]?.getD 0 else (dig ds i)[k]?.getD 0) ss k := by
      intro k
      induction k with
      | zero => intro _; simp [rAcc, dotT]
      | succ k ih =>
        intro hk
        have ih' := ih (by omega)
        have hk' : k < ds.length := by omega
        have hd := hpos _ (mem_getD ds k hk')
        rw [rAcc, dotT, dotT, flipL_getD ss ps k (by omega)]
        simp only [List.getElem?_map, List.getElem?_range hk', Option.map_some, Option.getD_some]
        by_cases c : inB ps k = true
        · rw [if_pos c, if_pos c, if_pos c]
          unfold flipTerm
          rw [if_pos (by omega)]
          simp only [Int.sub_mul, Int.mul_neg, Int.one_mul]
          omega
        · rw [if_neg c, if_neg c, if_neg c]
          omega
    exact key ds.length (Nat.le_refl _)
theorem idx_cut {ds lo hi st : List Int} (hE : sizeE (cutD ds lo hi st) = 0) (hb : anyBad ds lo hi st = false) : ThroughY ds (cutD ds lo hi st) (fun i => (List.range ds.length).map fun k => lo[k]?.getD 0 + (dig (cutD ds lo hi st) i)[k]?.getD 0 * st[k]?.getD 0) (fun s ss => cutAcc s ss lo ds.length) (fun ss => cutS ss st) := by
  intro i hi'
  have hpos := pos_of hE hi'
  have hbd := dig_bd (cutD ds lo hi st) i hpos (by omega) (by omega)
  have hcl := cutD_length ds lo hi st
  refine ⟨by simp, fun k hk => ?_, fun s ss hss => ?_⟩
  · have h1 := hbd k (by omega)
    rw [cutD_getD ds lo hi st k hk] at h1
    have h2 := badCut_false (of_anyBad_false hb k hk)
    have h3 := kept_lt h2.2.2.2.1 h1.2
    have h4 : 0 ≤ (dig (cutD ds lo hi st) i)[k]?.getD 0 * st[k]?.getD 0 := Int.mul_nonneg h1.1 (by omega)
    simp only [List.getElem?_map, List.getElem?_range hk, Option.map_some, Option.getD_some]
    omega
  · show cutAcc s ss lo ds.length + lieN (cutD ds lo hi st) (cutS ss st) i = s + dotT ((List.range ds.length).map fun k => lo[k]?.getD 0 + (dig (cutD ds lo hi st) i)[k]?.getD 0 * st[k]?.getD 0) ss ds.length
    rw [lieN_dig _ _ _ (by rw [cutS_length, hcl]; exact hss), cutAcc_eq, hcl]
    have key : ∀ k, k ≤ ds.length → dotT lo ss k + dotT (dig (cutD ds lo hi st) i) (cutS ss st) k = dotT ((List.range ds.length).map fun k => lo[k]?.getD 0 + (dig (cutD ds lo hi st) i)[k]?.getD 0 * st[k]?.getD 0) ss k := by
      intro k
      induction k with
      | zero => intro _; simp [dotT]
      | succ k ih =>
        intro hk
        have ih' := ih (by omega)
        have hk' : k < ds.length := by omega
        rw [dotT, dotT, dotT, cutS_getD ss st k (by omega)]
        simp only [List.getElem?_map, List.getElem?_range hk', Option.map_some, Option.getD_some]
        rw [Int.add_mul, Int.mul_assoc]
        omega
    have := key ds.length (Nat.le_refl _)
    omega
theorem idx_spread {ds es ps : List Int} (hE : sizeE es = 0) (hl : ps.length = ds.length) (hp : RiseOk ps es.length) (hm : anyMis ds es ps = false) : ThroughY ds es (fun i => (List.range ds.length).map fun k => (dig es i)[(ps[k]?.getD 0).toNat]?.getD 0) (fun s _ => s) (fun ss => sprS es.length ss ps) := by
  intro i hi
  have hpos := pos_of hE hi
  have hb := dig_bd es i hpos (by omega) (by omega)
  refine ⟨by simp, fun k hk => ?_, fun s ss hss => ?_⟩
  · have h1 := hp k (by omega)
    have h2 := hb (ps[k]?.getD 0).toNat (by omega)
    have h3 : misAt ds es ps k = false := by
      unfold anyMis at hm
      rw [List.any_eq_false] at hm
      have := hm k (List.mem_range.2 (by omega))
      simpa using this
    simp [misAt] at h3
    simp only [List.getElem?_map, List.getElem?_range hk, Option.map_some, Option.getD_some]
    rw [h3]; exact h2
  · rw [lieN_dig _ _ _ (by rw [sprS_length])]
    have key : ∀ k, k ≤ ds.length → dotT (dig es i) ((List.range es.length).map (sprV ss ps k)) es.length = dotT ((List.range ds.length).map fun k => (dig es i)[(ps[k]?.getD 0).toNat]?.getD 0) ss k := by
      intro k
      induction k with
      | zero => intro _; exact dotT_zero _ _ _ (Nat.le_refl _)
      | succ k ih =>
        intro hk
        have ih' := ih (by omega)
        have hk' : k < ds.length := by omega
        have h1 := hp k (by omega)
        have hf : sprV ss ps k (ps[k]?.getD 0).toNat = 0 := sprV_none k fun j hj e => by
          have h2 := rise_lt hp j k hj (by omega)
          have h3 := hp j (by omega)
          omega
        have e := dotT_put (dig es i) (sprV ss ps k) (sprV ss ps (k + 1)) es.length (ps[k]?.getD 0).toNat (ss[k]?.getD 0) (fun j => rfl) es.length (Nat.le_refl _)
        rw [e, ih', if_pos (by omega), hf, dotT, Int.sub_zero]
        simp only [List.getElem?_map, List.getElem?_range hk', Option.map_some, Option.getD_some]
    have := key ds.length (Nat.le_refl _)
    unfold sprS
    rw [hl, this]
theorem place_dot {ds y : List Int} (hE : sizeE ds = 0) (hl : y.length = ds.length) (hi : IdxOk ds y) : placeN ds y = dotT y (stepsV ds) ds.length := by
  have e : placeN ds y = placeS ds y ds.length := by rw [placeN, if_neg (by simp [hE]), if_neg (by simp [hl]), if_pos ((idxB_iff _ _).2 hi)]
  have hz : (0 : Int) ∉ ds := fun e => by have := idxOk_pos hi 0 e; omega
  have key : ∀ k, k ≤ ds.length → placeS ds y k = dotT y (stepsV ds) k := fun k => by
    induction k with
    | zero => intro _; rfl
    | succ k ih => intro hk; rw [placeS, dotT, ih (by omega), stepsV_getD hz (by omega)]
  rw [e, key _ (Nat.le_refl _)]
theorem idx_read {ds D : List Int} {Y : Nat → List Int} {S : Int → List Int → Int} {T : List Int → List Int} (h : ThroughY ds D Y S T) (hE : sizeE ds = 0) (i : Nat) (hi : i < (prod D).toNat) :
    ∃ p : Nat, p < (prod ds).toNat ∧ placeN ds (Y i) = (p : Int) ∧ (readsV (S 0 (stepsV ds)) D (T (stepsV ds)))[i]?.getD 0 = (p : Int) := by
  obtain ⟨h1, h2, h3⟩ := h i hi
  have h4 := h3 0 (stepsV ds) (stepsV_len ds)
  obtain ⟨q0, q1, _⟩ := place_lie ds (stepsV ds) (Y i) (stepsV_len ds) h1 h2
  refine ⟨(dotT (Y i) (stepsV ds) ds.length).toNat, by omega, ?_, ?_⟩
  · rw [place_dot hE h1 h2]; omega
  · rw [readsV_getD _ _ _ i hi, h4]; omega
theorem fillF_full (f : Nat → Int) (r : Nat) : fillF f r r = (List.range r).map f := by
  unfold fillF
  refine List.map_congr_left (fun j hj => ?_)
  rw [if_pos (List.mem_range.1 hj)]
theorem setAll_miss {zs ps vs : List Int} {q : Nat} : ∀ k, (∀ j, j < k → (ps[j]?.getD 0).toNat ≠ q) → (setAll zs ps vs k)[q]?.getD 0 = zs[q]?.getD 0
  | 0, _ => rfl
  | k + 1, h => by
    rw [setAll, List.getElem?_set_ne (h k (by omega)), setAll_miss k (fun j hj => h j (by omega))]
theorem setAll_hit {zs ps vs : List Int} {q j : Nat} (hq : q < zs.length) (hj : (ps[j]?.getD 0).toNat = q) : ∀ k, j < k → (∀ i, j < i → i < k → (ps[i]?.getD 0).toNat ≠ q) → (setAll zs ps vs k)[q]?.getD 0 = vs[j]?.getD 0
  | 0, h, _ => by omega
  | k + 1, h, hn => by
    rw [setAll]
    by_cases e : j = k
    · subst e
      rw [hj, List.getElem?_set_self (by rw [setAll_length]; exact hq)]; rfl
    · rw [List.getElem?_set_ne (hn k (by omega) (by omega)), setAll_hit hq hj k (by omega) (fun i h1 h2 => hn i h1 (by omega))]
theorem setAll_inv {ps at' : List Int} {r : Nat} (hp : PermOk ps r) : setAll (List.replicate r 0) ps at' ps.length = taken at' (invL ps) := by
  have hpl := hp.1
  apply List.ext_getElem?
  intro k
  by_cases hk : k < r
  · obtain ⟨j, h1, h2, h3⟩ := perm_at hp k hk
    have e1 : (taken at' (invL ps))[k]?.getD 0 = at'[j]?.getD 0 := taken_getD _ _ k j (by rw [invL_length]; omega) (by rw [invL_getD ps k (by omega), hpl, h2])
    have e2 : (setAll (List.replicate r 0) ps at' ps.length)[k]?.getD 0 = at'[j]?.getD 0 := setAll_hit (by simp; exact hk) (by rw [h3]; omega) ps.length (by omega) (fun i hi1 hi2 e => by
      have hpi := hp.2 i (by omega)
      have := perm_inj hp (i := i) (j := j) (by omega) h1 (by rw [h3]; omega)
      omega)
    have l1 : k < (setAll (List.replicate r 0) ps at' ps.length).length := by rw [setAll_length]; simp; exact hk
    have l2 : k < (taken at' (invL ps)).length := by rw [taken_length, invL_length]; omega
    rw [List.getElem?_eq_getElem l1, List.getElem?_eq_getElem l2] at *
    simp only [Option.getD_some] at e1 e2
    rw [e1, e2]
  · rw [List.getElem?_eq_none (by rw [setAll_length]; simp; omega), List.getElem?_eq_none (by rw [taken_length, invL_length]; omega)]
end Go.Proofs.YtoagnhppjlcpkaaGreat.V

/-
  Contracts: adjointref2.Do of what looks at an array through a view: just what is made.
-/
namespace Go.Proofs.YtoagnhppjlcpkaaGreat.V
set_option maxRecDepth 20000
open Go.RowKit

/-- What the document's Do answers, where it tells no error. -/
def DoesR (L f : List Int) (N : Nat) (e : Ending) (W' : World) : Prop :=
  ∃ (Z : Option Addr) (nz cz : Nat) (G : Option Addr) (cg : Nat), e = .returned (.tuple #[.agg #[.slice Z nz cz, .slice G N cg], .int .i64 0]) ∧ (Ints W' Z nz L ∧ nz ≤ cz) ∧ Ints W' G N f
theorem rdo_gen (k : Int) (x : Int) (ea : Option Addr) (el ec : Nat) (es : List Int) (pa : Option Addr) (pl pc : Nat) (ps : List Int) (la : Option Addr) (ll lc : Nat) (lo : List Int) (ha : Option Addr) (hl hc : Nat) (hi : List Int) (ta : Option Addr) (tl tc : Nat) (st : List Int) (A : Option Addr) (m cap : Nat) (v : Nat → ArrV) (L F : List Int) (w : World)
    (he : Lst w ea el ec es) (hp : Lst w pa pl pc ps) (hlo : Lst w la ll lc lo) (hhi : Lst w ha hl hc hi) (hst : Lst w ta tl tc st) (b0 : el ≤ 1048576) (b1 : pl ≤ 1048576) (b2 : ll ≤ 1048576) (b3 : hl ≤ 1048576) (b4 : tl ≤ 1048576) (hA : Arrs w A m v) (hm : m ≤ 1048576) (hE : doE k es ps lo hi st m v = 0) (hL : L = (dimsP k es ps lo hi st (dimsOf m v)).1) (hF : F.length = (prod L).toNat) (hFb : Bnd F)
    (hent : ∀ W, Below w.heap.size w W → ∀ n : Nat, n < (prod L).toNat → ∀ g c, Ints W (some ⟨g, 0, none⟩) L.length (dig L n) → L.length ≤ c → Calls Tryz.prog 24 #[.agg #[.int .i64 k, .slice ea el ec, .slice pa pl pc, .slice la ll lc, .slice ha hl hc, .slice ta tl tc, .int .i64 x], .slice A m cap, .slice (some ⟨g, 0, none⟩) L.length c, .int .i64 n] W fun e w' => e = .returned (.int .i64 (F[n]?.getD 0)) ∧ Below W.heap.size W w') :
    Calls Tryz.prog 8 #[.agg #[.int .i64 k, .slice ea el ec, .slice pa pl pc, .slice la ll lc, .slice ha hl hc, .slice ta tl tc, .int .i64 x], .slice A m cap] w fun e w' => DoesR L F (prod L).toNat e w' ∧ Below w.heap.size w w' := by
  refine (rDo_good k x ea el ec es pa pl pc ps la ll lc lo ha hl hc hi ta tl tc st A m cap v L (fun n => F[n]?.getD 0) w he hp hlo hhi hst b0 b1 b2 b3 b4 hA hm hE hL (fun n _ => bnd_at hFb n) hent).mono ?_
  rintro e w' ⟨⟨Z, nz, cz, G, cg, h1, h2, h3⟩, hb⟩
  rw [← list_map_range F _ hF] at h3
  exact ⟨⟨Z, nz, cz, G, cg, h1, h2, h3⟩, hb⟩
theorem dig_pos {L : List Int} (hz : sizeE L = 0) {n : Nat} (hn : n < (prod L).toNat) : ∀ j, j < L.length → 0 ≤ (dig L n)[j]?.getD 0 ∧ (dig L n)[j]?.getD 0 < L[j]?.getD 0 :=
  dig_bd L n (pos_of hz hn) (by omega) (by omega)
theorem spr_parts {ds es ps : List Int} (h : sprE 0 ds (stepsV ds) es ps = 0) : (ps.length = ds.length ∧ riseB ps es.length = true) ∧ anyMis ds es ps = false := by
  have hW : wrongE 0 ds (stepsV ds) = 0 := by
    unfold sprE at h
    by_cases c : wrongE 0 ds (stepsV ds) = 0
    · exact c
    · rw [if_pos c] at h; exact absurd h c
  unfold sprE at h
  rw [if_neg (by simp [hW])] at h
  have hE : sizeE es = 0 := by
    by_cases c : sizeE es = 0
    · exact c
    · rw [if_pos c] at h; exact absurd h c
  rw [if_neg (by simp [hE])] at h
  have hl : ps.length = ds.length ∧ riseB ps es.length = true := by
    by_cases c : ps.length = ds.length ∧ riseB ps es.length = true
    · exact c
    · rw [if_neg c] at h; omega
  rw [if_pos hl] at h
  refine ⟨hl, ?_⟩
  cases c : anyMis ds es ps with
  | false => rfl
  | true => rw [c] at h; simp at h
theorem lens_of {n : Nat} {lo hi st : List Int} (h : lensB n lo hi st = true) : lo.length = n ∧ hi.length = n ∧ st.length = n := by
  simpa [lensB, and_assoc] using h
theorem cut_small {ds lo hi st : List Int} (hz : sizeE ds = 0) (hs : sizeE (cutD ds lo hi st) = 0) (hb : anyBad ds lo hi st = false) {n : Nat} (hn : n < (prod (cutD ds lo hi st)).toNat) (k : Nat) (hk : k < ds.length) : 0 ≤ (dig (cutD ds lo hi st) n)[k]?.getD 0 * st[k]?.getD 0 ∧ 0 ≤ lo[k]?.getD 0 ∧ lo[k]?.getD 0 + (dig (cutD ds lo hi st) n)[k]?.getD 0 * st[k]?.getD 0 ≤ 4096 := by
  have h1 := dig_pos hs hn k (by rw [cutD_length]; exact hk)
  rw [cutD_getD ds lo hi st k hk] at h1
  have h2 := badCut_false (of_anyBad_false hb k hk)
  have h3 := kept_lt h2.2.2.2.1 h1.2
  have h4 : 0 ≤ (dig (cutD ds lo hi st) n)[k]?.getD 0 * st[k]?.getD 0 := Int.mul_nonneg h1.1 (by omega)
  have h5 := ((sizeE_ok hz).2.1 _ (mem_getD ds k hk)).2
  omega
theorem rdo_9 (x : Int) (ea : Option Addr) (el ec : Nat) (es : List Int) (pa : Option Addr) (pl pc : Nat) (ps : List Int) (la : Option Addr) (ll lc : Nat) (lo : List Int) (ha : Option Addr) (hl hc : Nat) (hi : List Int) (ta : Option Addr) (tl tc : Nat) (st : List Int) (b off cap : Nat) (da : Option Addr) (dl dc : Nat) (ds : List Int) (xa : Option Addr) (n xc : Nat) (xs : List Int) (w : World)
    (he : Lst w ea el ec es) (hp : Lst w pa pl pc ps) (hlo : Lst w la ll lc lo) (hhi : Lst w ha hl hc hi) (hst : Lst w ta tl tc st) (b0 : el ≤ 1048576) (b1 : pl ≤ 1048576) (b2 : ll ≤ 1048576) (b3 : hl ≤ 1048576) (b4 : tl ≤ 1048576) (c0 : w.cell? ⟨b, off, none⟩ = some (.slice da dl dc)) (c1 : w.cell? ⟨b, off + 1, none⟩ = some (.slice xa n xc)) (hd : Lst w da dl dc ds) (hx : Ints w xa n xs) (hE : doE 9 es ps lo hi st 1 (oneV ds n) = 0) :
    Calls Tryz.prog 8 #[.agg #[.int .i64 9, .slice ea el ec, .slice pa pl pc, .slice la ll lc, .slice ha hl hc, .slice ta tl tc, .int .i64 x], .slice (some ⟨b, off, none⟩) 1 cap] w fun e w' => DoesR es (lookL xs (readsV 0 es (sprS es.length (stepsV ds) ps))) (prod es).toNat e w' ∧ Below w.heap.size w w' := by
  obtain ⟨hae, hs1, hs2, hs3⟩ := oneV_parts hE
  have e0 : sprE 0 ds (stepsV ds) es ps = 0 := hs1
  have hL : (shapeP 9 es ps lo hi st [ds]).1 = es := by
    show okL (sprE 0 ds (stepsV ds) es ps) (es) = _
    rw [e0]; rfl
  rw [hL] at hs2 hs3
  have hz1 := (arrE_ok hae).1
  have hn := (arrE_ok hae).2.1
  obtain ⟨hq, hm'⟩ := spr_parts e0
  have hrs := (riseB_iff _ _).1 hq.2
  have hlen : (readsV 0 es (sprS es.length (stepsV ds) ps)).length = (prod es).toNat := readsV_length _ _ _
  refine rdo_gen 9 x ea el ec es pa pl pc ps la ll lc lo ha hl hc hi ta tl tc st (some ⟨b, off, none⟩) 1 cap (fun _ => ⟨da, dl, dc, ds, xa, n, xc⟩) es (lookL xs (readsV 0 es (sprS es.length (stepsV ds) ps))) w he hp hlo hhi hst b0 b1 b2 b3 b4 (.inr ⟨b, off, rfl, fun j hj => by obtain rfl : j = 0 := by { omega }; exact ⟨c0, c1, hd⟩⟩) (by omega) ((doE_congr (fun j _ => ⟨rfl, rfl⟩)).trans hE) hs3.symm ((lookL_length _ _).trans hlen) (lookL_bd hx.2.2.1) ?_
  intro W hW i hi' g c hat hlc
  obtain ⟨p, q1, q2, q3⟩ := idx_read (idx_spread hs2 hq.1 ((riseB_iff _ _).1 hq.2) hm') hz1 i hi'
  have hval : (lookL xs (readsV 0 es (sprS es.length (stepsV ds) ps)))[i]?.getD 0 = xs[p]?.getD 0 := by
    have q3' : (readsV 0 es (sprS es.length (stepsV ds) ps))[i]?.getD 0 = (p : Int) := q3
    have hi2 : i < (readsV 0 es (sprS es.length (stepsV ds) ps)).length := by rw [hlen]; exact hi'
    rw [List.getElem?_eq_getElem hi2] at q3'
    simp only [Option.getD_some] at q3'
    simp [lookL, List.getElem?_eq_getElem hi2, q3']
  rw [hval]
  refine rentry_view9 x (.slice ea el ec) (.slice pa pl pc) (.slice la ll lc) (.slice ha hl hc) (.slice ta tl tc) b off cap da dl dc xa n xc (some ⟨g, 0, none⟩) es.length c i (xs[p]?.getD 0) W ((hW.cell (p := ⟨b, off, none⟩) (lt_of_cell c0)).trans c0) ((hW.cell (p := ⟨b, off + 1, none⟩) (lt_of_cell c1)).trans c1) (fun W2 hW2 => ?_)
  have hW1 := hW.trans (hW2.mono hW.size)
  exact rview_9 x (.slice ea el ec) (.slice la ll lc) (.slice ha hl hc) (.slice ta tl tc) pa pl pc ps da dl dc ds xa n xc xs (some ⟨g, 0, none⟩) es.length c (dig es i) W2 p (hp.1.below hW1) (hd.1.below hW1) hd.2.1 (hx.below hW1) (hat.below hW2) (by have := (sizeE_ok hz1).1; have := hd.1.1; omega) (by have := hp.1.1; have := hd.1.1; omega) (by have := hp.1.1; have := hd.1.1; omega) (fun j hj => by have h1 := hrs j (by have := hp.1.1; omega); exact ⟨h1.1, h1.2.1⟩) (by rw [← hd.1.1, fillF_full]; exact q2) (by omega)
theorem rdo_11 (x : Int) (ea : Option Addr) (el ec : Nat) (es : List Int) (pa : Option Addr) (pl pc : Nat) (ps : List Int) (la : Option Addr) (ll lc : Nat) (lo : List Int) (ha : Option Addr) (hl hc : Nat) (hi : List Int) (ta : Option Addr) (tl tc : Nat) (st : List Int) (b off cap : Nat) (da : Option Addr) (dl dc : Nat) (ds : List Int) (xa : Option Addr) (n xc : Nat) (xs : List Int) (w : World)
    (he : Lst w ea el ec es) (hp : Lst w pa pl pc ps) (hlo : Lst w la ll lc lo) (hhi : Lst w ha hl hc hi) (hst : Lst w ta tl tc st) (b0 : el ≤ 1048576) (b1 : pl ≤ 1048576) (b2 : ll ≤ 1048576) (b3 : hl ≤ 1048576) (b4 : tl ≤ 1048576) (c0 : w.cell? ⟨b, off, none⟩ = some (.slice da dl dc)) (c1 : w.cell? ⟨b, off + 1, none⟩ = some (.slice xa n xc)) (hd : Lst w da dl dc ds) (hx : Ints w xa n xs) (hE : doE 11 es ps lo hi st 1 (oneV ds n) = 0) :
    Calls Tryz.prog 8 #[.agg #[.int .i64 11, .slice ea el ec, .slice pa pl pc, .slice la ll lc, .slice ha hl hc, .slice ta tl tc, .int .i64 x], .slice (some ⟨b, off, none⟩) 1 cap] w fun e w' => DoesR (taken ds ps) (lookL xs (readsV 0 (taken ds ps) (taken (stepsV ds) ps))) (prod (taken ds ps)).toNat e w' ∧ Below w.heap.size w w' := by
  obtain ⟨hae, hs1, hs2, hs3⟩ := oneV_parts hE
  have e0 : turnE 0 ds (stepsV ds) ps = 0 := hs1
  have hL : (shapeP 11 es ps lo hi st [ds]).1 = (taken ds ps) := by
    show okL (turnE 0 ds (stepsV ds) ps) (taken ds ps) = _
    rw [e0]; rfl
  rw [hL] at hs2 hs3
  have hz1 := (arrE_ok hae).1
  have hn := (arrE_ok hae).2.1
  have hpo := (turn_again e0).1
  have hlen : (readsV 0 (taken ds ps) (taken (stepsV ds) ps)).length = (prod (taken ds ps)).toNat := readsV_length _ _ _
  refine rdo_gen 11 x ea el ec es pa pl pc ps la ll lc lo ha hl hc hi ta tl tc st (some ⟨b, off, none⟩) 1 cap (fun _ => ⟨da, dl, dc, ds, xa, n, xc⟩) (taken ds ps) (lookL xs (readsV 0 (taken ds ps) (taken (stepsV ds) ps))) w he hp hlo hhi hst b0 b1 b2 b3 b4 (.inr ⟨b, off, rfl, fun j hj => by obtain rfl : j = 0 := by { omega }; exact ⟨c0, c1, hd⟩⟩) (by omega) ((doE_congr (fun j _ => ⟨rfl, rfl⟩)).trans hE) hs3.symm ((lookL_length _ _).trans hlen) (lookL_bd hx.2.2.1) ?_
  intro W hW i hi' g c hat hlc
  obtain ⟨p, q1, q2, q3⟩ := idx_read (idx_turn hz1 hpo) hz1 i hi'
  have hval : (lookL xs (readsV 0 (taken ds ps) (taken (stepsV ds) ps)))[i]?.getD 0 = xs[p]?.getD 0 := by
    have q3' : (readsV 0 (taken ds ps) (taken (stepsV ds) ps))[i]?.getD 0 = (p : Int) := q3
    have hi2 : i < (readsV 0 (taken ds ps) (taken (stepsV ds) ps)).length := by rw [hlen]; exact hi'
    rw [List.getElem?_eq_getElem hi2] at q3'
    simp only [Option.getD_some] at q3'
    simp [lookL, List.getElem?_eq_getElem hi2, q3']
  rw [hval]
  refine rentry_view11 x (.slice ea el ec) (.slice pa pl pc) (.slice la ll lc) (.slice ha hl hc) (.slice ta tl tc) b off cap da dl dc xa n xc (some ⟨g, 0, none⟩) (taken ds ps).length c i (xs[p]?.getD 0) W ((hW.cell (p := ⟨b, off, none⟩) (lt_of_cell c0)).trans c0) ((hW.cell (p := ⟨b, off + 1, none⟩) (lt_of_cell c1)).trans c1) (fun W2 hW2 => ?_)
  have hW1 := hW.trans (hW2.mono hW.size)
  exact rview_11 x (.slice ea el ec) (.slice la ll lc) (.slice ha hl hc) (.slice ta tl tc) pa pl pc ps da dl dc ds xa n xc xs (some ⟨g, 0, none⟩) (taken ds ps).length c (dig (taken ds ps) i) W2 p (hp.1.below hW1) (hd.1.below hW1) hd.2.1 (hx.below hW1) (hat.below hW2) (by have := (sizeE_ok hz1).1; have := hd.1.1; omega) (by rw [taken_length]; have := hp.1.1; omega) (fun j hj => by have h1 := hpo.2 j (by have := hp.1.1; have := hpo.1; omega); have := hd.1.1; omega) (by rw [← hd.1.1, ← hp.1.1, setAll_inv hpo]; exact q2) (by omega)
theorem rdo_13 (x : Int) (ea : Option Addr) (el ec : Nat) (es : List Int) (pa : Option Addr) (pl pc : Nat) (ps : List Int) (la : Option Addr) (ll lc : Nat) (lo : List Int) (ha : Option Addr) (hl hc : Nat) (hi : List Int) (ta : Option Addr) (tl tc : Nat) (st : List Int) (b off cap : Nat) (da : Option Addr) (dl dc : Nat) (ds : List Int) (xa : Option Addr) (n xc : Nat) (xs : List Int) (w : World)
    (he : Lst w ea el ec es) (hp : Lst w pa pl pc ps) (hlo : Lst w la ll lc lo) (hhi : Lst w ha hl hc hi) (hst : Lst w ta tl tc st) (b0 : el ≤ 1048576) (b1 : pl ≤ 1048576) (b2 : ll ≤ 1048576) (b3 : hl ≤ 1048576) (b4 : tl ≤ 1048576) (c0 : w.cell? ⟨b, off, none⟩ = some (.slice da dl dc)) (c1 : w.cell? ⟨b, off + 1, none⟩ = some (.slice xa n xc)) (hd : Lst w da dl dc ds) (hx : Ints w xa n xs) (hE : doE 13 es ps lo hi st 1 (oneV ds n) = 0) :
    Calls Tryz.prog 8 #[.agg #[.int .i64 13, .slice ea el ec, .slice pa pl pc, .slice la ll lc, .slice ha hl hc, .slice ta tl tc, .int .i64 x], .slice (some ⟨b, off, none⟩) 1 cap] w fun e w' => DoesR (cutD ds lo hi st) (lookL xs (readsV (cutAcc 0 (stepsV ds) lo ds.length) (cutD ds lo hi st) (cutS (stepsV ds) st))) (prod (cutD ds lo hi st)).toNat e w' ∧ Below w.heap.size w w' := by
  obtain ⟨hae, hs1, hs2, hs3⟩ := oneV_parts hE
  have e0 : cutE 0 ds (stepsV ds) lo hi st = 0 := hs1
  have hL : (shapeP 13 es ps lo hi st [ds]).1 = (cutD ds lo hi st) := by
    show okL (cutE 0 ds (stepsV ds) lo hi st) (cutD ds lo hi st) = _
    rw [e0]; rfl
  rw [hL] at hs2 hs3
  have hz1 := (arrE_ok hae).1
  have hn := (arrE_ok hae).2.1
  obtain ⟨_, hlb, hb, _⟩ := cutE_parts e0
  have hln := lens_of hlb
  have hlen : (readsV (cutAcc 0 (stepsV ds) lo ds.length) (cutD ds lo hi st) (cutS (stepsV ds) st)).length = (prod (cutD ds lo hi st)).toNat := readsV_length _ _ _
  refine rdo_gen 13 x ea el ec es pa pl pc ps la ll lc lo ha hl hc hi ta tl tc st (some ⟨b, off, none⟩) 1 cap (fun _ => ⟨da, dl, dc, ds, xa, n, xc⟩) (cutD ds lo hi st) (lookL xs (readsV (cutAcc 0 (stepsV ds) lo ds.length) (cutD ds lo hi st) (cutS (stepsV ds) st))) w he hp hlo hhi hst b0 b1 b2 b3 b4 (.inr ⟨b, off, rfl, fun j hj => by obtain rfl : j = 0 := by { omega }; exact ⟨c0, c1, hd⟩⟩) (by omega) ((doE_congr (fun j _ => ⟨rfl, rfl⟩)).trans hE) hs3.symm ((lookL_length _ _).trans hlen) (lookL_bd hx.2.2.1) ?_
  intro W hW i hi' g c hat hlc
  obtain ⟨p, q1, q2, q3⟩ := idx_read (idx_cut hs2 hb) hz1 i hi'
  have hval : (lookL xs (readsV (cutAcc 0 (stepsV ds) lo ds.length) (cutD ds lo hi st) (cutS (stepsV ds) st)))[i]?.getD 0 = xs[p]?.getD 0 := by
    have q3' : (readsV (cutAcc 0 (stepsV ds) lo ds.length) (cutD ds lo hi st) (cutS (stepsV ds) st))[i]?.getD 0 = (p : Int) := q3
    have hi2 : i < (readsV (cutAcc 0 (stepsV ds) lo ds.length) (cutD ds lo hi st) (cutS (stepsV ds) st)).length := by rw [hlen]; exact hi'
    rw [List.getElem?_eq_getElem hi2] at q3'
    simp only [Option.getD_some] at q3'
    simp [lookL, List.getElem?_eq_getElem hi2, q3']
  rw [hval]
  refine rentry_view13 x (.slice ea el ec) (.slice pa pl pc) (.slice la ll lc) (.slice ha hl hc) (.slice ta tl tc) b off cap da dl dc xa n xc (some ⟨g, 0, none⟩) (cutD ds lo hi st).length c i (xs[p]?.getD 0) W ((hW.cell (p := ⟨b, off, none⟩) (lt_of_cell c0)).trans c0) ((hW.cell (p := ⟨b, off + 1, none⟩) (lt_of_cell c1)).trans c1) (fun W2 hW2 => ?_)
  have hW1 := hW.trans (hW2.mono hW.size)
  exact rview_13 x (.slice ea el ec) (.slice pa pl pc) (.slice ha hl hc) la ll lc lo ta tl tc st da dl dc ds xa n xc xs (some ⟨g, 0, none⟩) (cutD ds lo hi st).length c (dig (cutD ds lo hi st) i) W2 p (hlo.1.below hW1) (hst.1.below hW1) (hd.1.below hW1) hd.2.1 (hx.below hW1) (hat.below hW2) (by have := (sizeE_ok hz1).1; have := hd.1.1; omega) (by rw [cutD_length]; have := hd.1.1; omega) (by rw [cutD_length]; have := hd.1.1; omega) (by rw [cutD_length]; have := hlo.1.1; omega) (by rw [cutD_length]; have := hst.1.1; omega) (fun j hj => cut_small hz1 hs2 hb hi' j (by rw [cutD_length] at hj; exact hj)) (by rw [← hd.1.1, fillF_full]; exact q2) (by omega)
theorem rdo_15 (x : Int) (ea : Option Addr) (el ec : Nat) (es : List Int) (pa : Option Addr) (pl pc : Nat) (ps : List Int) (la : Option Addr) (ll lc : Nat) (lo : List Int) (ha : Option Addr) (hl hc : Nat) (hi : List Int) (ta : Option Addr) (tl tc : Nat) (st : List Int) (b off cap : Nat) (da : Option Addr) (dl dc : Nat) (ds : List Int) (xa : Option Addr) (n xc : Nat) (xs : List Int) (w : World)
    (he : Lst w ea el ec es) (hp : Lst w pa pl pc ps) (hlo : Lst w la ll lc lo) (hhi : Lst w ha hl hc hi) (hst : Lst w ta tl tc st) (b0 : el ≤ 1048576) (b1 : pl ≤ 1048576) (b2 : ll ≤ 1048576) (b3 : hl ≤ 1048576) (b4 : tl ≤ 1048576) (c0 : w.cell? ⟨b, off, none⟩ = some (.slice da dl dc)) (c1 : w.cell? ⟨b, off + 1, none⟩ = some (.slice xa n xc)) (hd : Lst w da dl dc ds) (hx : Ints w xa n xs) (hE : doE 15 es ps lo hi st 1 (oneV ds n) = 0) :
    Calls Tryz.prog 8 #[.agg #[.int .i64 15, .slice ea el ec, .slice pa pl pc, .slice la ll lc, .slice ha hl hc, .slice ta tl tc, .int .i64 x], .slice (some ⟨b, off, none⟩) 1 cap] w fun e w' => DoesR ds (lookL xs (readsV (flipAcc 0 ds (stepsV ds) ps ps.length) ds (flipL (stepsV ds) ps))) (prod ds).toNat e w' ∧ Below w.heap.size w w' := by
  obtain ⟨hae, hs1, hs2, hs3⟩ := oneV_parts hE
  have e0 : flipE 0 ds (stepsV ds) ps = 0 := hs1
  have hL : (shapeP 15 es ps lo hi st [ds]).1 = ds := by
    show okL (flipE 0 ds (stepsV ds) ps) (ds) = _
    rw [e0]; rfl
  rw [hL] at hs2 hs3
  have hz1 := (arrE_ok hae).1
  have hn := (arrE_ok hae).2.1
  have hrs := (riseB_iff _ _).1 (flipE_parts e0).2.1
  have hlen : (readsV (flipAcc 0 ds (stepsV ds) ps ps.length) ds (flipL (stepsV ds) ps)).length = (prod ds).toNat := readsV_length _ _ _
  refine rdo_gen 15 x ea el ec es pa pl pc ps la ll lc lo ha hl hc hi ta tl tc st (some ⟨b, off, none⟩) 1 cap (fun _ => ⟨da, dl, dc, ds, xa, n, xc⟩) ds (lookL xs (readsV (flipAcc 0 ds (stepsV ds) ps ps.length) ds (flipL (stepsV ds) ps))) w he hp hlo hhi hst b0 b1 b2 b3 b4 (.inr ⟨b, off, rfl, fun j hj => by obtain rfl : j = 0 := by { omega }; exact ⟨c0, c1, hd⟩⟩) (by omega) ((doE_congr (fun j _ => ⟨rfl, rfl⟩)).trans hE) hs3.symm ((lookL_length _ _).trans hlen) (lookL_bd hx.2.2.1) ?_
  intro W hW i hi' g c hat hlc
  obtain ⟨p, q1, q2, q3⟩ := idx_read (idx_flip hz1 hrs) hz1 i hi'
  have hval : (lookL xs (readsV (flipAcc 0 ds (stepsV ds) ps ps.length) ds (flipL (stepsV ds) ps)))[i]?.getD 0 = xs[p]?.getD 0 := by
    have q3' : (readsV (flipAcc 0 ds (stepsV ds) ps ps.length) ds (flipL (stepsV ds) ps))[i]?.getD 0 = (p : Int) := q3
    have hi2 : i < (readsV (flipAcc 0 ds (stepsV ds) ps ps.length) ds (flipL (stepsV ds) ps)).length := by rw [hlen]; exact hi'
    rw [List.getElem?_eq_getElem hi2] at q3'
    simp only [Option.getD_some] at q3'
    simp [lookL, List.getElem?_eq_getElem hi2, q3']
  rw [hval]
  refine rentry_view15 x (.slice ea el ec) (.slice pa pl pc) (.slice la ll lc) (.slice ha hl hc) (.slice ta tl tc) b off cap da dl dc xa n xc (some ⟨g, 0, none⟩) ds.length c i (xs[p]?.getD 0) W ((hW.cell (p := ⟨b, off, none⟩) (lt_of_cell c0)).trans c0) ((hW.cell (p := ⟨b, off + 1, none⟩) (lt_of_cell c1)).trans c1) (fun W2 hW2 => ?_)
  have hW1 := hW.trans (hW2.mono hW.size)
  exact rview_15 x (.slice ea el ec) (.slice la ll lc) (.slice ha hl hc) (.slice ta tl tc) pa pl pc ps da dl dc ds xa n xc xs (some ⟨g, 0, none⟩) ds.length c (dig ds i) W2 p (hp.1.below hW1) (hd.1.below hW1) hd.2.1 (hx.below hW1) (hat.below hW2) (by have := (sizeE_ok hz1).1; have := hd.1.1; omega) (by have := hd.1.1; omega) (by have := hd.1.1; omega) (fun j hj => by have h1 := dig_pos hz1 hi' j hj; have h2 := ((sizeE_ok hz1).2.1 _ (mem_getD ds j hj)).2; omega) (by rw [← hd.1.1, fillF_full]; exact q2) (by omega)
end Go.Proofs.YtoagnhppjlcpkaaGreat.V
