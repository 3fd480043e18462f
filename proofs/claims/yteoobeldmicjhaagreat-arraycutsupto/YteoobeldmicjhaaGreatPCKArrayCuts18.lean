/-
  Contract: view.Reform, where the numbers fit. Contract: view.Reform, whatever it is asked. Plain mathematics: what is turned can be turned back; what is flipped twice is as it was; an array that lies whole can be read in all dimensions that fit. Plain mathematics: what a view of a view reads is what the first one reads, taken as the second one says of an array as it lies. Plain mathematics: the five, by number; what comes of one is right, on a view and on what lies whole. Contract: adjointlaw1.step: one of the five, by number.
-/
import Derived.Test.YteoobeldmicjhaaGreatPCKArrayCuts15
import Derived.Test.YteoobeldmicjhaaGreatPCKArrayCuts17
import Derived.Test.YteoobeldmicjhaaGreatPCKArrayCuts16
import Derived.Test.YteoobeldmicjhaaGreatPCKArrayCuts10
import Derived.Test.YteoobeldmicjhaaGreatPCKArrayCuts11
import Derived.Test.YteoobeldmicjhaaGreatPCKArrayCuts12
namespace Go.Proofs.YteoobeldmicjhaaGreat.V
set_option maxRecDepth 20000
open Go.RowKit Go.Shelf
attribute [local go_sem] Oper.semAt_some

theorem Below.ints {n : Nat} {w w' : World} {a : Option Addr} {len : Nat} {xs : List Int} (hB : Below n w w') (h : Ints w a len xs) (ha : ∀ b o, a = some ⟨b, o, none⟩ → 0 < len → b < n) : Ints w' a len xs := by
  obtain ⟨h1, h2, h3, h4⟩ := h
  refine ⟨h1, h2, h3, ?_⟩
  by_cases h0 : len = 0
  · exact .inl h0
  rcases h4 with h4 | ⟨b, off, e, hc⟩
  · exact .inl h4
  · exact .inr ⟨b, off, e, fun j hj => (hB.cell (p := ⟨b, off + j, none⟩) (ha b off e (by omega))).trans (hc j hj)⟩

theorem Keep.below {n₀ Bs : Nat} {W W' : World} (h : Below W.heap.size W W') (h1 : n₀ ≤ W.heap.size) (h2 : Bs < W.heap.size) : Keep n₀ Bs W W' := ⟨h.mono h1, h.block Bs h2⟩
end Go.Proofs.YteoobeldmicjhaaGreat.V
namespace Go.Proofs.YteoobeldmicjhaaGreat.V
set_option maxRecDepth 20000
open Go.RowKit Go.Shelf
attribute [local go_sem] Oper.semAt_some

/-- How the call begins. -/
structure Four (w : World) (s : Int) (da : Option Addr) (dl dc : Nat) (sa : Option Addr) (sl sc : Nat) (ea : Option Addr) (el ec : Nat) (W : World) : Prop where
  below : Below w.heap.size w W
  view : ViewAt W w.heap.size (.int .i64 s) (.slice da dl dc) (.slice sa sl sc)
  dims : Boxed W (w.heap.size + 1) 22 (.slice ea el ec)
  out : ViewAt W (w.heap.size + 1 + 1) (.int .i64 0) (.slice none 0 0) (.slice none 0 0)
  err : Boxed W (w.heap.size + 1 + 1 + 1) 27 (.int .i64 0)
theorem Four.on {w W W' : World} {s : Int} {da : Option Addr} {dl dc : Nat} {sa : Option Addr} {sl sc : Nat} {ea : Option Addr} {el ec : Nat} (h : Four w s da dl dc sa sl sc ea el ec W) (hb : Below W.heap.size W W') : Four w s da dl dc sa sl sc ea el ec W' :=
  ⟨Below.on h.below hb, h.view.below hb, (hb.block _ h.dims.lt).trans h.dims, h.out.below hb, (hb.block _ h.err.lt).trans h.err⟩
end Go.Proofs.YteoobeldmicjhaaGreat.V
namespace Go.Proofs.YteoobeldmicjhaaGreat.V
set_option maxRecDepth 20000

/-! ### Turning back -/
theorem perm_range : ∀ (n : Nat) (l : List Nat), l.length = n → (∀ k, k < n → k ∈ l) → l.Perm (List.range n)
  | 0, l, h, _ => by
    have : l = [] := List.length_eq_zero_iff.1 h
    subst this; exact List.Perm.refl _
  | n + 1, l, h, hm => by
    obtain ⟨a, b, rfl⟩ := List.append_of_mem (hm n (by omega))
    have hl : (a ++ b).length = n := by simp at h ⊢; omega
    have ih := perm_range n (a ++ b) hl (fun k hk => by
      have := hm k (by omega)
      simp only [List.mem_append, List.mem_cons] at this ⊢
      rcases this with h | rfl | h
      · exact .inl h
      · omega
      · exact .inr h)
    rw [List.range_succ]
    exact List.perm_middle.trans ((List.Perm.cons n ih).trans (List.perm_append_singleton n (List.range n)).symm)
theorem map_getD_range (xs : List Int) : (List.range xs.length).map (fun k => xs[k]?.getD 0) = xs := by
  apply List.ext_getElem?
  intro i
  by_cases hi : i < xs.length
  · simp [hi]
  · rw [List.getElem?_eq_none (by simp; omega), List.getElem?_eq_none (by omega)]
theorem taken_perm {xs ps : List Int} (hp : PermOk ps xs.length) : (taken xs ps).Perm xs := by
  have h1 : (ps.map Int.toNat).Perm (List.range xs.length) := by
    refine perm_range _ _ (by simp [hp.1]) (fun k hk => ?_)
    have := (perm_iff hp.1).1 hp.2 k hk
    simp only [List.mem_map]
    exact ⟨(k : Int), this, by simp⟩
  have h2 := h1.map (fun k => xs[k]?.getD 0)
  rw [map_getD_range] at h2
  have e : taken xs ps = (ps.map Int.toNat).map (fun k => xs[k]?.getD 0) := by simp [taken]
  rw [e]; exact h2
theorem prod_perm {a b : List Int} (h : a.Perm b) : prod a = prod b := by
  induction h with
  | nil => rfl
  | cons x _ ih => rw [prod, prod, ih]
  | swap x y l => simp only [prod]; rw [← Int.mul_assoc, ← Int.mul_assoc, Int.mul_comm y x]
  | trans _ _ ih1 ih2 => rw [ih1, ih2]
theorem any_perm {a b : List Int} (h : a.Perm b) (p : Int → Bool) : a.any p = b.any p := by
  cases hb : b.any p with
  | true =>
    rw [List.any_eq_true] at hb ⊢
    obtain ⟨x, hx, hp⟩ := hb
    exact ⟨x, h.mem_iff.2 hx, hp⟩
  | false =>
    rw [List.any_eq_false] at hb ⊢
    exact fun x hx => hb x (h.mem_iff.1 hx)
theorem sizeE_perm {a b : List Int} (h : a.Perm b) : sizeE a = sizeE b := by
  unfold sizeE
  rw [h.length_eq, any_perm h, prod_perm h]
  by_cases h0 : (0 : Int) ∈ b
  · rw [if_pos h0, if_pos (h.mem_iff.2 h0)]
  · rw [if_neg h0, if_neg (fun e => h0 (h.mem_iff.1 e))]
theorem wrong_turn {s : Int} {ds ss ps : List Int} (hW : wrongE s ds ss = 0) (hp : PermOk ps ds.length) : wrongE s (taken ds ps) (taken ss ps) = 0 := by
  obtain ⟨h1, h2, h3⟩ := wrongE_ok hW
  unfold wrongE
  rw [sizeE_perm (taken_perm hp), if_neg (by simp [h1]), taken_length, taken_length, if_neg (by simp), if_neg (by rw [turn_far hW hp h2]; simp)]

/-- Where k stands in the list; the last such place ahead of i. -/
def invN (ps : List Int) : Nat → Nat → Int
  | 0, _ => 0
  | i + 1, k => if ps[i]?.getD 0 = (k : Int) then (i : Int) else invN ps i k
def invL (ps : List Int) : List Int := (List.range ps.length).map (invN ps ps.length)
theorem invN_spec (ps : List Int) (k : Nat) : ∀ n, (∃ i, i < n ∧ ps[i]?.getD 0 = (k : Int)) → ∃ i : Nat, i < n ∧ invN ps n k = (i : Int) ∧ ps[i]?.getD 0 = (k : Int)
  | 0, ⟨i, h, _⟩ => by omega
  | n + 1, ⟨i, h, e⟩ => by
    by_cases c : ps[n]?.getD 0 = (k : Int)
    · exact ⟨n, by omega, by rw [invN, if_pos c], c⟩
    · have : i < n := by
        by_cases h' : i = n
        · subst h'; exact absurd e c
        · omega
      obtain ⟨j, h1, h2, h3⟩ := invN_spec ps k n ⟨i, this, e⟩
      exact ⟨j, by omega, by rw [invN, if_neg c, h2], h3⟩
theorem invL_length (ps : List Int) : (invL ps).length = ps.length := by simp [invL]
theorem invL_getD (ps : List Int) (k : Nat) (h : k < ps.length) : (invL ps)[k]?.getD 0 = invN ps ps.length k := by simp [invL, h]
theorem perm_inj {ps : List Int} {n : Nat} (hp : PermOk ps n) {i j : Nat} (hi : i < n) (hj : j < n) (e : ps[i]?.getD 0 = ps[j]?.getD 0) : i = j := by
  by_cases h1 : i < j
  · exact absurd e ((hp.2 j hj).2.2 i h1)
  · by_cases h2 : j < i
    · exact absurd e.symm ((hp.2 i hi).2.2 j h2)
    · omega
theorem perm_at {ps : List Int} {n : Nat} (hp : PermOk ps n) (k : Nat) (hk : k < n) : ∃ i : Nat, i < n ∧ invN ps n k = (i : Int) ∧ ps[i]?.getD 0 = (k : Int) := by
  have hm := (perm_iff hp.1).1 hp.2 k hk
  obtain ⟨i, hi, e⟩ := List.getElem_of_mem hm
  have hl := hp.1
  exact invN_spec ps k n ⟨i, by omega, by simp [hi, e]⟩
theorem invL_perm {ps : List Int} {n : Nat} (hp : PermOk ps n) : PermOk (invL ps) n := by
  have hl := hp.1
  refine ⟨by rw [invL_length, hl], (perm_iff (by rw [invL_length, hl])).2 fun i hi => ?_⟩
  have hb := hp.2 i hi
  obtain ⟨k, hk⟩ : ∃ k : Nat, ps[i]?.getD 0 = (k : Int) := ⟨(ps[i]?.getD 0).toNat, by omega⟩
  have hkn : k < n := by omega
  obtain ⟨j, h1, h2, h3⟩ := perm_at hp k hkn
  have hij := perm_inj hp hi h1 (hk.trans h3.symm)
  subst hij
  have : (invL ps)[k]?.getD 0 = (i : Int) := by rw [invL_getD ps k (by omega), hl, h2]
  rw [← this]
  exact mem_getD _ k (by rw [invL_length, hl]; exact hkn)
theorem taken_back {xs ps : List Int} (hp : PermOk ps xs.length) : taken (taken xs ps) (invL ps) = xs := by
  have hl := hp.1
  apply List.ext_getElem?
  intro k
  by_cases hk : k < xs.length
  · obtain ⟨i, h1, h2, h3⟩ := perm_at hp k hk
    have e1 : (taken (taken xs ps) (invL ps))[k]?.getD 0 = (taken xs ps)[i]?.getD 0 := taken_getD _ _ k i (by rw [invL_length]; omega) (by rw [invL_getD ps k (by omega), hl, h2])
    have e2 : (taken xs ps)[i]?.getD 0 = xs[k]?.getD 0 := taken_getD _ _ i k (by omega) h3
    have hl1 : k < (taken (taken xs ps) (invL ps)).length := by rw [taken_length, invL_length]; omega
    rw [List.getElem?_eq_getElem hl1, Option.getD_some] at e1
    rw [List.getElem?_eq_getElem hk, Option.getD_some] at e2
    rw [List.getElem?_eq_getElem hl1, List.getElem?_eq_getElem hk, e1, e2]
  · rw [List.getElem?_eq_none (by rw [taken_length, invL_length]; omega), List.getElem?_eq_none (by omega)]
theorem turn_again {s : Int} {ds ss ps : List Int} (h : turnE s ds ss ps = 0) : PermOk ps ds.length ∧ turnE s (taken ds ps) (taken ss ps) (invL ps) = 0 ∧ taken (taken ds ps) (invL ps) = ds ∧ taken (taken ss ps) (invL ps) = ss := by
  have hW : wrongE s ds ss = 0 := by
    unfold turnE at h
    by_cases c : wrongE s ds ss = 0
    · exact c
    · rw [if_pos c] at h; exact absurd h c
  have hp : PermOk ps ds.length := by
    unfold turnE at h
    rw [if_neg (by simp [hW])] at h
    by_cases c : permB ps ds.length = true
    · exact (permB_iff _ _).1 c
    · rw [if_neg c] at h; omega
  have hlen := (wrongE_ok hW).2.1
  refine ⟨hp, ?_, taken_back hp, taken_back (by rw [hlen]; exact hp)⟩
  unfold turnE
  rw [if_neg (by rw [wrong_turn hW hp]; simp), if_pos ((permB_iff _ _).2 (by rw [taken_length, hp.1]; exact invL_perm hp))]

/-! ### Flipping twice -/
/-! ### What lies whole -/
theorem stepsV_cons {d : Int} {ds : List Int} (h : ∀ x ∈ d :: ds, 1 ≤ x) : stepsV (d :: ds) = prod ds :: stepsV ds := by
  have h' : ∀ x ∈ ds, 1 ≤ x := fun x hx => h x (by simp [hx])
  unfold stepsV
  rw [List.length_cons, List.range_succ_eq_map, List.map_cons, List.map_map, stepV_pos h, beh_zero]
  congr 1
  apply List.map_congr_left
  intro k _
  show stepV (d :: ds) (k + 1) = stepV ds k
  rw [stepV_pos h, stepV_pos h', beh_cons]
theorem lieN_whole : ∀ (ds : List Int) (n : Int), (∀ x ∈ ds, 1 ≤ x) → 0 ≤ n → n < prod ds → lieN ds (stepsV ds) n = n
  | [], n, _, h0, h1 => by simp [prod] at h1; simp [lieN]; omega
  | d :: ds, n, h, h0, h1 => by
    have h' : ∀ x ∈ ds, 1 ≤ x := fun x hx => h x (by simp [hx])
    have hP := prod_pos ds h'
    rw [stepsV_cons h, lieN, lieN_whole ds (n % prod ds) h' (Int.emod_nonneg _ (by omega)) (Int.emod_lt_of_pos _ (by omega))]
    have := Int.mul_ediv_add_emod n (prod ds)
    rw [Int.mul_comm]; omega
theorem wrong_whole {ds : List Int} (h : sizeE ds = 0) : wrongE 0 ds (stepsV ds) = 0 := by
  unfold wrongE
  rw [if_neg (by simp [h]), if_neg (by rw [stepsV_len]; simp), if_neg ?_]
  have : beyondB 0 (stepsV ds) = false := by
    unfold beyondB
    rw [Bool.or_eq_false_iff]
    refine ⟨by decide, ?_⟩
    rw [List.any_eq_false]
    intro x hx
    simp only [stepsV, List.mem_map, List.mem_range] at hx
    obtain ⟨k, _, rfl⟩ := hx
    have : 0 ≤ stepV ds k ∧ stepV ds k ≤ 65536 := by
      rcases dims_cases h with ⟨h0, _⟩ | ⟨hpos, _, hp, _⟩
      · rw [stepV_zero h0]; omega
      · rw [stepV_pos hpos]
        have := prod_drop_le ds hpos (k + 1)
        unfold beh; omega
    simp [farB]; omega
  rw [this]; simp
end Go.Proofs.YteoobeldmicjhaaGreat.V
namespace Go.Proofs.YteoobeldmicjhaaGreat.V
set_option maxRecDepth 20000

theorem pos_of {D : List Int} (hE : sizeE D = 0) {i : Nat} (hi : i < (prod D).toNat) : ∀ x ∈ D, 1 ≤ x := by
  rcases dims_cases hE with ⟨_, _, h⟩ | ⟨h, _⟩
  · omega
  · exact h

/-- The place of an index, and what lies there. -/
theorem place_lie : ∀ (ds ss y : List Int), ss.length = ds.length → y.length = ds.length → IdxOk ds y → 0 ≤ dotT y (stepsV ds) ds.length ∧ dotT y (stepsV ds) ds.length < prod ds ∧ lieN ds ss (dotT y (stepsV ds) ds.length) = dotT y ss ds.length
  | [], ss, y, _, _, _ => by simp [dotT, prod, lieN]
  | d :: ds, [], _, h, _, _ => by simp at h
  | d :: ds, _, [], _, h, _ => by simp at h
  | d :: ds, t :: ss, a :: y, h1, h2, hi => by
    have hpos := idxOk_pos hi
    have hpos' : ∀ x ∈ ds, 1 ≤ x := fun x hx => hpos x (by simp [hx])
    have hi' : IdxOk ds y := fun k hk => by
      have := hi (k + 1) (by simp; omega)
      simpa using this
    have ha := hi 0 (by simp)
    simp at ha
    obtain ⟨i1, i2, i3⟩ := place_lie ds ss y (by simpa using h1) (by simpa using h2) hi'
    rw [stepsV_cons hpos, List.length_cons, dotT_cons, dotT_cons, prod, lieN]
    obtain ⟨p, hp⟩ : ∃ p, dotT y (stepsV ds) ds.length = p := ⟨_, rfl⟩
    rw [hp] at i1 i2 i3 ⊢
    have hP := prod_pos ds hpos'
    have e1 : (a * prod ds + p) / prod ds = a := by rw [Int.add_comm, Int.add_mul_ediv_right _ _ (by omega), Int.ediv_eq_zero_of_lt i1 i2]; omega
    have e2 : (a * prod ds + p) % prod ds = p := by rw [Int.add_comm, Int.add_mul_emod_self_right, Int.emod_eq_of_lt i1 i2]
    have b1 : 0 ≤ a * prod ds := Int.mul_nonneg ha.1 (by omega)
    have b2 : (a + 1) * prod ds ≤ d * prod ds := Int.mul_le_mul_of_nonneg_right (by omega) (by omega)
    rw [Int.add_mul] at b2
    refine ⟨by omega, by omega, ?_⟩
    rw [e1, e2, i3]

/-- Each entry of what is made is an entry of what it is made of, whatever the steps are. -/
def ThroughP (ds D : List Int) (S : Int → List Int → Int) (T : List Int → List Int) : Prop :=
  ∀ i : Nat, i < (prod D).toNat → ∃ y : List Int, y.length = ds.length ∧ IdxOk ds y ∧ ∀ s ss, ss.length = ds.length → S s ss + lieN D (T ss) i = s + dotT y ss ds.length
/-- What the statement asks. -/
def ReadsThrough (s : Int) (ds ss D : List Int) (S : Int → List Int → Int) (T : List Int → List Int) : Prop :=
  ∀ i : Nat, i < (prod D).toNat → ∃ p : Nat, p < (prod ds).toNat ∧ (readsV (S 0 (stepsV ds)) D (T (stepsV ds)))[i]?.getD 0 = (p : Int) ∧ (readsV (S s ss) D (T ss))[i]?.getD 0 = (readsV s ds ss)[p]?.getD 0
theorem through_of {s : Int} {ds ss D : List Int} {S : Int → List Int → Int} {T : List Int → List Int} (hl : ss.length = ds.length) (h : ThroughP ds D S T) : ReadsThrough s ds ss D S T := by
  intro i hi
  obtain ⟨y, hy, hid, he⟩ := h i hi
  obtain ⟨p0, p1, p2⟩ := place_lie ds ss y hl hy hid
  obtain ⟨p, hp⟩ : ∃ p : Nat, dotT y (stepsV ds) ds.length = (p : Int) := ⟨(dotT y (stepsV ds) ds.length).toNat, by omega⟩
  rw [hp] at p0 p1 p2
  refine ⟨p, by omega, ?_, ?_⟩
  · rw [readsV_getD _ _ _ i hi, he 0 (stepsV ds) (stepsV_len ds), hp]; omega
  · rw [readsV_getD _ _ _ i hi, he s ss hl, readsV_getD s ds ss p (by omega), p2]

/-! ### Turn -/
/-! ### Flip -/
/-! ### Cut -/
theorem cutAcc_eq (s : Int) (ss lo : List Int) : ∀ n, cutAcc s ss lo n = s + dotT lo ss n
  | 0 => by simp [cutAcc, dotT]
  | n + 1 => by rw [cutAcc, cutAcc_eq s ss lo n, dotT]; omega
theorem kept_lt {l h t x : Int} (ht : 1 ≤ t) (hx : x < keptN l h t) : l + x * t < h := by
  unfold keptN at hx
  have h1 := Int.mul_ediv_add_emod (h - l + t - 1) t
  have h2 := Int.emod_nonneg (h - l + t - 1) (show t ≠ 0 by omega)
  have h3 : t * (x + 1) ≤ t * ((h - l + t - 1) / t) := Int.mul_le_mul_of_nonneg_left (by omega) (by omega)
  rw [Int.mul_add, Int.mul_comm t x] at h3
  omega
theorem through_cut {ds lo hi st : List Int} (hE : sizeE (cutD ds lo hi st) = 0) (hb : anyBad ds lo hi st = false) : ThroughP ds (cutD ds lo hi st) (fun s ss => cutAcc s ss lo ds.length) (fun ss => cutS ss st) := by
  intro i hi'
  have hpos := pos_of hE hi'
  have hbd := dig_bd (cutD ds lo hi st) i hpos (by omega) (by omega)
  have hcl := cutD_length ds lo hi st
  refine ⟨(List.range ds.length).map fun k => lo[k]?.getD 0 + (dig (cutD ds lo hi st) i)[k]?.getD 0 * st[k]?.getD 0, by simp, fun k hk => ?_, fun s ss hss => ?_⟩
  · have h1 := hbd k (by omega)
    rw [cutD_getD ds lo hi st k hk] at h1
    have h2 := badCut_false (of_anyBad_false hb k hk)
    have h3 := kept_lt h2.2.2.2.1 h1.2
    have h4 : 0 ≤ (dig (cutD ds lo hi st) i)[k]?.getD 0 * st[k]?.getD 0 := Int.mul_nonneg h1.1 (by omega)
    simp only [List.getElem?_map, List.getElem?_range hk, Option.map_some, Option.getD_some]
    omega
  · show cutAcc s ss lo ds.length + lieN (cutD ds lo hi st) (cutS ss st) i = _
    rw [lieN_dig _ _ _ (by rw [cutS_length, hcl]; exact hss), cutAcc_eq, hcl]
    have key : ∀ k, k ≤ ds.length → dotT lo ss k + dotT (dig (cutD ds lo hi st) i) (cutS ss st) k = dotT ((List.range ds.length).map fun k => lo[k]?.getD 0 + (dig (cutD ds lo hi st) i)[k]?.getD 0 * st[k]?.getD 0) ss k := by
      intro k
      induction k with
      | zero => intro _; simp [dotT]
      | succ k ih =>
        intro hk
        have ih' := ih (by omega)
        have hk' : k < ds.length := by omega
        rw [dotT, dotT, dotT, cutS_getD ss st k (by omega)]
        simp only [List.getElem?_map, List.getElem?_range hk', Option.map_some, Option.getD_some]
        rw [Int.add_mul, Int.mul_assoc]
        omega
    have := key ds.length (Nat.le_refl _)
    omega

/-! ### Spread -/
end Go.Proofs.YteoobeldmicjhaaGreat.V
namespace Go.Proofs.YteoobeldmicjhaaGreat.V
set_option maxRecDepth 20000

/-- What the statement asks of one step. -/
def Thr (s : Int) (ds ss : List Int) (Ew S : Int) (T : List Int) (S0 : Int) (T0 D : List Int) : Prop :=
  wrongE s ds ss = 0 ∧ Ew = 0 ∧ wrongE S D T = 0 ∧ wrongE S0 D T0 = 0 ∧
  ∀ i : Nat, i < (prod D).toNat → ∃ p : Nat, p < (prod ds).toNat ∧ (readsV S0 D T0)[i]?.getD 0 = (p : Int) ∧ (readsV S D T)[i]?.getD 0 = (readsV s ds ss)[p]?.getD 0

theorem stepV_bd {ds : List Int} (h : sizeE ds = 0) (k : Nat) : 0 ≤ stepV ds k ∧ stepV ds k ≤ 65536 := by
  rcases dims_cases h with ⟨h0, _⟩ | ⟨hpos, _, hp, _⟩
  · rw [stepV_zero h0]; omega
  · rw [stepV_pos hpos]
    have := prod_drop_le ds hpos (k + 1)
    unfold beh; omega
theorem steps_bd {ds : List Int} (h : sizeE ds = 0) (k : Nat) : 0 ≤ (stepsV ds)[k]?.getD 0 ∧ (stepsV ds)[k]?.getD 0 ≤ 65536 := by
  by_cases hk : k < ds.length
  · rw [stepsV_getD' ds k hk]; exact stepV_bd h k
  · rw [List.getElem?_eq_none (by rw [stepsV_len]; omega)]; simp
theorem far_of {s : Int} {l : List Int} (h1 : -1099511627776 ≤ s ∧ s ≤ 1099511627776) (h2 : ∀ x ∈ l, -1099511627776 ≤ x ∧ x ≤ 1099511627776) : beyondB s l = false := by
  unfold beyondB
  rw [Bool.or_eq_false_iff, List.any_eq_false]
  refine ⟨by simp [farB]; omega, fun x hx => ?_⟩
  have := h2 x hx
  simp [farB]; omega
theorem wrong_of {s : Int} {ds ss : List Int} (h1 : sizeE ds = 0) (h2 : ss.length = ds.length) (h3 : beyondB s ss = false) : wrongE s ds ss = 0 := by
  unfold wrongE
  rw [if_neg (by simp [h1]), if_neg (by simp [h2]), if_neg (by rw [h3]; simp)]

theorem flipAcc_whole {ds : List Int} (hE : sizeE ds = 0) (ps : List Int) : ∀ i : Nat, 0 ≤ flipAcc 0 ds (stepsV ds) ps i ∧ flipAcc 0 ds (stepsV ds) ps i ≤ 268435456 * i
  | 0 => by simp [flipAcc]
  | i + 1 => by
    have ih := flipAcc_whole hE ps i
    obtain ⟨j, hj⟩ : ∃ j, (ps[i]?.getD 0).toNat = j := ⟨_, rfl⟩
    have hb := steps_bd hE j
    have hd : ds[j]?.getD 0 ≤ 4096 := by
      by_cases h : j < ds.length
      · exact ((sizeE_ok hE).2.1 _ (mem_getD ds j h)).2
      · rw [List.getElem?_eq_none (by omega)]; simp
    have ht : 0 ≤ flipTerm ds (stepsV ds) j ∧ flipTerm ds (stepsV ds) j ≤ 268435456 := by
      unfold flipTerm
      split
      · refine ⟨Int.mul_nonneg (by omega) hb.1, ?_⟩
        have : (ds[j]?.getD 0 - 1) * (stepsV ds)[j]?.getD 0 ≤ 4096 * 65536 := Int.mul_le_mul (by omega) hb.2 hb.1 (by omega)
        omega
      · omega
    rw [flipAcc, hj]; omega
theorem prod_monoT : ∀ xs ys : List Int, xs.length = ys.length → (∀ j, j < xs.length → 1 ≤ xs[j]?.getD 0 ∧ xs[j]?.getD 0 ≤ ys[j]?.getD 0) → 1 ≤ prod xs ∧ prod xs ≤ prod ys
  | [], [], _, _ => by simp [prod]
  | [], _ :: _, h, _ => by simp at h
  | _ :: _, [], h, _ => by simp at h
  | x :: xs, y :: ys, h, hb => by
    have h0 := hb 0 (by simp)
    simp at h0
    obtain ⟨i1, i2⟩ := prod_monoT xs ys (by simpa using h) (fun j hj => by have := hb (j + 1) (by simp; omega); simpa using this)
    rw [prod, prod]
    have a1 : 1 * 1 ≤ x * prod xs := Int.mul_le_mul h0.1 i1 (by omega) (by omega)
    have a2 : x * prod xs ≤ y * prod ys := Int.mul_le_mul h0.2 i2 (by omega) (by omega)
    omega
theorem size_cutT {ds lo hi st : List Int} (hE : sizeE ds = 0) (hb : anyBad ds lo hi st = false) : sizeE (cutD ds lo hi st) = 0 := by
  obtain ⟨z1, z2, z3, _⟩ := sizeE_ok hE
  have hl := cutD_length ds lo hi st
  have hbd : ∀ j, j < ds.length → 0 ≤ (cutD ds lo hi st)[j]?.getD 0 ∧ (cutD ds lo hi st)[j]?.getD 0 ≤ ds[j]?.getD 0 := fun j hj => by
    have h1 := badCut_false (of_anyBad_false hb j hj)
    have h2 := kept_bd h1.1 h1.2.1 h1.2.2.2.1
    rw [cutD_getD ds lo hi st j hj]
    omega
  unfold sizeE
  rw [if_neg (by omega), if_neg ?_]
  · by_cases h0 : (0 : Int) ∈ cutD ds lo hi st
    · rw [if_pos h0]
    · rw [if_neg h0, if_neg ?_]
      have hp1 : ∀ j, j < (cutD ds lo hi st).length → 1 ≤ (cutD ds lo hi st)[j]?.getD 0 ∧ (cutD ds lo hi st)[j]?.getD 0 ≤ ds[j]?.getD 0 := fun j hj => by
        have := hbd j (by omega)
        have h3 := mem_getD (cutD ds lo hi st) j hj
        have : (cutD ds lo hi st)[j]?.getD 0 ≠ 0 := fun e => h0 (e ▸ h3)
        omega
      have hm := prod_monoT _ ds hl hp1
      have hpos : ∀ x ∈ ds, 1 ≤ x := fun x hx => by
        obtain ⟨j, hj, rfl⟩ := List.getElem_of_mem hx
        have := hp1 j (by omega)
        simp [hj] at this
        omega
      have := (z3 hpos).1
      omega
  · have : (cutD ds lo hi st).any badDim = false := by
      rw [List.any_eq_false]
      intro x hx
      obtain ⟨j, hj, rfl⟩ := List.getElem_of_mem hx
      have h1 := hbd j (by omega)
      have h2 := z2 _ (mem_getD ds j (by omega))
      rw [List.getElem?_eq_getElem hj, Option.getD_some] at h1
      simp [badDim]; omega
    rw [this]; simp
theorem cutE_parts {s : Int} {ds ss lo hi st : List Int} (h : cutE s ds ss lo hi st = 0) : wrongE s ds ss = 0 ∧ lensB ds.length lo hi st = true ∧ anyBad ds lo hi st = false ∧ beyondB (cutAcc s ss lo ds.length) (cutS ss st) = false := by
  have hW : wrongE s ds ss = 0 := by
    unfold cutE at h
    by_cases c : wrongE s ds ss = 0
    · exact c
    · rw [if_pos c] at h; exact absurd h c
  unfold cutE at h
  rw [if_neg (by simp [hW])] at h
  have hl : lensB ds.length lo hi st = true := by
    by_cases c : lensB ds.length lo hi st = true
    · exact c
    · rw [if_neg c] at h; omega
  rw [if_pos hl] at h
  have hb : anyBad ds lo hi st = false := by
    cases c : anyBad ds lo hi st with
    | false => rfl
    | true => rw [c] at h; simp at h
  rw [if_neg (by rw [hb]; simp)] at h
  refine ⟨hW, hl, hb, ?_⟩
  cases c : beyondB (cutAcc s ss lo ds.length) (cutS ss st) with
  | false => rfl
  | true => rw [c] at h; simp at h
theorem cutAcc_whole {ds lo hi st : List Int} (hE : sizeE ds = 0) (hb : anyBad ds lo hi st = false) : ∀ i : Nat, i ≤ ds.length → 0 ≤ cutAcc 0 (stepsV ds) lo i ∧ cutAcc 0 (stepsV ds) lo i ≤ 268435456 * i
  | 0, _ => by simp [cutAcc]
  | i + 1, hi' => by
    have ih := cutAcc_whole hE hb i (by omega)
    have h1 := badCut_false (of_anyBad_false hb i (by omega))
    have h2 := ((sizeE_ok hE).2.1 _ (mem_getD ds i (by omega))).2
    have h3 := steps_bd hE i
    have h4 : 0 ≤ lo[i]?.getD 0 * (stepsV ds)[i]?.getD 0 := Int.mul_nonneg h1.1 h3.1
    have h5 : lo[i]?.getD 0 * (stepsV ds)[i]?.getD 0 ≤ 4096 * 65536 := Int.mul_le_mul (by omega) h3.2 h3.1 (by omega)
    rw [cutAcc]; omega
theorem thr_cut {s : Int} {ds ss lo hi st : List Int} (h : cutE s ds ss lo hi st = 0) : Thr s ds ss (cutE 0 ds (stepsV ds) lo hi st) (cutAcc s ss lo ds.length) (cutS ss st) (cutAcc 0 (stepsV ds) lo ds.length) (cutS (stepsV ds) st) (cutD ds lo hi st) := by
  obtain ⟨hW, hl, hb, hbe⟩ := cutE_parts h
  obtain ⟨h1, h2, h3⟩ := wrongE_ok hW
  have hww := wrong_whole h1
  have hsc := size_cutT h1 hb
  have hbw : beyondB (cutAcc 0 (stepsV ds) lo ds.length) (cutS (stepsV ds) st) = false := by
    have ha := cutAcc_whole h1 hb ds.length (Nat.le_refl _)
    have h6 := (sizeE_ok h1).1
    refine far_of (by omega) fun x hx => ?_
    simp only [cutS, List.mem_map, List.mem_range, stepsV_len] at hx
    obtain ⟨k, hk, rfl⟩ := hx
    have h4 := badCut_false (of_anyBad_false hb k hk)
    have h5 := steps_bd h1 k
    have h7 : 0 ≤ st[k]?.getD 0 * (stepsV ds)[k]?.getD 0 := Int.mul_nonneg (by omega) h5.1
    have h8 : st[k]?.getD 0 * (stepsV ds)[k]?.getD 0 ≤ 4096 * 65536 := Int.mul_le_mul h4.2.2.2.2 h5.2 h5.1 (by omega)
    omega
  refine ⟨hW, ?_, wrong_of hsc (by rw [cutS_length, cutD_length]; exact h2) hbe, wrong_of hsc (by rw [cutS_length, cutD_length, stepsV_len]) hbw, through_of (S := fun s ss => cutAcc s ss lo ds.length) (T := fun ss => cutS ss st) h2 (through_cut hsc hb)⟩
  unfold cutE
  rw [if_neg (by simp [hww]), if_pos hl, if_neg (by rw [hb]; simp), if_neg (by rw [hbw]; simp)]

/-! ### The five, by number -/
end Go.Proofs.YteoobeldmicjhaaGreat.V
namespace Go.Proofs.YteoobeldmicjhaaGreat.V
set_option maxRecDepth 20000
open Go.RowKit

/-- What is stored into a View that was made for it leaves the lists. -/
theorem ints_putL {w w' : World} {d0 a : Option Addr} {dl n N C : Nat} {ds xs : List Int} {x y z : Value} (hi : Ints w' a n xs) (hF : a = d0 ∨ Far N a) (hd : Ints w d0 dl ds) (hn : 0 < n → 0 < dl) (hw : w.heap.size ≤ C) (hC : C < N) :
    Ints (((w'.setCell ⟨C, 0, none⟩ x).setCell ⟨C, 1, none⟩ y).setCell ⟨C, 2, none⟩ z) a n xs := by
  by_cases h0 : n = 0
  · obtain ⟨q1, q2, q3, _⟩ := hi
    exact ⟨q1, q2, q3, .inl h0⟩
  rcases hF with rfl | hF
  · obtain ⟨b, o, e, hb, _⟩ := hd.at (hn (by omega))
    exact ints_set3o hi (fun g o' e' => by rw [e] at e'; cases e'; omega)
  · exact ints_set3o hi (fun g o e => by have := hF g o e; omega)
theorem okL_len {E : Int} {l : List Int} {n m : Nat} {w : World} {a : Option Addr} (h : Ints w a n (okL E l)) (hl : E = 0 → l.length = m) : 0 < n → 0 < m := by
  intro h0
  have h1 := h.1
  unfold okL at h1
  by_cases c : E = 0
  · rw [if_pos c] at h1; have := hl c; omega
  · rw [if_neg c] at h1; simp at h1; omega

end Go.Proofs.YteoobeldmicjhaaGreat.V
