/-
  Contract: view.Reform, where the numbers fit. Contract: view.Reform, whatever it is asked. Plain mathematics: what is turned can be turned back; what is flipped twice is as it was; an array that lies whole can be read in all dimensions that fit. Plain mathematics: what a view of a view reads is what the first one reads, taken as the second one says of an array as it lies. Plain mathematics: the five, by number; what comes of one is right, on a view and on what lies whole. Contract: adjointlaw1.step: one of the five, by number.
-/
import Derived.Test.YteoobeldmicjhaaGreatPRKArrayRows24
import Derived.Test.YteoobeldmicjhaaGreatPRKArrayRows26
import Derived.Test.YteoobeldmicjhaaGreatPRKArrayRows25
import Derived.Test.YteoobeldmicjhaaGreatPRKArrayRows11
import Derived.Test.YteoobeldmicjhaaGreatPRKArrayRows12
import Derived.Test.YteoobeldmicjhaaGreatPRKArrayRows13
namespace Go.Proofs.YteoobeldmicjhaaGreat.V
set_option maxRecDepth 20000
open Go.RowKit Go.Shelf
attribute [local go_sem] Oper.semAt_some

theorem Below.ints {n : Nat} {w w' : World} {a : Option Addr} {len : Nat} {xs : List Int} (hB : Below n w w') (h : Ints w a len xs) (ha : ∀ b o, a = some ⟨b, o, none⟩ → 0 < len → b < n) : Ints w' a len xs := by
  obtain ⟨h1, h2, h3, h4⟩ := h
  refine ⟨h1, h2, h3, ?_⟩
  by_cases h0 : len = 0
  · exact .inl h0
  rcases h4 with h4 | ⟨b, off, e, hc⟩
  · exact .inl h4
  · exact .inr ⟨b, off, e, fun j hj => (hB.cell (p := ⟨b, off + j, none⟩) (ha b off e (by omega))).trans (hc j hj)⟩

theorem Keep.below {n₀ Bs : Nat} {W W' : World} (h : Below W.heap.size W W') (h1 : n₀ ≤ W.heap.size) (h2 : Bs < W.heap.size) : Keep n₀ Bs W W' := ⟨h.mono h1, h.block Bs h2⟩
end Go.Proofs.YteoobeldmicjhaaGreat.V
namespace Go.Proofs.YteoobeldmicjhaaGreat.V
set_option maxRecDepth 20000
open Go.RowKit Go.Shelf
attribute [local go_sem] Oper.semAt_some

/-- How the call begins. -/
structure Four (w : World) (s : Int) (da : Option Addr) (dl dc : Nat) (sa : Option Addr) (sl sc : Nat) (ea : Option Addr) (el ec : Nat) (W : World) : Prop where
  below : Below w.heap.size w W
  view : ViewAt W w.heap.size (.int .i64 s) (.slice da dl dc) (.slice sa sl sc)
  dims : Boxed W (w.heap.size + 1) 22 (.slice ea el ec)
  out : ViewAt W (w.heap.size + 1 + 1) (.int .i64 0) (.slice none 0 0) (.slice none 0 0)
  err : Boxed W (w.heap.size + 1 + 1 + 1) 27 (.int .i64 0)
theorem Four.on {w W W' : World} {s : Int} {da : Option Addr} {dl dc : Nat} {sa : Option Addr} {sl sc : Nat} {ea : Option Addr} {el ec : Nat} (h : Four w s da dl dc sa sl sc ea el ec W) (hb : Below W.heap.size W W') : Four w s da dl dc sa sl sc ea el ec W' :=
  ⟨Below.on h.below hb, h.view.below hb, (hb.block _ h.dims.lt).trans h.dims, h.out.below hb, (hb.block _ h.err.lt).trans h.err⟩
end Go.Proofs.YteoobeldmicjhaaGreat.V
namespace Go.Proofs.YteoobeldmicjhaaGreat.V
set_option maxRecDepth 20000

/-! ### Turning back -/
theorem perm_range : ∀ (n : Nat) (l : List Nat), l.length = n → (∀ k, k < n → k ∈ l) → l.Perm (List.range n)
  | 0, l, h, _ => by
    have : l = [] := List.length_eq_zero_iff.1 h
    subst this; exact List.Perm.refl _
  | n + 1, l, h, hm => by
    obtain ⟨a, b, rfl⟩ := List.append_of_mem (hm n (by omega))
    have hl : (a ++ b).length = n := by simp at h ⊢; omega
    have ih := perm_range n (a ++ b) hl (fun k hk => by
      have := hm k (by omega)
      simp only [List.mem_append, List.mem_cons] at this ⊢
      rcases this with h | rfl | h
      · exact .inl h
      · omega
      · exact .inr h)
    rw [List.range_succ]
    exact List.perm_middle.trans ((List.Perm.cons n ih).trans (List.perm_append_singleton n (List.range n)).symm)
theorem map_getD_range (xs : List Int) : (List.range xs.length).map (fun k => xs[k]?.getD 0) = xs := by
  apply List.ext_getElem?
  intro i
  by_cases hi : i < xs.length
  · simp [hi]
  · rw [List.getElem?_eq_none (by simp; omega), List.getElem?_eq_none (by omega)]
theorem taken_perm {xs ps : List Int} (hp : PermOk ps xs.length) : (taken xs ps).Perm xs := by
  have h1 : (ps.map Int.toNat).Perm (List.range xs.length) := by
    refine perm_range _ _ (by simp [hp.1]) (fun k hk => ?_)
    have := (perm_iff hp.1).1 hp.2 k hk
    simp only [List.mem_map]
    exact ⟨(k : Int), this, by simp⟩
  have h2 := h1.map (fun k => xs[k]?.getD 0)
  rw [map_getD_range] at h2
  have e : taken xs ps = (ps.map Int.toNat).map (fun k => xs[k]?.getD 0) := by simp [taken]
  rw [e]; exact h2
theorem prod_perm {a b : List Int} (h : a.Perm b) : prod a = prod b := by
  induction h with
  | nil => rfl
  | cons x _ ih => rw [prod, prod, ih]
  | swap x y l => simp only [prod]; rw [← Int.mul_assoc, ← Int.mul_assoc, Int.mul_comm y x]
  | trans _ _ ih1 ih2 => rw [ih1, ih2]
theorem any_perm {a b : List Int} (h : a.Perm b) (p : Int → Bool) : a.any p = b.any p := by
  cases hb : b.any p with
  | true =>
    rw [List.any_eq_true] at hb ⊢
    obtain ⟨x, hx, hp⟩ := hb
    exact ⟨x, h.mem_iff.2 hx, hp⟩
  | false =>
    rw [List.any_eq_false] at hb ⊢
    exact fun x hx => hb x (h.mem_iff.1 hx)
theorem sizeE_perm {a b : List Int} (h : a.Perm b) : sizeE a = sizeE b := by
  unfold sizeE
  rw [h.length_eq, any_perm h, prod_perm h]
  by_cases h0 : (0 : Int) ∈ b
  · rw [if_pos h0, if_pos (h.mem_iff.2 h0)]
  · rw [if_neg h0, if_neg (fun e => h0 (h.mem_iff.1 e))]
theorem wrong_turn {s : Int} {ds ss ps : List Int} (hW : wrongE s ds ss = 0) (hp : PermOk ps ds.length) : wrongE s (taken ds ps) (taken ss ps) = 0 := by
  obtain ⟨h1, h2, h3⟩ := wrongE_ok hW
  unfold wrongE
  rw [sizeE_perm (taken_perm hp), if_neg (by simp [h1]), taken_length, taken_length, if_neg (by simp), if_neg (by rw [turn_far hW hp h2]; simp)]

/-- Where k stands in the list; the last such place ahead of i. -/
def invN (ps : List Int) : Nat → Nat → Int
  | 0, _ => 0
  | i + 1, k => if ps[i]?.getD 0 = (k : Int) then (i : Int) else invN ps i k
def invL (ps : List Int) : List Int := (List.range ps.length).map (invN ps ps.length)
theorem invN_spec (ps : List Int) (k : Nat) : ∀ n, (∃ i, i < n ∧ ps[i]?.getD 0 = (k : Int)) → ∃ i : Nat, i < n ∧ invN ps n k = (i : Int) ∧ ps[i]?.getD 0 = (k : Int)
  | 0, ⟨i, h, _⟩ => by omega
  | n + 1, ⟨i, h, e⟩ => by
    by_cases c : ps[n]?.getD 0 = (k : Int)
    · exact ⟨n, by omega, by rw [invN, if_pos c], c⟩
    · have : i < n := by
        by_cases h' : i = n
        · subst h'; exact absurd e c
        · omega
      obtain ⟨j, h1, h2, h3⟩ := invN_spec ps k n ⟨i, this, e⟩
      exact ⟨j, by omega, by rw [invN, if_neg c, h2], h3⟩
theorem invL_length (ps : List Int) : (invL ps).length = ps.length := by simp [invL]
theorem invL_getD (ps : List Int) (k : Nat) (h : k < ps.length) : (invL ps)[k]?.getD 0 = invN ps ps.length k := by simp [invL, h]
theorem perm_inj {ps : List Int} {n : Nat} (hp : PermOk ps n) {i j : Nat} (hi : i < n) (hj : j < n) (e : ps[i]?.getD 0 = ps[j]?.getD 0) : i = j := by
  by_cases h1 : i < j
  · exact absurd e ((hp.2 j hj).2.2 i h1)
  · by_cases h2 : j < i
    · exact absurd e.symm ((hp.2 i hi).2.2 j h2)
    · omega
theorem perm_at {ps : List Int} {n : Nat} (hp : PermOk ps n) (k : Nat) (hk : k < n) : ∃ i : Nat, i < n ∧ invN ps n k = (i : Int) ∧ ps[i]?.getD 0 = (k : Int) := by
  have hm := (perm_iff hp.1).1 hp.2 k hk
  obtain ⟨i, hi, e⟩ := List.getElem_of_mem hm
  have hl := hp.1
  exact invN_spec ps k n ⟨i, by omega, by simp [hi, e]⟩
theorem invL_perm {ps : List Int} {n : Nat} (hp : PermOk ps n) : PermOk (invL ps) n := by
  have hl := hp.1
  refine ⟨by rw [invL_length, hl], (perm_iff (by rw [invL_length, hl])).2 fun i hi => ?_⟩
  have hb := hp.2 i hi
  obtain ⟨k, hk⟩ : ∃ k : Nat, ps[i]?.getD 0 = (k : Int) := ⟨(ps[i]?.getD 0).toNat, by omega⟩
  have hkn : k < n := by omega
  obtain ⟨j, h1, h2, h3⟩ := perm_at hp k hkn
  have hij := perm_inj hp hi h1 (hk.trans h3.symm)
  subst hij
  have : (invL ps)[k]?.getD 0 = (i : Int) := by rw [invL_getD ps k (by omega), hl, h2]
  rw [← this]
  exact mem_getD _ k (by rw [invL_length, hl]; exact hkn)
theorem taken_back {xs ps : List Int} (hp : PermOk ps xs.length) : taken (taken xs ps) (invL ps) = xs := by
  have hl := hp.1
  apply List.ext_getElem?
  intro k
  by_cases hk : k < xs.length
  · obtain ⟨i, h1, h2, h3⟩ := perm_at hp k hk
    have e1 : (taken (taken xs ps) (invL ps))[k]?.getD 0 = (taken xs ps)[i]?.getD 0 := taken_getD _ _ k i (by rw [invL_length]; omega) (by rw [invL_getD ps k (by omega), hl, h2])
    have e2 : (taken xs ps)[i]?.getD 0 = xs[k]?.getD 0 := taken_getD _ _ i k (by omega) h3
    have hl1 : k < (taken (taken xs ps) (invL ps)).length := by rw [taken_length, invL_length]; omega
    rw [List.getElem?_eq_getElem hl1, Option.getD_some] at e1
    rw [List.getElem?_eq_getElem hk, Option.getD_some] at e2
    rw [List.getElem?_eq_getElem hl1, List.getElem?_eq_getElem hk, e1, e2]
  · rw [List.getElem?_eq_none (by rw [taken_length, invL_length]; omega), List.getElem?_eq_none (by omega)]
theorem turn_again {s : Int} {ds ss ps : List Int} (h : turnE s ds ss ps = 0) : PermOk ps ds.length ∧ turnE s (taken ds ps) (taken ss ps) (invL ps) = 0 ∧ taken (taken ds ps) (invL ps) = ds ∧ taken (taken ss ps) (invL ps) = ss := by
  have hW : wrongE s ds ss = 0 := by
    unfold turnE at h
    by_cases c : wrongE s ds ss = 0
    · exact c
    · rw [if_pos c] at h; exact absurd h c
  have hp : PermOk ps ds.length := by
    unfold turnE at h
    rw [if_neg (by simp [hW])] at h
    by_cases c : permB ps ds.length = true
    · exact (permB_iff _ _).1 c
    · rw [if_neg c] at h; omega
  have hlen := (wrongE_ok hW).2.1
  refine ⟨hp, ?_, taken_back hp, taken_back (by rw [hlen]; exact hp)⟩
  unfold turnE
  rw [if_neg (by rw [wrong_turn hW hp]; simp), if_pos ((permB_iff _ _).2 (by rw [taken_length, hp.1]; exact invL_perm hp))]

/-! ### Flipping twice -/
/-! ### What lies whole -/
theorem wrong_whole {ds : List Int} (h : sizeE ds = 0) : wrongE 0 ds (stepsV ds) = 0 := by
  unfold wrongE
  rw [if_neg (by simp [h]), if_neg (by rw [stepsV_len]; simp), if_neg ?_]
  have : beyondB 0 (stepsV ds) = false := by
    unfold beyondB
    rw [Bool.or_eq_false_iff]
    refine ⟨by decide, ?_⟩
    rw [List.any_eq_false]
    intro x hx
    simp only [stepsV, List.mem_map, List.mem_range] at hx
    obtain ⟨k, _, rfl⟩ := hx
    have : 0 ≤ stepV ds k ∧ stepV ds k ≤ 65536 := by
      rcases dims_cases h with ⟨h0, _⟩ | ⟨hpos, _, hp, _⟩
      · rw [stepV_zero h0]; omega
      · rw [stepV_pos hpos]
        have := prod_drop_le ds hpos (k + 1)
        unfold beh; omega
    simp [farB]; omega
  rw [this]; simp
end Go.Proofs.YteoobeldmicjhaaGreat.V
namespace Go.Proofs.YteoobeldmicjhaaGreat.V
set_option maxRecDepth 20000

/-! ### Turn -/
/-! ### Flip -/
/-! ### Cut -/
/-! ### Spread -/
end Go.Proofs.YteoobeldmicjhaaGreat.V
namespace Go.Proofs.YteoobeldmicjhaaGreat.V
set_option maxRecDepth 20000

theorem stepV_bd {ds : List Int} (h : sizeE ds = 0) (k : Nat) : 0 ≤ stepV ds k ∧ stepV ds k ≤ 65536 := by
  rcases dims_cases h with ⟨h0, _⟩ | ⟨hpos, _, hp, _⟩
  · rw [stepV_zero h0]; omega
  · rw [stepV_pos hpos]
    have := prod_drop_le ds hpos (k + 1)
    unfold beh; omega
theorem steps_bd {ds : List Int} (h : sizeE ds = 0) (k : Nat) : 0 ≤ (stepsV ds)[k]?.getD 0 ∧ (stepsV ds)[k]?.getD 0 ≤ 65536 := by
  by_cases hk : k < ds.length
  · rw [stepsV_getD' ds k hk]; exact stepV_bd h k
  · rw [List.getElem?_eq_none (by rw [stepsV_len]; omega)]; simp
theorem far_of {s : Int} {l : List Int} (h1 : -1099511627776 ≤ s ∧ s ≤ 1099511627776) (h2 : ∀ x ∈ l, -1099511627776 ≤ x ∧ x ≤ 1099511627776) : beyondB s l = false := by
  unfold beyondB
  rw [Bool.or_eq_false_iff, List.any_eq_false]
  refine ⟨by simp [farB]; omega, fun x hx => ?_⟩
  have := h2 x hx
  simp [farB]; omega
theorem flipAcc_whole {ds : List Int} (hE : sizeE ds = 0) (ps : List Int) : ∀ i : Nat, 0 ≤ flipAcc 0 ds (stepsV ds) ps i ∧ flipAcc 0 ds (stepsV ds) ps i ≤ 268435456 * i
  | 0 => by simp [flipAcc]
  | i + 1 => by
    have ih := flipAcc_whole hE ps i
    obtain ⟨j, hj⟩ : ∃ j, (ps[i]?.getD 0).toNat = j := ⟨_, rfl⟩
    have hb := steps_bd hE j
    have hd : ds[j]?.getD 0 ≤ 4096 := by
      by_cases h : j < ds.length
      · exact ((sizeE_ok hE).2.1 _ (mem_getD ds j h)).2
      · rw [List.getElem?_eq_none (by omega)]; simp
    have ht : 0 ≤ flipTerm ds (stepsV ds) j ∧ flipTerm ds (stepsV ds) j ≤ 268435456 := by
      unfold flipTerm
      split
      · refine ⟨Int.mul_nonneg (by omega) hb.1, ?_⟩
        have : (ds[j]?.getD 0 - 1) * (stepsV ds)[j]?.getD 0 ≤ 4096 * 65536 := Int.mul_le_mul (by omega) hb.2 hb.1 (by omega)
        omega
      · omega
    rw [flipAcc, hj]; omega
/-! ### The five, by number -/
end Go.Proofs.YteoobeldmicjhaaGreat.V
namespace Go.Proofs.YteoobeldmicjhaaGreat.V
set_option maxRecDepth 20000
open Go.RowKit

/-- What is stored into a View that was made for it leaves the lists. -/
theorem ints_putL {w w' : World} {d0 a : Option Addr} {dl n N C : Nat} {ds xs : List Int} {x y z : Value} (hi : Ints w' a n xs) (hF : a = d0 ∨ Far N a) (hd : Ints w d0 dl ds) (hn : 0 < n → 0 < dl) (hw : w.heap.size ≤ C) (hC : C < N) :
    Ints (((w'.setCell ⟨C, 0, none⟩ x).setCell ⟨C, 1, none⟩ y).setCell ⟨C, 2, none⟩ z) a n xs := by
  by_cases h0 : n = 0
  · obtain ⟨q1, q2, q3, _⟩ := hi
    exact ⟨q1, q2, q3, .inl h0⟩
  rcases hF with rfl | hF
  · obtain ⟨b, o, e, hb, _⟩ := hd.at (hn (by omega))
    exact ints_set3o hi (fun g o' e' => by rw [e] at e'; cases e'; omega)
  · exact ints_set3o hi (fun g o e => by have := hF g o e; omega)
theorem okL_len {E : Int} {l : List Int} {n m : Nat} {w : World} {a : Option Addr} (h : Ints w a n (okL E l)) (hl : E = 0 → l.length = m) : 0 < n → 0 < m := by
  intro h0
  have h1 := h.1
  unfold okL at h1
  by_cases c : E = 0
  · rw [if_pos c] at h1; have := hl c; omega
  · rw [if_neg c] at h1; simp at h1; omega

end Go.Proofs.YteoobeldmicjhaaGreat.V
