/-
  Contract: view.Reform, where the numbers fit. Contract: view.Reform, whatever it is asked. Plain mathematics: what is turned can be turned back; what is flipped twice is as it was; an array that lies whole can be read in all dimensions that fit. Contract: view.Cut.
-/
import Derived.Test.YteoobeldmicjhaaK12
import Derived.Test.YteoobeldmicjhaaK13
import Derived.Test.YteoobeldmicjhaaK9
import Derived.BigRegion
import Derived.Deep.QuietTactic
import Derived.BigQuiet
namespace Go.Proofs.Yteoobeldmicjhaa.V
open Go.RowKit Go.Shelf
attribute [local go_sem] Oper.semAt_some

def evenB (L : List Int) (D B : Nat) : Bool := decide (D = 1) || (List.range L.length).all fun p => !decide (B ≤ p % (D * B)) || decide (L[p]?.getD 0 - L[p - B]?.getD 0 = L[B]?.getD 0 - L[0]?.getD 0)
theorem evenB_iff (L : List Int) (D B : Nat) : evenB L D B = true ↔ EvenP L D B := by
  unfold evenB EvenP
  simp only [Bool.or_eq_true, decide_eq_true_eq, List.all_eq_true, List.mem_range, Bool.not_eq_true', decide_eq_false_iff_not]
  constructor
  · rintro (h | h)
    · exact .inl h
    · exact .inr fun p hp hc => (h p hp).resolve_left (fun h' => h' hc)
  · rintro (h | h)
    · exact .inl h
    · refine .inr fun p hp => ?_
      by_cases hc : B ≤ p % (D * B)
      · exact .inr (h p hp hc)
      · exact .inl hc
def allEvenB (L es : List Int) : Bool := (List.range es.length).all fun k => evenB L (es[k]?.getD 0).toNat (beh es k).toNat
theorem allEvenB_iff (L es : List Int) : allEvenB L es = true ↔ ∀ k, k < es.length → EvenP L (es[k]?.getD 0).toNat (beh es k).toNat := by
  unfold allEvenB
  simp only [List.all_eq_true, List.mem_range, evenB_iff]
def reformL (L es : List Int) : List Int := if prod es = 0 then List.replicate es.length 0 else reformSteps L es
def reformE (s : Int) (ds ss es : List Int) : Int :=
  if wrongE s ds ss ≠ 0 then wrongE s ds ss else if sizeE es ≠ 0 then sizeE es else if sizeN es ≠ prod ds then 6 else if prod es = 0 then 0
  else if allEvenB (readsV s ds ss) es = true then (if beyondB s (reformSteps (readsV s ds ss) es) = true then 5 else 0) else 9

/-- The row of steps on its way: those from len - t on are there. -/
def reformF (L es : List Int) (len t j : Nat) : Value := .int .i64 (if len ≤ j + t then stepE L (es[j]?.getD 0).toNat (beh es j).toNat else 0)
theorem reformF_succ (L es : List Int) (len t j : Nat) (ht : t < len) : (if j = len - 1 - t then .int .i64 (stepE L (es[len - 1 - t]?.getD 0).toNat (beh es (len - 1 - t)).toNat) else reformF L es len t j) = reformF L es len (t + 1) j := by
  unfold reformF
  by_cases e : j = len - 1 - t
  · rw [if_pos e, if_pos (by omega), e]
  · rw [if_neg e]
    by_cases h : len ≤ j + t
    · rw [if_pos h, if_pos (by omega)]
    · rw [if_neg h, if_neg (by omega)]
theorem stepE_bd {L : List Int} (hb : ∀ x ∈ L, -28115000000000000 ≤ x ∧ x ≤ 28115000000000000) (D B : Nat) : -56230000000000000 ≤ stepE L D B ∧ stepE L D B ≤ 56230000000000000 := by
  have h : ∀ j : Nat, -28115000000000000 ≤ L[j]?.getD 0 ∧ L[j]?.getD 0 ≤ 28115000000000000 := fun j => by
    by_cases hj : j < L.length
    · exact hb _ (mem_getD L j hj)
    · rw [List.getElem?_eq_none (by omega)]; simp
  unfold stepE
  split
  · omega
  · have := h B; have := h 0; omega
theorem reformSteps_bd {L es : List Int} (hb : ∀ x ∈ L, -28115000000000000 ≤ x ∧ x ≤ 28115000000000000) : ∀ x ∈ reformSteps L es, -9223372036854775808 ≤ x ∧ x ≤ 9223372036854775807 := by
  intro x hx
  simp only [reformSteps, List.mem_map, List.mem_range] at hx
  obtain ⟨k, _, rfl⟩ := hx
  have := stepE_bd hb (es[k]?.getD 0).toNat (beh es k).toNat
  omega
theorem Below.ints {n : Nat} {w w' : World} {a : Option Addr} {len : Nat} {xs : List Int} (hB : Below n w w') (h : Ints w a len xs) (ha : ∀ b o, a = some ⟨b, o, none⟩ → 0 < len → b < n) : Ints w' a len xs := by
  obtain ⟨h1, h2, h3, h4⟩ := h
  refine ⟨h1, h2, h3, ?_⟩
  by_cases h0 : len = 0
  · exact .inl h0
  rcases h4 with h4 | ⟨b, off, e, hc⟩
  · exact .inl h4
  · exact .inr ⟨b, off, e, fun j hj => (hB.cell (p := ⟨b, off + j, none⟩) (ha b off e (by omega))).trans (hc j hj)⟩

theorem below_keeps {W W' : World} (h : Below W.heap.size W W') (B : Nat) : KeepsFrom B W W' := ⟨h.size, fun k _ _ hk _ => (h.block k (Array.getElem?_eq_some_iff.1 hk).1).trans hk⟩
theorem Keep.below {n₀ Bs : Nat} {W W' : World} (h : Below W.heap.size W W') (h1 : n₀ ≤ W.heap.size) (h2 : Bs < W.heap.size) : Keep n₀ Bs W W' := ⟨h.mono h1, h.block Bs h2⟩
theorem grownBy_setCellA (W : World) (p : Addr) (v : Value) : W.grownBy (W.setCell p v) (some p.block) :=
  ⟨rfl, rfl, rfl, (KeepsWalks.setCell W _ v).size, fun k _ hk => Below.heap_setCell _ _ _ k (fun e => hk (by rw [e]))⟩
theorem ints_set1 {w : World} {g len B i : Nat} {xs : List Int} {a : Value} (h : Ints w (some ⟨g, 0, none⟩) len xs) (hne : g ≠ B) : Ints (w.setCell ⟨B, i, none⟩ a) (some ⟨g, 0, none⟩) len xs := by
  obtain ⟨h1, h2, h3, h4⟩ := h
  refine ⟨h1, h2, h3, ?_⟩
  rcases h4 with h4 | ⟨b', off, ha, hc⟩
  · exact .inl h4
  · cases ha
    exact .inr ⟨_, _, rfl, fun j hj => (World.cell?_of_block (w := w) (Below.heap_setCell _ ⟨B, i, none⟩ _ g hne)).trans (hc j hj)⟩
theorem ints_put1 {w : World} {g len D : Nat} {xs : List Int} {o : Obj} (h : Ints w (some ⟨g, 0, none⟩) len xs) (hne : g ≠ D) : Ints (w.putObj D o) (some ⟨g, 0, none⟩) len xs := by
  obtain ⟨h1, h2, h3, h4⟩ := h
  refine ⟨h1, h2, h3, ?_⟩
  rcases h4 with h4 | ⟨b', off, ha, hc⟩
  · exact .inl h4
  · cases ha
    exact .inr ⟨_, _, rfl, fun j hj => (World.cell?_of_block (w := w) (World.putObj_heap_other hne)).trans (hc j hj)⟩
/-- What lies, while steps are read off. -/
def Off (Wr : World) (M C g1 g2 el : Nat) (s : Int) (L es : List Int) (t : Nat) (W : World) : Prop :=
  ((Below M Wr W ∧ C + 1 < W.heap.size) ∧ ViewAt W C (.int .i64 s) (.slice (some ⟨g1, 0, none⟩) el el) (.slice (some ⟨g2, 0, none⟩) el el)) ∧ (W.rowIs g1 3 el (fun j => .int .i64 (es[j]?.getD 0)) ∧ W.rowIs g2 3 el (reformF L es el t)) ∧ (∀ k, el ≤ k + t → k < el → EvenP L (es[k]?.getD 0).toNat (beh es k).toNat)
theorem off_own (Wr : World) (M C g1 g2 el : Nat) (s : Int) (L es : List Int) {B : Nat} (hB : M ≤ B) (hM : M ≤ Wr.heap.size) : OwnFrom B (fun t W => Off Wr M C g1 g2 el s L es t W) :=
  OwnFrom.and (OwnFrom.and (OwnFrom.and (ownFrom_below hM hB) (fun _ _ _ _ hs hg _ => Nat.lt_of_lt_of_le hs hg.size)) (Own.from (view_own _ _ _ _) _)) (OwnFrom.and (OwnFrom.and (Own.from (row_own _ _ _ _) _) (Own.from (row_own _ _ _ _) _)) (ownFrom_pure _ _))
/-- What is left where there is no such view. -/
def NoneAt (w : World) (c : Code) (W : World) : Prop := c = .ret ∧ ViewAt W (w.heap.size + 1 + 1) (.int .i64 0) (.slice none 0 0) (.slice none 0 0) ∧ Boxed W (w.heap.size + 1 + 1 + 1) 34 (.int .i64 9) ∧ Below w.heap.size w W
theorem none_own (w : World) {B : Nat} (hB : w.heap.size ≤ B) : OwnFrom B (NoneAt w) :=
  OwnFrom.and (ownFrom_pure _ _) (OwnFrom.and (Own.from (view_own _ _ _ _) _) (OwnFrom.and (Own.from (boxed_own _ _ _) _) (ownFrom_below (Nat.le_refl _) hB)))

end Go.Proofs.Yteoobeldmicjhaa.V
namespace Go.Proofs.Yteoobeldmicjhaa.V
open Go.RowKit Go.Shelf
attribute [local go_sem] Oper.semAt_some

/-- How the call begins. -/
structure Four (w : World) (s : Int) (da : Option Addr) (dl dc : Nat) (sa : Option Addr) (sl sc : Nat) (ea : Option Addr) (el ec : Nat) (W : World) : Prop where
  below : Below w.heap.size w W
  view : ViewAt W w.heap.size (.int .i64 s) (.slice da dl dc) (.slice sa sl sc)
  dims : Boxed W (w.heap.size + 1) 22 (.slice ea el ec)
  out : ViewAt W (w.heap.size + 1 + 1) (.int .i64 0) (.slice none 0 0) (.slice none 0 0)
  err : Boxed W (w.heap.size + 1 + 1 + 1) 34 (.int .i64 0)
theorem four_new (w : World) (s : Int) (da : Option Addr) (dl dc : Nat) (sa : Option Addr) (sl sc : Nat) (ea : Option Addr) (el ec : Nat) : Four w s da dl dc sa sl sc ea el ec ((((w.alloc (.cells #[.int .i64 s, .slice da dl dc, .slice sa sl sc] 50)).alloc (.cells #[.slice ea el ec] 22)).alloc (.cells #[.int .i64 0, .slice none 0 0, .slice none 0 0] 50)).alloc (.cells #[.int .i64 0] 34)) := by
  have bE := ((Boxed.new (w.alloc (.cells #[.int .i64 s, .slice da dl dc, .slice sa sl sc] 50)) 22 (.slice ea el ec)).alloc (.cells #[.int .i64 0, .slice none 0 0, .slice none 0 0] 50)).alloc (.cells #[.int .i64 0] 34)
  have bO := (ViewAt.new ((w.alloc (.cells #[.int .i64 s, .slice da dl dc, .slice sa sl sc] 50)).alloc (.cells #[.slice ea el ec] 22)) (.int .i64 0) (.slice none 0 0) (.slice none 0 0)).alloc (.cells #[.int .i64 0] 34)
  have bX := Boxed.new (((w.alloc (.cells #[.int .i64 s, .slice da dl dc, .slice sa sl sc] 50)).alloc (.cells #[.slice ea el ec] 22)).alloc (.cells #[.int .i64 0, .slice none 0 0, .slice none 0 0] 50)) 34 (.int .i64 0)
  simp only [World.size_alloc] at bE bO bX
  exact ⟨bl_alloc (bl_alloc (bl_alloc (bl_alloc (Below.refl _ _)))), (((ViewAt.new w _ _ _).alloc _).alloc _).alloc _, bE, bO, bX⟩
theorem Four.on {w W W' : World} {s : Int} {da : Option Addr} {dl dc : Nat} {sa : Option Addr} {sl sc : Nat} {ea : Option Addr} {el ec : Nat} (h : Four w s da dl dc sa sl sc ea el ec W) (hb : Below W.heap.size W W') : Four w s da dl dc sa sl sc ea el ec W' :=
  ⟨Below.on h.below hb, h.view.below hb, (hb.block _ h.dims.lt).trans h.dims, h.out.below hb, (hb.block _ h.err.lt).trans h.err⟩
/-- What is told without a view. -/
theorem four_end {w W : World} {s : Int} {da : Option Addr} {dl dc : Nat} {sa : Option Addr} {sl sc : Nat} {ea : Option Addr} {el ec : Nat} (h : Four w s da dl dc sa sl sc ea el ec W) (E : Int) :
    ViewAt ((((W.setCell ⟨w.heap.size + 1 + 1, 0, none⟩ (.int .i64 0)).setCell ⟨w.heap.size + 1 + 1, 1, none⟩ (.slice none 0 0)).setCell ⟨w.heap.size + 1 + 1, 2, none⟩ (.slice none 0 0)).setCell ⟨w.heap.size + 1 + 1 + 1, 0, none⟩ (.int .i64 E)) (w.heap.size + 1 + 1) (.int .i64 0) (.slice none 0 0) (.slice none 0 0) ∧
    Boxed ((((W.setCell ⟨w.heap.size + 1 + 1, 0, none⟩ (.int .i64 0)).setCell ⟨w.heap.size + 1 + 1, 1, none⟩ (.slice none 0 0)).setCell ⟨w.heap.size + 1 + 1, 2, none⟩ (.slice none 0 0)).setCell ⟨w.heap.size + 1 + 1 + 1, 0, none⟩ (.int .i64 E)) (w.heap.size + 1 + 1 + 1) 34 (.int .i64 E) ∧
    Below w.heap.size w ((((W.setCell ⟨w.heap.size + 1 + 1, 0, none⟩ (.int .i64 0)).setCell ⟨w.heap.size + 1 + 1, 1, none⟩ (.slice none 0 0)).setCell ⟨w.heap.size + 1 + 1, 2, none⟩ (.slice none 0 0)).setCell ⟨w.heap.size + 1 + 1 + 1, 0, none⟩ (.int .i64 E)) :=
  ⟨(view_put' h.out).set (p := ⟨w.heap.size + 1 + 1 + 1, 0, none⟩) (by simp) _,
   Boxed.set _ (Boxed.kept (Boxed.kept (Boxed.kept h.err (grownBy_setCellA _ _ _) (by simp)) (grownBy_setCellA _ _ _) (by simp)) (grownBy_setCellA _ _ _) (by simp)),
   (below_put h.below (by omega)).setCell (p := ⟨w.heap.size + 1 + 1 + 1, 0, none⟩) (by simp; omega) _⟩

end Go.Proofs.Yteoobeldmicjhaa.V
namespace Go.Proofs.Yteoobeldmicjhaa.V

/-! ### Turning back -/
theorem perm_range : ∀ (n : Nat) (l : List Nat), l.length = n → (∀ k, k < n → k ∈ l) → l.Perm (List.range n)
  | 0, l, h, _ => by
    have : l = [] := List.length_eq_zero_iff.1 h
    subst this; exact List.Perm.refl _
  | n + 1, l, h, hm => by
    obtain ⟨a, b, rfl⟩ := List.append_of_mem (hm n (by omega))
    have hl : (a ++ b).length = n := by simp at h ⊢; omega
    have ih := perm_range n (a ++ b) hl (fun k hk => by
      have := hm k (by omega)
      simp only [List.mem_append, List.mem_cons] at this ⊢
      rcases this with h | rfl | h
      · exact .inl h
      · omega
      · exact .inr h)
    rw [List.range_succ]
    exact List.perm_middle.trans ((List.Perm.cons n ih).trans (List.perm_append_singleton n (List.range n)).symm)
theorem map_getD_range (xs : List Int) : (List.range xs.length).map (fun k => xs[k]?.getD 0) = xs := by
  apply List.ext_getElem?
  intro i
  by_cases hi : i < xs.length
  · simp [hi]
  · rw [List.getElem?_eq_none (by simp; omega), List.getElem?_eq_none (by omega)]
theorem taken_perm {xs ps : List Int} (hp : PermOk ps xs.length) : (taken xs ps).Perm xs := by
  have h1 : (ps.map Int.toNat).Perm (List.range xs.length) := by
    refine perm_range _ _ (by simp [hp.1]) (fun k hk => ?_)
    have := (perm_iff hp.1).1 hp.2 k hk
    simp only [List.mem_map]
    exact ⟨(k : Int), this, by simp⟩
  have h2 := h1.map (fun k => xs[k]?.getD 0)
  rw [map_getD_range] at h2
  have e : taken xs ps = (ps.map Int.toNat).map (fun k => xs[k]?.getD 0) := by simp [taken]
  rw [e]; exact h2
theorem prod_perm {a b : List Int} (h : a.Perm b) : prod a = prod b := by
  induction h with
  | nil => rfl
  | cons x _ ih => rw [prod, prod, ih]
  | swap x y l => simp only [prod]; rw [← Int.mul_assoc, ← Int.mul_assoc, Int.mul_comm y x]
  | trans _ _ ih1 ih2 => rw [ih1, ih2]
theorem any_perm {a b : List Int} (h : a.Perm b) (p : Int → Bool) : a.any p = b.any p := by
  cases hb : b.any p with
  | true =>
    rw [List.any_eq_true] at hb ⊢
    obtain ⟨x, hx, hp⟩ := hb
    exact ⟨x, h.mem_iff.2 hx, hp⟩
  | false =>
    rw [List.any_eq_false] at hb ⊢
    exact fun x hx => hb x (h.mem_iff.1 hx)
theorem sizeE_perm {a b : List Int} (h : a.Perm b) : sizeE a = sizeE b := by
  unfold sizeE
  rw [h.length_eq, any_perm h, prod_perm h]
  by_cases h0 : (0 : Int) ∈ b
  · rw [if_pos h0, if_pos (h.mem_iff.2 h0)]
  · rw [if_neg h0, if_neg (fun e => h0 (h.mem_iff.1 e))]
theorem sizeN_perm {a b : List Int} (h : a.Perm b) : sizeN a = sizeN b := by
  unfold sizeN
  rw [h.length_eq, any_perm h, prod_perm h]
  by_cases h0 : (0 : Int) ∈ b
  · rw [if_pos h0, if_pos (h.mem_iff.2 h0)]
  · rw [if_neg h0, if_neg (fun e => h0 (h.mem_iff.1 e))]
theorem wrong_turn {s : Int} {ds ss ps : List Int} (hW : wrongE s ds ss = 0) (hp : PermOk ps ds.length) : wrongE s (taken ds ps) (taken ss ps) = 0 := by
  obtain ⟨h1, h2, h3⟩ := wrongE_ok hW
  unfold wrongE
  rw [sizeE_perm (taken_perm hp), if_neg (by simp [h1]), taken_length, taken_length, if_neg (by simp), if_neg (by rw [turn_far hW hp h2]; simp)]

/-- Where k stands in the list; the last such place ahead of i. -/
def invN (ps : List Int) : Nat → Nat → Int
  | 0, _ => 0
  | i + 1, k => if ps[i]?.getD 0 = (k : Int) then (i : Int) else invN ps i k
def invL (ps : List Int) : List Int := (List.range ps.length).map (invN ps ps.length)
theorem invN_spec (ps : List Int) (k : Nat) : ∀ n, (∃ i, i < n ∧ ps[i]?.getD 0 = (k : Int)) → ∃ i : Nat, i < n ∧ invN ps n k = (i : Int) ∧ ps[i]?.getD 0 = (k : Int)
  | 0, ⟨i, h, _⟩ => by omega
  | n + 1, ⟨i, h, e⟩ => by
    by_cases c : ps[n]?.getD 0 = (k : Int)
    · exact ⟨n, by omega, by rw [invN, if_pos c], c⟩
    · have : i < n := by
        by_cases h' : i = n
        · subst h'; exact absurd e c
        · omega
      obtain ⟨j, h1, h2, h3⟩ := invN_spec ps k n ⟨i, this, e⟩
      exact ⟨j, by omega, by rw [invN, if_neg c, h2], h3⟩
theorem invL_length (ps : List Int) : (invL ps).length = ps.length := by simp [invL]
theorem invL_getD (ps : List Int) (k : Nat) (h : k < ps.length) : (invL ps)[k]?.getD 0 = invN ps ps.length k := by simp [invL, h]
theorem perm_inj {ps : List Int} {n : Nat} (hp : PermOk ps n) {i j : Nat} (hi : i < n) (hj : j < n) (e : ps[i]?.getD 0 = ps[j]?.getD 0) : i = j := by
  by_cases h1 : i < j
  · exact absurd e ((hp.2 j hj).2.2 i h1)
  · by_cases h2 : j < i
    · exact absurd e.symm ((hp.2 i hi).2.2 j h2)
    · omega
theorem perm_at {ps : List Int} {n : Nat} (hp : PermOk ps n) (k : Nat) (hk : k < n) : ∃ i : Nat, i < n ∧ invN ps n k = (i : Int) ∧ ps[i]?.getD 0 = (k : Int) := by
  have hm := (perm_iff hp.1).1 hp.2 k hk
  obtain ⟨i, hi, e⟩ := List.getElem_of_mem hm
  have hl := hp.1
  exact invN_spec ps k n ⟨i, by omega, by simp [hi, e]⟩
theorem invL_perm {ps : List Int} {n : Nat} (hp : PermOk ps n) : PermOk (invL ps) n := by
  have hl := hp.1
  refine ⟨by rw [invL_length, hl], (perm_iff (by rw [invL_length, hl])).2 fun i hi => ?_⟩
  have hb := hp.2 i hi
  obtain ⟨k, hk⟩ : ∃ k : Nat, ps[i]?.getD 0 = (k : Int) := ⟨(ps[i]?.getD 0).toNat, by omega⟩
  have hkn : k < n := by omega
  obtain ⟨j, h1, h2, h3⟩ := perm_at hp k hkn
  have hij := perm_inj hp hi h1 (hk.trans h3.symm)
  subst hij
  have : (invL ps)[k]?.getD 0 = (i : Int) := by rw [invL_getD ps k (by omega), hl, h2]
  rw [← this]
  exact mem_getD _ k (by rw [invL_length, hl]; exact hkn)
theorem taken_back {xs ps : List Int} (hp : PermOk ps xs.length) : taken (taken xs ps) (invL ps) = xs := by
  have hl := hp.1
  apply List.ext_getElem?
  intro k
  by_cases hk : k < xs.length
  · obtain ⟨i, h1, h2, h3⟩ := perm_at hp k hk
    have e1 : (taken (taken xs ps) (invL ps))[k]?.getD 0 = (taken xs ps)[i]?.getD 0 := taken_getD _ _ k i (by rw [invL_length]; omega) (by rw [invL_getD ps k (by omega), hl, h2])
    have e2 : (taken xs ps)[i]?.getD 0 = xs[k]?.getD 0 := taken_getD _ _ i k (by omega) h3
    have hl1 : k < (taken (taken xs ps) (invL ps)).length := by rw [taken_length, invL_length]; omega
    rw [List.getElem?_eq_getElem hl1, Option.getD_some] at e1
    rw [List.getElem?_eq_getElem hk, Option.getD_some] at e2
    rw [List.getElem?_eq_getElem hl1, List.getElem?_eq_getElem hk, e1, e2]
  · rw [List.getElem?_eq_none (by rw [taken_length, invL_length]; omega), List.getElem?_eq_none (by omega)]
theorem turn_again {s : Int} {ds ss ps : List Int} (h : turnE s ds ss ps = 0) : PermOk ps ds.length ∧ turnE s (taken ds ps) (taken ss ps) (invL ps) = 0 ∧ taken (taken ds ps) (invL ps) = ds ∧ taken (taken ss ps) (invL ps) = ss := by
  have hW : wrongE s ds ss = 0 := by
    unfold turnE at h
    by_cases c : wrongE s ds ss = 0
    · exact c
    · rw [if_pos c] at h; exact absurd h c
  have hp : PermOk ps ds.length := by
    unfold turnE at h
    rw [if_neg (by simp [hW])] at h
    by_cases c : permB ps ds.length = true
    · exact (permB_iff _ _).1 c
    · rw [if_neg c] at h; omega
  have hlen := (wrongE_ok hW).2.1
  refine ⟨hp, ?_, taken_back hp, taken_back (by rw [hlen]; exact hp)⟩
  unfold turnE
  rw [if_neg (by rw [wrong_turn hW hp]; simp), if_pos ((permB_iff _ _).2 (by rw [taken_length, hp.1]; exact invL_perm hp))]

/-! ### Flipping twice -/
theorem flipL_twice (ss ps : List Int) : flipL (flipL ss ps) ps = ss := by
  apply List.ext_getElem?
  intro k
  by_cases hk : k < ss.length
  · have h1 : k < (flipL ss ps).length := by rw [flipL_length]; exact hk
    have h2 : k < (flipL (flipL ss ps) ps).length := by rw [flipL_length]; exact h1
    have e := flipL_getD (flipL ss ps) ps k h1
    rw [flipL_getD ss ps k hk] at e
    rw [List.getElem?_eq_getElem h2, Option.getD_some] at e
    rw [List.getElem?_eq_getElem h2, e, List.getElem?_eq_getElem hk]
    by_cases c : inB ps k = true
    · rw [if_pos c, if_pos c]; simp
    · rw [if_neg c, if_neg c]; simp
  · rw [List.getElem?_eq_none (by rw [flipL_length, flipL_length]; omega), List.getElem?_eq_none (by omega)]
theorem flipTerm_neg {ds ss ps : List Int} {j : Nat} (hj : j < ss.length) (h : inB ps j = true) : flipTerm ds (flipL ss ps) j = -(flipTerm ds ss j) := by
  unfold flipTerm
  rw [flipL_getD ss ps j hj, if_pos h]
  split
  · rw [Int.mul_neg]
  · simp
theorem flipAcc_add (ds ss ps : List Int) : ∀ (i : Nat) (s t : Int), flipAcc (s + t) ds ss ps i = flipAcc s ds ss ps i + t
  | 0, s, t => rfl
  | i + 1, s, t => by rw [flipAcc, flipAcc, flipAcc_add ds ss ps i]; omega
theorem flipAcc_neg {ds ss ps : List Int} {n : Nat} (hl : ss.length = n) (hp : RiseOk ps n) : ∀ (i : Nat) (s : Int), i ≤ ps.length → flipAcc s ds (flipL ss ps) ps i = s - (flipAcc s ds ss ps i - s)
  | 0, s, _ => by simp [flipAcc]
  | i + 1, s, hi => by
    have ih := flipAcc_neg (ds := ds) hl hp i s (by omega)
    have hb := hp i (by omega)
    have hin : inB ps (ps[i]?.getD 0).toNat = true := by
      unfold inB
      rw [List.any_eq_true]
      exact ⟨_, mem_getD ps i (by omega), by simp; omega⟩
    rw [flipAcc, flipAcc, ih, flipTerm_neg (by omega) hin]
    omega
theorem flip_again {s : Int} {ds ss ps : List Int} (h : flipE s ds ss ps = 0) : flipE (flipAcc s ds ss ps ps.length) ds (flipL ss ps) ps = 0 ∧ flipAcc (flipAcc s ds ss ps ps.length) ds (flipL ss ps) ps ps.length = s ∧ flipL (flipL ss ps) ps = ss := by
  have hW : wrongE s ds ss = 0 := by
    unfold flipE at h
    by_cases c : wrongE s ds ss = 0
    · exact c
    · rw [if_pos c] at h; exact absurd h c
  unfold flipE at h
  rw [if_neg (by simp [hW])] at h
  have hp : riseB ps ds.length = true := by
    by_cases c : riseB ps ds.length = true
    · exact c
    · rw [if_neg c] at h; omega
  rw [if_pos hp] at h
  have hbe : beyondB (flipAcc s ds ss ps ps.length) (flipL ss ps) = false := by
    cases c : beyondB (flipAcc s ds ss ps ps.length) (flipL ss ps) with
    | false => rfl
    | true => rw [c] at h; simp at h
  obtain ⟨h1, h2, h3⟩ := wrongE_ok hW
  have hpo := (riseB_iff _ _).1 hp
  have hback : flipAcc (flipAcc s ds ss ps ps.length) ds (flipL ss ps) ps ps.length = s := by
    have e1 := flipAcc_neg (ds := ds) h2 hpo ps.length (flipAcc s ds ss ps ps.length) (Nat.le_refl _)
    have e2 := flipAcc_add ds ss ps ps.length s (flipAcc s ds ss ps ps.length - s)
    rw [show s + (flipAcc s ds ss ps ps.length - s) = flipAcc s ds ss ps ps.length by omega] at e2
    omega
  refine ⟨?_, hback, flipL_twice ss ps⟩
  have hw : wrongE (flipAcc s ds ss ps ps.length) ds (flipL ss ps) = 0 := by
    unfold wrongE
    rw [if_neg (by simp [h1]), if_neg (by rw [flipL_length]; simp [h2]), if_neg (by rw [hbe]; simp)]
  unfold flipE
  rw [if_neg (by simp [hw]), if_pos hp, hback, flipL_twice, if_neg (by rw [h3]; simp)]

/-! ### What lies whole -/
theorem stepsV_cons {d : Int} {ds : List Int} (h : ∀ x ∈ d :: ds, 1 ≤ x) : stepsV (d :: ds) = prod ds :: stepsV ds := by
  have h' : ∀ x ∈ ds, 1 ≤ x := fun x hx => h x (by simp [hx])
  unfold stepsV
  rw [List.length_cons, List.range_succ_eq_map, List.map_cons, List.map_map, stepV_pos h, beh_zero]
  congr 1
  apply List.map_congr_left
  intro k _
  show stepV (d :: ds) (k + 1) = stepV ds k
  rw [stepV_pos h, stepV_pos h', beh_cons]
theorem lieN_whole : ∀ (ds : List Int) (n : Int), (∀ x ∈ ds, 1 ≤ x) → 0 ≤ n → n < prod ds → lieN ds (stepsV ds) n = n
  | [], n, _, h0, h1 => by simp [prod] at h1; simp [lieN]; omega
  | d :: ds, n, h, h0, h1 => by
    have h' : ∀ x ∈ ds, 1 ≤ x := fun x hx => h x (by simp [hx])
    have hP := prod_pos ds h'
    rw [stepsV_cons h, lieN, lieN_whole ds (n % prod ds) h' (Int.emod_nonneg _ (by omega)) (Int.emod_lt_of_pos _ (by omega))]
    have := Int.mul_ediv_add_emod n (prod ds)
    rw [Int.mul_comm]; omega
theorem readsV_whole {ds : List Int} (h : ∀ x ∈ ds, 1 ≤ x) (i : Nat) (hi : i < (prod ds).toNat) : (readsV 0 ds (stepsV ds))[i]?.getD 0 = i := by
  rw [readsV_getD 0 ds _ i hi, lieN_whole ds i h (by omega) (by omega)]; omega
theorem wrong_whole {ds : List Int} (h : sizeE ds = 0) : wrongE 0 ds (stepsV ds) = 0 := by
  unfold wrongE
  rw [if_neg (by simp [h]), if_neg (by rw [stepsV_len]; simp), if_neg ?_]
  have : beyondB 0 (stepsV ds) = false := by
    unfold beyondB
    rw [Bool.or_eq_false_iff]
    refine ⟨by decide, ?_⟩
    rw [List.any_eq_false]
    intro x hx
    simp only [stepsV, List.mem_map, List.mem_range] at hx
    obtain ⟨k, _, rfl⟩ := hx
    have : 0 ≤ stepV ds k ∧ stepV ds k ≤ 65536 := by
      rcases dims_cases h with ⟨h0, _⟩ | ⟨hpos, _, hp, _⟩
      · rw [stepV_zero h0]; omega
      · rw [stepV_pos hpos]
        have := prod_drop_le ds hpos (k + 1)
        unfold beh; omega
    simp [farB]; omega
  rw [this]; simp
theorem reform_whole {ds es : List Int} (h : sizeE ds = 0) : (reformE 0 ds (stepsV ds) es = 0) ↔ (sizeE es = 0 ∧ sizeN ds = sizeN es) := by
  have hNd : sizeN ds = prod ds := by rcases dims_cases h with ⟨_, h1, h2⟩ | ⟨_, h1, _⟩ <;> omega
  unfold reformE
  rw [if_neg (by simp [wrong_whole h])]
  by_cases hE : sizeE es = 0
  · rw [if_neg (by simp [hE])]
    by_cases hN : sizeN es = prod ds
    · rw [if_neg (by simp [hN])]
      have hR : (if prod es = 0 then (0 : Int) else if allEvenB (readsV 0 ds (stepsV ds)) es = true then (if beyondB 0 (reformSteps (readsV 0 ds (stepsV ds)) es) = true then 5 else 0) else 9) = 0 := by
        by_cases h0 : prod es = 0
        · rw [if_pos h0]
        rw [if_neg h0]
        obtain ⟨hpe, hne, hp2, hp3⟩ : (∀ x ∈ es, 1 ≤ x) ∧ sizeN es = prod es ∧ prod es ≤ 65536 ∧ 1 ≤ prod es := by
          rcases dims_cases hE with ⟨_, _, h2⟩ | h2
          · exact absurd h2 h0
          · exact h2
        have hpd : ∀ x ∈ ds, 1 ≤ x := by
          rcases dims_cases h with ⟨_, _, h2⟩ | ⟨h2, _⟩
          · omega
          · exact h2
        have hlen : (readsV 0 ds (stepsV ds)).length = (prod ds).toNat := readsV_length _ _ _
        have key : ∀ k, k < es.length → EvenP (readsV 0 ds (stepsV ds)) (es[k]?.getD 0).toNat (beh es k).toNat ∧ 0 ≤ stepE (readsV 0 ds (stepsV ds)) (es[k]?.getD 0).toNat (beh es k).toNat ∧ stepE (readsV 0 ds (stepsV ds)) (es[k]?.getD 0).toNat (beh es k).toNat ≤ 65536 := by
          intro k hk
          have hB := beh_pos hpe k
          have hD := getD_pos hpe hk
          obtain ⟨B, hBn⟩ : ∃ B : Nat, beh es k = (B : Int) := ⟨(beh es k).toNat, by omega⟩
          obtain ⟨D, hDn⟩ : ∃ D : Nat, es[k]?.getD 0 = (D : Int) := ⟨(es[k]?.getD 0).toNat, by omega⟩
          rw [hBn, hDn, Int.toNat_natCast, Int.toNat_natCast]
          by_cases hD1 : D = 1
          · refine ⟨.inl hD1, ?_⟩
            unfold stepE; rw [if_pos hD1]; omega
          have hDB : D * B ≤ (prod ds).toNat := by
            have e := prod_drop es k hk
            have h3 := (prod_drop_le es hpe k).2
            have h4 : beh es k = prod (es.drop (k + 1)) := rfl
            rw [← h4, hBn, hDn, ← Int.natCast_mul] at e
            omega
          have hBl : B < (prod ds).toNat := by
            have : B * 1 < B * D := Nat.mul_lt_mul_of_pos_left (by omega) (by omega)
            rw [Nat.mul_comm B D] at this
            omega
          have eB := readsV_whole hpd B hBl
          have e0 := readsV_whole hpd 0 (by omega)
          refine ⟨.inr fun p hp hc => ?_, ?_⟩
          · rw [hlen] at hp
            have hle : p % (D * B) ≤ p := Nat.mod_le _ _
            rw [readsV_whole hpd p hp, readsV_whole hpd (p - B) (by omega), eB, e0]
            omega
          · unfold stepE; rw [if_neg hD1, eB, e0]; omega
        rw [if_pos ((allEvenB_iff _ _).2 fun k hk => (key k hk).1), if_neg ?_]
        have : beyondB 0 (reformSteps (readsV 0 ds (stepsV ds)) es) = false := by
          unfold beyondB
          rw [Bool.or_eq_false_iff]
          refine ⟨by decide, ?_⟩
          rw [List.any_eq_false]
          intro x hx
          simp only [reformSteps, List.mem_map, List.mem_range] at hx
          obtain ⟨k, hk, rfl⟩ := hx
          have := (key k hk).2
          simp [farB]; omega
        rw [this]; simp
      rw [hR]
      simp [hE, hN, hNd]
    · rw [if_pos hN]
      constructor
      · intro h6; omega
      · rintro ⟨_, h2⟩; omega
  · rw [if_pos hE]
    constructor
    · intro h6; exact absurd h6 hE
    · rintro ⟨h1, _⟩; exact absurd h1 hE
end Go.Proofs.Yteoobeldmicjhaa.V
namespace Go.Proofs.Yteoobeldmicjhaa.V
open Go.RowKit

def keptN (l h t : Int) : Int := (h - l + t - 1) / t
def badCut (d l h t : Int) : Bool := decide (l < 0) || (decide (h < l) || (decide (d < h) || (decide (t < 1) || decide (4096 < t))))
def badAt (ds lo hi st : List Int) (j : Nat) : Bool := badCut (ds[j]?.getD 0) (lo[j]?.getD 0) (hi[j]?.getD 0) (st[j]?.getD 0)
def anyBad (ds lo hi st : List Int) : Bool := (List.range ds.length).any (badAt ds lo hi st)
def cutAcc (s : Int) (ss lo : List Int) : Nat → Int
  | 0 => s
  | k + 1 => cutAcc s ss lo k + lo[k]?.getD 0 * ss[k]?.getD 0
def cutD (ds lo hi st : List Int) : List Int := (List.range ds.length).map fun j => keptN (lo[j]?.getD 0) (hi[j]?.getD 0) (st[j]?.getD 0)
def cutS (ss st : List Int) : List Int := (List.range ss.length).map fun j => st[j]?.getD 0 * ss[j]?.getD 0
theorem cutD_length (ds lo hi st : List Int) : (cutD ds lo hi st).length = ds.length := by simp [cutD]
theorem cutS_length (ss st : List Int) : (cutS ss st).length = ss.length := by simp [cutS]
theorem cutD_getD (ds lo hi st : List Int) (j : Nat) (h : j < ds.length) : (cutD ds lo hi st)[j]?.getD 0 = keptN (lo[j]?.getD 0) (hi[j]?.getD 0) (st[j]?.getD 0) := by simp [cutD, h]
theorem cutS_getD (ss st : List Int) (j : Nat) (h : j < ss.length) : (cutS ss st)[j]?.getD 0 = st[j]?.getD 0 * ss[j]?.getD 0 := by simp [cutS, h]
theorem badCut_false {d l h t : Int} (hb : badCut d l h t = false) : 0 ≤ l ∧ l ≤ h ∧ h ≤ d ∧ 1 ≤ t ∧ t ≤ 4096 := by
  simp [badCut] at hb
  omega
theorem badCut_t {d l h t : Int} (hb : l < 0 ∨ h < l ∨ d < h ∨ t < 1 ∨ 4096 < t) : badCut d l h t = true := by
  simp [badCut]; omega
theorem badCut_f {d l h t : Int} (hb : 0 ≤ l ∧ l ≤ h ∧ h ≤ d ∧ 1 ≤ t ∧ t ≤ 4096) : badCut d l h t = false := by
  simp [badCut]; omega
theorem anyBad_false {ds lo hi st : List Int} (h : ∀ j, j < ds.length → badAt ds lo hi st j = false) : anyBad ds lo hi st = false := by
  unfold anyBad
  rw [List.any_eq_false]
  intro j hj
  rw [h j (List.mem_range.1 hj)]; simp
theorem anyBad_true {ds lo hi st : List Int} (k : Nat) (hk : k < ds.length) (h : badAt ds lo hi st k = true) : anyBad ds lo hi st = true := by
  unfold anyBad
  rw [List.any_eq_true]
  exact ⟨k, List.mem_range.2 hk, h⟩
theorem of_anyBad_false {ds lo hi st : List Int} (h : anyBad ds lo hi st = false) (j : Nat) (hj : j < ds.length) : badAt ds lo hi st j = false := by
  unfold anyBad at h
  rw [List.any_eq_false] at h
  have := h j (List.mem_range.2 hj)
  simpa using this
theorem kept_bd {l h t : Int} (h1 : 0 ≤ l) (h2 : l ≤ h) (h4 : 1 ≤ t) : 0 ≤ keptN l h t ∧ keptN l h t ≤ h - l := by
  unfold keptN
  refine ⟨Int.ediv_nonneg (by omega) (by omega), ?_⟩
  by_cases e : h = l
  · subst e
    rw [Int.ediv_eq_zero_of_lt (by omega) (by omega)]; omega
  · have : (h - l + t - 1) / t < h - l + 1 := by
      apply Int.ediv_lt_of_lt_mul (by omega)
      have : (h - l + 1) * t = (h - l) * t + t := by rw [Int.add_mul, Int.one_mul]
      have h5 : (h - l) * 1 ≤ (h - l) * t := Int.mul_le_mul_of_nonneg_left h4 (by omega)
      omega
    omega
theorem mul4096_bd {d x : Int} (h1 : 0 ≤ d ∧ d ≤ 4096) (h2 : -1099511627776 ≤ x ∧ x ≤ 1099511627776) : -4503599627370496 ≤ d * x ∧ d * x ≤ 4503599627370496 := by
  have a1 : d * x ≤ d * 1099511627776 := Int.mul_le_mul_of_nonneg_left h2.2 h1.1
  have a2 : d * -1099511627776 ≤ d * x := Int.mul_le_mul_of_nonneg_left h2.1 h1.1
  omega
theorem cutAcc_bd {s : Int} {ds ss : List Int} (h : Small s ds ss) (lo hi st : List Int) : ∀ k, k ≤ ds.length → (∀ j, j < k → badAt ds lo hi st j = false) → -(1099511627776 + 4503599627370496 * (k : Int)) ≤ cutAcc s ss lo k ∧ cutAcc s ss lo k ≤ 1099511627776 + 4503599627370496 * (k : Int)
  | 0, _, _ => by have := h.start; simp [cutAcc]; omega
  | k + 1, hk, hb => by
    have h1 := cutAcc_bd h lo hi st k (by omega) (fun j hj => hb j (by omega))
    have h2 := badCut_false (hb k (by omega))
    have h3 := h.dims _ (mem_getD ds k (by omega))
    have h4 := h.steps _ (mem_getD ss k (by rw [h.len]; omega))
    have h5 := mul4096_bd (d := lo[k]?.getD 0) ⟨by omega, by omega⟩ h4
    rw [cutAcc]; omega
theorem cutD_bd {s : Int} {ds ss : List Int} (h : Small s ds ss) {lo hi st : List Int} (hb : anyBad ds lo hi st = false) : ∀ x ∈ cutD ds lo hi st, 0 ≤ x ∧ x ≤ 4096 := by
  intro x hx
  simp only [cutD, List.mem_map, List.mem_range] at hx
  obtain ⟨j, hj, rfl⟩ := hx
  have h1 := badCut_false (of_anyBad_false hb j hj)
  have h2 := h.dims _ (mem_getD ds j hj)
  have h3 := kept_bd h1.1 h1.2.1 h1.2.2.2.1
  omega
theorem cutS_bd {s : Int} {ds ss : List Int} (h : Small s ds ss) {lo hi st : List Int} (hb : anyBad ds lo hi st = false) : ∀ x ∈ cutS ss st, -9223372036854775808 ≤ x ∧ x ≤ 9223372036854775807 := by
  intro x hx
  simp only [cutS, List.mem_map, List.mem_range] at hx
  obtain ⟨j, hj, rfl⟩ := hx
  have h1 := badCut_false (of_anyBad_false hb j (by rw [← h.len]; exact hj))
  have h2 := mul4096_bd ⟨by omega, h1.2.2.2.2⟩ (h.steps _ (mem_getD ss j hj))
  omega

def CutPost (w : World) (da : Option Addr) (s : Int) (dl : Nat) (ds ss lo hi st : List Int) (e : Ending) (w' : World) : Prop := if anyBad ds lo hi st = true then GivesF w da e w' 0 [] [] 4 else if beyondB (cutAcc s ss lo dl) (cutS ss st) = true then GivesF w da e w' 0 [] [] 5 else GivesF w da e w' (cutAcc s ss lo dl) (cutD ds lo hi st) (cutS ss st) 0
theorem below_drewN' {w w' : World} (h : Below w.heap.size w w') (n : Nat) : Below w.heap.size w (w'.drewN n) := Below.on h (below_drewN _ n)

set_option maxRecDepth 100000 in
set_option maxHeartbeats 4000000 in
theorem cut_ok (s : Int) (da : Option Addr) (dl dc : Nat) (ds : List Int) (sa : Option Addr) (sc : Nat) (ss : List Int) (la : Option Addr) (lc : Nat) (lo : List Int) (ha : Option Addr) (hc : Nat) (hi : List Int) (ta : Option Addr) (tc : Nat) (st : List Int) (w : World)
    (hd : Ints w da dl ds) (hs : Ints w sa dl ss) (hl : Ints w la dl lo) (hh : Ints w ha dl hi) (ht : Ints w ta dl st) (hW : wrongE s ds ss = 0) (h6 : dl ≤ 6) :
    Calls Try.prog 42 #[.agg #[.int .i64 s, .slice da dl dc, .slice sa dl sc], .slice la dl lc, .slice ha dl hc, .slice ta dl tc] w fun e w' => CutPost w da s dl ds ss lo hi st e w' ∧ Below w.heap.size w w' := by
  have HSM := hide (small_of hW)
  have HD := hide hd
  have HS := hide hs
  have HL := hide hl
  have HH := hide hh
  have HT := hide ht
  have HW := hide hW
  clear hd hs hl hh ht hW
  have hb2 : Below w.heap.size w ((w.alloc (.cells #[.int .i64 s, .slice da dl dc, .slice sa dl sc] 50)).alloc (.cells #[.int .i64 0, .slice none 0 0, .slice none 0 0] 50)) := ((Below.refl _ _).alloc (Nat.le_refl _) _).alloc (by simp) _
  have HB2 := hide hb2
  clear hb2
  go_enter Try.func42, Try.ntmps42
  go_wp2_with fail
  refine (wrong_any _ _ _ _ ds _ _ _ ss _ (HD.out.below HB2.out) (HS.out.below HB2.out)).mono ?_
  rintro e w1 ⟨rfl, hb⟩
  rw [HW.out]
  have HB := hide (Below.on HB2.out hb)
  have hV1 : ViewAt w1 w.heap.size (.int .i64 s) (.slice da dl dc) (.slice sa dl sc) := ((ViewAt.new w _ _ _).alloc _).below hb
  have hR1 : ViewAt w1 (w.heap.size + 1) (.int .i64 0) (.slice none 0 0) (.slice none 0 0) := by
    have := (ViewAt.new (w.alloc (.cells #[.int .i64 s, .slice da dl dc, .slice sa dl sc] 50)) (.int .i64 0) (.slice none 0 0) (.slice none 0 0)).below hb
    simpa using this
  have HV1 := hide hV1
  have HR1 := hide hR1
  obtain ⟨⟨v0, v1, v2⟩, _⟩ := hV1.cells
  clear hb hV1 hR1
  go_wp2_with fail
  refine (blank_any _ _ _ _ ds _ (HD.out.below HB.out) h6).mono ?_
  rintro e w3 ⟨⟨g1, g2, rfl, ⟨hr1, hr2⟩, hne, hg1, hg2⟩, hb⟩
  have HBb := hide (Below.on HB.out hb)
  have HV3 := hide (HV1.out.below hb)
  have HR3 := hide (HR1.out.below hb)
  have HR1' := hide hr1
  have HR2' := hide hr2
  have hlt1 := hr1.lt
  have hlt2 := hr2.lt
  have hsz := HR1.out.lt
  have hv3 := HV3.out.lt
  obtain ⟨⟨v0', v1', v2'⟩, _⟩ := HV3.out.cells
  clear hb hr1 hr2 v0 v1 v2
  go_wp2_with fail
  go_loopw [49] (fun i wr => ∃ k : Nat, k ≤ dl ∧ i = .int .i64 k ∧ (∀ j, j < k → badAt ds lo hi st j = false) ∧ (wr.rowIs g1 3 dl (onWay (cutD ds lo hi st) ds k) ∧ wr.rowIs g2 3 dl (onWay (cutS ss st) [] k)) ∧ (ViewAt wr w.heap.size (.int .i64 s) (.slice da dl dc) (.slice sa dl sc) ∧ ViewAt wr (w.heap.size + 1) (.int .i64 0) (.slice none 0 0) (.slice none 0 0) ∧ ViewAt wr w3.heap.size (.int .i64 (cutAcc s ss lo k)) (.slice (some ⟨g1, 0, none⟩) dl dl) (.slice (some ⟨g2, 0, none⟩) dl dl)) ∧ Below w.heap.size w wr) (fun i _ => dl - (intOf i).toNat)
  case atStart =>
    refine ⟨0, Nat.zero_le _, rfl, by simp, ⟨onWay_zero (HR1'.out.alloc _), ?_⟩, ⟨HV3.out.alloc _, HR3.out.alloc _, ViewAt.new w3 _ _ _⟩, HBb.out.alloc HBb.out.size _⟩
    exact (HR2'.out.alloc _).congr (fun j _ => by simp [onWay])
  case round =>
    obtain ⟨k, hk, rfl, hgood, ⟨hr1, hr2⟩, ⟨hv, hrr, ho⟩, hB⟩ := hrel
    have HGD := hide hgood
    have HQ1 := hide hr1
    have HQ2 := hide hr2
    have HV := hide hv
    have HRR := hide hrr
    have HO := hide ho
    have HBw := hide hB
    clear hgood hr1 hr2 hv hrr ho hB v0' v1' v2'
    by_cases hlt : k < dl
    · obtain ⟨db, doff, rfl, hdb, hdc⟩ := HD.out.at (by omega)
      obtain ⟨sb, soff, rfl, hsb, hsc⟩ := HS.out.at (by omega)
      obtain ⟨lb, loff, rfl, hlb, hlc⟩ := HL.out.at (by omega)
      obtain ⟨hb, hoff, rfl, hhb, hhc⟩ := HH.out.at (by omega)
      obtain ⟨tb, toff, rfl, htb, htc⟩ := HT.out.at (by omega)
      obtain ⟨X, hX⟩ : ∃ X, X = ds[k]?.getD 0 := ⟨_, rfl⟩
      obtain ⟨T, hT⟩ : ∃ T, T = ss[k]?.getD 0 := ⟨_, rfl⟩
      obtain ⟨L, hL⟩ : ∃ L, L = lo[k]?.getD 0 := ⟨_, rfl⟩
      obtain ⟨U, hU⟩ : ∃ U, U = hi[k]?.getD 0 := ⟨_, rfl⟩
      obtain ⟨S, hS⟩ : ∃ S, S = st[k]?.getD 0 := ⟨_, rfl⟩
      obtain ⟨A, hA⟩ : ∃ A, A = cutAcc s ss lo k := ⟨_, rfl⟩
      have cd : wr.cell? ⟨db, doff + k, none⟩ = some (.int .i64 X) := by rw [hX]; exact (HBw.out.cell (p := ⟨db, doff + k, none⟩) hdb).trans (hdc k hlt)
      have cs : wr.cell? ⟨sb, soff + k, none⟩ = some (.int .i64 T) := by rw [hT]; exact (HBw.out.cell (p := ⟨sb, soff + k, none⟩) hsb).trans (hsc k hlt)
      have cl : wr.cell? ⟨lb, loff + k, none⟩ = some (.int .i64 L) := by rw [hL]; exact (HBw.out.cell (p := ⟨lb, loff + k, none⟩) hlb).trans (hlc k hlt)
      have ch : wr.cell? ⟨hb, hoff + k, none⟩ = some (.int .i64 U) := by rw [hU]; exact (HBw.out.cell (p := ⟨hb, hoff + k, none⟩) hhb).trans (hhc k hlt)
      have ct : wr.cell? ⟨tb, toff + k, none⟩ = some (.int .i64 S) := by rw [hS]; exact (HBw.out.cell (p := ⟨tb, toff + k, none⟩) htb).trans (htc k hlt)
      have HDC := hide (hdc k hlt)
      have HSC := hide (hsc k hlt)
      have HLC := hide (hlc k hlt)
      have HHC := hide (hhc k hlt)
      have HTC := hide (htc k hlt)
      have HX := hide hX
      have HTe := hide hT
      have HLe := hide hL
      have HU := hide hU
      have HSe := hide hS
      have HA := hide hA
      have hbad : badAt ds lo hi st k = badCut X L U S := by rw [badAt, ← hX, ← hL, ← hU, ← hS]
      have HBAD := hide hbad
      rw [← hA] at HO
      obtain ⟨⟨v0, v1, v2⟩, _⟩ := HV.out.cells
      obtain ⟨⟨o0, o1, o2⟩, p0, p1, p2⟩ := HO.out.cells
      have i1 : (0 : Int) ≤ (k : Int) := Int.natCast_nonneg _
      have i2 : (k : Int) < (dl : Int) := by omega
      clear hdc hsc hlc hhc htc hX hT hL hU hS hA hbad
      go_wp2_with fail
      go_cut [91] (fun v wc => v = .bool (badCut X L U S) ∧ (wc.rowIs g1 3 dl (onWay (cutD ds lo hi st) ds k) ∧ wc.rowIs g2 3 dl (onWay (cutS ss st) [] k)) ∧ (ViewAt wc w.heap.size (.int .i64 s) (.slice (some ⟨db, doff, none⟩) dl dc) (.slice (some ⟨sb, soff, none⟩) dl sc) ∧ ViewAt wc (w.heap.size + 1) (.int .i64 0) (.slice none 0 0) (.slice none 0 0) ∧ ViewAt wc w3.heap.size (.int .i64 A) (.slice (some ⟨g1, 0, none⟩) dl dl) (.slice (some ⟨g2, 0, none⟩) dl dl)) ∧ Below w.heap.size w wc)
      case first =>
        by_cases t1 : L < 0
        · have t1' : decide (L < 0) = true := by simp [t1]
          go_quiet (fail)
          go_wp2
          go_meet
          exact ⟨by rw [badCut_t (by omega)], ⟨HQ1.out, HQ2.out⟩, ⟨HV.out, HRR.out, HO.out⟩, below_drewN' HBw.out _⟩
        have t1' : decide (L < 0) = false := by simp; omega
        by_cases t2 : U < L
        · have t2' : decide (U < L) = true := by simp [t2]
          go_quiet (fail)
          go_wp2
          go_meet
          exact ⟨by rw [badCut_t (by omega)], ⟨HQ1.out, HQ2.out⟩, ⟨HV.out, HRR.out, HO.out⟩, below_drewN' HBw.out _⟩
        have t2' : decide (U < L) = false := by simp; omega
        by_cases t3 : X < U
        · have t3' : decide (X < U) = true := by simp [t3]
          go_quiet (fail)
          go_wp2
          go_meet
          exact ⟨by rw [badCut_t (by omega)], ⟨HQ1.out, HQ2.out⟩, ⟨HV.out, HRR.out, HO.out⟩, below_drewN' HBw.out _⟩
        have t3' : decide (X < U) = false := by simp; omega
        by_cases t4 : S < 1
        · have t4' : decide (S < 1) = true := by simp [t4]
          go_quiet (fail)
          go_wp2
          go_meet
          exact ⟨by rw [badCut_t (by omega)], ⟨HQ1.out, HQ2.out⟩, ⟨HV.out, HRR.out, HO.out⟩, below_drewN' HBw.out _⟩
        have t4' : decide (S < 1) = false := by simp; omega
        by_cases t5 : 4096 < S
        · have t5' : decide (4096 < S) = true := by simp [t5]
          go_quiet (fail)
          go_wp2
          go_meet
          exact ⟨by rw [badCut_t (by omega)], ⟨HQ1.out, HQ2.out⟩, ⟨HV.out, HRR.out, HO.out⟩, below_drewN' HBw.out _⟩
        have t5' : decide (4096 < S) = false := by simp; omega
        go_quiet (fail)
        go_wp2
        go_meet
        exact ⟨by rw [badCut_f (by omega)], ⟨HQ1.out, HQ2.out⟩, ⟨HV.out, HRR.out, HO.out⟩, below_drewN' HBw.out _⟩
      case rest =>
        obtain ⟨rfl, ⟨hr1, hr2⟩, ⟨hv, hrr, ho⟩, hB⟩ := hcut
        clear cd cs cl ch ct v0 v1 v2 o0 o1 o2 p0 p1 p2 HQ1 HQ2 HV HRR HO HBw
        have HQ1 := hide hr1
        have HQ2 := hide hr2
        have HV := hide hv
        have HRR := hide hrr
        have HO := hide ho
        have HBw := hide hB
        clear hr1 hr2 hv hrr ho hB
        cases hbc : badCut X L U S with
        | true =>
          obtain ⟨⟨r0, r1, r2⟩, rf0, rf1, rf2⟩ := HRR.out.cells
          have HBC := hide hbc
          clear hbc
          go_wp2
          refine bodyPost_ret (v := .tuple #[.agg #[.int .i64 0, .slice none 0 0, .slice none 0 0], .int .i64 4]) (by simp [results, Try.results42, go_sem, r0, r1, r2]) rfl ⟨?_, below_put HBw.out (by omega)⟩
          rw [CutPost, if_pos (anyBad_true k (by rw [HD.out.1]; exact hlt) (by rw [HBAD.out, HBC.out]))]
          exact givesF_none _ _ _ _
        | false =>
          have hbf := badCut_false hbc
          have HBC := hide hbc
          have hx4 : X ≤ 4096 := by rw [HX.out]; exact (HSM.out.dims _ (mem_getD ds k (by have := HD.out.1; omega))).2
          have b2 : -1099511627776 ≤ T ∧ T ≤ 1099511627776 := by rw [HTe.out]; exact HSM.out.steps _ (mem_getD ss k (by have := HS.out.1; omega))
          have b3 := cutAcc_bd HSM.out lo hi st k (by have := HD.out.1; omega) HGD.out
          rw [← HA.out] at b3
          have bP := mul4096_bd (d := L) (x := T) ⟨by omega, by omega⟩ b2
          have bQ := mul4096_bd (d := S) (x := T) ⟨by omega, by omega⟩ b2
          obtain ⟨P, hP⟩ : ∃ P, P = L * T := ⟨_, rfl⟩
          have kb := kept_bd (h := U) hbf.1 hbf.2.1 hbf.2.2.2.1
          have w1' : IntKind.i64.wrap (L * T) = P := by rw [hP]; exact wrap_in _ (by omega) (by omega)
          rw [← hP] at bP
          have w2' : IntKind.i64.wrap (A + P) = A + P := wrap_in _ (by omega) (by omega)
          have w3' : IntKind.i64.wrap (U - L) = U - L := wrap_in _ (by omega) (by omega)
          have w4' : IntKind.i64.wrap (U - L + S) = U - L + S := wrap_in _ (by omega) (by omega)
          have w5' : IntKind.i64.wrap (U - L + S - 1) = U - L + S - 1 := wrap_in _ (by omega) (by omega)
          have w6' : IntKind.i64.wrap ((U - L + S - 1).tdiv S) = keptN L U S := by
            rw [Int.tdiv_eq_ediv_of_nonneg (by omega)]; exact wrap_in _ (by unfold keptN at kb; omega) (by unfold keptN at kb; omega)
          have w7' : IntKind.i64.wrap (S * T) = S * T := wrap_in _ (by omega) (by omega)
          have hz' : ¬ S = 0 := by omega
          have cd : wc.cell? ⟨db, doff + k, none⟩ = some (.int .i64 X) := by rw [HX.out]; exact (HBw.out.cell (p := ⟨db, doff + k, none⟩) hdb).trans HDC.out
          have cs : wc.cell? ⟨sb, soff + k, none⟩ = some (.int .i64 T) := by rw [HTe.out]; exact (HBw.out.cell (p := ⟨sb, soff + k, none⟩) hsb).trans HSC.out
          have cl : wc.cell? ⟨lb, loff + k, none⟩ = some (.int .i64 L) := by rw [HLe.out]; exact (HBw.out.cell (p := ⟨lb, loff + k, none⟩) hlb).trans HLC.out
          have ch : wc.cell? ⟨hb, hoff + k, none⟩ = some (.int .i64 U) := by rw [HU.out]; exact (HBw.out.cell (p := ⟨hb, hoff + k, none⟩) hhb).trans HHC.out
          have ct : wc.cell? ⟨tb, toff + k, none⟩ = some (.int .i64 S) := by rw [HSe.out]; exact (HBw.out.cell (p := ⟨tb, toff + k, none⟩) htb).trans HTC.out
          obtain ⟨⟨v0, v1, v2⟩, _⟩ := HV.out.cells
          obtain ⟨⟨o0, o1, o2⟩, p0, p1, p2⟩ := HO.out.cells
          have c1 := HQ1.out.cell hlt
          have f1 := HQ1.out.frozen k
          have c2 := HQ2.out.cell hlt
          have f2 := HQ2.out.frozen k
          have HP := hide hP
          clear cd hbc hbf hx4 kb hP bP bQ b3 b2
          go_wp2_with fail
          go_cut [] (fun wd => (wd.rowIs g1 3 dl (onWay (cutD ds lo hi st) ds k) ∧ wd.rowIs g2 3 dl (onWay (cutS ss st) [] k)) ∧ (ViewAt wd w.heap.size (.int .i64 s) (.slice (some ⟨db, doff, none⟩) dl dc) (.slice (some ⟨sb, soff, none⟩) dl sc) ∧ ViewAt wd (w.heap.size + 1) (.int .i64 0) (.slice none 0 0) (.slice none 0 0) ∧ ViewAt wd w3.heap.size (.int .i64 (A + P)) (.slice (some ⟨g1, 0, none⟩) dl dl) (.slice (some ⟨g2, 0, none⟩) dl dl)) ∧ Below w.heap.size w wd)
          case first =>
            go_region
            go_wp2
            go_meet
            refine ⟨⟨?_, ?_⟩, ⟨?_, ?_, ?_⟩, ?_⟩
            · exact (HQ1.out.setOther (a := ⟨w3.heap.size, 0, none⟩) (by simp; omega) _).drew
            · exact (HQ2.out.setOther (a := ⟨w3.heap.size, 0, none⟩) (by simp; omega) _).drew
            · exact HV.out.set (p := ⟨w3.heap.size, 0, none⟩) (by simp; omega) _
            · exact HRR.out.set (p := ⟨w3.heap.size, 0, none⟩) (by simp; omega) _
            · exact HO.out.set0 _
            · exact (HBw.out.setCell (p := ⟨w3.heap.size, 0, none⟩) (by simp; omega) _).drew
          case rest =>
            obtain ⟨⟨hr1, hr2⟩, ⟨hv, hrr, ho⟩, hB⟩ := hcut
            clear cs cl ch ct v0 v1 v2 o0 o1 o2 p0 p1 p2 c1 f1 c2 f2 HQ1 HQ2 HV HRR HO HBw
            have HQ1 := hide hr1
            have HQ2 := hide hr2
            have HV := hide hv
            have HRR := hide hrr
            have HO := hide ho
            have HBw := hide hB
            clear hr1 hr2 hv hrr ho hB
            have cs : wc.cell? ⟨sb, soff + k, none⟩ = some (.int .i64 T) := by rw [HTe.out]; exact (HBw.out.cell (p := ⟨sb, soff + k, none⟩) hsb).trans HSC.out
            have cl : wc.cell? ⟨lb, loff + k, none⟩ = some (.int .i64 L) := by rw [HLe.out]; exact (HBw.out.cell (p := ⟨lb, loff + k, none⟩) hlb).trans HLC.out
            have ch : wc.cell? ⟨hb, hoff + k, none⟩ = some (.int .i64 U) := by rw [HU.out]; exact (HBw.out.cell (p := ⟨hb, hoff + k, none⟩) hhb).trans HHC.out
            have ct : wc.cell? ⟨tb, toff + k, none⟩ = some (.int .i64 S) := by rw [HSe.out]; exact (HBw.out.cell (p := ⟨tb, toff + k, none⟩) htb).trans HTC.out
            obtain ⟨⟨v0, v1, v2⟩, _⟩ := HV.out.cells
            obtain ⟨⟨o0, o1, o2⟩, p0, p1, p2⟩ := HO.out.cells
            have c1 := HQ1.out.cell hlt
            have f1 := HQ1.out.frozen k
            have c2 := HQ2.out.cell hlt
            have f2 := HQ2.out.frozen k
            go_wp2_with fail
            go_cut [] (fun wd => (wd.rowIs g1 3 dl (onWay (cutD ds lo hi st) ds (k + 1)) ∧ wd.rowIs g2 3 dl (onWay (cutS ss st) [] k)) ∧ (ViewAt wd w.heap.size (.int .i64 s) (.slice (some ⟨db, doff, none⟩) dl dc) (.slice (some ⟨sb, soff, none⟩) dl sc) ∧ ViewAt wd (w.heap.size + 1) (.int .i64 0) (.slice none 0 0) (.slice none 0 0) ∧ ViewAt wd w3.heap.size (.int .i64 (A + P)) (.slice (some ⟨g1, 0, none⟩) dl dl) (.slice (some ⟨g2, 0, none⟩) dl dl)) ∧ Below w.heap.size w wd)
            case first =>
              go_region
              go_wp2
              go_meet
              refine ⟨⟨?_, ?_⟩, ⟨?_, ?_, ?_⟩, ?_⟩
              · refine (HQ1.out.set k (.int .i64 (keptN L U S))).drew.congr (fun j _ => ?_)
                rw [HLe.out, HU.out, HSe.out, ← cutD_getD ds lo hi st k (by rw [HD.out.1]; exact hlt)]; exact onWay_succ _ _ k j
              · exact (HQ2.out.setOther (a := ⟨g1, k, none⟩) (Ne.symm hne) _).drew
              · exact HV.out.set (p := ⟨g1, k, none⟩) (by simp; omega) _
              · exact HRR.out.set (p := ⟨g1, k, none⟩) (by simp; omega) _
              · exact HO.out.set (p := ⟨g1, k, none⟩) (by simp; omega) _
              · exact (HBw.out.setCell (p := ⟨g1, k, none⟩) (by simp; omega) _).drew
            case rest =>
              obtain ⟨⟨hr1, hr2⟩, ⟨hv, hrr, ho⟩, hB⟩ := hcut
              clear cs cl ch ct v0 v1 v2 o0 o1 o2 p0 p1 p2 c1 f1 c2 f2 HQ1 HQ2 HV HRR HO HBw
              have HQ1 := hide hr1
              have HQ2 := hide hr2
              have HV := hide hv
              have HRR := hide hrr
              have HO := hide ho
              have HBw := hide hB
              clear hr1 hr2 hv hrr ho hB
              have cs : wc.cell? ⟨sb, soff + k, none⟩ = some (.int .i64 T) := by rw [HTe.out]; exact (HBw.out.cell (p := ⟨sb, soff + k, none⟩) hsb).trans HSC.out
              have cl : wc.cell? ⟨lb, loff + k, none⟩ = some (.int .i64 L) := by rw [HLe.out]; exact (HBw.out.cell (p := ⟨lb, loff + k, none⟩) hlb).trans HLC.out
              have ch : wc.cell? ⟨hb, hoff + k, none⟩ = some (.int .i64 U) := by rw [HU.out]; exact (HBw.out.cell (p := ⟨hb, hoff + k, none⟩) hhb).trans HHC.out
              have ct : wc.cell? ⟨tb, toff + k, none⟩ = some (.int .i64 S) := by rw [HSe.out]; exact (HBw.out.cell (p := ⟨tb, toff + k, none⟩) htb).trans HTC.out
              obtain ⟨⟨v0, v1, v2⟩, _⟩ := HV.out.cells
              obtain ⟨⟨o0, o1, o2⟩, p0, p1, p2⟩ := HO.out.cells
              have c1 := HQ1.out.cell hlt
              have f1 := HQ1.out.frozen k
              have c2 := HQ2.out.cell hlt
              have f2 := HQ2.out.frozen k
              go_wp2_with fail
              go_region
              go_wp2
              go_roundw
              case measure => simp [intOf]; omega
              case rel =>
                refine ⟨k + 1, by omega, by go_num, ?_, ⟨?_, ?_⟩, ⟨?_, ?_, ?_⟩, ?_⟩
                · intro j hj
                  by_cases e : j = k
                  · subst e; rw [HBAD.out, HBC.out]
                  · exact HGD.out j (by omega)
                · exact (HQ1.out.setOther (a := ⟨g2, k, none⟩) hne _).drew
                · refine (HQ2.out.set k (.int .i64 (S * T))).drew.congr (fun j _ => ?_)
                  rw [HSe.out, HTe.out, ← cutS_getD ss st k (by rw [HS.out.1]; exact hlt)]; exact onWay_succ _ _ k j
                · exact HV.out.set (p := ⟨g2, k, none⟩) (by simp; omega) _
                · exact HRR.out.set (p := ⟨g2, k, none⟩) (by simp; omega) _
                · rw [cutAcc, ← HA.out, ← HLe.out, ← HTe.out, ← HP.out]; exact HO.out.set (p := ⟨g2, k, none⟩) (by simp; omega) _
                · exact (HBw.out.setCell (p := ⟨g2, k, none⟩) (by simp; omega) _).drew
    · obtain rfl : k = dl := by omega
      obtain ⟨⟨o0, o1, o2⟩, _⟩ := HO.out.cells
      have hnb : anyBad ds lo hi st = false := anyBad_false (fun j hj => HGD.out j (by rw [← HD.out.1]; exact hj))
      have hi1 : Ints wr (some ⟨g1, 0, none⟩) k (cutD ds lo hi st) := ints_of_rowI (onWay_all HQ1.out) (by rw [cutD_length, HD.out.1]) (by omega) (fun x hx => by have := cutD_bd HSM.out hnb x hx; omega)
      have hi2 : Ints wr (some ⟨g2, 0, none⟩) k (cutS ss st) := ints_of_rowI (onWay_all HQ2.out) (by rw [cutS_length, HS.out.1]) (by omega) (cutS_bd HSM.out hnb)
      have HNB := hide hnb
      have HI1 := hide hi1
      have HI2 := hide hi2
      clear hnb hi1 hi2
      go_wp2_with fail
      refine (reached_any _ _ _ _ _ _ _ (cutS ss st) _ HI2.out).mono ?_
      rintro e w4 ⟨rfl, hb⟩
      have HBd := hide (Below.on HBw.out hb)
      have HRR4 := hide (HRR.out.below hb)
      have HI1' := hide (HI1.out.below hb)
      have HI2' := hide (HI2.out.below hb)
      obtain ⟨⟨r0, r1, r2⟩, rf0, rf1, rf2⟩ := HRR4.out.cells
      clear hb o0 o1 o2
      by_cases hbe : beyondB (cutAcc s ss lo k) (cutS ss st) = true
      · rw [if_pos hbe]
        have HBE := hide hbe
        clear hbe
        go_wp2
        refine bodyPost_ret (v := .tuple #[.agg #[.int .i64 0, .slice none 0 0, .slice none 0 0], .int .i64 5]) (by simp [results, Try.results42, go_sem, r0, r1, r2]) rfl ⟨?_, below_put HBd.out (by omega)⟩
        rw [CutPost, if_neg (by rw [HNB.out]; simp), if_pos HBE.out]
        exact givesF_none _ _ _ _
      · rw [if_neg hbe]
        have HBE := hide hbe
        clear hbe
        go_wp2
        refine bodyPost_ret (v := .tuple #[.agg #[.int .i64 (cutAcc s ss lo k), .slice (some ⟨g1, 0, none⟩) k k, .slice (some ⟨g2, 0, none⟩) k k], .int .i64 0]) (by simp [results, Try.results42, go_sem, r0, r1, r2]) rfl ⟨?_, below_put HBd.out (by omega)⟩
        rw [CutPost, if_neg (by rw [HNB.out]; simp), if_neg HBE.out]
        exact ⟨_, _, _, _, _, _, rfl, ints_set3 (B := w.heap.size + 1) HI1'.out (by omega), ints_set3 (B := w.heap.size + 1) HI2'.out (by omega), ⟨Nat.le_refl _, Nat.le_refl _⟩, .inr (far_some (by omega)), far_some (by omega)⟩
end Go.Proofs.Yteoobeldmicjhaa.V
