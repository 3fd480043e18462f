/-
  Plain mathematics: when places can be read in other dimensions.
-/
import Derived.Test.YtoagnhppjlcpkaaGreatGReadsV
import Derived.BigRegion
import Derived.Test.YtoagnhppjlcpkaaGreatGReads
namespace Go.Proofs.YtoagnhppjlcpkaaGreat.V
set_option maxRecDepth 20000

/-- Along a dimension of D, with B behind it, two neighbours lie equally far apart everywhere. -/
def EvenP (L : List Int) (D B : Nat) : Prop := D = 1 ∨ ∀ p, p < L.length → B ≤ p % (D * B) → L[p]?.getD 0 - L[p - B]?.getD 0 = L[B]?.getD 0 - L[0]?.getD 0
def stepE (L : List Int) (D B : Nat) : Int := if D = 1 then 0 else L[B]?.getD 0 - L[0]?.getD 0
/-- The steps that are read off. -/
def reformSteps (L es : List Int) : List Int := (List.range es.length).map fun k => stepE L (es[k]?.getD 0).toNat (beh es k).toNat
theorem reformSteps_length (L es : List Int) : (reformSteps L es).length = es.length := by simp [reformSteps]
theorem reformSteps_getD (L es : List Int) (k : Nat) (h : k < es.length) : (reformSteps L es)[k]?.getD 0 = stepE L (es[k]?.getD 0).toNat (beh es k).toNat := by simp [reformSteps, h]

theorem beh_cons (d : Int) (ds : List Int) (k : Nat) : beh (d :: ds) (k + 1) = beh ds k := by simp [beh]
theorem beh_zero (d : Int) (ds : List Int) : beh (d :: ds) 0 = prod ds := by simp [beh]
theorem beh_pos {ds : List Int} (h : ∀ x ∈ ds, 1 ≤ x) (k : Nat) : 1 ≤ beh ds k := (prod_drop_le ds h (k + 1)).1
theorem getD_pos {ds : List Int} (h : ∀ x ∈ ds, 1 ≤ x) {k : Nat} (hk : k < ds.length) : 1 ≤ ds[k]?.getD 0 := h _ (mem_getD ds k hk)

/-- What lies one further along a dimension lies its step further. -/
theorem lieN_step : ∀ (ds ss : List Int), ss.length = ds.length → (∀ x ∈ ds, 1 ≤ x) → ∀ (k : Nat) (p : Int), k < ds.length → 0 ≤ p → beh ds k ≤ p % (ds[k]?.getD 0 * beh ds k) → lieN ds ss p = lieN ds ss (p - beh ds k) + ss[k]?.getD 0
  | [], _, _, _, k, p, hk, _, _ => by simp at hk
  | d :: ds, [], hl, _, _, _, _, _, _ => by simp at hl
  | d :: ds, t :: ss, hl, hpos, k, p, hk, hp0, hc => by
    have hpos' : ∀ x ∈ ds, 1 ≤ x := fun x hx => hpos x (by simp [hx])
    have hP := prod_pos ds hpos'
    cases k with
    | zero =>
      rw [beh_zero] at hc ⊢
      simp only [lieN, List.getElem?_cons_zero, Option.getD_some]
      have e1 : (p - prod ds) / prod ds = p / prod ds - 1 := by
        rw [show p - prod ds = p + (-1) * prod ds by omega, Int.add_mul_ediv_right _ _ (by omega)]; omega
      have e2 : (p - prod ds) % prod ds = p % prod ds := by
        rw [show p - prod ds = p + (-1) * prod ds by omega, Int.add_mul_emod_self_right]
      rw [e1, e2, Int.sub_mul]; omega
    | succ k =>
      rw [beh_cons] at hc ⊢
      simp only [lieN, List.getElem?_cons_succ] at hc ⊢
      have hk' : k < ds.length := by simpa using hk
      have hB := beh_pos hpos' k
      have hD := getD_pos hpos' hk'
      -- the block of this dimension divides what lies behind the first one
      have hdvd : ds[k]?.getD 0 * beh ds k ∣ prod ds := by
        have e : prod ds = prod (ds.take k) * prod (ds.drop k) := by rw [← prod_append, List.take_append_drop]
        rw [e, prod_drop ds k hk']
        exact Int.dvd_mul_left _ _
      have hDB : 1 ≤ ds[k]?.getD 0 * beh ds k := by
        have : 1 * 1 ≤ ds[k]?.getD 0 * beh ds k := Int.mul_le_mul hD hB (by omega) (by omega)
        simpa using this
      have hm : (p % prod ds) % (ds[k]?.getD 0 * beh ds k) = p % (ds[k]?.getD 0 * beh ds k) := Int.emod_emod_of_dvd p hdvd
      have hle : beh ds k ≤ p % prod ds := by
        have h1 := Int.emod_nonneg p (show prod ds ≠ 0 by omega)
        have h3 := Int.mul_ediv_add_emod (p % prod ds) (ds[k]?.getD 0 * beh ds k)
        have h4 : 0 ≤ ds[k]?.getD 0 * beh ds k * (p % prod ds / (ds[k]?.getD 0 * beh ds k)) := Int.mul_nonneg (by omega) (Int.ediv_nonneg h1 (by omega))
        omega
      have hlt := Int.emod_lt_of_pos p (show 0 < prod ds by omega)
      have hdm := Int.mul_ediv_add_emod p (prod ds)
      have ep : p - beh ds k = (p % prod ds - beh ds k) + p / prod ds * prod ds := by rw [Int.mul_comm]; omega
      have e1 : (p - beh ds k) / prod ds = p / prod ds := by
        rw [ep, Int.add_mul_ediv_right _ _ (by omega), Int.ediv_eq_zero_of_lt (by omega) (by omega)]; omega
      have e2 : (p - beh ds k) % prod ds = p % prod ds - beh ds k := by
        rw [ep, Int.add_mul_emod_self_right, Int.emod_eq_of_lt (by omega) (by omega)]
      have ih := lieN_step ds ss (by simpa using hl) hpos' k (p % prod ds) hk' (by omega) (by rw [hm]; exact hc)
      rw [e1, e2, ih]; omega

/-- An entry that is not the first one has a neighbour ahead of it, along some dimension. -/
theorem some_dim {es : List Int} {i : Int} (h0 : 0 < i) (h1 : i < prod es) : ∃ k, k < es.length ∧ beh es k ≤ i % (es[k]?.getD 0 * beh es k) := by
  apply Classical.byContradiction
  intro hn
  have key : ∀ k, k ≤ es.length → i < prod (es.drop k) := by
    intro k
    induction k with
    | zero => intro _; simpa using h1
    | succ k ih =>
      intro hk
      have h2 := ih (by omega)
      rw [prod_drop es k (by omega)] at h2
      have h3 : ¬ beh es k ≤ i % (es[k]?.getD 0 * beh es k) := fun h => hn ⟨k, by omega, h⟩
      have e : i % (es[k]?.getD 0 * beh es k) = i := Int.emod_eq_of_lt (by omega) h2
      rw [e] at h3
      show i < beh es k
      omega
  have := key es.length (Nat.le_refl _)
  rw [List.drop_eq_nil_of_le (Nat.le_refl _)] at this
  simp [prod] at this
  omega

theorem mod_nat {p D B : Nat} {d b : Int} (hd : d = D) (hb : b = B) : ((p : Int) % (d * b)) = ((p % (D * B) : Nat) : Int) := by
  subst hd hb
  rw [Int.natCast_emod, Int.natCast_mul]

/-- Where neighbours lie evenly, all lies as the steps say. -/
theorem even_lies {L es : List Int} (hpos : ∀ x ∈ es, 1 ≤ x) (hN : L.length = (prod es).toNat) (hev : ∀ k, k < es.length → EvenP L (es[k]?.getD 0).toNat (beh es k).toNat) :
    ∀ (n i : Nat), i ≤ n → i < L.length → L[i]?.getD 0 = L[0]?.getD 0 + lieN es (reformSteps L es) i := by
  intro n
  induction n with
  | zero =>
    intro i hi _
    obtain rfl : i = 0 := by omega
    rw [show ((0 : Nat) : Int) = 0 from rfl, lieN_zero]; omega
  | succ n ih =>
    intro i hi hil
    by_cases h0 : i = 0
    · subst h0; rw [show ((0 : Nat) : Int) = 0 from rfl, lieN_zero]; omega
    obtain ⟨k, hk, hc⟩ := some_dim (es := es) (i := (i : Int)) (by omega) (by omega)
    have hB := beh_pos hpos k
    have hD := getD_pos hpos hk
    obtain ⟨B, hBn⟩ : ∃ B : Nat, beh es k = (B : Int) := ⟨(beh es k).toNat, by omega⟩
    obtain ⟨D, hDn⟩ : ∃ D : Nat, es[k]?.getD 0 = (D : Int) := ⟨(es[k]?.getD 0).toNat, by omega⟩
    have hst := lieN_step es (reformSteps L es) (reformSteps_length L es) hpos k i hk (by omega) hc
    rw [mod_nat hDn hBn, hBn] at hc
    have hc' : B ≤ i % (D * B) := by omega
    have hle : i % (D * B) ≤ i := Nat.mod_le _ _
    have e := hev k hk
    rw [hDn, hBn, Int.toNat_natCast, Int.toNat_natCast] at e
    have hD1 : D ≠ 1 := by
      intro e1
      subst e1
      rw [Nat.one_mul] at hc'
      have := Nat.mod_lt i (show 0 < B by omega)
      omega
    have ev := (e.resolve_left hD1) i hil hc'
    have ih' := ih (i - B) (by omega) (by omega)
    rw [hst, reformSteps_getD L es k hk, hDn, hBn, Int.toNat_natCast, Int.toNat_natCast, stepE, if_neg hD1]
    have ec : (i : Int) - (B : Int) = ((i - B : Nat) : Int) := by omega
    rw [ec]
    omega

/-- And where all lies as the steps say, but for multiples of 2^64, neighbours lie evenly. -/
theorem lies_even {L es : List Int} (hpos : ∀ x ∈ es, 1 ≤ x) (hN : L.length = (prod es).toNat) (hb : ∀ x ∈ L, -28115000000000000 ≤ x ∧ x ≤ 28115000000000000)
    (hl : ∀ i, i < L.length → ∃ c : Int, L[i]?.getD 0 = L[0]?.getD 0 + lieN es (reformSteps L es) i + c * 18446744073709551616) : ∀ k, k < es.length → EvenP L (es[k]?.getD 0).toNat (beh es k).toNat := by
  intro k hk
  have hB := beh_pos hpos k
  have hD := getD_pos hpos hk
  obtain ⟨B, hBn⟩ : ∃ B : Nat, beh es k = (B : Int) := ⟨(beh es k).toNat, by omega⟩
  obtain ⟨D, hDn⟩ : ∃ D : Nat, es[k]?.getD 0 = (D : Int) := ⟨(es[k]?.getD 0).toNat, by omega⟩
  rw [hDn, hBn, Int.toNat_natCast, Int.toNat_natCast]
  by_cases hD1 : D = 1
  · exact .inl hD1
  refine .inr fun p hp hc => ?_
  have hle : p % (D * B) ≤ p := Nat.mod_le _ _
  have hst := lieN_step es (reformSteps L es) (reformSteps_length L es) hpos k p hk (by omega) (by rw [mod_nat hDn hBn, hBn]; omega)
  rw [reformSteps_getD L es k hk, hDn, hBn, Int.toNat_natCast, Int.toNat_natCast, stepE, if_neg hD1] at hst
  obtain ⟨c1, h1⟩ := hl p hp
  obtain ⟨c2, h2⟩ := hl (p - B) (by omega)
  have ec : ((p - B : Nat) : Int) = (p : Int) - (B : Int) := by omega
  rw [ec] at h2
  have hDB : D * B ≤ L.length := by
    have e := prod_drop es k hk
    have h3 := (prod_drop_le es hpos k).2
    have h4 : beh es k = prod (es.drop (k + 1)) := rfl
    rw [← h4, hBn, hDn, ← Int.natCast_mul] at e
    omega
  have hBl : B < L.length := by
    have : B * 1 < B * D := Nat.mul_lt_mul_of_pos_left (by omega) (by omega)
    rw [Nat.mul_comm B D] at this
    omega
  have b1 := hb _ (mem_getD L p hp)
  have b2 := hb _ (mem_getD L (p - B) (by omega))
  have b3 := hb _ (mem_getD L B hBl)
  have b4 := hb _ (mem_getD L 0 (by omega))
  omega
end Go.Proofs.YtoagnhppjlcpkaaGreat.V

/-
  Contract: view.evenStep.
-/
namespace Go.Proofs.YtoagnhppjlcpkaaGreat.V
set_option maxRecDepth 20000
open Go.RowKit

/-- The first P places keep it. -/
def evenTo (L : List Int) (D B P : Nat) : Prop := ∀ p, p < P → B ≤ p % (D * B) → L[p]?.getD 0 - L[p - B]?.getD 0 = L[B]?.getD 0 - L[0]?.getD 0

def EvenPost (e : Ending) (L : List Int) (D B : Nat) : Prop := ∃ b : Bool, e = .returned (.tuple #[.int .i64 (if b = true then stepE L D B else 0), .bool b]) ∧ (b = true ↔ EvenP L D B)

end Go.Proofs.YtoagnhppjlcpkaaGreat.V

/-
  Contract: view.Reform, where the numbers fit.
-/
namespace Go.Proofs.YtoagnhppjlcpkaaGreat.V
set_option maxRecDepth 20000
open Go.RowKit Go.Shelf
attribute [local go_sem] Oper.semAt_some

def evenB (L : List Int) (D B : Nat) : Bool := decide (D = 1) || (List.range L.length).all fun p => !decide (B ≤ p % (D * B)) || decide (L[p]?.getD 0 - L[p - B]?.getD 0 = L[B]?.getD 0 - L[0]?.getD 0)
theorem evenB_iff (L : List Int) (D B : Nat) : evenB L D B = true ↔ EvenP L D B := by
  unfold evenB EvenP
  simp only [Bool.or_eq_true, decide_eq_true_eq, List.all_eq_true, List.mem_range, Bool.not_eq_true', decide_eq_false_iff_not]
  constructor
  · rintro (h | h)
    · exact .inl h
    · exact .inr fun p hp hc => (h p hp).resolve_left (fun h' => h' hc)
  · rintro (h | h)
    · exact .inl h
    · refine .inr fun p hp => ?_
      by_cases hc : B ≤ p % (D * B)
      · exact .inr (h p hp hc)
      · exact .inl hc
def allEvenB (L es : List Int) : Bool := (List.range es.length).all fun k => evenB L (es[k]?.getD 0).toNat (beh es k).toNat
theorem allEvenB_iff (L es : List Int) : allEvenB L es = true ↔ ∀ k, k < es.length → EvenP L (es[k]?.getD 0).toNat (beh es k).toNat := by
  unfold allEvenB
  simp only [List.all_eq_true, List.mem_range, evenB_iff]
def reformL (L es : List Int) : List Int := if prod es = 0 then List.replicate es.length 0 else reformSteps L es
def reformE (s : Int) (ds ss es : List Int) : Int :=
  if wrongE s ds ss ≠ 0 then wrongE s ds ss else if sizeE es ≠ 0 then sizeE es else if sizeN es ≠ prod ds then 6 else if prod es = 0 then 0
  else if allEvenB (readsV s ds ss) es = true then (if beyondB s (reformSteps (readsV s ds ss) es) = true then 5 else 0) else 9

/-- The row of steps on its way: those from len - t on are there. -/
def reformF (L es : List Int) (len t j : Nat) : Value := .int .i64 (if len ≤ j + t then stepE L (es[j]?.getD 0).toNat (beh es j).toNat else 0)
theorem reformF_succ (L es : List Int) (len t j : Nat) (ht : t < len) : (if j = len - 1 - t then .int .i64 (stepE L (es[len - 1 - t]?.getD 0).toNat (beh es (len - 1 - t)).toNat) else reformF L es len t j) = reformF L es len (t + 1) j := by
  unfold reformF
  by_cases e : j = len - 1 - t
  · rw [if_pos e, if_pos (by omega), e]
  · rw [if_neg e]
    by_cases h : len ≤ j + t
    · rw [if_pos h, if_pos (by omega)]
    · rw [if_neg h, if_neg (by omega)]
theorem stepE_bd {L : List Int} (hb : ∀ x ∈ L, -28115000000000000 ≤ x ∧ x ≤ 28115000000000000) (D B : Nat) : -56230000000000000 ≤ stepE L D B ∧ stepE L D B ≤ 56230000000000000 := by
  have h : ∀ j : Nat, -28115000000000000 ≤ L[j]?.getD 0 ∧ L[j]?.getD 0 ≤ 28115000000000000 := fun j => by
    by_cases hj : j < L.length
    · exact hb _ (mem_getD L j hj)
    · rw [List.getElem?_eq_none (by omega)]; simp
  unfold stepE
  split
  · omega
  · have := h B; have := h 0; omega
theorem reformSteps_bd {L es : List Int} (hb : ∀ x ∈ L, -28115000000000000 ≤ x ∧ x ≤ 28115000000000000) : ∀ x ∈ reformSteps L es, -9223372036854775808 ≤ x ∧ x ≤ 9223372036854775807 := by
  intro x hx
  simp only [reformSteps, List.mem_map, List.mem_range] at hx
  obtain ⟨k, _, rfl⟩ := hx
  have := stepE_bd hb (es[k]?.getD 0).toNat (beh es k).toNat
  omega
theorem Below.ints {n : Nat} {w w' : World} {a : Option Addr} {len : Nat} {xs : List Int} (hB : Below n w w') (h : Ints w a len xs) (ha : ∀ b o, a = some ⟨b, o, none⟩ → 0 < len → b < n) : Ints w' a len xs := by
  obtain ⟨h1, h2, h3, h4⟩ := h
  refine ⟨h1, h2, h3, ?_⟩
  by_cases h0 : len = 0
  · exact .inl h0
  rcases h4 with h4 | ⟨b, off, e, hc⟩
  · exact .inl h4
  · exact .inr ⟨b, off, e, fun j hj => (hB.cell (p := ⟨b, off + j, none⟩) (ha b off e (by omega))).trans (hc j hj)⟩

theorem below_keeps {W W' : World} (h : Below W.heap.size W W') (B : Nat) : KeepsFrom B W W' := ⟨h.size, fun k _ _ hk _ => (h.block k (Array.getElem?_eq_some_iff.1 hk).1).trans hk⟩
theorem Keep.below {n₀ Bs : Nat} {W W' : World} (h : Below W.heap.size W W') (h1 : n₀ ≤ W.heap.size) (h2 : Bs < W.heap.size) : Keep n₀ Bs W W' := ⟨h.mono h1, h.block Bs h2⟩
theorem grownBy_setCellA (W : World) (p : Addr) (v : Value) : W.grownBy (W.setCell p v) (some p.block) :=
  ⟨rfl, rfl, rfl, (KeepsWalks.setCell W _ v).size, fun k _ hk => Below.heap_setCell _ _ _ k (fun e => hk (by rw [e]))⟩
theorem ints_set1 {w : World} {g len B i : Nat} {xs : List Int} {a : Value} (h : Ints w (some ⟨g, 0, none⟩) len xs) (hne : g ≠ B) : Ints (w.setCell ⟨B, i, none⟩ a) (some ⟨g, 0, none⟩) len xs := by
  obtain ⟨h1, h2, h3, h4⟩ := h
  refine ⟨h1, h2, h3, ?_⟩
  rcases h4 with h4 | ⟨b', off, ha, hc⟩
  · exact .inl h4
  · cases ha
    exact .inr ⟨_, _, rfl, fun j hj => (World.cell?_of_block (w := w) (Below.heap_setCell _ ⟨B, i, none⟩ _ g hne)).trans (hc j hj)⟩
theorem ints_put1 {w : World} {g len D : Nat} {xs : List Int} {o : Obj} (h : Ints w (some ⟨g, 0, none⟩) len xs) (hne : g ≠ D) : Ints (w.putObj D o) (some ⟨g, 0, none⟩) len xs := by
  obtain ⟨h1, h2, h3, h4⟩ := h
  refine ⟨h1, h2, h3, ?_⟩
  rcases h4 with h4 | ⟨b', off, ha, hc⟩
  · exact .inl h4
  · cases ha
    exact .inr ⟨_, _, rfl, fun j hj => (World.cell?_of_block (w := w) (World.putObj_heap_other hne)).trans (hc j hj)⟩
/-- What lies, while steps are read off. -/
def Off (Wr : World) (M C g1 g2 el : Nat) (s : Int) (L es : List Int) (t : Nat) (W : World) : Prop :=
  ((Below M Wr W ∧ C + 1 < W.heap.size) ∧ ViewAt W C (.int .i64 s) (.slice (some ⟨g1, 0, none⟩) el el) (.slice (some ⟨g2, 0, none⟩) el el)) ∧ (W.rowIs g1 3 el (fun j => .int .i64 (es[j]?.getD 0)) ∧ W.rowIs g2 3 el (reformF L es el t)) ∧ (∀ k, el ≤ k + t → k < el → EvenP L (es[k]?.getD 0).toNat (beh es k).toNat)
theorem off_own (Wr : World) (M C g1 g2 el : Nat) (s : Int) (L es : List Int) {B : Nat} (hB : M ≤ B) (hM : M ≤ Wr.heap.size) : OwnFrom B (fun t W => Off Wr M C g1 g2 el s L es t W) :=
  OwnFrom.and (OwnFrom.and (OwnFrom.and (ownFrom_below hM hB) (fun _ _ _ _ hs hg _ => Nat.lt_of_lt_of_le hs hg.size)) (Own.from (view_own _ _ _ _) _)) (OwnFrom.and (OwnFrom.and (Own.from (row_own _ _ _ _) _) (Own.from (row_own _ _ _ _) _)) (ownFrom_pure _ _))
/-- What is left where there is no such view. -/
def NoneAt (w : World) (c : Code) (W : World) : Prop := c = .ret ∧ ViewAt W (w.heap.size + 1 + 1) (.int .i64 0) (.slice none 0 0) (.slice none 0 0) ∧ Boxed W (w.heap.size + 1 + 1 + 1) 29 (.int .i64 9) ∧ Below w.heap.size w W
theorem none_own (w : World) {B : Nat} (hB : w.heap.size ≤ B) : OwnFrom B (NoneAt w) :=
  OwnFrom.and (ownFrom_pure _ _) (OwnFrom.and (Own.from (view_own _ _ _ _) _) (OwnFrom.and (Own.from (boxed_own _ _ _) _) (ownFrom_below (Nat.le_refl _) hB)))

end Go.Proofs.YtoagnhppjlcpkaaGreat.V

/-
  Contract: view.Reform, whatever it is asked.
-/
namespace Go.Proofs.YtoagnhppjlcpkaaGreat.V
set_option maxRecDepth 20000
open Go.RowKit Go.Shelf
attribute [local go_sem] Oper.semAt_some

/-- How the call begins. -/
structure Four (w : World) (s : Int) (da : Option Addr) (dl dc : Nat) (sa : Option Addr) (sl sc : Nat) (ea : Option Addr) (el ec : Nat) (W : World) : Prop where
  below : Below w.heap.size w W
  view : ViewAt W w.heap.size (.int .i64 s) (.slice da dl dc) (.slice sa sl sc)
  dims : Boxed W (w.heap.size + 1) 22 (.slice ea el ec)
  out : ViewAt W (w.heap.size + 1 + 1) (.int .i64 0) (.slice none 0 0) (.slice none 0 0)
  err : Boxed W (w.heap.size + 1 + 1 + 1) 29 (.int .i64 0)
theorem four_new (w : World) (s : Int) (da : Option Addr) (dl dc : Nat) (sa : Option Addr) (sl sc : Nat) (ea : Option Addr) (el ec : Nat) : Four w s da dl dc sa sl sc ea el ec ((((w.alloc (.cells #[.int .i64 s, .slice da dl dc, .slice sa sl sc] 80)).alloc (.cells #[.slice ea el ec] 22)).alloc (.cells #[.int .i64 0, .slice none 0 0, .slice none 0 0] 80)).alloc (.cells #[.int .i64 0] 29)) := by
  have bE := ((Boxed.new (w.alloc (.cells #[.int .i64 s, .slice da dl dc, .slice sa sl sc] 80)) 22 (.slice ea el ec)).alloc (.cells #[.int .i64 0, .slice none 0 0, .slice none 0 0] 80)).alloc (.cells #[.int .i64 0] 29)
  have bO := (ViewAt.new ((w.alloc (.cells #[.int .i64 s, .slice da dl dc, .slice sa sl sc] 80)).alloc (.cells #[.slice ea el ec] 22)) (.int .i64 0) (.slice none 0 0) (.slice none 0 0)).alloc (.cells #[.int .i64 0] 29)
  have bX := Boxed.new (((w.alloc (.cells #[.int .i64 s, .slice da dl dc, .slice sa sl sc] 80)).alloc (.cells #[.slice ea el ec] 22)).alloc (.cells #[.int .i64 0, .slice none 0 0, .slice none 0 0] 80)) 29 (.int .i64 0)
  simp only [World.size_alloc] at bE bO bX
  exact ⟨bl_alloc (bl_alloc (bl_alloc (bl_alloc (Below.refl _ _)))), (((ViewAt.new w _ _ _).alloc _).alloc _).alloc _, bE, bO, bX⟩
theorem Four.on {w W W' : World} {s : Int} {da : Option Addr} {dl dc : Nat} {sa : Option Addr} {sl sc : Nat} {ea : Option Addr} {el ec : Nat} (h : Four w s da dl dc sa sl sc ea el ec W) (hb : Below W.heap.size W W') : Four w s da dl dc sa sl sc ea el ec W' :=
  ⟨Below.on h.below hb, h.view.below hb, (hb.block _ h.dims.lt).trans h.dims, h.out.below hb, (hb.block _ h.err.lt).trans h.err⟩
/-- What is told without a view. -/
theorem four_end {w W : World} {s : Int} {da : Option Addr} {dl dc : Nat} {sa : Option Addr} {sl sc : Nat} {ea : Option Addr} {el ec : Nat} (h : Four w s da dl dc sa sl sc ea el ec W) (E : Int) :
    ViewAt ((((W.setCell ⟨w.heap.size + 1 + 1, 0, none⟩ (.int .i64 0)).setCell ⟨w.heap.size + 1 + 1, 1, none⟩ (.slice none 0 0)).setCell ⟨w.heap.size + 1 + 1, 2, none⟩ (.slice none 0 0)).setCell ⟨w.heap.size + 1 + 1 + 1, 0, none⟩ (.int .i64 E)) (w.heap.size + 1 + 1) (.int .i64 0) (.slice none 0 0) (.slice none 0 0) ∧
    Boxed ((((W.setCell ⟨w.heap.size + 1 + 1, 0, none⟩ (.int .i64 0)).setCell ⟨w.heap.size + 1 + 1, 1, none⟩ (.slice none 0 0)).setCell ⟨w.heap.size + 1 + 1, 2, none⟩ (.slice none 0 0)).setCell ⟨w.heap.size + 1 + 1 + 1, 0, none⟩ (.int .i64 E)) (w.heap.size + 1 + 1 + 1) 29 (.int .i64 E) ∧
    Below w.heap.size w ((((W.setCell ⟨w.heap.size + 1 + 1, 0, none⟩ (.int .i64 0)).setCell ⟨w.heap.size + 1 + 1, 1, none⟩ (.slice none 0 0)).setCell ⟨w.heap.size + 1 + 1, 2, none⟩ (.slice none 0 0)).setCell ⟨w.heap.size + 1 + 1 + 1, 0, none⟩ (.int .i64 E)) :=
  ⟨(view_put' h.out).set (p := ⟨w.heap.size + 1 + 1 + 1, 0, none⟩) (by simp) _,
   Boxed.set _ (Boxed.kept (Boxed.kept (Boxed.kept h.err (grownBy_setCellA _ _ _) (by simp)) (grownBy_setCellA _ _ _) (by simp)) (grownBy_setCellA _ _ _) (by simp)),
   (below_put h.below (by omega)).setCell (p := ⟨w.heap.size + 1 + 1 + 1, 0, none⟩) (by simp; omega) _⟩

end Go.Proofs.YtoagnhppjlcpkaaGreat.V
