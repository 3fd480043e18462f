/-
  Contract: view.Reads, whatever it is asked. Contract: view.Reform, where the numbers fit. Contract: view.Reform, whatever it is asked. Plain mathematics: what is turned can be turned back; what is flipped twice is as it was; an array that lies whole can be read in all dimensions that fit. Plain mathematics: what a view of a view reads is what the first one reads, taken as the second one says of an array as it lies.
-/
import Derived.Test.YtcidhbkdaleomaaK14
import Derived.Test.YtcidhbkdaleomaaK15
import Derived.Test.YtcidhbkdaleomaaK9
import Derived.Test.YtcidhbkdaleomaaK10
namespace Go.Proofs.Ytcidhbkdaleomaa.V
set_option maxRecDepth 20000
open Go.RowKit Go.Shelf
attribute [local go_sem] Oper.semAt_some

set_option maxHeartbeats 1000000 in
theorem reads_wrong (s : Int) (da : Option Addr) (dl dc : Nat) (ds : List Int) (sa : Option Addr) (sl sc : Nat) (ss : List Int) (w : World) (hd : Ints w da dl ds) (hs : Ints w sa sl ss) (hW : wrongE s ds ss ≠ 0) :
    CallsIn FW 8 Try.prog 86 #[.agg #[.int .i64 s, .slice da dl dc, .slice sa sl sc]] w fun e w' => e = .returned (.tuple #[.slice none 0 0, .int .i64 (wrongE s ds ss)]) ∧ Below w.heap.size w w' := by
  have HD := hide hd
  have HS := hide hs
  have hro : FW.round = none := rfl
  have c1 : (wrongE s ds ss != 0) = true := by simp [hW]
  clear hd hs hW
  have hb1 : Below w.heap.size w (w.alloc (.cells #[.int .i64 s, .slice da dl dc, .slice sa sl sc] 62)) := (Below.refl _ _).alloc (Nat.le_refl _) _
  have HB1 := hide hb1
  clear hb1
  refine callsIn_of_wp Try.func86 rfl trivial ?_ hro
  simp only [Try.ntmps86, List.size_toArray, List.length_cons, List.length_nil, Nat.reduceAdd, Nat.reduceSub, Array.replicate_succ, Array.replicate_zero, List.push_toArray, List.append_toArray, List.nil_append, List.cons_append]
  gi_wp2_with (refine ⟨trivial, ?_⟩; gi_at_call 98; refine (callsIn_wide.2 (wrong_any _ _ _ _ ds _ _ _ ss _ (HD.out.below HB1.out) (HS.out.below HB1.out))).mono ?_; rintro e w1 ⟨rfl, hb⟩; have HB := hide (Below.on HB1.out hb); clear hb)
  go_ret2
  exact ⟨rfl, HB.out⟩

set_option maxHeartbeats 1000000 in
theorem reads_none (s : Int) (da : Option Addr) (dl dc : Nat) (ds : List Int) (sa : Option Addr) (sl sc : Nat) (ss : List Int) (w : World) (hd : Ints w da dl ds) (hs : Ints w sa sl ss) (hW : wrongE s ds ss = 0) (hN : sizeN ds = 0) :
    CallsIn FW 8 Try.prog 86 #[.agg #[.int .i64 s, .slice da dl dc, .slice sa sl sc]] w fun e w' => e = .returned (.tuple #[.slice none 0 0, .int .i64 0]) ∧ Below w.heap.size w w' := by
  have HD := hide hd
  have HS := hide hs
  have HW := hide hW
  have HN := hide hN
  have hro : FW.round = none := rfl
  clear hd hs hW hN
  have hb1 : Below w.heap.size w (w.alloc (.cells #[.int .i64 s, .slice da dl dc, .slice sa sl sc] 62)) := (Below.refl _ _).alloc (Nat.le_refl _) _
  have HB1 := hide hb1
  clear hb1
  refine callsIn_of_wp Try.func86 rfl trivial ?_ hro
  simp only [Try.ntmps86, List.size_toArray, List.length_cons, List.length_nil, Nat.reduceAdd, Nat.reduceSub, Array.replicate_succ, Array.replicate_zero, List.push_toArray, List.append_toArray, List.nil_append, List.cons_append]
  gi_wp2_with (first
    | (refine ⟨trivial, ?_⟩; gi_at_call 98; refine (callsIn_wide.2 (wrong_any _ _ _ _ ds _ _ _ ss _ (HD.out.below HB1.out) (HS.out.below HB1.out))).mono ?_; rintro e w1 ⟨rfl, hb⟩; rw [HW.out]; have HB := hide (Below.on HB1.out hb); have HV1 := hide ((ViewAt.new w (.int .i64 s) (.slice da dl dc) (.slice sa sl sc)).below hb); obtain ⟨⟨v0, v1, v2⟩, _⟩ := HV1.out.cells; have hlt1 := HV1.out.lt; clear hb)
    | (refine ⟨trivial, ?_⟩; gi_at_call 27; refine (callsIn_wide.2 (size_any _ _ _ ds _ (HD.out.below HB.out))).mono ?_; rintro e w' ⟨rfl, hw'⟩; obtain rfl := hw'.symm; rw [HN.out]))
  go_ret2
  exact ⟨rfl, HB.out⟩

theorem reads_any (s : Int) (da : Option Addr) (dl dc : Nat) (ds : List Int) (sa : Option Addr) (sl sc : Nat) (ss : List Int) (w : World) (hd : Ints w da dl ds) (hs : Ints w sa sl ss) :
    Calls Try.prog 86 #[.agg #[.int .i64 s, .slice da dl dc, .slice sa sl sc]] w fun e w' => TellsL w e w' (okL (wrongE s ds ss) (readsV s ds ss)) (wrongE s ds ss) ∧ Below w.heap.size w w' := by
  refine (callsIn_wide (n := 8)).1 ?_
  by_cases hW : wrongE s ds ss = 0
  · simp only [hW, okL]
    rcases dims_cases (wrongE_ok hW).1 with ⟨_, h1, h2⟩ | ⟨h1, _⟩
    · refine (reads_none s da dl dc ds sa sl sc ss w hd hs hW h1).mono ?_
      rintro e w' ⟨rfl, hb⟩
      have e : readsV s ds ss = [] := by simp [readsV, h2]
      rw [e]
      exact ⟨tells_none _ _ _, hb⟩
    · exact reads_ok s da dl dc ds sa sl sc ss w hd hs hW h1
  · simp only [okL, if_neg hW]
    refine (reads_wrong s da dl dc ds sa sl sc ss w hd hs hW).mono ?_
    rintro e w' ⟨rfl, hb⟩
    exact ⟨tells_none _ _ _, hb⟩
end Go.Proofs.Ytcidhbkdaleomaa.V
namespace Go.Proofs.Ytcidhbkdaleomaa.V
set_option maxRecDepth 20000
open Go.RowKit Go.Shelf
attribute [local go_sem] Oper.semAt_some

def evenB (L : List Int) (D B : Nat) : Bool := decide (D = 1) || (List.range L.length).all fun p => !decide (B ≤ p % (D * B)) || decide (L[p]?.getD 0 - L[p - B]?.getD 0 = L[B]?.getD 0 - L[0]?.getD 0)
theorem evenB_iff (L : List Int) (D B : Nat) : evenB L D B = true ↔ EvenP L D B := by
  unfold evenB EvenP
  simp only [Bool.or_eq_true, decide_eq_true_eq, List.all_eq_true, List.mem_range, Bool.not_eq_true', decide_eq_false_iff_not]
  constructor
  · rintro (h | h)
    · exact .inl h
    · exact .inr fun p hp hc => (h p hp).resolve_left (fun h' => h' hc)
  · rintro (h | h)
    · exact .inl h
    · refine .inr fun p hp => ?_
      by_cases hc : B ≤ p % (D * B)
      · exact .inr (h p hp hc)
      · exact .inl hc
def allEvenB (L es : List Int) : Bool := (List.range es.length).all fun k => evenB L (es[k]?.getD 0).toNat (beh es k).toNat
theorem allEvenB_iff (L es : List Int) : allEvenB L es = true ↔ ∀ k, k < es.length → EvenP L (es[k]?.getD 0).toNat (beh es k).toNat := by
  unfold allEvenB
  simp only [List.all_eq_true, List.mem_range, evenB_iff]
def reformL (L es : List Int) : List Int := if prod es = 0 then List.replicate es.length 0 else reformSteps L es
def reformE (s : Int) (ds ss es : List Int) : Int :=
  if wrongE s ds ss ≠ 0 then wrongE s ds ss else if sizeE es ≠ 0 then sizeE es else if sizeN es ≠ prod ds then 6 else if prod es = 0 then 0
  else if allEvenB (readsV s ds ss) es = true then (if beyondB s (reformSteps (readsV s ds ss) es) = true then 5 else 0) else 9

/-- The row of steps on its way: those from len - t on are there. -/
def reformF (L es : List Int) (len t j : Nat) : Value := .int .i64 (if len ≤ j + t then stepE L (es[j]?.getD 0).toNat (beh es j).toNat else 0)
theorem reformF_succ (L es : List Int) (len t j : Nat) (ht : t < len) : (if j = len - 1 - t then .int .i64 (stepE L (es[len - 1 - t]?.getD 0).toNat (beh es (len - 1 - t)).toNat) else reformF L es len t j) = reformF L es len (t + 1) j := by
  unfold reformF
  by_cases e : j = len - 1 - t
  · rw [if_pos e, if_pos (by omega), e]
  · rw [if_neg e]
    by_cases h : len ≤ j + t
    · rw [if_pos h, if_pos (by omega)]
    · rw [if_neg h, if_neg (by omega)]
theorem stepE_bd {L : List Int} (hb : ∀ x ∈ L, -28115000000000000 ≤ x ∧ x ≤ 28115000000000000) (D B : Nat) : -56230000000000000 ≤ stepE L D B ∧ stepE L D B ≤ 56230000000000000 := by
  have h : ∀ j : Nat, -28115000000000000 ≤ L[j]?.getD 0 ∧ L[j]?.getD 0 ≤ 28115000000000000 := fun j => by
    by_cases hj : j < L.length
    · exact hb _ (mem_getD L j hj)
    · rw [List.getElem?_eq_none (by omega)]; simp
  unfold stepE
  split
  · omega
  · have := h B; have := h 0; omega
theorem reformSteps_bd {L es : List Int} (hb : ∀ x ∈ L, -28115000000000000 ≤ x ∧ x ≤ 28115000000000000) : ∀ x ∈ reformSteps L es, -9223372036854775808 ≤ x ∧ x ≤ 9223372036854775807 := by
  intro x hx
  simp only [reformSteps, List.mem_map, List.mem_range] at hx
  obtain ⟨k, _, rfl⟩ := hx
  have := stepE_bd hb (es[k]?.getD 0).toNat (beh es k).toNat
  omega
theorem Below.ints {n : Nat} {w w' : World} {a : Option Addr} {len : Nat} {xs : List Int} (hB : Below n w w') (h : Ints w a len xs) (ha : ∀ b o, a = some ⟨b, o, none⟩ → 0 < len → b < n) : Ints w' a len xs := by
  obtain ⟨h1, h2, h3, h4⟩ := h
  refine ⟨h1, h2, h3, ?_⟩
  by_cases h0 : len = 0
  · exact .inl h0
  rcases h4 with h4 | ⟨b, off, e, hc⟩
  · exact .inl h4
  · exact .inr ⟨b, off, e, fun j hj => (hB.cell (p := ⟨b, off + j, none⟩) (ha b off e (by omega))).trans (hc j hj)⟩

theorem below_keeps {W W' : World} (h : Below W.heap.size W W') (B : Nat) : KeepsFrom B W W' := ⟨h.size, fun k _ _ hk _ => (h.block k (Array.getElem?_eq_some_iff.1 hk).1).trans hk⟩
theorem Keep.below {n₀ Bs : Nat} {W W' : World} (h : Below W.heap.size W W') (h1 : n₀ ≤ W.heap.size) (h2 : Bs < W.heap.size) : Keep n₀ Bs W W' := ⟨h.mono h1, h.block Bs h2⟩
theorem grownBy_setCellA (W : World) (p : Addr) (v : Value) : W.grownBy (W.setCell p v) (some p.block) :=
  ⟨rfl, rfl, rfl, (KeepsWalks.setCell W _ v).size, fun k _ hk => Below.heap_setCell _ _ _ k (fun e => hk (by rw [e]))⟩
theorem ints_set1 {w : World} {g len B i : Nat} {xs : List Int} {a : Value} (h : Ints w (some ⟨g, 0, none⟩) len xs) (hne : g ≠ B) : Ints (w.setCell ⟨B, i, none⟩ a) (some ⟨g, 0, none⟩) len xs := by
  obtain ⟨h1, h2, h3, h4⟩ := h
  refine ⟨h1, h2, h3, ?_⟩
  rcases h4 with h4 | ⟨b', off, ha, hc⟩
  · exact .inl h4
  · cases ha
    exact .inr ⟨_, _, rfl, fun j hj => (World.cell?_of_block (w := w) (Below.heap_setCell _ ⟨B, i, none⟩ _ g hne)).trans (hc j hj)⟩
theorem ints_put1 {w : World} {g len D : Nat} {xs : List Int} {o : Obj} (h : Ints w (some ⟨g, 0, none⟩) len xs) (hne : g ≠ D) : Ints (w.putObj D o) (some ⟨g, 0, none⟩) len xs := by
  obtain ⟨h1, h2, h3, h4⟩ := h
  refine ⟨h1, h2, h3, ?_⟩
  rcases h4 with h4 | ⟨b', off, ha, hc⟩
  · exact .inl h4
  · cases ha
    exact .inr ⟨_, _, rfl, fun j hj => (World.cell?_of_block (w := w) (World.putObj_heap_other hne)).trans (hc j hj)⟩
/-- What lies, while steps are read off. -/
def Off (Wr : World) (M C g1 g2 el : Nat) (s : Int) (L es : List Int) (t : Nat) (W : World) : Prop :=
  ((Below M Wr W ∧ C + 1 < W.heap.size) ∧ ViewAt W C (.int .i64 s) (.slice (some ⟨g1, 0, none⟩) el el) (.slice (some ⟨g2, 0, none⟩) el el)) ∧ (W.rowIs g1 3 el (fun j => .int .i64 (es[j]?.getD 0)) ∧ W.rowIs g2 3 el (reformF L es el t)) ∧ (∀ k, el ≤ k + t → k < el → EvenP L (es[k]?.getD 0).toNat (beh es k).toNat)
theorem off_own (Wr : World) (M C g1 g2 el : Nat) (s : Int) (L es : List Int) {B : Nat} (hB : M ≤ B) (hM : M ≤ Wr.heap.size) : OwnFrom B (fun t W => Off Wr M C g1 g2 el s L es t W) :=
  OwnFrom.and (OwnFrom.and (OwnFrom.and (ownFrom_below hM hB) (fun _ _ _ _ hs hg _ => Nat.lt_of_lt_of_le hs hg.size)) (Own.from (view_own _ _ _ _) _)) (OwnFrom.and (OwnFrom.and (Own.from (row_own _ _ _ _) _) (Own.from (row_own _ _ _ _) _)) (ownFrom_pure _ _))
/-- What is left where there is no such view. -/
def NoneAt (w : World) (c : Code) (W : World) : Prop := c = .ret ∧ ViewAt W (w.heap.size + 1 + 1) (.int .i64 0) (.slice none 0 0) (.slice none 0 0) ∧ Boxed W (w.heap.size + 1 + 1 + 1) 29 (.int .i64 9) ∧ Below w.heap.size w W
theorem none_own (w : World) {B : Nat} (hB : w.heap.size ≤ B) : OwnFrom B (NoneAt w) :=
  OwnFrom.and (ownFrom_pure _ _) (OwnFrom.and (Own.from (view_own _ _ _ _) _) (OwnFrom.and (Own.from (boxed_own _ _ _) _) (ownFrom_below (Nat.le_refl _) hB)))

end Go.Proofs.Ytcidhbkdaleomaa.V
namespace Go.Proofs.Ytcidhbkdaleomaa.V
set_option maxRecDepth 20000
open Go.RowKit Go.Shelf
attribute [local go_sem] Oper.semAt_some

/-- How the call begins. -/
structure Four (w : World) (s : Int) (da : Option Addr) (dl dc : Nat) (sa : Option Addr) (sl sc : Nat) (ea : Option Addr) (el ec : Nat) (W : World) : Prop where
  below : Below w.heap.size w W
  view : ViewAt W w.heap.size (.int .i64 s) (.slice da dl dc) (.slice sa sl sc)
  dims : Boxed W (w.heap.size + 1) 22 (.slice ea el ec)
  out : ViewAt W (w.heap.size + 1 + 1) (.int .i64 0) (.slice none 0 0) (.slice none 0 0)
  err : Boxed W (w.heap.size + 1 + 1 + 1) 29 (.int .i64 0)
theorem four_new (w : World) (s : Int) (da : Option Addr) (dl dc : Nat) (sa : Option Addr) (sl sc : Nat) (ea : Option Addr) (el ec : Nat) : Four w s da dl dc sa sl sc ea el ec ((((w.alloc (.cells #[.int .i64 s, .slice da dl dc, .slice sa sl sc] 62)).alloc (.cells #[.slice ea el ec] 22)).alloc (.cells #[.int .i64 0, .slice none 0 0, .slice none 0 0] 62)).alloc (.cells #[.int .i64 0] 29)) := by
  have bE := ((Boxed.new (w.alloc (.cells #[.int .i64 s, .slice da dl dc, .slice sa sl sc] 62)) 22 (.slice ea el ec)).alloc (.cells #[.int .i64 0, .slice none 0 0, .slice none 0 0] 62)).alloc (.cells #[.int .i64 0] 29)
  have bO := (ViewAt.new ((w.alloc (.cells #[.int .i64 s, .slice da dl dc, .slice sa sl sc] 62)).alloc (.cells #[.slice ea el ec] 22)) (.int .i64 0) (.slice none 0 0) (.slice none 0 0)).alloc (.cells #[.int .i64 0] 29)
  have bX := Boxed.new (((w.alloc (.cells #[.int .i64 s, .slice da dl dc, .slice sa sl sc] 62)).alloc (.cells #[.slice ea el ec] 22)).alloc (.cells #[.int .i64 0, .slice none 0 0, .slice none 0 0] 62)) 29 (.int .i64 0)
  simp only [World.size_alloc] at bE bO bX
  exact ⟨bl_alloc (bl_alloc (bl_alloc (bl_alloc (Below.refl _ _)))), (((ViewAt.new w _ _ _).alloc _).alloc _).alloc _, bE, bO, bX⟩
theorem Four.on {w W W' : World} {s : Int} {da : Option Addr} {dl dc : Nat} {sa : Option Addr} {sl sc : Nat} {ea : Option Addr} {el ec : Nat} (h : Four w s da dl dc sa sl sc ea el ec W) (hb : Below W.heap.size W W') : Four w s da dl dc sa sl sc ea el ec W' :=
  ⟨Below.on h.below hb, h.view.below hb, (hb.block _ h.dims.lt).trans h.dims, h.out.below hb, (hb.block _ h.err.lt).trans h.err⟩
/-- What is told without a view. -/
theorem four_end {w W : World} {s : Int} {da : Option Addr} {dl dc : Nat} {sa : Option Addr} {sl sc : Nat} {ea : Option Addr} {el ec : Nat} (h : Four w s da dl dc sa sl sc ea el ec W) (E : Int) :
    ViewAt ((((W.setCell ⟨w.heap.size + 1 + 1, 0, none⟩ (.int .i64 0)).setCell ⟨w.heap.size + 1 + 1, 1, none⟩ (.slice none 0 0)).setCell ⟨w.heap.size + 1 + 1, 2, none⟩ (.slice none 0 0)).setCell ⟨w.heap.size + 1 + 1 + 1, 0, none⟩ (.int .i64 E)) (w.heap.size + 1 + 1) (.int .i64 0) (.slice none 0 0) (.slice none 0 0) ∧
    Boxed ((((W.setCell ⟨w.heap.size + 1 + 1, 0, none⟩ (.int .i64 0)).setCell ⟨w.heap.size + 1 + 1, 1, none⟩ (.slice none 0 0)).setCell ⟨w.heap.size + 1 + 1, 2, none⟩ (.slice none 0 0)).setCell ⟨w.heap.size + 1 + 1 + 1, 0, none⟩ (.int .i64 E)) (w.heap.size + 1 + 1 + 1) 29 (.int .i64 E) ∧
    Below w.heap.size w ((((W.setCell ⟨w.heap.size + 1 + 1, 0, none⟩ (.int .i64 0)).setCell ⟨w.heap.size + 1 + 1, 1, none⟩ (.slice none 0 0)).setCell ⟨w.heap.size + 1 + 1, 2, none⟩ (.slice none 0 0)).setCell ⟨w.heap.size + 1 + 1 + 1, 0, none⟩ (.int .i64 E)) :=
  ⟨(view_put' h.out).set (p := ⟨w.heap.size + 1 + 1 + 1, 0, none⟩) (by simp) _,
   Boxed.set _ (Boxed.kept (Boxed.kept (Boxed.kept h.err (grownBy_setCellA _ _ _) (by simp)) (grownBy_setCellA _ _ _) (by simp)) (grownBy_setCellA _ _ _) (by simp)),
   (below_put h.below (by omega)).setCell (p := ⟨w.heap.size + 1 + 1 + 1, 0, none⟩) (by simp; omega) _⟩

end Go.Proofs.Ytcidhbkdaleomaa.V
namespace Go.Proofs.Ytcidhbkdaleomaa.V
set_option maxRecDepth 20000

/-! ### Turning back -/
theorem perm_range : ∀ (n : Nat) (l : List Nat), l.length = n → (∀ k, k < n → k ∈ l) → l.Perm (List.range n)
  | 0, l, h, _ => by
    have : l = [] := List.length_eq_zero_iff.1 h
    subst this; exact List.Perm.refl _
  | n + 1, l, h, hm => by
    obtain ⟨a, b, rfl⟩ := List.append_of_mem (hm n (by omega))
    have hl : (a ++ b).length = n := by simp at h ⊢; omega
    have ih := perm_range n (a ++ b) hl (fun k hk => by
      have := hm k (by omega)
      simp only [List.mem_append, List.mem_cons] at this ⊢
      rcases this with h | rfl | h
      · exact .inl h
      · omega
      · exact .inr h)
    rw [List.range_succ]
    exact List.perm_middle.trans ((List.Perm.cons n ih).trans (List.perm_append_singleton n (List.range n)).symm)
theorem map_getD_range (xs : List Int) : (List.range xs.length).map (fun k => xs[k]?.getD 0) = xs := by
  apply List.ext_getElem?
  intro i
  by_cases hi : i < xs.length
  · simp [hi]
  · rw [List.getElem?_eq_none (by simp; omega), List.getElem?_eq_none (by omega)]
theorem taken_perm {xs ps : List Int} (hp : PermOk ps xs.length) : (taken xs ps).Perm xs := by
  have h1 : (ps.map Int.toNat).Perm (List.range xs.length) := by
    refine perm_range _ _ (by simp [hp.1]) (fun k hk => ?_)
    have := (perm_iff hp.1).1 hp.2 k hk
    simp only [List.mem_map]
    exact ⟨(k : Int), this, by simp⟩
  have h2 := h1.map (fun k => xs[k]?.getD 0)
  rw [map_getD_range] at h2
  have e : taken xs ps = (ps.map Int.toNat).map (fun k => xs[k]?.getD 0) := by simp [taken]
  rw [e]; exact h2
theorem prod_perm {a b : List Int} (h : a.Perm b) : prod a = prod b := by
  induction h with
  | nil => rfl
  | cons x _ ih => rw [prod, prod, ih]
  | swap x y l => simp only [prod]; rw [← Int.mul_assoc, ← Int.mul_assoc, Int.mul_comm y x]
  | trans _ _ ih1 ih2 => rw [ih1, ih2]
theorem any_perm {a b : List Int} (h : a.Perm b) (p : Int → Bool) : a.any p = b.any p := by
  cases hb : b.any p with
  | true =>
    rw [List.any_eq_true] at hb ⊢
    obtain ⟨x, hx, hp⟩ := hb
    exact ⟨x, h.mem_iff.2 hx, hp⟩
  | false =>
    rw [List.any_eq_false] at hb ⊢
    exact fun x hx => hb x (h.mem_iff.1 hx)
theorem sizeE_perm {a b : List Int} (h : a.Perm b) : sizeE a = sizeE b := by
  unfold sizeE
  rw [h.length_eq, any_perm h, prod_perm h]
  by_cases h0 : (0 : Int) ∈ b
  · rw [if_pos h0, if_pos (h.mem_iff.2 h0)]
  · rw [if_neg h0, if_neg (fun e => h0 (h.mem_iff.1 e))]
theorem sizeN_perm {a b : List Int} (h : a.Perm b) : sizeN a = sizeN b := by
  unfold sizeN
  rw [h.length_eq, any_perm h, prod_perm h]
  by_cases h0 : (0 : Int) ∈ b
  · rw [if_pos h0, if_pos (h.mem_iff.2 h0)]
  · rw [if_neg h0, if_neg (fun e => h0 (h.mem_iff.1 e))]
theorem wrong_turn {s : Int} {ds ss ps : List Int} (hW : wrongE s ds ss = 0) (hp : PermOk ps ds.length) : wrongE s (taken ds ps) (taken ss ps) = 0 := by
  obtain ⟨h1, h2, h3⟩ := wrongE_ok hW
  unfold wrongE
  rw [sizeE_perm (taken_perm hp), if_neg (by simp [h1]), taken_length, taken_length, if_neg (by simp), if_neg (by rw [turn_far hW hp h2]; simp)]

/-- Where k stands in the list; the last such place ahead of i. -/
def invN (ps : List Int) : Nat → Nat → Int
  | 0, _ => 0
  | i + 1, k => if ps[i]?.getD 0 = (k : Int) then (i : Int) else invN ps i k
def invL (ps : List Int) : List Int := (List.range ps.length).map (invN ps ps.length)
theorem invN_spec (ps : List Int) (k : Nat) : ∀ n, (∃ i, i < n ∧ ps[i]?.getD 0 = (k : Int)) → ∃ i : Nat, i < n ∧ invN ps n k = (i : Int) ∧ ps[i]?.getD 0 = (k : Int)
  | 0, ⟨i, h, _⟩ => by omega
  | n + 1, ⟨i, h, e⟩ => by
    by_cases c : ps[n]?.getD 0 = (k : Int)
    · exact ⟨n, by omega, by rw [invN, if_pos c], c⟩
    · have : i < n := by
        by_cases h' : i = n
        · subst h'; exact absurd e c
        · omega
      obtain ⟨j, h1, h2, h3⟩ := invN_spec ps k n ⟨i, this, e⟩
      exact ⟨j, by omega, by rw [invN, if_neg c, h2], h3⟩
theorem invL_length (ps : List Int) : (invL ps).length = ps.length := by simp [invL]
theorem invL_getD (ps : List Int) (k : Nat) (h : k < ps.length) : (invL ps)[k]?.getD 0 = invN ps ps.length k := by simp [invL, h]
theorem perm_inj {ps : List Int} {n : Nat} (hp : PermOk ps n) {i j : Nat} (hi : i < n) (hj : j < n) (e : ps[i]?.getD 0 = ps[j]?.getD 0) : i = j := by
  by_cases h1 : i < j
  · exact absurd e ((hp.2 j hj).2.2 i h1)
  · by_cases h2 : j < i
    · exact absurd e.symm ((hp.2 i hi).2.2 j h2)
    · omega
theorem perm_at {ps : List Int} {n : Nat} (hp : PermOk ps n) (k : Nat) (hk : k < n) : ∃ i : Nat, i < n ∧ invN ps n k = (i : Int) ∧ ps[i]?.getD 0 = (k : Int) := by
  have hm := (perm_iff hp.1).1 hp.2 k hk
  obtain ⟨i, hi, e⟩ := List.getElem_of_mem hm
  have hl := hp.1
  exact invN_spec ps k n ⟨i, by omega, by simp [hi, e]⟩
theorem invL_perm {ps : List Int} {n : Nat} (hp : PermOk ps n) : PermOk (invL ps) n := by
  have hl := hp.1
  refine ⟨by rw [invL_length, hl], (perm_iff (by rw [invL_length, hl])).2 fun i hi => ?_⟩
  have hb := hp.2 i hi
  obtain ⟨k, hk⟩ : ∃ k : Nat, ps[i]?.getD 0 = (k : Int) := ⟨(ps[i]?.getD 0).toNat, by omega⟩
  have hkn : k < n := by omega
  obtain ⟨j, h1, h2, h3⟩ := perm_at hp k hkn
  have hij := perm_inj hp hi h1 (hk.trans h3.symm)
  subst hij
  have : (invL ps)[k]?.getD 0 = (i : Int) := by rw [invL_getD ps k (by omega), hl, h2]
  rw [← this]
  exact mem_getD _ k (by rw [invL_length, hl]; exact hkn)
theorem taken_back {xs ps : List Int} (hp : PermOk ps xs.length) : taken (taken xs ps) (invL ps) = xs := by
  have hl := hp.1
  apply List.ext_getElem?
  intro k
  by_cases hk : k < xs.length
  · obtain ⟨i, h1, h2, h3⟩ := perm_at hp k hk
    have e1 : (taken (taken xs ps) (invL ps))[k]?.getD 0 = (taken xs ps)[i]?.getD 0 := taken_getD _ _ k i (by rw [invL_length]; omega) (by rw [invL_getD ps k (by omega), hl, h2])
    have e2 : (taken xs ps)[i]?.getD 0 = xs[k]?.getD 0 := taken_getD _ _ i k (by omega) h3
    have hl1 : k < (taken (taken xs ps) (invL ps)).length := by rw [taken_length, invL_length]; omega
    rw [List.getElem?_eq_getElem hl1, Option.getD_some] at e1
    rw [List.getElem?_eq_getElem hk, Option.getD_some] at e2
    rw [List.getElem?_eq_getElem hl1, List.getElem?_eq_getElem hk, e1, e2]
  · rw [List.getElem?_eq_none (by rw [taken_length, invL_length]; omega), List.getElem?_eq_none (by omega)]
theorem turn_again {s : Int} {ds ss ps : List Int} (h : turnE s ds ss ps = 0) : PermOk ps ds.length ∧ turnE s (taken ds ps) (taken ss ps) (invL ps) = 0 ∧ taken (taken ds ps) (invL ps) = ds ∧ taken (taken ss ps) (invL ps) = ss := by
  have hW : wrongE s ds ss = 0 := by
    unfold turnE at h
    by_cases c : wrongE s ds ss = 0
    · exact c
    · rw [if_pos c] at h; exact absurd h c
  have hp : PermOk ps ds.length := by
    unfold turnE at h
    rw [if_neg (by simp [hW])] at h
    by_cases c : permB ps ds.length = true
    · exact (permB_iff _ _).1 c
    · rw [if_neg c] at h; omega
  have hlen := (wrongE_ok hW).2.1
  refine ⟨hp, ?_, taken_back hp, taken_back (by rw [hlen]; exact hp)⟩
  unfold turnE
  rw [if_neg (by rw [wrong_turn hW hp]; simp), if_pos ((permB_iff _ _).2 (by rw [taken_length, hp.1]; exact invL_perm hp))]

/-! ### Flipping twice -/
theorem flipL_twice (ss ps : List Int) : flipL (flipL ss ps) ps = ss := by
  apply List.ext_getElem?
  intro k
  by_cases hk : k < ss.length
  · have h1 : k < (flipL ss ps).length := by rw [flipL_length]; exact hk
    have h2 : k < (flipL (flipL ss ps) ps).length := by rw [flipL_length]; exact h1
    have e := flipL_getD (flipL ss ps) ps k h1
    rw [flipL_getD ss ps k hk] at e
    rw [List.getElem?_eq_getElem h2, Option.getD_some] at e
    rw [List.getElem?_eq_getElem h2, e, List.getElem?_eq_getElem hk]
    by_cases c : inB ps k = true
    · rw [if_pos c, if_pos c]; simp
    · rw [if_neg c, if_neg c]; simp
  · rw [List.getElem?_eq_none (by rw [flipL_length, flipL_length]; omega), List.getElem?_eq_none (by omega)]
theorem flipTerm_neg {ds ss ps : List Int} {j : Nat} (hj : j < ss.length) (h : inB ps j = true) : flipTerm ds (flipL ss ps) j = -(flipTerm ds ss j) := by
  unfold flipTerm
  rw [flipL_getD ss ps j hj, if_pos h]
  split
  · rw [Int.mul_neg]
  · simp
theorem flipAcc_add (ds ss ps : List Int) : ∀ (i : Nat) (s t : Int), flipAcc (s + t) ds ss ps i = flipAcc s ds ss ps i + t
  | 0, s, t => rfl
  | i + 1, s, t => by rw [flipAcc, flipAcc, flipAcc_add ds ss ps i]; omega
theorem flipAcc_neg {ds ss ps : List Int} {n : Nat} (hl : ss.length = n) (hp : RiseOk ps n) : ∀ (i : Nat) (s : Int), i ≤ ps.length → flipAcc s ds (flipL ss ps) ps i = s - (flipAcc s ds ss ps i - s)
  | 0, s, _ => by simp [flipAcc]
  | i + 1, s, hi => by
    have ih := flipAcc_neg (ds := ds) hl hp i s (by omega)
    have hb := hp i (by omega)
    have hin : inB ps (ps[i]?.getD 0).toNat = true := by
      unfold inB
      rw [List.any_eq_true]
      exact ⟨_, mem_getD ps i (by omega), by simp; omega⟩
    rw [flipAcc, flipAcc, ih, flipTerm_neg (by omega) hin]
    omega
theorem flip_again {s : Int} {ds ss ps : List Int} (h : flipE s ds ss ps = 0) : flipE (flipAcc s ds ss ps ps.length) ds (flipL ss ps) ps = 0 ∧ flipAcc (flipAcc s ds ss ps ps.length) ds (flipL ss ps) ps ps.length = s ∧ flipL (flipL ss ps) ps = ss := by
  have hW : wrongE s ds ss = 0 := by
    unfold flipE at h
    by_cases c : wrongE s ds ss = 0
    · exact c
    · rw [if_pos c] at h; exact absurd h c
  unfold flipE at h
  rw [if_neg (by simp [hW])] at h
  have hp : riseB ps ds.length = true := by
    by_cases c : riseB ps ds.length = true
    · exact c
    · rw [if_neg c] at h; omega
  rw [if_pos hp] at h
  have hbe : beyondB (flipAcc s ds ss ps ps.length) (flipL ss ps) = false := by
    cases c : beyondB (flipAcc s ds ss ps ps.length) (flipL ss ps) with
    | false => rfl
    | true => rw [c] at h; simp at h
  obtain ⟨h1, h2, h3⟩ := wrongE_ok hW
  have hpo := (riseB_iff _ _).1 hp
  have hback : flipAcc (flipAcc s ds ss ps ps.length) ds (flipL ss ps) ps ps.length = s := by
    have e1 := flipAcc_neg (ds := ds) h2 hpo ps.length (flipAcc s ds ss ps ps.length) (Nat.le_refl _)
    have e2 := flipAcc_add ds ss ps ps.length s (flipAcc s ds ss ps ps.length - s)
    rw [show s + (flipAcc s ds ss ps ps.length - s) = flipAcc s ds ss ps ps.length by omega] at e2
    omega
  refine ⟨?_, hback, flipL_twice ss ps⟩
  have hw : wrongE (flipAcc s ds ss ps ps.length) ds (flipL ss ps) = 0 := by
    unfold wrongE
    rw [if_neg (by simp [h1]), if_neg (by rw [flipL_length]; simp [h2]), if_neg (by rw [hbe]; simp)]
  unfold flipE
  rw [if_neg (by simp [hw]), if_pos hp, hback, flipL_twice, if_neg (by rw [h3]; simp)]

/-! ### What lies whole -/
theorem stepsV_cons {d : Int} {ds : List Int} (h : ∀ x ∈ d :: ds, 1 ≤ x) : stepsV (d :: ds) = prod ds :: stepsV ds := by
  have h' : ∀ x ∈ ds, 1 ≤ x := fun x hx => h x (by simp [hx])
  unfold stepsV
  rw [List.length_cons, List.range_succ_eq_map, List.map_cons, List.map_map, stepV_pos h, beh_zero]
  congr 1
  apply List.map_congr_left
  intro k _
  show stepV (d :: ds) (k + 1) = stepV ds k
  rw [stepV_pos h, stepV_pos h', beh_cons]
theorem lieN_whole : ∀ (ds : List Int) (n : Int), (∀ x ∈ ds, 1 ≤ x) → 0 ≤ n → n < prod ds → lieN ds (stepsV ds) n = n
  | [], n, _, h0, h1 => by simp [prod] at h1; simp [lieN]; omega
  | d :: ds, n, h, h0, h1 => by
    have h' : ∀ x ∈ ds, 1 ≤ x := fun x hx => h x (by simp [hx])
    have hP := prod_pos ds h'
    rw [stepsV_cons h, lieN, lieN_whole ds (n % prod ds) h' (Int.emod_nonneg _ (by omega)) (Int.emod_lt_of_pos _ (by omega))]
    have := Int.mul_ediv_add_emod n (prod ds)
    rw [Int.mul_comm]; omega
theorem readsV_whole {ds : List Int} (h : ∀ x ∈ ds, 1 ≤ x) (i : Nat) (hi : i < (prod ds).toNat) : (readsV 0 ds (stepsV ds))[i]?.getD 0 = i := by
  rw [readsV_getD 0 ds _ i hi, lieN_whole ds i h (by omega) (by omega)]; omega
theorem wrong_whole {ds : List Int} (h : sizeE ds = 0) : wrongE 0 ds (stepsV ds) = 0 := by
  unfold wrongE
  rw [if_neg (by simp [h]), if_neg (by rw [stepsV_len]; simp), if_neg ?_]
  have : beyondB 0 (stepsV ds) = false := by
    unfold beyondB
    rw [Bool.or_eq_false_iff]
    refine ⟨by decide, ?_⟩
    rw [List.any_eq_false]
    intro x hx
    simp only [stepsV, List.mem_map, List.mem_range] at hx
    obtain ⟨k, _, rfl⟩ := hx
    have : 0 ≤ stepV ds k ∧ stepV ds k ≤ 65536 := by
      rcases dims_cases h with ⟨h0, _⟩ | ⟨hpos, _, hp, _⟩
      · rw [stepV_zero h0]; omega
      · rw [stepV_pos hpos]
        have := prod_drop_le ds hpos (k + 1)
        unfold beh; omega
    simp [farB]; omega
  rw [this]; simp
theorem reform_whole {ds es : List Int} (h : sizeE ds = 0) : (reformE 0 ds (stepsV ds) es = 0) ↔ (sizeE es = 0 ∧ sizeN ds = sizeN es) := by
  have hNd : sizeN ds = prod ds := by rcases dims_cases h with ⟨_, h1, h2⟩ | ⟨_, h1, _⟩ <;> omega
  unfold reformE
  rw [if_neg (by simp [wrong_whole h])]
  by_cases hE : sizeE es = 0
  · rw [if_neg (by simp [hE])]
    by_cases hN : sizeN es = prod ds
    · rw [if_neg (by simp [hN])]
      have hR : (if prod es = 0 then (0 : Int) else if allEvenB (readsV 0 ds (stepsV ds)) es = true then (if beyondB 0 (reformSteps (readsV 0 ds (stepsV ds)) es) = true then 5 else 0) else 9) = 0 := by
        by_cases h0 : prod es = 0
        · rw [if_pos h0]
        rw [if_neg h0]
        obtain ⟨hpe, hne, hp2, hp3⟩ : (∀ x ∈ es, 1 ≤ x) ∧ sizeN es = prod es ∧ prod es ≤ 65536 ∧ 1 ≤ prod es := by
          rcases dims_cases hE with ⟨_, _, h2⟩ | h2
          · exact absurd h2 h0
          · exact h2
        have hpd : ∀ x ∈ ds, 1 ≤ x := by
          rcases dims_cases h with ⟨_, _, h2⟩ | ⟨h2, _⟩
          · omega
          · exact h2
        have hlen : (readsV 0 ds (stepsV ds)).length = (prod ds).toNat := readsV_length _ _ _
        have key : ∀ k, k < es.length → EvenP (readsV 0 ds (stepsV ds)) (es[k]?.getD 0).toNat (beh es k).toNat ∧ 0 ≤ stepE (readsV 0 ds (stepsV ds)) (es[k]?.getD 0).toNat (beh es k).toNat ∧ stepE (readsV 0 ds (stepsV ds)) (es[k]?.getD 0).toNat (beh es k).toNat ≤ 65536 := by
          intro k hk
          have hB := beh_pos hpe k
          have hD := getD_pos hpe hk
          obtain ⟨B, hBn⟩ : ∃ B : Nat, beh es k = (B : Int) := ⟨(beh es k).toNat, by omega⟩
          obtain ⟨D, hDn⟩ : ∃ D : Nat, es[k]?.getD 0 = (D : Int) := ⟨(es[k]?.getD 0).toNat, by omega⟩
          rw [hBn, hDn, Int.toNat_natCast, Int.toNat_natCast]
          by_cases hD1 : D = 1
          · refine ⟨.inl hD1, ?_⟩
            unfold stepE; rw [if_pos hD1]; omega
          have hDB : D * B ≤ (prod ds).toNat := by
            have e := prod_drop es k hk
            have h3 := (prod_drop_le es hpe k).2
            have h4 : beh es k = prod (es.drop (k + 1)) := rfl
            rw [← h4, hBn, hDn, ← Int.natCast_mul] at e
            omega
          have hBl : B < (prod ds).toNat := by
            have : B * 1 < B * D := Nat.mul_lt_mul_of_pos_left (by omega) (by omega)
            rw [Nat.mul_comm B D] at this
            omega
          have eB := readsV_whole hpd B hBl
          have e0 := readsV_whole hpd 0 (by omega)
          refine ⟨.inr fun p hp hc => ?_, ?_⟩
          · rw [hlen] at hp
            have hle : p % (D * B) ≤ p := Nat.mod_le _ _
            rw [readsV_whole hpd p hp, readsV_whole hpd (p - B) (by omega), eB, e0]
            omega
          · unfold stepE; rw [if_neg hD1, eB, e0]; omega
        rw [if_pos ((allEvenB_iff _ _).2 fun k hk => (key k hk).1), if_neg ?_]
        have : beyondB 0 (reformSteps (readsV 0 ds (stepsV ds)) es) = false := by
          unfold beyondB
          rw [Bool.or_eq_false_iff]
          refine ⟨by decide, ?_⟩
          rw [List.any_eq_false]
          intro x hx
          simp only [reformSteps, List.mem_map, List.mem_range] at hx
          obtain ⟨k, hk, rfl⟩ := hx
          have := (key k hk).2
          simp [farB]; omega
        rw [this]; simp
      rw [hR]
      simp [hE, hN, hNd]
    · rw [if_pos hN]
      constructor
      · intro h6; omega
      · rintro ⟨_, h2⟩; omega
  · rw [if_pos hE]
    constructor
    · intro h6; exact absurd h6 hE
    · rintro ⟨h1, _⟩; exact absurd h1 hE
end Go.Proofs.Ytcidhbkdaleomaa.V
namespace Go.Proofs.Ytcidhbkdaleomaa.V
set_option maxRecDepth 20000

theorem pos_of {D : List Int} (hE : sizeE D = 0) {i : Nat} (hi : i < (prod D).toNat) : ∀ x ∈ D, 1 ≤ x := by
  rcases dims_cases hE with ⟨_, _, h⟩ | ⟨h, _⟩
  · omega
  · exact h

/-- The place of an index, and what lies there. -/
theorem place_lie : ∀ (ds ss y : List Int), ss.length = ds.length → y.length = ds.length → IdxOk ds y → 0 ≤ dotT y (stepsV ds) ds.length ∧ dotT y (stepsV ds) ds.length < prod ds ∧ lieN ds ss (dotT y (stepsV ds) ds.length) = dotT y ss ds.length
  | [], ss, y, _, _, _ => by simp [dotT, prod, lieN]
  | d :: ds, [], _, h, _, _ => by simp at h
  | d :: ds, _, [], _, h, _ => by simp at h
  | d :: ds, t :: ss, a :: y, h1, h2, hi => by
    have hpos := idxOk_pos hi
    have hpos' : ∀ x ∈ ds, 1 ≤ x := fun x hx => hpos x (by simp [hx])
    have hi' : IdxOk ds y := fun k hk => by
      have := hi (k + 1) (by simp; omega)
      simpa using this
    have ha := hi 0 (by simp)
    simp at ha
    obtain ⟨i1, i2, i3⟩ := place_lie ds ss y (by simpa using h1) (by simpa using h2) hi'
    rw [stepsV_cons hpos, List.length_cons, dotT_cons, dotT_cons, prod, lieN]
    obtain ⟨p, hp⟩ : ∃ p, dotT y (stepsV ds) ds.length = p := ⟨_, rfl⟩
    rw [hp] at i1 i2 i3 ⊢
    have hP := prod_pos ds hpos'
    have e1 : (a * prod ds + p) / prod ds = a := by rw [Int.add_comm, Int.add_mul_ediv_right _ _ (by omega), Int.ediv_eq_zero_of_lt i1 i2]; omega
    have e2 : (a * prod ds + p) % prod ds = p := by rw [Int.add_comm, Int.add_mul_emod_self_right, Int.emod_eq_of_lt i1 i2]
    have b1 : 0 ≤ a * prod ds := Int.mul_nonneg ha.1 (by omega)
    have b2 : (a + 1) * prod ds ≤ d * prod ds := Int.mul_le_mul_of_nonneg_right (by omega) (by omega)
    rw [Int.add_mul] at b2
    refine ⟨by omega, by omega, ?_⟩
    rw [e1, e2, i3]

/-- Each entry of what is made is an entry of what it is made of, whatever the steps are. -/
def ThroughP (ds D : List Int) (S : Int → List Int → Int) (T : List Int → List Int) : Prop :=
  ∀ i : Nat, i < (prod D).toNat → ∃ y : List Int, y.length = ds.length ∧ IdxOk ds y ∧ ∀ s ss, ss.length = ds.length → S s ss + lieN D (T ss) i = s + dotT y ss ds.length
/-- What the statement asks. -/
def ReadsThrough (s : Int) (ds ss D : List Int) (S : Int → List Int → Int) (T : List Int → List Int) : Prop :=
  ∀ i : Nat, i < (prod D).toNat → ∃ p : Nat, p < (prod ds).toNat ∧ (readsV (S 0 (stepsV ds)) D (T (stepsV ds)))[i]?.getD 0 = (p : Int) ∧ (readsV (S s ss) D (T ss))[i]?.getD 0 = (readsV s ds ss)[p]?.getD 0
theorem through_of {s : Int} {ds ss D : List Int} {S : Int → List Int → Int} {T : List Int → List Int} (hl : ss.length = ds.length) (h : ThroughP ds D S T) : ReadsThrough s ds ss D S T := by
  intro i hi
  obtain ⟨y, hy, hid, he⟩ := h i hi
  obtain ⟨p0, p1, p2⟩ := place_lie ds ss y hl hy hid
  obtain ⟨p, hp⟩ : ∃ p : Nat, dotT y (stepsV ds) ds.length = (p : Int) := ⟨(dotT y (stepsV ds) ds.length).toNat, by omega⟩
  rw [hp] at p0 p1 p2
  refine ⟨p, by omega, ?_, ?_⟩
  · rw [readsV_getD _ _ _ i hi, he 0 (stepsV ds) (stepsV_len ds), hp]; omega
  · rw [readsV_getD _ _ _ i hi, he s ss hl, readsV_getD s ds ss p (by omega), p2]

/-! ### Turn -/
def sumL : List Int → Int
  | [] => 0
  | x :: r => x + sumL r
theorem sumL_perm {a b : List Int} (h : a.Perm b) : sumL a = sumL b := by
  induction h with
  | nil => rfl
  | cons x _ ih => rw [sumL, sumL, ih]
  | swap x y l => simp only [sumL]; omega
  | trans _ _ ih1 ih2 => rw [ih1, ih2]
theorem sumL_append (a b : List Int) : sumL (a ++ b) = sumL a + sumL b := by
  induction a with
  | nil => simp [sumL]
  | cons x a ih => simp [sumL, ih]; omega
theorem dotT_sumL (xs ys : List Int) : ∀ n, dotT xs ys n = sumL ((List.range n).map fun k => xs[k]?.getD 0 * ys[k]?.getD 0)
  | 0 => rfl
  | n + 1 => by rw [dotT, List.range_succ, List.map_append, sumL_append, dotT_sumL xs ys n]; simp [sumL]
theorem through_turn {ds ps : List Int} (hE : sizeE ds = 0) (hp : PermOk ps ds.length) : ThroughP ds (taken ds ps) (fun s _ => s) (fun ss => taken ss ps) := by
  intro i hi
  have hl := hp.1
  have hpm := taken_perm hp
  have hpos := pos_of (by rw [sizeE_perm hpm]; exact hE) hi
  have hb := dig_bd (taken ds ps) i hpos (by omega) (by omega)
  have hdl : (dig (taken ds ps) i).length = ds.length := by rw [dig_length, taken_length, hl]
  refine ⟨taken (dig (taken ds ps) i) (invL ps), by rw [taken_length, invL_length, hl], fun k hk => ?_, fun s ss hss => ?_⟩
  · obtain ⟨j, h1, h2, h3⟩ := perm_at hp k hk
    have e1 : (taken (dig (taken ds ps) i) (invL ps))[k]?.getD 0 = (dig (taken ds ps) i)[j]?.getD 0 := taken_getD _ _ k j (by rw [invL_length]; omega) (by rw [invL_getD ps k (by omega), hl, h2])
    have e2 : (taken ds ps)[j]?.getD 0 = ds[k]?.getD 0 := taken_getD _ _ j k (by omega) h3
    have := hb j (by rw [taken_length]; omega)
    rw [e1, ← e2]; exact this
  · rw [lieN_dig _ _ _ (by rw [taken_length, taken_length]), taken_length, hl, dotT_sumL, dotT_sumL]
    congr 1
    have hpr : (ps.map Int.toNat).Perm (List.range ds.length) := by
      refine perm_range _ _ (by simp [hl]) (fun k hk => ?_)
      have := (perm_iff hp.1).1 hp.2 k hk
      simp only [List.mem_map]
      exact ⟨(k : Int), this, by simp⟩
    have h2 := sumL_perm (hpr.map (fun k => (taken (dig (taken ds ps) i) (invL ps))[k]?.getD 0 * ss[k]?.getD 0))
    rw [← h2]
    congr 1
    rw [List.map_map]
    apply List.ext_getElem?
    intro j
    by_cases hj : j < ds.length
    · have hjp : j < ps.length := by omega
      have hpj := hp.2 j hj
      obtain ⟨m, hm⟩ : ∃ m : Nat, ps[j]?.getD 0 = (m : Int) := ⟨(ps[j]?.getD 0).toNat, by omega⟩
      have hmn : m < ds.length := by omega
      obtain ⟨j', h1, h2', h3⟩ := perm_at hp m hmn
      have ejj := perm_inj hp hj h1 (hm.trans h3.symm)
      subst ejj
      have e1 : (taken (dig (taken ds ps) i) (invL ps))[m]?.getD 0 = (dig (taken ds ps) i)[j]?.getD 0 := taken_getD _ _ m j (by rw [invL_length]; omega) (by rw [invL_getD ps m (by omega), hl, h2'])
      have e2 : (taken ss ps)[j]?.getD 0 = ss[m]?.getD 0 := taken_getD _ _ j m hjp hm
      have hm' : ps[j] = (m : Int) := by simpa [hjp] using hm
      simp only [List.getElem?_map, List.getElem?_range hj, Option.map_some, List.getElem?_eq_getElem hjp, Function.comp, hm', Int.toNat_natCast, e1, e2]
    · rw [List.getElem?_eq_none (by simp; omega), List.getElem?_eq_none (by simp; omega)]

/-! ### Flip -/
theorem through_flip {ds ps : List Int} (hE : sizeE ds = 0) (hp : RiseOk ps ds.length) : ThroughP ds ds (fun s ss => flipAcc s ds ss ps ps.length) (fun ss => flipL ss ps) := by
  intro i hi
  have hpos := pos_of hE hi
  have hb := dig_bd ds i hpos (by omega) (by omega)
  refine ⟨(List.range ds.length).map fun k => if inB ps k = true then ds[k]?.getD 0 - 1 - (dig ds i)[k]?.getD 0 else (dig ds i)[k]?.getD 0, by simp, fun k hk => ?_, fun s ss hss => ?_⟩
  · have := hb k hk
    simp only [List.getElem?_map, List.getElem?_range hk, Option.map_some, Option.getD_some]
    split <;> omega
  · show flipAcc s ds ss ps ps.length + lieN ds (flipL ss ps) i = _
    rw [← rAcc_flipAcc s ds ss ps ds.length hp, lieN_dig ds _ _ (by rw [flipL_length]; exact hss)]
    have key : ∀ k, k ≤ ds.length → rAcc s ds ss ps k + dotT (dig ds i) (flipL ss ps) k = s + dotT ((List.range ds.length).map fun k => if inB ps k = true then ds[k]?.getD 0 - 1 - (dig ds i)[k]?.getD 0 else (dig ds i)[k]?.getD 0) ss k := by
      intro k
      induction k with
      | zero => intro _; simp [rAcc, dotT]
      | succ k ih =>
        intro hk
        have ih' := ih (by omega)
        have hk' : k < ds.length := by omega
        have hd := hpos _ (mem_getD ds k hk')
        rw [rAcc, dotT, dotT, flipL_getD ss ps k (by omega)]
        simp only [List.getElem?_map, List.getElem?_range hk', Option.map_some, Option.getD_some]
        by_cases c : inB ps k = true
        · rw [if_pos c, if_pos c, if_pos c]
          unfold flipTerm
          rw [if_pos (by omega)]
          simp only [Int.sub_mul, Int.mul_neg, Int.one_mul]
          omega
        · rw [if_neg c, if_neg c, if_neg c]
          omega
    exact key ds.length (Nat.le_refl _)

/-! ### Cut -/
theorem cutAcc_eq (s : Int) (ss lo : List Int) : ∀ n, cutAcc s ss lo n = s + dotT lo ss n
  | 0 => by simp [cutAcc, dotT]
  | n + 1 => by rw [cutAcc, cutAcc_eq s ss lo n, dotT]; omega
theorem kept_lt {l h t x : Int} (ht : 1 ≤ t) (hx : x < keptN l h t) : l + x * t < h := by
  unfold keptN at hx
  have h1 := Int.mul_ediv_add_emod (h - l + t - 1) t
  have h2 := Int.emod_nonneg (h - l + t - 1) (show t ≠ 0 by omega)
  have h3 : t * (x + 1) ≤ t * ((h - l + t - 1) / t) := Int.mul_le_mul_of_nonneg_left (by omega) (by omega)
  rw [Int.mul_add, Int.mul_comm t x] at h3
  omega
theorem through_cut {ds lo hi st : List Int} (hE : sizeE (cutD ds lo hi st) = 0) (hb : anyBad ds lo hi st = false) : ThroughP ds (cutD ds lo hi st) (fun s ss => cutAcc s ss lo ds.length) (fun ss => cutS ss st) := by
  intro i hi'
  have hpos := pos_of hE hi'
  have hbd := dig_bd (cutD ds lo hi st) i hpos (by omega) (by omega)
  have hcl := cutD_length ds lo hi st
  refine ⟨(List.range ds.length).map fun k => lo[k]?.getD 0 + (dig (cutD ds lo hi st) i)[k]?.getD 0 * st[k]?.getD 0, by simp, fun k hk => ?_, fun s ss hss => ?_⟩
  · have h1 := hbd k (by omega)
    rw [cutD_getD ds lo hi st k hk] at h1
    have h2 := badCut_false (of_anyBad_false hb k hk)
    have h3 := kept_lt h2.2.2.2.1 h1.2
    have h4 : 0 ≤ (dig (cutD ds lo hi st) i)[k]?.getD 0 * st[k]?.getD 0 := Int.mul_nonneg h1.1 (by omega)
    simp only [List.getElem?_map, List.getElem?_range hk, Option.map_some, Option.getD_some]
    omega
  · show cutAcc s ss lo ds.length + lieN (cutD ds lo hi st) (cutS ss st) i = _
    rw [lieN_dig _ _ _ (by rw [cutS_length, hcl]; exact hss), cutAcc_eq, hcl]
    have key : ∀ k, k ≤ ds.length → dotT lo ss k + dotT (dig (cutD ds lo hi st) i) (cutS ss st) k = dotT ((List.range ds.length).map fun k => lo[k]?.getD 0 + (dig (cutD ds lo hi st) i)[k]?.getD 0 * st[k]?.getD 0) ss k := by
      intro k
      induction k with
      | zero => intro _; simp [dotT]
      | succ k ih =>
        intro hk
        have ih' := ih (by omega)
        have hk' : k < ds.length := by omega
        rw [dotT, dotT, dotT, cutS_getD ss st k (by omega)]
        simp only [List.getElem?_map, List.getElem?_range hk', Option.map_some, Option.getD_some]
        rw [Int.add_mul, Int.mul_assoc]
        omega
    have := key ds.length (Nat.le_refl _)
    omega

/-! ### Spread -/
theorem dotT_put (x : List Int) (f g : Nat → Int) (N m : Nat) (c : Int) (hg : ∀ j, g j = if j = m then c else f j) : ∀ n, n ≤ N → dotT x ((List.range N).map g) n = dotT x ((List.range N).map f) n + if m < n then x[m]?.getD 0 * (c - f m) else 0
  | 0, _ => by simp [dotT]
  | n + 1, hn => by
    have ih := dotT_put x f g N m c hg n (by omega)
    have hn' : n < N := by omega
    rw [dotT, dotT, ih]
    simp only [List.getElem?_map, List.getElem?_range hn', Option.map_some, Option.getD_some, hg n]
    by_cases e : n = m
    · subst e
      rw [if_pos rfl, if_neg (by omega), if_pos (by omega), Int.mul_sub]
      omega
    · rw [if_neg e]
      by_cases h : m < n
      · rw [if_pos h, if_pos (by omega)]; omega
      · rw [if_neg h, if_neg (by omega)]; omega
theorem dotT_zero (x : List Int) (N : Nat) : ∀ n, n ≤ N → dotT x ((List.range N).map fun _ => (0 : Int)) n = 0
  | 0, _ => rfl
  | n + 1, hn => by
    have hn' : n < N := by omega
    rw [dotT, dotT_zero x N n (by omega)]
    simp only [List.getElem?_map, List.getElem?_range hn', Option.map_some, Option.getD_some]
    omega
theorem sprV_none {ss ps : List Int} {m : Nat} : ∀ i, (∀ k, k < i → (ps[k]?.getD 0).toNat ≠ m) → sprV ss ps i m = 0
  | 0, _ => rfl
  | i + 1, h => by rw [sprV, if_neg (fun e => h i (by omega) e.symm), sprV_none i (fun k hk => h k (by omega))]
theorem through_spread {ds es ps : List Int} (hE : sizeE es = 0) (hl : ps.length = ds.length) (hp : RiseOk ps es.length) (hm : anyMis ds es ps = false) : ThroughP ds es (fun s _ => s) (fun ss => sprS es.length ss ps) := by
  intro i hi
  have hpos := pos_of hE hi
  have hb := dig_bd es i hpos (by omega) (by omega)
  refine ⟨(List.range ds.length).map fun k => (dig es i)[(ps[k]?.getD 0).toNat]?.getD 0, by simp, fun k hk => ?_, fun s ss hss => ?_⟩
  · have h1 := hp k (by omega)
    have h2 := hb (ps[k]?.getD 0).toNat (by omega)
    have h3 : misAt ds es ps k = false := by
      unfold anyMis at hm
      rw [List.any_eq_false] at hm
      have := hm k (List.mem_range.2 (by omega))
      simpa using this
    simp [misAt] at h3
    simp only [List.getElem?_map, List.getElem?_range hk, Option.map_some, Option.getD_some]
    rw [h3]; exact h2
  · rw [lieN_dig _ _ _ (by rw [sprS_length])]
    have key : ∀ k, k ≤ ds.length → dotT (dig es i) ((List.range es.length).map (sprV ss ps k)) es.length = dotT ((List.range ds.length).map fun k => (dig es i)[(ps[k]?.getD 0).toNat]?.getD 0) ss k := by
      intro k
      induction k with
      | zero => intro _; exact dotT_zero _ _ _ (Nat.le_refl _)
      | succ k ih =>
        intro hk
        have ih' := ih (by omega)
        have hk' : k < ds.length := by omega
        have h1 := hp k (by omega)
        have hf : sprV ss ps k (ps[k]?.getD 0).toNat = 0 := sprV_none k fun j hj e => by
          have h2 := rise_lt hp j k hj (by omega)
          have h3 := hp j (by omega)
          omega
        have e := dotT_put (dig es i) (sprV ss ps k) (sprV ss ps (k + 1)) es.length (ps[k]?.getD 0).toNat (ss[k]?.getD 0) (fun j => rfl) es.length (Nat.le_refl _)
        rw [e, ih', if_pos (by omega), hf, dotT, Int.sub_zero]
        simp only [List.getElem?_map, List.getElem?_range hk', Option.map_some, Option.getD_some]
    have := key ds.length (Nat.le_refl _)
    unfold sprS
    rw [hl, this]
end Go.Proofs.Ytcidhbkdaleomaa.V
