/-
  Contract: view.Reform, where the numbers fit.
-/
import Derived.Test.YtfamaaahofjglaaEvenStep
import Derived.Test.YtfamaaahofjglaaStages
import Derived.Test.YtfamaaahofjglaaReadsAny
namespace Go.Proofs.Ytfamaaahofjglaa.V
open Go.RowKit Go.Shelf
attribute [local go_sem] Oper.semAt_some

def evenB (L : List Int) (D B : Nat) : Bool := decide (D = 1) || (List.range L.length).all fun p => !decide (B ≤ p % (D * B)) || decide (L[p]?.getD 0 - L[p - B]?.getD 0 = L[B]?.getD 0 - L[0]?.getD 0)
theorem evenB_iff (L : List Int) (D B : Nat) : evenB L D B = true ↔ EvenP L D B := by
  unfold evenB EvenP
  simp only [Bool.or_eq_true, decide_eq_true_eq, List.all_eq_true, List.mem_range, Bool.not_eq_true', decide_eq_false_iff_not]
  constructor
  · rintro (h | h)
    · exact .inl h
    · exact .inr fun p hp hc => (h p hp).resolve_left (fun h' => h' hc)
  · rintro (h | h)
    · exact .inl h
    · refine .inr fun p hp => ?_
      by_cases hc : B ≤ p % (D * B)
      · exact .inr (h p hp hc)
      · exact .inl hc
def allEvenB (L es : List Int) : Bool := (List.range es.length).all fun k => evenB L (es[k]?.getD 0).toNat (beh es k).toNat
theorem allEvenB_iff (L es : List Int) : allEvenB L es = true ↔ ∀ k, k < es.length → EvenP L (es[k]?.getD 0).toNat (beh es k).toNat := by
  unfold allEvenB
  simp only [List.all_eq_true, List.mem_range, evenB_iff]
def reformL (L es : List Int) : List Int := if prod es = 0 then List.replicate es.length 0 else reformSteps L es
def reformE (s : Int) (ds ss es : List Int) : Int :=
  if wrongE s ds ss ≠ 0 then wrongE s ds ss else if sizeE es ≠ 0 then sizeE es else if sizeN es ≠ prod ds then 6 else if prod es = 0 then 0
  else if allEvenB (readsV s ds ss) es = true then (if beyondB s (reformSteps (readsV s ds ss) es) = true then 5 else 0) else 9

/-- The row of steps on its way: those from len - t on are there. -/
def reformF (L es : List Int) (len t j : Nat) : Value := .int .i64 (if len ≤ j + t then stepE L (es[j]?.getD 0).toNat (beh es j).toNat else 0)
theorem reformF_succ (L es : List Int) (len t j : Nat) (ht : t < len) : (if j = len - 1 - t then .int .i64 (stepE L (es[len - 1 - t]?.getD 0).toNat (beh es (len - 1 - t)).toNat) else reformF L es len t j) = reformF L es len (t + 1) j := by
  unfold reformF
  by_cases e : j = len - 1 - t
  · rw [if_pos e, if_pos (by omega), e]
  · rw [if_neg e]
    by_cases h : len ≤ j + t
    · rw [if_pos h, if_pos (by omega)]
    · rw [if_neg h, if_neg (by omega)]
theorem stepE_bd {L : List Int} (hb : ∀ x ∈ L, -28115000000000000 ≤ x ∧ x ≤ 28115000000000000) (D B : Nat) : -56230000000000000 ≤ stepE L D B ∧ stepE L D B ≤ 56230000000000000 := by
  have h : ∀ j : Nat, -28115000000000000 ≤ L[j]?.getD 0 ∧ L[j]?.getD 0 ≤ 28115000000000000 := fun j => by
    by_cases hj : j < L.length
    · exact hb _ (mem_getD L j hj)
    · rw [List.getElem?_eq_none (by omega)]; simp
  unfold stepE
  split
  · omega
  · have := h B; have := h 0; omega
theorem reformSteps_bd {L es : List Int} (hb : ∀ x ∈ L, -28115000000000000 ≤ x ∧ x ≤ 28115000000000000) : ∀ x ∈ reformSteps L es, -9223372036854775808 ≤ x ∧ x ≤ 9223372036854775807 := by
  intro x hx
  simp only [reformSteps, List.mem_map, List.mem_range] at hx
  obtain ⟨k, _, rfl⟩ := hx
  have := stepE_bd hb (es[k]?.getD 0).toNat (beh es k).toNat
  omega
theorem Below.ints {n : Nat} {w w' : World} {a : Option Addr} {len : Nat} {xs : List Int} (hB : Below n w w') (h : Ints w a len xs) (ha : ∀ b o, a = some ⟨b, o, none⟩ → 0 < len → b < n) : Ints w' a len xs := by
  obtain ⟨h1, h2, h3, h4⟩ := h
  refine ⟨h1, h2, h3, ?_⟩
  by_cases h0 : len = 0
  · exact .inl h0
  rcases h4 with h4 | ⟨b, off, e, hc⟩
  · exact .inl h4
  · exact .inr ⟨b, off, e, fun j hj => (hB.cell (p := ⟨b, off + j, none⟩) (ha b off e (by omega))).trans (hc j hj)⟩

theorem below_keeps {W W' : World} (h : Below W.heap.size W W') (B : Nat) : KeepsFrom B W W' := ⟨h.size, fun k _ _ hk _ => (h.block k (Array.getElem?_eq_some_iff.1 hk).1).trans hk⟩
theorem Keep.below {n₀ Bs : Nat} {W W' : World} (h : Below W.heap.size W W') (h1 : n₀ ≤ W.heap.size) (h2 : Bs < W.heap.size) : Keep n₀ Bs W W' := ⟨h.mono h1, h.block Bs h2⟩
theorem grownBy_setCellA (W : World) (p : Addr) (v : Value) : W.grownBy (W.setCell p v) (some p.block) :=
  ⟨rfl, rfl, rfl, (KeepsWalks.setCell W _ v).size, fun k _ hk => Below.heap_setCell _ _ _ k (fun e => hk (by rw [e]))⟩
theorem ints_set1 {w : World} {g len B i : Nat} {xs : List Int} {a : Value} (h : Ints w (some ⟨g, 0, none⟩) len xs) (hne : g ≠ B) : Ints (w.setCell ⟨B, i, none⟩ a) (some ⟨g, 0, none⟩) len xs := by
  obtain ⟨h1, h2, h3, h4⟩ := h
  refine ⟨h1, h2, h3, ?_⟩
  rcases h4 with h4 | ⟨b', off, ha, hc⟩
  · exact .inl h4
  · cases ha
    exact .inr ⟨_, _, rfl, fun j hj => (World.cell?_of_block (w := w) (Below.heap_setCell _ ⟨B, i, none⟩ _ g hne)).trans (hc j hj)⟩
theorem ints_put1 {w : World} {g len D : Nat} {xs : List Int} {o : Obj} (h : Ints w (some ⟨g, 0, none⟩) len xs) (hne : g ≠ D) : Ints (w.putObj D o) (some ⟨g, 0, none⟩) len xs := by
  obtain ⟨h1, h2, h3, h4⟩ := h
  refine ⟨h1, h2, h3, ?_⟩
  rcases h4 with h4 | ⟨b', off, ha, hc⟩
  · exact .inl h4
  · cases ha
    exact .inr ⟨_, _, rfl, fun j hj => (World.cell?_of_block (w := w) (World.putObj_heap_other hne)).trans (hc j hj)⟩
/-- What lies, while steps are read off. -/
def Off (Wr : World) (M C g1 g2 el : Nat) (s : Int) (L es : List Int) (t : Nat) (W : World) : Prop :=
  ((Below M Wr W ∧ C + 1 < W.heap.size) ∧ ViewAt W C (.int .i64 s) (.slice (some ⟨g1, 0, none⟩) el el) (.slice (some ⟨g2, 0, none⟩) el el)) ∧ (W.rowIs g1 3 el (fun j => .int .i64 (es[j]?.getD 0)) ∧ W.rowIs g2 3 el (reformF L es el t)) ∧ (∀ k, el ≤ k + t → k < el → EvenP L (es[k]?.getD 0).toNat (beh es k).toNat)
theorem off_own (Wr : World) (M C g1 g2 el : Nat) (s : Int) (L es : List Int) {B : Nat} (hB : M ≤ B) (hM : M ≤ Wr.heap.size) : OwnFrom B (fun t W => Off Wr M C g1 g2 el s L es t W) :=
  OwnFrom.and (OwnFrom.and (OwnFrom.and (ownFrom_below hM hB) (fun _ _ _ _ hs hg _ => Nat.lt_of_lt_of_le hs hg.size)) (Own.from (view_own _ _ _ _) _)) (OwnFrom.and (OwnFrom.and (Own.from (row_own _ _ _ _) _) (Own.from (row_own _ _ _ _) _)) (ownFrom_pure _ _))
/-- What is left where there is no such view. -/
def NoneAt (w : World) (c : Code) (W : World) : Prop := c = .ret ∧ ViewAt W (w.heap.size + 1 + 1) (.int .i64 0) (.slice none 0 0) (.slice none 0 0) ∧ Boxed W (w.heap.size + 1 + 1 + 1) 25 (.int .i64 9) ∧ Below w.heap.size w W
theorem none_own (w : World) {B : Nat} (hB : w.heap.size ≤ B) : OwnFrom B (NoneAt w) :=
  OwnFrom.and (ownFrom_pure _ _) (OwnFrom.and (Own.from (view_own _ _ _ _) _) (OwnFrom.and (Own.from (boxed_own _ _ _) _) (ownFrom_below (Nat.le_refl _) hB)))

set_option maxRecDepth 100000 in
set_option maxHeartbeats 8000000 in
theorem reform_ok (s : Int) (da : Option Addr) (dl dc : Nat) (ds : List Int) (sa : Option Addr) (sl sc : Nat) (ss : List Int) (ea : Option Addr) (el ec : Nat) (es : List Int) (w : World) (hd : Ints w da dl ds) (hs : Ints w sa sl ss) (he : Ints w ea el es)
    (hW : wrongE s ds ss = 0) (hE : sizeE es = 0) (hN : sizeN es = prod ds) (hpos : ∀ x ∈ es, 1 ≤ x) (d0 : Option Addr) :
    CallsIn FW 8 Try.prog 25 #[.agg #[.int .i64 s, .slice da dl dc, .slice sa sl sc], .slice ea el ec] w fun e w' => GivesF w d0 e w' (okS (reformE s ds ss es) s) (okL (reformE s ds ss es) es) (okL (reformE s ds ss es) (reformSteps (readsV s ds ss) es)) (reformE s ds ss es) ∧ Below w.heap.size w w' := by
  have hp1 := prod_pos es hpos
  obtain ⟨z1, z2, z3, _⟩ := sizeE_ok hE
  obtain ⟨hp2, hn⟩ := z3 hpos
  have hpe : prod es = prod ds := by omega
  have hRE : reformE s ds ss es = if allEvenB (readsV s ds ss) es = true then (if beyondB s (reformSteps (readsV s ds ss) es) = true then 5 else 0) else 9 := by
    unfold reformE
    rw [if_neg (by simp [hW]), if_neg (by simp [hE]), if_neg (by simp [hN]), if_neg (by omega)]
  have hsm := small_of hW
  have hcs := dims_cases (wrongE_ok hW).1
  have hdpos : ∀ x ∈ ds, 1 ≤ x := by
    rcases hcs with ⟨_, _, h⟩ | ⟨h, _⟩
    · omega
    · exact h
  obtain ⟨L, hL⟩ : ∃ L, readsV s ds ss = L := ⟨_, rfl⟩
  have hLl : L.length = (prod es).toNat := by rw [← hL, readsV_length, hpe]
  have hLb : ∀ x ∈ L, -28115000000000000 ≤ x ∧ x ≤ 28115000000000000 := by rw [← hL]; exact readsV_bd hsm hdpos
  rw [hL] at hRE ⊢
  obtain ⟨E, hEE⟩ : ∃ E, reformE s ds ss es = E := ⟨_, rfl⟩
  rw [hEE] at hRE ⊢
  have HRE := hide hRE
  obtain ⟨N, hNn⟩ : ∃ N : Nat, prod es = (N : Int) := ⟨(prod es).toNat, by omega⟩
  have hN1 : 1 ≤ N := by omega
  have hN2 : N ≤ 65536 := by omega
  have hLN : L.length = N := by omega
  have HSN : Hid (sizeN es = (N : Int)) := by rw [Hid, hn, hNn]
  have HD := hide hd
  have HS := hide hs
  have HE := hide he
  have HL := hide hL
  have HW := hide hW
  have HZE := hide hE
  have HLN := hide hLN
  have HLB := hide hLb
  have HPN := hide hNn
  have HPOS := hide hpos
  have HP2 := hide hp2
  have HEL := hide he.1
  have hel : el ≤ 6 := by have := he.1; omega
  have hne : ((N : Int) == 0) = false := by simp; omega
  have hro : FW.round = none := rfl
  clear hd hs he hW hE hN hpos hp1 z1 z2 z3 hp2 hn hpe hRE hEE hsm hcs hdpos hL hLl hLb hNn hLN
  have hB4 : Below w.heap.size w ((((w.alloc (.cells #[.int .i64 s, .slice da dl dc, .slice sa sl sc] 24)).alloc (.cells #[.slice ea el ec] 22)).alloc (.cells #[.int .i64 0, .slice none 0 0, .slice none 0 0] 24)).alloc (.cells #[.int .i64 0] 25)) := bl_alloc (bl_alloc (bl_alloc (bl_alloc (Below.refl _ _))))
  have bV := (((ViewAt.new w (.int .i64 s) (.slice da dl dc) (.slice sa sl sc)).alloc (.cells #[.slice ea el ec] 22)).alloc (.cells #[.int .i64 0, .slice none 0 0, .slice none 0 0] 24)).alloc (.cells #[.int .i64 0] 25)
  have bE := ((Boxed.new (w.alloc (.cells #[.int .i64 s, .slice da dl dc, .slice sa sl sc] 24)) 22 (.slice ea el ec)).alloc (.cells #[.int .i64 0, .slice none 0 0, .slice none 0 0] 24)).alloc (.cells #[.int .i64 0] 25)
  have bO := (ViewAt.new ((w.alloc (.cells #[.int .i64 s, .slice da dl dc, .slice sa sl sc] 24)).alloc (.cells #[.slice ea el ec] 22)) (.int .i64 0) (.slice none 0 0) (.slice none 0 0)).alloc (.cells #[.int .i64 0] 25)
  have bX := Boxed.new (((w.alloc (.cells #[.int .i64 s, .slice da dl dc, .slice sa sl sc] 24)).alloc (.cells #[.slice ea el ec] 22)).alloc (.cells #[.int .i64 0, .slice none 0 0, .slice none 0 0] 24)) 25 (.int .i64 0)
  simp only [World.size_alloc] at bE bO bX
  have HB4 := hide hB4
  have BV := hide bV
  have BE := hide bE
  have BO := hide bO
  have BX := hide bX
  clear hB4 bV bE bO bX
  refine callsIn_of_wp_marks Try.func25 rfl trivial ?_ hro
  simp only [Try.ntmps25, List.size_toArray, List.length_cons, List.length_nil, Nat.reduceAdd, Nat.reduceSub, Array.replicate_succ, Array.replicate_zero, List.push_toArray, List.append_toArray, List.nil_append, List.cons_append]
  gi_wp2_with (first
    | (refine ⟨trivial, ?_⟩; gi_at_call 14; refine (callsIn_wide.2 (reads_any _ _ _ _ ds _ _ _ ss _ (HD.out.below HB4.out) (HS.out.below HB4.out))).mono ?_; rintro e w1 ⟨⟨A, n1, c1, rfl, hi, hnc⟩, hb⟩; rw [HW.out] at hi ⊢; simp only [okL, if_true] at hi; rw [HL.out] at hi; obtain rfl : n1 = N := hi.1.symm.trans HLN.out; have HI := hide hi; have HB := hide (Below.on HB4.out hb); have BV1 := hide (BV.out.below hb); have BE1 := hide ((hb.block _ BE.out.lt).trans BE.out); have BO1 := hide (BO.out.below hb); have BX1 := hide ((hb.block _ BX.out.lt).trans BX.out); have hbs := hb.size; simp only [World.size_alloc] at hbs; have l0 : w.heap.size < w1.heap.size := (by omega); have l1 : w.heap.size + 1 < w1.heap.size := (by omega); obtain ⟨⟨v0, v1, v2⟩, _⟩ := BV1.out.cells; have ce := Boxed.cell BE1.out; clear hb hi)
    | (refine ⟨trivial, ?_⟩; gi_at_call 29; refine (callsIn_wide.2 (size_any _ _ _ es _ (HE.out.below (bl_alloc HB.out)))).mono ?_; rintro e w' ⟨rfl, hw'⟩; obtain rfl := hw'.symm; rw [HSN.out, HZE.out])
    | (refine ⟨trivial, ?_⟩; gi_at_call 30; refine (callsIn_wide.2 (blank_any _ _ _ _ es _ (HE.out.below (bl_alloc HB.out)) hel)).mono ?_; rintro e w2 ⟨⟨g1, g2, rfl, ⟨hr1, hr2⟩, hgne, hg1, hg2⟩, hb⟩; have HQ1 := hide hr1; have HQ2 := hide hr2; have HB2 := hide hb; have hsz2 := hb.size; simp only [World.size_alloc] at hsz2 hg1 hg2; have m0 : w.heap.size < w2.heap.size := (by omega); have m1 : w.heap.size + 1 < w2.heap.size := (by omega); have ce2 : w2.cell? ⟨w.heap.size + 1, 0, none⟩ = some (.slice ea el ec) := (hb.cell (p := ⟨w.heap.size + 1, 0, none⟩) (by simp; omega)).trans (alloc_cell ce); clear hr1 hr2 hb)
    | (refine ⟨trivial, ?_⟩; gi_at_call 31; refine (lastFirst_in FW _ trivial rfl _ _ _ _).mono ?_; rintro e w' ⟨rfl, rfl⟩))
  obtain ⟨Wr, hWr⟩ : ∃ Wr, w1.alloc (.cells #[.slice A n1 c1] 22) = Wr := ⟨_, rfl⟩
  have hWrs : Wr.heap.size = w1.heap.size + 1 := by rw [← hWr]; simp
  have hBr : Below w.heap.size w Wr := by rw [← hWr]; exact bl_alloc HB.out
  have bL := Boxed.new w1 22 (.slice A n1 c1)
  have bV := BV1.out.alloc (.cells #[.slice A n1 c1] 22)
  have bE := Boxed.alloc BE1.out (.cells #[.slice A n1 c1] 22)
  have bO := BO1.out.alloc (.cells #[.slice A n1 c1] 22)
  have bX := Boxed.alloc BX1.out (.cells #[.slice A n1 c1] 22)
  have hLi := HI.out.below ((Below.refl _ w1).alloc (Nat.le_refl _) (.cells #[.slice A n1 c1] 22))
  rw [hWr] at bL bV bE bO bX hLi
  have hB2 := HB2.out
  rw [hWr, hWrs] at hB2
  have hLA : ∀ b o, A = some ⟨b, o, none⟩ → 0 < n1 → b < w1.heap.size + 1 := by
    intro b o e h0
    obtain ⟨b', o', e', hb', _⟩ := HI.out.at h0
    rw [e] at e'; cases e'
    omega
  have hlt1 := HQ1.out.lt
  have hlt2 := HQ2.out.lt
  have hV0 := (ViewAt.new w2 (.int .i64 s) (.slice (some ⟨g1, 0, none⟩) el el) (.slice (some ⟨g2, 0, none⟩) el el)).alloc (.cells #[.slice ea el ec] 22)
  have bN := Boxed.new (w2.alloc (.cells #[.int .i64 s, .slice (some ⟨g1, 0, none⟩) el el, .slice (some ⟨g2, 0, none⟩) el el] 24)) 22 (.slice ea el ec)
  simp only [World.size_alloc] at bN
  have hq1 := (World.rowIs.alloc HQ1.out (.cells #[.int .i64 s, .slice (some ⟨g1, 0, none⟩) el el, .slice (some ⟨g2, 0, none⟩) el el] 24)).alloc (.cells #[.slice ea el ec] 22)
  have hq2 := (World.rowIs.alloc HQ2.out (.cells #[.int .i64 s, .slice (some ⟨g1, 0, none⟩) el el, .slice (some ⟨g2, 0, none⟩) el el] 24)).alloc (.cells #[.slice ea el ec] 22)
  have hB0 : Below (w1.heap.size + 1) Wr ((w2.alloc (.cells #[.int .i64 s, .slice (some ⟨g1, 0, none⟩) el el, .slice (some ⟨g2, 0, none⟩) el el] 24)).alloc (.cells #[.slice ea el ec] 22)) := (hB2.alloc (by omega) _).alloc (by simp; omega) _
  obtain ⟨W0, hW0⟩ : ∃ W0, ((w2.alloc (.cells #[.int .i64 s, .slice (some ⟨g1, 0, none⟩) el el, .slice (some ⟨g2, 0, none⟩) el el] 24)).alloc (.cells #[.slice ea el ec] 22)) = W0 := ⟨_, rfl⟩
  have hsz : W0.heap.size = w2.heap.size + 2 := by rw [← hW0]; simp
  rw [hW0] at hV0 bN hq1 hq2 hB0 ⊢
  clear hW0 ce ce2 v0 v1 v2
  have HBR := hide hBr
  have BL := hide bL
  have BV' := hide bV
  have BE' := hide bE
  have BO' := hide bO
  have BX' := hide bX
  have HLI := hide hLi
  have HLA := hide hLA
  clear hBr bL bV bE bO bX hLi hLA hB2 hWr
  refine rangeFunc_inOrder (F := FW) (n := 8) hro (by omega) (gf := 50) (lb := #[.pointer (some ⟨w2.heap.size + 1, 0, none⟩)]) rfl trivial (enters_of Try.func50 (by kernel_rfl) rfl)
    (lastFirst_told FW 7 trivial rfl (by omega) (w2.heap.size + 1) w.heap.size el ec ea es HEL.out hel HPOS.out HP2.out W0 (by omega) bN ?hints) Keep.trans (keep_b (by omega) (by omega)) (Below.refl _ _) (fun _ => rfl)
    (fun t W => Off Wr (w1.heap.size + 1) w2.heap.size g1 g2 el s L es t W)
    (fun c W => allEvenB L es = false ∧ NoneAt w c W)
    (off_own _ _ _ _ _ _ _ _ _ (by omega) (by omega)) (OwnFrom.and (ownFrom_pure _ _) (none_own w (by omega)))
    ⟨⟨⟨hB0, by omega⟩, hV0⟩, ⟨hq1, hq2.congr (fun i hi => by unfold reformF; rw [if_neg (by omega)])⟩, fun k h1 h2 => by omega⟩
    ?a1 ?assign ?body ?done ?stop
  case assign =>
    intro l t W K hK
    simp only [encT]
    gi_wp2
    exact hK
  case hints =>
    by_cases h0 : el = 0
    · exact .inl h0
    · obtain ⟨b, off, ha, hb, hc⟩ := HE.out.at (by omega)
      exact .inr ⟨b, off, ha, hb, fun j hj => (hB0.cell (p := ⟨b, off + j, none⟩) (by simp; omega)).trans ((HBR.out.cell (p := ⟨b, off + j, none⟩) hb).trans (hc j hj))⟩
  case body =>
    rintro l t W ht ⟨⟨⟨hB, hszW⟩, hv⟩, ⟨hq1, hq2⟩, hev⟩
    obtain ⟨k, hk⟩ : ∃ k : Nat, el - 1 - t = k := ⟨_, rfl⟩
    have hkl : k < el := by omega
    have hkd : k < es.length := by rw [HEL.out]; exact hkl
    have hD1 := getD_pos HPOS.out hkd
    have hB1 := beh_pos HPOS.out k
    obtain ⟨D, hDn⟩ : ∃ D : Nat, es[k]?.getD 0 = (D : Int) := ⟨(es[k]?.getD 0).toNat, by omega⟩
    obtain ⟨B, hBn⟩ : ∃ B : Nat, beh es k = (B : Int) := ⟨(beh es k).toNat, by omega⟩
    have hQ : ∃ Q : Nat, n1 = Q * (D * B) := by
      refine ⟨(prod (es.take k)).toNat, ?_⟩
      have e : prod es = prod (es.take k) * prod (es.drop k) := by rw [← prod_append, List.take_append_drop]
      have e2 : prod (es.drop k) = (D : Int) * (B : Int) := by rw [prod_drop es k hkd, hDn, ← hBn]; rfl
      have e3 := prod_pos (es.take k) (fun x hx => HPOS.out x (List.mem_of_mem_take hx))
      obtain ⟨q, hq⟩ : ∃ q : Nat, prod (es.take k) = (q : Int) := ⟨(prod (es.take k)).toNat, by omega⟩
      rw [HPN.out, e2, hq, ← Int.natCast_mul, ← Int.natCast_mul] at e
      rw [hq, Int.toNat_natCast]
      omega
    obtain ⟨Q, hQ⟩ := hQ
    obtain ⟨eb, eo, rfl, heb, hec⟩ := HE.out.at (by omega)
    have hvl := hv.lt
    have cb : W.cell? ⟨w1.heap.size, 0, none⟩ = some (.slice A n1 c1) := (hB.cell (p := ⟨w1.heap.size, 0, none⟩) (by simp)).trans BL.out.cell
    have ce : W.cell? ⟨w.heap.size + 1, 0, none⟩ = some (.slice (some ⟨eb, eo, none⟩) el ec) := (hB.cell (p := ⟨w.heap.size + 1, 0, none⟩) (by simp; omega)).trans BE'.out.cell
    have cd : W.cell? ⟨eb, eo + k, none⟩ = some (.int .i64 (D : Int)) := by rw [← hDn]; exact (hB.cell (p := ⟨eb, eo + k, none⟩) (by simp; omega)).trans ((HBR.out.cell (p := ⟨eb, eo + k, none⟩) heb).trans (hec k hkl))
    have hLW : Ints W A n1 L := Below.ints hB HLI.out HLA.out
    have HLW := hide hLW
    have HBW := hide hB
    have HVW := hide hv
    have HQ1W := hide hq1
    have HQ2W := hide hq2
    have HEV := hide hev
    have HK := hide hk
    have HT := hide ht
    have HDN := hide hDn
    have HBN := hide hBn
    have HQQ := hide hQ
    have HEC := hide hec
    have i1 : (0 : Int) ≤ (k : Int) := Int.natCast_nonneg _
    have i2 : (k : Int) < (el : Int) := by omega
    have hD1' : 1 ≤ D := by omega
    have hB1' : 1 ≤ B := by omega
    simp only [hk, hBn]
    clear hB hv hq1 hq2 hev hk hDn hBn hQ hec hLW hV0 bN hB0 hD1 hB1
    gi_wp2_with fail
    refine region_stages (by kernel_rfl) ?_
    refine Upto.reads 0 6 (by kernel_rfl) ?_
    simp only [List.drop_zero, List.take_succ_cons, List.take_zero]
    iterate 6
      apply Reads.step
      · go_simp
        try rfl
      · rfl
      simp only [Act.put, List.setIfInBounds_toArray, List.set_cons_succ, List.set_cons_zero]
    refine Reads.nil ?_
    refine Upto.call 6 (by kernel_rfl) (by kernel_rfl) rfl rfl rfl (fun _ _ => trivial) (f := 46) (args := #[.slice A n1 c1, .int .i64 (D : Int), .int .i64 (B : Int)]) ?hrun (fun h => by cases h) ?_
    case hrun =>
      go_simp
    refine (callsIn_wide.2 (evenStep_any A n1 c1 L D B Q _ (HLW.out.below ((Below.refl _ _).drew)) hD1' hB1' HQQ.out hN1 hN2 HLB.out)).mono ?_
    rintro e W' ⟨⟨b, rfl, hbe⟩, hb⟩
    refine ⟨_, rfl, ?_⟩
    have hbd : Below W.heap.size W W' := (Below.refl _ W).drew.trans hb
    have hBM : Below (w1.heap.size + 1) Wr W' := HBW.out.trans (hbd.mono (by omega))
    have hv' := HVW.out.below hbd
    have hq1' : W'.rowIs g1 3 el (fun j => .int .i64 (es[j]?.getD 0)) := HQ1W.out.of_block (hbd.block _ HQ1W.out.lt)
    have hq2' : W'.rowIs g2 3 el (reformF L es el t) := HQ2W.out.of_block (hbd.block _ HQ2W.out.lt)
    have hO' : ViewAt W' (w.heap.size + 1 + 1) (.int .i64 0) (.slice none 0 0) (.slice none 0 0) := (hBM.block _ (by omega)).trans BO'.out
    have hX' : Boxed W' (w.heap.size + 1 + 1 + 1) 25 (.int .i64 0) := (hBM.block _ (by omega)).trans BX'.out
    obtain ⟨⟨v0, v1, v2⟩, _⟩ := hv'.cells
    obtain ⟨⟨o0, o1, o2⟩, p0, p1, p2⟩ := hO'.cells
    have x0 := hX'.cell
    have y0 := hX'.frozen
    have q0 := hq2'.cell hkl
    have r0 := hq2'.frozen k
    have HBE := hide hbe
    have HBD := hide hbd
    have HBM := hide hBM
    have HV' := hide hv'
    have HQ1' := hide hq1'
    have HQ2' := hide hq2'
    have HO' := hide hO'
    have HX' := hide hX'
    have hs1 := hbd.size
    clear hb hbe hbd hBM hv' hq1' hq2' hO' hX'
    simp only [Act.put, List.setIfInBounds_toArray, List.set_cons_succ, List.set_cons_zero, Nat.reduceAdd]
    obtain ⟨St, hSt⟩ : ∃ St, (if b = true then stepE L D B else 0) = St := ⟨_, rfl⟩
    rw [hSt]
    have HST := hide hSt
    clear hSt cb ce cd
    refine Upto.reads 7 4 (by kernel_rfl) ?_
    simp only [List.drop_succ_cons, List.drop_zero, List.take_succ_cons, List.take_zero]
    iterate 4
      apply Reads.step
      · go_simp
        try rfl
      · rfl
      simp only [Act.put, List.setIfInBounds_toArray, List.set_cons_succ, List.set_cons_zero]
    refine Reads.nil ?_
    refine Upto.rest 1 11 rfl (by kernel_rfl) ?_
    simp only [List.drop_succ_cons, List.drop_zero]
    cases b with
    | false =>
      gi_wp2
      refine ⟨?_, ?_, rfl, ?_, ?_, ?_⟩
      · exact (below_keeps HBD.out _).trans ((((KeepsOthers.setCell _ _ _).trans (KeepsOthers.setCell _ _ _)).trans (KeepsOthers.setCell _ _ _)).trans (KeepsOthers.setCell _ _ _) |>.from _)
      · cases hc : allEvenB L es with
        | false => rfl
        | true =>
          have := (allEvenB_iff L es).1 hc k hkd
          rw [HDN.out, HBN.out, Int.toNat_natCast, Int.toNat_natCast] at this
          exact absurd (HBE.out.2 this) (by simp)
      · exact (view_put' HO'.out).set (p := ⟨w.heap.size + 1 + 1 + 1, 0, none⟩) (by simp) _
      · exact Boxed.set _ (Boxed.kept (Boxed.kept (Boxed.kept HX'.out (grownBy_setCellA _ _ _) (by simp)) (grownBy_setCellA _ _ _) (by simp)) (grownBy_setCellA _ _ _) (by simp))
      · exact (below_put (HBR.out.trans (HBM.out.mono (by omega))) (by omega)).setCell (p := ⟨w.heap.size + 1 + 1 + 1, 0, none⟩) (by simp; omega) _
    | true =>
      gi_wp2
      refine ⟨?_, ?_, ⟨⟨⟨?_, by simp; omega⟩, ?_⟩, ⟨?_, ?_⟩, ?_⟩⟩
      · exact (below_keeps HBD.out _).trans ((KeepsOthers.setCell _ _ _).from _)
      · exact (Keep.below HBD.out (by omega) (by omega)).trans ((Keep.refl _ _ W').setCell (p := ⟨g2, k, none⟩) (by simp; omega) (by simp; omega) _)
      · exact HBM.out.setCell (p := ⟨g2, k, none⟩) (by simp; omega) _
      · exact HV'.out.set (p := ⟨g2, k, none⟩) (by simp; omega) _
      · exact HQ1'.out.setOther (a := ⟨g2, k, none⟩) hgne _
      · refine (HQ2'.out.set k _).congr (fun j _ => ?_)
        have e : stepE L (es[k]?.getD 0).toNat (beh es k).toNat = St := by
          rw [HDN.out, HBN.out, Int.toNat_natCast, Int.toNat_natCast]
          have := HST.out
          simpa using this
        rw [← e, ← HK.out]
        exact reformF_succ L es el t j HT.out
      · intro k' h1 h2
        by_cases e : k' = k
        · subst e
          rw [HDN.out, HBN.out, Int.toNat_natCast, Int.toNat_natCast]
          have := HBE.out
          simpa using this
        · exact HEV.out k' (by have := HK.out; omega) h2
  case done =>
    rintro D W hD ⟨⟨⟨hB, hszW⟩, hv⟩, ⟨hq1, hq2⟩, hev⟩ hK
    have hall : allEvenB L es = true := (allEvenB_iff L es).2 fun k hk => hev k (by omega) (by rw [← HEL.out]; exact hk)
    have HALL := hide hall
    clear hall
    have hi1 : Ints W (some ⟨g1, 0, none⟩) el es := ints_of_rowI hq1 HEL.out (by omega) HE.out.2.2.1
    have hi2 : Ints W (some ⟨g2, 0, none⟩) el (reformSteps L es) := by
      refine ints_of_rowI (hq2.congr (fun j hj => ?_)) (by rw [reformSteps_length]; exact HEL.out) (by omega) (reformSteps_bd HLB.out)
      rw [reformSteps_getD L es j (by rw [HEL.out]; exact hj)]
      unfold reformF
      rw [if_pos (by omega)]
    have hO : ViewAt W (w.heap.size + 1 + 1) (.int .i64 0) (.slice none 0 0) (.slice none 0 0) := (hB.block _ (by omega)).trans BO'.out
    have hX : Boxed W (w.heap.size + 1 + 1 + 1) 25 (.int .i64 0) := (hB.block _ (by omega)).trans BX'.out
    have HI1 := hide hi1
    have HI2 := hide hi2
    have HO := hide hO
    have HX := hide hX
    have HBW := hide (HBR.out.trans (hB.mono (by omega)))
    have HKD := hide hK
    obtain ⟨⟨v0, v1, v2⟩, _⟩ := hv.cells
    have hvl := hv.lt
    clear hi1 hi2 hO hX hB hK hq1 hq2 hev hv hV0 bN hB0
    obtain ⟨bb, hbb⟩ : ∃ bb, beyondB s (reformSteps L es) = bb := ⟨_, rfl⟩
    have HBB := hide hbb
    clear hbb
    cases bb with
    | true =>
      gi_wp2_with (refine ⟨trivial, ?_⟩; gi_at_call 39; refine (callsIn_wide.2 (reached_any _ _ _ _ _ _ _ (reformSteps L es) _ HI2.out)).mono ?_; rintro e w4 ⟨rfl, hb⟩; have HO4 := hide (HO.out.below hb); have HX4 := hide ((hb.block _ (Boxed.lt HX.out)).trans HX.out); have HB4' := hide (Below.on HBW.out hb); have HI1' := hide (HI1.out.below hb); have HI2' := hide (HI2.out.below hb); have HK4 := hide ((hb.block _ (Array.getElem?_eq_some_iff.1 HKD.out).1).trans HKD.out); obtain ⟨⟨o0, o1, o2⟩, p0, p1, p2⟩ := HO4.out.cells; have x0 := Boxed.cell HX4.out; have y0 := Boxed.frozen HX4.out; have hs4 := hb.size; clear hb; rw [HBB.out]; simp only [if_true])
      have hv5 := view_put' (x := .int .i64 0) (y := .slice none 0 0) (z := .slice none 0 0) HO4.out
      generalize hW3 : ((((w4.setCell ⟨w.heap.size + 1 + 1, 0, none⟩ (.int .i64 0)).setCell ⟨w.heap.size + 1 + 1, 1, none⟩ (.slice none 0 0)).setCell ⟨w.heap.size + 1 + 1, 2, none⟩ (.slice none 0 0)).setCell ⟨w.heap.size + 1 + 1 + 1, 0, none⟩ (.int .i64 5)) = W3
      have hK3 : W3.heap[D]? = some (.deferred (some [])) := by
        rw [← hW3]
        exact ((Below.heap_setCell _ ⟨w.heap.size + 1 + 1 + 1, 0, none⟩ _ D (by simp; omega)).trans ((Below.heap_setCell _ ⟨w.heap.size + 1 + 1, 2, none⟩ _ D (by simp; omega)).trans ((Below.heap_setCell _ ⟨w.heap.size + 1 + 1, 1, none⟩ _ D (by simp; omega)).trans (Below.heap_setCell _ ⟨w.heap.size + 1 + 1, 0, none⟩ _ D (by simp; omega))))).trans HK4.out
      have hv6 : ViewAt W3 (w.heap.size + 1 + 1) (.int .i64 0) (.slice none 0 0) (.slice none 0 0) := by
        rw [← hW3]; exact hv5.set (p := ⟨w.heap.size + 1 + 1 + 1, 0, none⟩) (by simp) _
      have hx6 : Boxed W3 (w.heap.size + 1 + 1 + 1) 25 (.int .i64 5) := by
        rw [← hW3]
        exact Boxed.set _ (Boxed.kept (Boxed.kept (Boxed.kept HX4.out (grownBy_setCellA _ _ _) (by simp)) (grownBy_setCellA _ _ _) (by simp)) (grownBy_setCellA _ _ _) (by simp))
      have hB6 : Below w.heap.size w W3 := by
        rw [← hW3]
        exact (below_put HB4'.out (by omega)).setCell (p := ⟨w.heap.size + 1 + 1 + 1, 0, none⟩) (by simp; omega) _
      clear hW3 o0 o1 o2 x0 HO4 HX4 HB4' HK4 hv5
      refine ⟨by simp, .inl ⟨_, _, rfl, run_takeDeferred hK3, ?_⟩⟩
      have hv7 : ViewAt (W3.putObj D (.deferred none)) (w.heap.size + 1 + 1) (.int .i64 0) (.slice none 0 0) (.slice none 0 0) := (World.putObj_heap_other (by omega)).trans hv6
      have hx7 : Boxed (W3.putObj D (.deferred none)) (w.heap.size + 1 + 1 + 1) 25 (.int .i64 5) := (World.putObj_heap_other (by omega)).trans hx6
      obtain ⟨⟨u0, u1, u2⟩, _⟩ := hv7.cells
      have u3 := hx7.cell
      have hEv : E = 5 := by have := HRE.out; rw [HALL.out, HBB.out] at this; simpa using this
      subst hEv
      refine ⟨.tuple #[.agg #[.int .i64 0, .slice none 0 0, .slice none 0 0], .int .i64 5], by simp [results, Try.results25, go_sem, u0, u1, u2, u3], givesF_none _ _ _ _, hB6.trans (belowK_b (w := w) (Nat.le_refl _) W3 D _ _ (by omega) hK3 rfl rfl)⟩
    | false =>
      gi_wp2_with (refine ⟨trivial, ?_⟩; gi_at_call 39; refine (callsIn_wide.2 (reached_any _ _ _ _ _ _ _ (reformSteps L es) _ HI2.out)).mono ?_; rintro e w4 ⟨rfl, hb⟩; have HO4 := hide (HO.out.below hb); have HX4 := hide ((hb.block _ (Boxed.lt HX.out)).trans HX.out); have HB4' := hide (Below.on HBW.out hb); have HI1' := hide (HI1.out.below hb); have HI2' := hide (HI2.out.below hb); have HK4 := hide ((hb.block _ (Array.getElem?_eq_some_iff.1 HKD.out).1).trans HKD.out); obtain ⟨⟨o0, o1, o2⟩, p0, p1, p2⟩ := HO4.out.cells; have x0 := Boxed.cell HX4.out; have y0 := Boxed.frozen HX4.out; have hs4 := hb.size; clear hb; rw [HBB.out]; simp only [Bool.false_eq_true, if_false])
      have hv5 := view_put' (x := .int .i64 s) (y := .slice (some ⟨g1, 0, none⟩) el el) (z := .slice (some ⟨g2, 0, none⟩) el el) HO4.out
      generalize hW3 : ((((w4.setCell ⟨w.heap.size + 1 + 1, 0, none⟩ (.int .i64 s)).setCell ⟨w.heap.size + 1 + 1, 1, none⟩ (.slice (some ⟨g1, 0, none⟩) el el)).setCell ⟨w.heap.size + 1 + 1, 2, none⟩ (.slice (some ⟨g2, 0, none⟩) el el)).setCell ⟨w.heap.size + 1 + 1 + 1, 0, none⟩ (.int .i64 0)) = W3
      have hK3 : W3.heap[D]? = some (.deferred (some [])) := by
        rw [← hW3]
        exact ((Below.heap_setCell _ ⟨w.heap.size + 1 + 1 + 1, 0, none⟩ _ D (by simp; omega)).trans ((Below.heap_setCell _ ⟨w.heap.size + 1 + 1, 2, none⟩ _ D (by simp; omega)).trans ((Below.heap_setCell _ ⟨w.heap.size + 1 + 1, 1, none⟩ _ D (by simp; omega)).trans (Below.heap_setCell _ ⟨w.heap.size + 1 + 1, 0, none⟩ _ D (by simp; omega))))).trans HK4.out
      have hv6 : ViewAt W3 (w.heap.size + 1 + 1) (.int .i64 s) (.slice (some ⟨g1, 0, none⟩) el el) (.slice (some ⟨g2, 0, none⟩) el el) := by
        rw [← hW3]; exact hv5.set (p := ⟨w.heap.size + 1 + 1 + 1, 0, none⟩) (by simp) _
      have hx6 : Boxed W3 (w.heap.size + 1 + 1 + 1) 25 (.int .i64 0) := by
        rw [← hW3]
        exact Boxed.set _ (Boxed.kept (Boxed.kept (Boxed.kept HX4.out (grownBy_setCellA _ _ _) (by simp)) (grownBy_setCellA _ _ _) (by simp)) (grownBy_setCellA _ _ _) (by simp))
      have hB6 : Below w.heap.size w W3 := by
        rw [← hW3]
        exact (below_put HB4'.out (by omega)).setCell (p := ⟨w.heap.size + 1 + 1 + 1, 0, none⟩) (by simp; omega) _
      have hi8 : Ints (W3.putObj D (.deferred none)) (some ⟨g1, 0, none⟩) el es := by
        refine ints_put1 ?_ (by omega)
        rw [← hW3]; exact ints_set1 (ints_set3 HI1'.out (by omega)) (by omega)
      have hi9 : Ints (W3.putObj D (.deferred none)) (some ⟨g2, 0, none⟩) el (reformSteps L es) := by
        refine ints_put1 ?_ (by omega)
        rw [← hW3]; exact ints_set1 (ints_set3 HI2'.out (by omega)) (by omega)
      clear hW3 o0 o1 o2 x0 HO4 HX4 HB4' HK4 hv5
      refine ⟨by simp, .inl ⟨_, _, rfl, run_takeDeferred hK3, ?_⟩⟩
      have hv7 : ViewAt (W3.putObj D (.deferred none)) (w.heap.size + 1 + 1) (.int .i64 s) (.slice (some ⟨g1, 0, none⟩) el el) (.slice (some ⟨g2, 0, none⟩) el el) := (World.putObj_heap_other (by omega)).trans hv6
      have hx7 : Boxed (W3.putObj D (.deferred none)) (w.heap.size + 1 + 1 + 1) 25 (.int .i64 0) := (World.putObj_heap_other (by omega)).trans hx6
      obtain ⟨⟨u0, u1, u2⟩, _⟩ := hv7.cells
      have u3 := hx7.cell
      have hEv : E = 0 := by have := HRE.out; rw [HALL.out, HBB.out] at this; simpa using this
      subst hEv
      refine ⟨.tuple #[.agg #[.int .i64 s, .slice (some ⟨g1, 0, none⟩) el el, .slice (some ⟨g2, 0, none⟩) el el], .int .i64 0], by simp [results, Try.results25, go_sem, u0, u1, u2, u3], ?_, hB6.trans (belowK_b (w := w) (Nat.le_refl _) W3 D _ _ (by omega) hK3 rfl rfl)⟩
      simp only [okS, okL, if_true]
      exact ⟨_, _, _, _, _, _, rfl, hi8, hi9, ⟨Nat.le_refl _, Nat.le_refl _⟩, .inr (far_some (by omega)), far_some (by omega)⟩
  case stop =>
    rintro D c W hD ⟨hne', rfl, hv, hx, hB⟩ hK
    have HV := hide hv
    have HX := hide hx
    have HBW := hide hB
    have HNE := hide hne'
    have HKD := hide hK
    have hvl := hx.lt
    clear hv hx hB hne' hK hV0 bN hB0
    gi_wp2
    refine ⟨by simp, .inl ⟨_, _, rfl, run_takeDeferred HKD.out, ?_⟩⟩
    have hv7 : ViewAt (W.putObj D (.deferred none)) (w.heap.size + 1 + 1) (.int .i64 0) (.slice none 0 0) (.slice none 0 0) := (World.putObj_heap_other (by omega)).trans HV.out
    have hx7 : Boxed (W.putObj D (.deferred none)) (w.heap.size + 1 + 1 + 1) 25 (.int .i64 9) := (World.putObj_heap_other (by omega)).trans HX.out
    obtain ⟨⟨u0, u1, u2⟩, _⟩ := hv7.cells
    have u3 := hx7.cell
    have hEv : E = 9 := by have := HRE.out; rw [HNE.out] at this; simpa using this
    subst hEv
    exact ⟨.tuple #[.agg #[.int .i64 0, .slice none 0 0, .slice none 0 0], .int .i64 9], by simp [results, Try.results25, go_sem, u0, u1, u2, u3], givesF_none _ _ _ _, HBW.out.trans (belowK_b (w := w) (Nat.le_refl _) W D _ _ (by omega) HKD.out rfl rfl)⟩
end Go.Proofs.Ytfamaaahofjglaa.V
