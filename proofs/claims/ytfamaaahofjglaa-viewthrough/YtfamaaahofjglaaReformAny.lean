/-
  Contract: view.Reform, whatever it is asked.
-/
import Derived.Test.YtfamaaahofjglaaReform
namespace Go.Proofs.Ytfamaaahofjglaa.V
open Go.RowKit Go.Shelf
attribute [local go_sem] Oper.semAt_some

/-- How the call begins. -/
structure Four (w : World) (s : Int) (da : Option Addr) (dl dc : Nat) (sa : Option Addr) (sl sc : Nat) (ea : Option Addr) (el ec : Nat) (W : World) : Prop where
  below : Below w.heap.size w W
  view : ViewAt W w.heap.size (.int .i64 s) (.slice da dl dc) (.slice sa sl sc)
  dims : Boxed W (w.heap.size + 1) 22 (.slice ea el ec)
  out : ViewAt W (w.heap.size + 1 + 1) (.int .i64 0) (.slice none 0 0) (.slice none 0 0)
  err : Boxed W (w.heap.size + 1 + 1 + 1) 25 (.int .i64 0)
theorem four_new (w : World) (s : Int) (da : Option Addr) (dl dc : Nat) (sa : Option Addr) (sl sc : Nat) (ea : Option Addr) (el ec : Nat) : Four w s da dl dc sa sl sc ea el ec ((((w.alloc (.cells #[.int .i64 s, .slice da dl dc, .slice sa sl sc] 24)).alloc (.cells #[.slice ea el ec] 22)).alloc (.cells #[.int .i64 0, .slice none 0 0, .slice none 0 0] 24)).alloc (.cells #[.int .i64 0] 25)) := by
  have bE := ((Boxed.new (w.alloc (.cells #[.int .i64 s, .slice da dl dc, .slice sa sl sc] 24)) 22 (.slice ea el ec)).alloc (.cells #[.int .i64 0, .slice none 0 0, .slice none 0 0] 24)).alloc (.cells #[.int .i64 0] 25)
  have bO := (ViewAt.new ((w.alloc (.cells #[.int .i64 s, .slice da dl dc, .slice sa sl sc] 24)).alloc (.cells #[.slice ea el ec] 22)) (.int .i64 0) (.slice none 0 0) (.slice none 0 0)).alloc (.cells #[.int .i64 0] 25)
  have bX := Boxed.new (((w.alloc (.cells #[.int .i64 s, .slice da dl dc, .slice sa sl sc] 24)).alloc (.cells #[.slice ea el ec] 22)).alloc (.cells #[.int .i64 0, .slice none 0 0, .slice none 0 0] 24)) 25 (.int .i64 0)
  simp only [World.size_alloc] at bE bO bX
  exact ⟨bl_alloc (bl_alloc (bl_alloc (bl_alloc (Below.refl _ _)))), (((ViewAt.new w _ _ _).alloc _).alloc _).alloc _, bE, bO, bX⟩
theorem Four.on {w W W' : World} {s : Int} {da : Option Addr} {dl dc : Nat} {sa : Option Addr} {sl sc : Nat} {ea : Option Addr} {el ec : Nat} (h : Four w s da dl dc sa sl sc ea el ec W) (hb : Below W.heap.size W W') : Four w s da dl dc sa sl sc ea el ec W' :=
  ⟨Below.on h.below hb, h.view.below hb, (hb.block _ h.dims.lt).trans h.dims, h.out.below hb, (hb.block _ h.err.lt).trans h.err⟩
/-- What is told without a view. -/
theorem four_end {w W : World} {s : Int} {da : Option Addr} {dl dc : Nat} {sa : Option Addr} {sl sc : Nat} {ea : Option Addr} {el ec : Nat} (h : Four w s da dl dc sa sl sc ea el ec W) (E : Int) :
    ViewAt ((((W.setCell ⟨w.heap.size + 1 + 1, 0, none⟩ (.int .i64 0)).setCell ⟨w.heap.size + 1 + 1, 1, none⟩ (.slice none 0 0)).setCell ⟨w.heap.size + 1 + 1, 2, none⟩ (.slice none 0 0)).setCell ⟨w.heap.size + 1 + 1 + 1, 0, none⟩ (.int .i64 E)) (w.heap.size + 1 + 1) (.int .i64 0) (.slice none 0 0) (.slice none 0 0) ∧
    Boxed ((((W.setCell ⟨w.heap.size + 1 + 1, 0, none⟩ (.int .i64 0)).setCell ⟨w.heap.size + 1 + 1, 1, none⟩ (.slice none 0 0)).setCell ⟨w.heap.size + 1 + 1, 2, none⟩ (.slice none 0 0)).setCell ⟨w.heap.size + 1 + 1 + 1, 0, none⟩ (.int .i64 E)) (w.heap.size + 1 + 1 + 1) 25 (.int .i64 E) ∧
    Below w.heap.size w ((((W.setCell ⟨w.heap.size + 1 + 1, 0, none⟩ (.int .i64 0)).setCell ⟨w.heap.size + 1 + 1, 1, none⟩ (.slice none 0 0)).setCell ⟨w.heap.size + 1 + 1, 2, none⟩ (.slice none 0 0)).setCell ⟨w.heap.size + 1 + 1 + 1, 0, none⟩ (.int .i64 E)) :=
  ⟨(view_put' h.out).set (p := ⟨w.heap.size + 1 + 1 + 1, 0, none⟩) (by simp) _,
   Boxed.set _ (Boxed.kept (Boxed.kept (Boxed.kept h.err (grownBy_setCellA _ _ _) (by simp)) (grownBy_setCellA _ _ _) (by simp)) (grownBy_setCellA _ _ _) (by simp)),
   (below_put h.below (by omega)).setCell (p := ⟨w.heap.size + 1 + 1 + 1, 0, none⟩) (by simp; omega) _⟩

set_option maxRecDepth 100000 in
set_option maxHeartbeats 4000000 in
theorem reform_wrong (s : Int) (da : Option Addr) (dl dc : Nat) (ds : List Int) (sa : Option Addr) (sl sc : Nat) (ss : List Int) (ea : Option Addr) (el ec : Nat) (w : World) (hd : Ints w da dl ds) (hs : Ints w sa sl ss)
    (hW : wrongE s ds ss ≠ 0) (d0 : Option Addr) :
    CallsIn FW 8 Try.prog 25 #[.agg #[.int .i64 s, .slice da dl dc, .slice sa sl sc], .slice ea el ec] w fun e w' => GivesF w d0 e w' 0 [] [] (wrongE s ds ss) ∧ Below w.heap.size w w' := by
  have H4 := hide (four_new w s da dl dc sa sl sc ea el ec)
  have HD := hide hd
  have HS := hide hs
  have c1 : (wrongE s ds ss != 0) = true := by simp [hW]
  have hro : FW.round = none := rfl
  clear hd hs hW
  refine callsIn_of_wp Try.func25 rfl trivial ?_ hro
  simp only [Try.ntmps25, List.size_toArray, List.length_cons, List.length_nil, Nat.reduceAdd, Nat.reduceSub, Array.replicate_succ, Array.replicate_zero, List.push_toArray, List.append_toArray, List.nil_append, List.cons_append]
  gi_wp2_with (refine ⟨trivial, ?_⟩; gi_at_call 14; refine (callsIn_wide.2 (reads_any _ _ _ _ ds _ _ _ ss _ (HD.out.below H4.out.below) (HS.out.below H4.out.below))).mono ?_; rintro e w1 ⟨⟨A, n1, k1, rfl, hi, hnc⟩, hb⟩; have H5 := hide (H4.out.on hb); obtain ⟨⟨o0, o1, o2⟩, p0, p1, p2⟩ := H5.out.out.cells; have x0 := H5.out.err.cell; have y0 := H5.out.err.frozen; have l3 := H5.out.err.lt; have l2 := H5.out.out.lt; clear hb hi)
  obtain ⟨q1, q2, q3⟩ := four_end H5.out (wrongE s ds ss)
  obtain ⟨⟨u0, u1, u2⟩, _⟩ := (q1.alloc (.cells #[.slice A n1 k1] 22)).cells
  have u3 := (Boxed.alloc q2 (.cells #[.slice A n1 k1] 22)).cell
  exact bodyPost_ret (v := .tuple #[.agg #[.int .i64 0, .slice none 0 0, .slice none 0 0], .int .i64 (wrongE s ds ss)]) (by simp [results, Try.results25, go_sem, u0, u1, u2, u3]) rfl ⟨givesF_none _ _ _ _, bl_alloc q3⟩

set_option maxRecDepth 100000 in
set_option maxHeartbeats 4000000 in
theorem reform_size (s : Int) (da : Option Addr) (dl dc : Nat) (ds : List Int) (sa : Option Addr) (sl sc : Nat) (ss : List Int) (ea : Option Addr) (el ec : Nat) (es : List Int) (w : World) (hd : Ints w da dl ds) (hs : Ints w sa sl ss) (he : Ints w ea el es)
    (hW : wrongE s ds ss = 0) (hE : sizeE es ≠ 0) (d0 : Option Addr) :
    CallsIn FW 8 Try.prog 25 #[.agg #[.int .i64 s, .slice da dl dc, .slice sa sl sc], .slice ea el ec] w fun e w' => GivesF w d0 e w' 0 [] [] (sizeE es) ∧ Below w.heap.size w w' := by
  have H4 := hide (four_new w s da dl dc sa sl sc ea el ec)
  have HD := hide hd
  have HS := hide hs
  have HE := hide he
  have HW := hide hW
  obtain ⟨L, hL⟩ : ∃ L, readsV s ds ss = L := ⟨_, rfl⟩
  have HL := hide hL
  have c1 : (sizeE es != 0) = true := by simp [hE]
  clear hE
  have hro : FW.round = none := rfl
  clear hd hs he hW hL
  refine callsIn_of_wp Try.func25 rfl trivial ?_ hro
  simp only [Try.ntmps25, List.size_toArray, List.length_cons, List.length_nil, Nat.reduceAdd, Nat.reduceSub, Array.replicate_succ, Array.replicate_zero, List.push_toArray, List.append_toArray, List.nil_append, List.cons_append]
  gi_wp2_with (first
    | (refine ⟨trivial, ?_⟩; gi_at_call 14; refine (callsIn_wide.2 (reads_any _ _ _ _ ds _ _ _ ss _ (HD.out.below H4.out.below) (HS.out.below H4.out.below))).mono ?_; rintro e w1 ⟨⟨A, n1, k1, rfl, hi, hnc⟩, hb⟩; rw [HW.out] at hi ⊢; simp only [okL, if_true] at hi; rw [HL.out] at hi; have hn1 := hi.1; skip; have H5 := hide (H4.out.on hb); obtain ⟨⟨o0, o1, o2⟩, p0, p1, p2⟩ := H5.out.out.cells; obtain ⟨⟨v0, v1, v2⟩, _⟩ := H5.out.view.cells; have x0 := H5.out.err.cell; have y0 := H5.out.err.frozen; have e0 := H5.out.dims.cell; have l3 := H5.out.err.lt; have l2 := H5.out.out.lt; have l1 := H5.out.dims.lt; have l0 := H5.out.view.lt; clear hb hi)
    | (refine ⟨trivial, ?_⟩; gi_at_call 29; refine (callsIn_wide.2 (size_any _ _ _ es _ (HE.out.below (bl_alloc H5.out.below)))).mono ?_; rintro e w' ⟨rfl, hw'⟩; obtain rfl := hw'.symm; skip))
  obtain ⟨q1, q2, q3⟩ := four_end H5.out (sizeE es)
  obtain ⟨⟨u0, u1, u2⟩, _⟩ := (q1.alloc (.cells #[.slice A n1 k1] 22)).cells
  have u3 := (Boxed.alloc q2 (.cells #[.slice A n1 k1] 22)).cell
  exact bodyPost_ret (v := .tuple #[.agg #[.int .i64 0, .slice none 0 0, .slice none 0 0], .int .i64 (sizeE es)]) (by simp [results, Try.results25, go_sem, u0, u1, u2, u3]) rfl ⟨givesF_none _ _ _ _, bl_alloc q3⟩

set_option maxRecDepth 100000 in
set_option maxHeartbeats 4000000 in
theorem reform_shape (s : Int) (da : Option Addr) (dl dc : Nat) (ds : List Int) (sa : Option Addr) (sl sc : Nat) (ss : List Int) (ea : Option Addr) (el ec : Nat) (es : List Int) (w : World) (hd : Ints w da dl ds) (hs : Ints w sa sl ss) (he : Ints w ea el es)
    (hW : wrongE s ds ss = 0) (hE : sizeE es = 0) (hN : sizeN es ≠ prod ds) (d0 : Option Addr) :
    CallsIn FW 8 Try.prog 25 #[.agg #[.int .i64 s, .slice da dl dc, .slice sa sl sc], .slice ea el ec] w fun e w' => GivesF w d0 e w' 0 [] [] 6 ∧ Below w.heap.size w w' := by
  have H4 := hide (four_new w s da dl dc sa sl sc ea el ec)
  have HD := hide hd
  have HS := hide hs
  have HE := hide he
  have HW := hide hW
  obtain ⟨L, hL⟩ : ∃ L, readsV s ds ss = L := ⟨_, rfl⟩
  have HL := hide hL
  have HZE := hide hE
  have hpd : 0 ≤ prod ds := by
    rcases dims_cases (wrongE_ok hW).1 with ⟨_, _, h⟩ | ⟨_, _, _, h⟩ <;> omega
  have hlen : L.length = (prod ds).toNat := by rw [← hL, readsV_length]
  have hNE : Hid (sizeN es ≠ prod ds) := hN
  clear hE hN
  have hro : FW.round = none := rfl
  clear hd hs he hW hL
  refine callsIn_of_wp Try.func25 rfl trivial ?_ hro
  simp only [Try.ntmps25, List.size_toArray, List.length_cons, List.length_nil, Nat.reduceAdd, Nat.reduceSub, Array.replicate_succ, Array.replicate_zero, List.push_toArray, List.append_toArray, List.nil_append, List.cons_append]
  gi_wp2_with (first
    | (refine ⟨trivial, ?_⟩; gi_at_call 14; refine (callsIn_wide.2 (reads_any _ _ _ _ ds _ _ _ ss _ (HD.out.below H4.out.below) (HS.out.below H4.out.below))).mono ?_; rintro e w1 ⟨⟨A, n1, k1, rfl, hi, hnc⟩, hb⟩; rw [HW.out] at hi ⊢; simp only [okL, if_true] at hi; rw [HL.out] at hi; have hn1 := hi.1; have c1 : (sizeN es != (n1 : Int)) = true := (by have := hNE.out; simp; omega); clear hn1 hlen hpd; have H5 := hide (H4.out.on hb); obtain ⟨⟨o0, o1, o2⟩, p0, p1, p2⟩ := H5.out.out.cells; obtain ⟨⟨v0, v1, v2⟩, _⟩ := H5.out.view.cells; have x0 := H5.out.err.cell; have y0 := H5.out.err.frozen; have e0 := H5.out.dims.cell; have l3 := H5.out.err.lt; have l2 := H5.out.out.lt; have l1 := H5.out.dims.lt; have l0 := H5.out.view.lt; clear hb hi)
    | (refine ⟨trivial, ?_⟩; gi_at_call 29; refine (callsIn_wide.2 (size_any _ _ _ es _ (HE.out.below (bl_alloc H5.out.below)))).mono ?_; rintro e w' ⟨rfl, hw'⟩; obtain rfl := hw'.symm; rw [HZE.out]))
  obtain ⟨q1, q2, q3⟩ := four_end H5.out 6
  obtain ⟨⟨u0, u1, u2⟩, _⟩ := (q1.alloc (.cells #[.slice A n1 k1] 22)).cells
  have u3 := (Boxed.alloc q2 (.cells #[.slice A n1 k1] 22)).cell
  exact bodyPost_ret (v := .tuple #[.agg #[.int .i64 0, .slice none 0 0, .slice none 0 0], .int .i64 6]) (by simp [results, Try.results25, go_sem, u0, u1, u2, u3]) rfl ⟨givesF_none _ _ _ _, bl_alloc q3⟩

set_option maxRecDepth 100000 in
set_option maxHeartbeats 4000000 in
theorem reform_none (s : Int) (da : Option Addr) (dl dc : Nat) (ds : List Int) (sa : Option Addr) (sl sc : Nat) (ss : List Int) (ea : Option Addr) (el ec : Nat) (es : List Int) (w : World) (hd : Ints w da dl ds) (hs : Ints w sa sl ss) (he : Ints w ea el es)
    (hW : wrongE s ds ss = 0) (hE : sizeE es = 0) (hN : sizeN es = prod ds) (h0 : prod es = 0) (d0 : Option Addr) :
    CallsIn FW 8 Try.prog 25 #[.agg #[.int .i64 s, .slice da dl dc, .slice sa sl sc], .slice ea el ec] w fun e w' => GivesF w d0 e w' s es (List.replicate es.length 0) 0 ∧ Below w.heap.size w w' := by
  have H4 := hide (four_new w s da dl dc sa sl sc ea el ec)
  have HD := hide hd
  have HS := hide hs
  have HE := hide he
  have HW := hide hW
  obtain ⟨L, hL⟩ : ∃ L, readsV s ds ss = L := ⟨_, rfl⟩
  have HL := hide hL
  have HZE := hide hE
  have hN0 : sizeN es = 0 := by
    rcases dims_cases hE with ⟨_, h, _⟩ | ⟨_, _, _, h⟩ <;> omega
  have HN0 := hide hN0
  have hel : el ≤ 6 := by have := (sizeE_ok hE).1; have := he.1; omega
  have HEL := hide he.1
  have hlen : L.length = 0 := by rw [← hL, readsV_length]; omega
  clear hE hN h0 hN0
  have hro : FW.round = none := rfl
  clear hd hs he hW hL
  refine callsIn_of_wp Try.func25 rfl trivial ?_ hro
  simp only [Try.ntmps25, List.size_toArray, List.length_cons, List.length_nil, Nat.reduceAdd, Nat.reduceSub, Array.replicate_succ, Array.replicate_zero, List.push_toArray, List.append_toArray, List.nil_append, List.cons_append]
  gi_wp2_with (first
    | (refine ⟨trivial, ?_⟩; gi_at_call 14; refine (callsIn_wide.2 (reads_any _ _ _ _ ds _ _ _ ss _ (HD.out.below H4.out.below) (HS.out.below H4.out.below))).mono ?_; rintro e w1 ⟨⟨A, n1, k1, rfl, hi, hnc⟩, hb⟩; rw [HW.out] at hi ⊢; simp only [okL, if_true] at hi; rw [HL.out] at hi; have hn1 := hi.1; obtain rfl : n1 = 0 := hn1.symm.trans hlen; clear hn1 hlen; have H5 := hide (H4.out.on hb); obtain ⟨⟨o0, o1, o2⟩, p0, p1, p2⟩ := H5.out.out.cells; obtain ⟨⟨v0, v1, v2⟩, _⟩ := H5.out.view.cells; have x0 := H5.out.err.cell; have y0 := H5.out.err.frozen; have e0 := H5.out.dims.cell; have l3 := H5.out.err.lt; have l2 := H5.out.out.lt; have l1 := H5.out.dims.lt; have l0 := H5.out.view.lt; clear hb hi)
    | (refine ⟨trivial, ?_⟩; gi_at_call 29; refine (callsIn_wide.2 (size_any _ _ _ es _ (HE.out.below (bl_alloc H5.out.below)))).mono ?_; rintro e w' ⟨rfl, hw'⟩; obtain rfl := hw'.symm; rw [HZE.out, HN0.out])
    | (refine ⟨trivial, ?_⟩; gi_at_call 30; refine (callsIn_wide.2 (blank_any _ _ _ _ es _ (HE.out.below (bl_alloc H5.out.below)) hel)).mono ?_; rintro e w2 ⟨⟨g1, g2, rfl, ⟨hr1, hr2⟩, hgne, hg1, hg2⟩, hb⟩; have HQ1 := hide hr1; have HQ2 := hide hr2; have H6 := hide ((H5.out.on ((Below.refl _ w1).alloc (Nat.le_refl _) _)).on hb); obtain ⟨⟨t0, t1, t2⟩, d0', d1', d2'⟩ := H6.out.out.cells; have z0 := H6.out.err.cell; have z1 := H6.out.err.frozen; have m3 := H6.out.err.lt; have m2 := H6.out.out.lt; have m1 := H6.out.dims.lt; have m0 := H6.out.view.lt; clear hr1 hr2 hb))
  simp only [World.size_alloc] at hg1 hg2
  have hl1 := HQ1.out.lt
  have hl2 := HQ2.out.lt
  have q1 := (view_put' (x := .int .i64 s) (y := .slice (some ⟨g1, 0, none⟩) el el) (z := .slice (some ⟨g2, 0, none⟩) el el) H6.out.out).set (p := ⟨w.heap.size + 1 + 1 + 1, 0, none⟩) (by simp) (.int .i64 0)
  have q2 : Boxed ((((w2.setCell ⟨w.heap.size + 1 + 1, 0, none⟩ (.int .i64 s)).setCell ⟨w.heap.size + 1 + 1, 1, none⟩ (.slice (some ⟨g1, 0, none⟩) el el)).setCell ⟨w.heap.size + 1 + 1, 2, none⟩ (.slice (some ⟨g2, 0, none⟩) el el)).setCell ⟨w.heap.size + 1 + 1 + 1, 0, none⟩ (.int .i64 0)) (w.heap.size + 1 + 1 + 1) 25 (.int .i64 0) :=
    Boxed.set _ (Boxed.kept (Boxed.kept (Boxed.kept H6.out.err (grownBy_setCellA _ _ _) (by simp)) (grownBy_setCellA _ _ _) (by simp)) (grownBy_setCellA _ _ _) (by simp))
  have q3 := (below_put (x := .int .i64 s) (y := .slice (some ⟨g1, 0, none⟩) el el) (z := .slice (some ⟨g2, 0, none⟩) el el) (C := w.heap.size + 1 + 1) H6.out.below (by omega)).setCell (p := ⟨w.heap.size + 1 + 1 + 1, 0, none⟩) (by simp; omega) (.int .i64 0)
  have hi8 := (ints_set1 (B := w.heap.size + 1 + 1 + 1) (i := 0) (a := .int .i64 0) (ints_set3 (B := w.heap.size + 1 + 1) (a := .int .i64 s) (b := .slice (some ⟨g1, 0, none⟩) el el) (c := .slice (some ⟨g2, 0, none⟩) el el) (ints_of_rowI HQ1.out HEL.out (by omega) HE.out.2.2.1) (by omega)) (by omega)).below ((Below.refl _ _).alloc (Nat.le_refl _) (.cells #[.int .i64 s, .slice (some ⟨g1, 0, none⟩) el el, .slice (some ⟨g2, 0, none⟩) el el] 24))
  have hz : Ints w2 (some ⟨g2, 0, none⟩) el (List.replicate es.length 0) := by
    refine ints_of_rowI (HQ2.out.congr (fun j hj => ?_)) (by simp [HEL.out]) (by omega) (fun x hx => by have := List.eq_of_mem_replicate hx; omega)
    have : j < es.length := by rw [HEL.out]; exact hj
    simp [this]
  have hi9 := (ints_set1 (B := w.heap.size + 1 + 1 + 1) (i := 0) (a := .int .i64 0) (ints_set3 (B := w.heap.size + 1 + 1) (a := .int .i64 s) (b := .slice (some ⟨g1, 0, none⟩) el el) (c := .slice (some ⟨g2, 0, none⟩) el el) hz (by omega)) (by omega)).below ((Below.refl _ _).alloc (Nat.le_refl _) (.cells #[.int .i64 s, .slice (some ⟨g1, 0, none⟩) el el, .slice (some ⟨g2, 0, none⟩) el el] 24))
  obtain ⟨⟨u0, u1, u2⟩, _⟩ := (q1.alloc (.cells #[.int .i64 s, .slice (some ⟨g1, 0, none⟩) el el, .slice (some ⟨g2, 0, none⟩) el el] 24)).cells
  have u3 := (Boxed.alloc q2 (.cells #[.int .i64 s, .slice (some ⟨g1, 0, none⟩) el el, .slice (some ⟨g2, 0, none⟩) el el] 24)).cell
  exact bodyPost_ret (v := .tuple #[.agg #[.int .i64 s, .slice (some ⟨g1, 0, none⟩) el el, .slice (some ⟨g2, 0, none⟩) el el], .int .i64 0]) (by simp [results, Try.results25, go_sem, u0, u1, u2, u3]) rfl ⟨⟨_, _, _, _, _, _, rfl, hi8, hi9, ⟨Nat.le_refl _, Nat.le_refl _⟩, .inr (far_some (by omega)), far_some (by omega)⟩, bl_alloc q3⟩

theorem reform_any (s : Int) (da : Option Addr) (dl dc : Nat) (ds : List Int) (sa : Option Addr) (sl sc : Nat) (ss : List Int) (ea : Option Addr) (el ec : Nat) (es : List Int) (w : World) (hd : Ints w da dl ds) (hs : Ints w sa sl ss) (he : Ints w ea el es) (d0 : Option Addr) :
    Calls Try.prog 25 #[.agg #[.int .i64 s, .slice da dl dc, .slice sa sl sc], .slice ea el ec] w fun e w' => GivesF w d0 e w' (okS (reformE s ds ss es) s) (okL (reformE s ds ss es) es) (okL (reformE s ds ss es) (reformL (readsV s ds ss) es)) (reformE s ds ss es) ∧ Below w.heap.size w w' := by
  refine (callsIn_wide (n := 8)).1 ?_
  by_cases hW : wrongE s ds ss = 0
  · by_cases hE : sizeE es = 0
    · by_cases hN : sizeN es = prod ds
      · by_cases h0 : prod es = 0
        · have e : reformE s ds ss es = 0 := by unfold reformE; rw [if_neg (by simp [hW]), if_neg (by simp [hE]), if_neg (by simp [hN]), if_pos h0]
          rw [e]
          simp only [okS, okL, if_true, reformL, if_pos h0]
          exact reform_none s da dl dc ds sa sl sc ss ea el ec es w hd hs he hW hE hN h0 d0
        · have hpos : ∀ x ∈ es, 1 ≤ x := by
            rcases dims_cases hE with ⟨_, _, h⟩ | ⟨h, _⟩
            · exact absurd h h0
            · exact h
          simp only [reformL, if_neg h0]
          exact reform_ok s da dl dc ds sa sl sc ss ea el ec es w hd hs he hW hE hN hpos d0
      · have e : reformE s ds ss es = 6 := by unfold reformE; rw [if_neg (by simp [hW]), if_neg (by simp [hE]), if_pos hN]
        rw [e]
        exact reform_shape s da dl dc ds sa sl sc ss ea el ec es w hd hs he hW hE hN d0
    · have e : reformE s ds ss es = sizeE es := by unfold reformE; rw [if_neg (by simp [hW]), if_pos hE]
      rw [e]
      simp only [okS, okL, if_neg hE]
      exact reform_size s da dl dc ds sa sl sc ss ea el ec es w hd hs he hW hE d0
  · have e : reformE s ds ss es = wrongE s ds ss := by unfold reformE; rw [if_pos hW]
    rw [e]
    simp only [okS, okL, if_neg hW]
    exact reform_wrong s da dl dc ds sa sl sc ss ea el ec w hd hs hW d0
end Go.Proofs.Ytfamaaahofjglaa.V
