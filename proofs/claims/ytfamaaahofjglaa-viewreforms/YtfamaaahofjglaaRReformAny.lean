/-
  Contract: adjointref1.Reform, whatever it is asked.
-/
import Derived.Test.YtfamaaahofjglaaRReform
import Derived.Test.YtfamaaahofjglaaReformAny
namespace Go.Proofs.Ytfamaaahofjglaa.V
open Go.RowKit

set_option maxRecDepth 100000 in
set_option maxHeartbeats 4000000 in
theorem rreform_wrong (s : Int) (da : Option Addr) (dl dc : Nat) (ds : List Int) (sa : Option Addr) (sl sc : Nat) (ss : List Int) (ea : Option Addr) (el ec : Nat) (w : World) (hd : Ints w da dl ds) (hs : Ints w sa sl ss)
    (hW : wrongE s ds ss ≠ 0) :
    Calls Try.prog 26 #[.agg #[.int .i64 s, .slice da dl dc, .slice sa sl sc], .slice ea el ec] w fun e w' => GivesF w ea e w' 0 [] [] (wrongE s ds ss) ∧ Below w.heap.size w w' := by
  have HD := hide hd
  have HS := hide hs
  have c1 : (wrongE s ds ss != 0) = true := by simp [hW]
  clear hW
  have hb2 : Below w.heap.size w ((w.alloc (.cells #[.int .i64 s, .slice da dl dc, .slice sa sl sc] 24)).alloc (.cells #[.int .i64 0, .slice none 0 0, .slice none 0 0] 24)) := ((Below.refl _ _).alloc (Nat.le_refl _) _).alloc (by simp) _
  have HB2 := hide hb2
  clear hb2 hd hs
  go_enter Try.func26, Try.ntmps26
  go_wp2_with (first
    | (go_at_call 13; refine (rwrong_any _ _ _ _ ds _ _ _ ss _ (HD.out.below HB2.out) (HS.out.below HB2.out)).mono ?_; rintro e w1 ⟨rfl, hb⟩; skip; have HB := hide (Below.on HB2.out hb); have HV1 := hide (((ViewAt.new w (.int .i64 s) (.slice da dl dc) (.slice sa sl sc)).alloc (.cells #[.int .i64 0, .slice none 0 0, .slice none 0 0] 24)).below hb); have hR1 := (ViewAt.new (w.alloc (.cells #[.int .i64 s, .slice da dl dc, .slice sa sl sc] 24)) (.int .i64 0) (.slice none 0 0) (.slice none 0 0)).below hb; simp only [World.size_alloc] at hR1; obtain ⟨⟨v0, v1, v2⟩, _⟩ := HV1.out.cells; obtain ⟨⟨r0, r1, r2⟩, f0, f1, f2⟩ := hR1.cells; have HR1 := hide hR1; have l0 := HV1.out.lt; have l1 := HR1.out.lt; clear hb hR1))
  have q1 := view_put' (x := .int .i64 0) (y := .slice none 0 0) (z := .slice none 0 0) HR1.out
  obtain ⟨⟨u0, u1, u2⟩, _⟩ := q1.cells
  exact bodyPost_ret (v := .tuple #[.agg #[.int .i64 0, .slice none 0 0, .slice none 0 0], .int .i64 (wrongE s ds ss)]) (by simp [results, Try.results26, go_sem, u0, u1, u2]) rfl ⟨givesF_none _ _ _ _, below_put HB.out (by omega)⟩

set_option maxRecDepth 100000 in
set_option maxHeartbeats 4000000 in
theorem rreform_size (s : Int) (da : Option Addr) (dl dc : Nat) (ds : List Int) (sa : Option Addr) (sl sc : Nat) (ss : List Int) (ea : Option Addr) (el ec : Nat) (es : List Int) (w : World) (hd : Ints w da dl ds) (hs : Ints w sa sl ss) (he : Ints w ea el es)
    (hW : wrongE s ds ss = 0) (hE : sizeE es ≠ 0) :
    Calls Try.prog 26 #[.agg #[.int .i64 s, .slice da dl dc, .slice sa sl sc], .slice ea el ec] w fun e w' => GivesF w ea e w' 0 [] [] (sizeE es) ∧ Below w.heap.size w w' := by
  have HD := hide hd
  have HS := hide hs
  have HE := hide he
  have HW := hide hW
  have c1 : (sizeE es != 0) = true := by simp [hE]
  clear hE hW he
  have hb2 : Below w.heap.size w ((w.alloc (.cells #[.int .i64 s, .slice da dl dc, .slice sa sl sc] 24)).alloc (.cells #[.int .i64 0, .slice none 0 0, .slice none 0 0] 24)) := ((Below.refl _ _).alloc (Nat.le_refl _) _).alloc (by simp) _
  have HB2 := hide hb2
  clear hb2 hd hs
  go_enter Try.func26, Try.ntmps26
  go_wp2_with (first
    | (go_at_call 13; refine (rwrong_any _ _ _ _ ds _ _ _ ss _ (HD.out.below HB2.out) (HS.out.below HB2.out)).mono ?_; rintro e w1 ⟨rfl, hb⟩; rw [HW.out]; have HB := hide (Below.on HB2.out hb); have HV1 := hide (((ViewAt.new w (.int .i64 s) (.slice da dl dc) (.slice sa sl sc)).alloc (.cells #[.int .i64 0, .slice none 0 0, .slice none 0 0] 24)).below hb); have hR1 := (ViewAt.new (w.alloc (.cells #[.int .i64 s, .slice da dl dc, .slice sa sl sc] 24)) (.int .i64 0) (.slice none 0 0) (.slice none 0 0)).below hb; simp only [World.size_alloc] at hR1; obtain ⟨⟨v0, v1, v2⟩, _⟩ := HV1.out.cells; obtain ⟨⟨r0, r1, r2⟩, f0, f1, f2⟩ := hR1.cells; have HR1 := hide hR1; have l0 := HV1.out.lt; have l1 := HR1.out.lt; clear hb hR1)
    | (go_at_call_of 32 (Value.slice ea el ec); refine (rsize_any _ _ _ es _ (HE.out.below HB.out)).mono ?_; rintro e w' ⟨rfl, hw'⟩; obtain rfl := hw'.symm; skip))
  have q1 := view_put' (x := .int .i64 0) (y := .slice none 0 0) (z := .slice none 0 0) HR1.out
  obtain ⟨⟨u0, u1, u2⟩, _⟩ := q1.cells
  exact bodyPost_ret (v := .tuple #[.agg #[.int .i64 0, .slice none 0 0, .slice none 0 0], .int .i64 (sizeE es)]) (by simp [results, Try.results26, go_sem, u0, u1, u2]) rfl ⟨givesF_none _ _ _ _, below_put HB.out (by omega)⟩

set_option maxRecDepth 100000 in
set_option maxHeartbeats 4000000 in
theorem rreform_shape (s : Int) (da : Option Addr) (dl dc : Nat) (ds : List Int) (sa : Option Addr) (sl sc : Nat) (ss : List Int) (ea : Option Addr) (el ec : Nat) (es : List Int) (w : World) (hd : Ints w da dl ds) (hs : Ints w sa sl ss) (he : Ints w ea el es)
    (hW : wrongE s ds ss = 0) (hE : sizeE es = 0) (hN : sizeN es ≠ prod ds) :
    Calls Try.prog 26 #[.agg #[.int .i64 s, .slice da dl dc, .slice sa sl sc], .slice ea el ec] w fun e w' => GivesF w ea e w' 0 [] [] 6 ∧ Below w.heap.size w w' := by
  have HD := hide hd
  have HS := hide hs
  have HE := hide he
  have HW := hide hW
  have HZE := hide hE
  have hSD : sizeN ds = prod ds := by
    rcases dims_cases (wrongE_ok hW).1 with ⟨_, h, h'⟩ | ⟨_, h, _⟩ <;> omega
  have HSD := hide hSD
  have c1 : (prod ds != sizeN es) = true := by simp; omega
  clear hE hW he hN hSD
  have hb2 : Below w.heap.size w ((w.alloc (.cells #[.int .i64 s, .slice da dl dc, .slice sa sl sc] 24)).alloc (.cells #[.int .i64 0, .slice none 0 0, .slice none 0 0] 24)) := ((Below.refl _ _).alloc (Nat.le_refl _) _).alloc (by simp) _
  have HB2 := hide hb2
  clear hb2 hd hs
  go_enter Try.func26, Try.ntmps26
  go_wp2_with (first
    | (go_at_call 13; refine (rwrong_any _ _ _ _ ds _ _ _ ss _ (HD.out.below HB2.out) (HS.out.below HB2.out)).mono ?_; rintro e w1 ⟨rfl, hb⟩; rw [HW.out]; have HB := hide (Below.on HB2.out hb); have HV1 := hide (((ViewAt.new w (.int .i64 s) (.slice da dl dc) (.slice sa sl sc)).alloc (.cells #[.int .i64 0, .slice none 0 0, .slice none 0 0] 24)).below hb); have hR1 := (ViewAt.new (w.alloc (.cells #[.int .i64 s, .slice da dl dc, .slice sa sl sc] 24)) (.int .i64 0) (.slice none 0 0) (.slice none 0 0)).below hb; simp only [World.size_alloc] at hR1; obtain ⟨⟨v0, v1, v2⟩, _⟩ := HV1.out.cells; obtain ⟨⟨r0, r1, r2⟩, f0, f1, f2⟩ := hR1.cells; have HR1 := hide hR1; have l0 := HV1.out.lt; have l1 := HR1.out.lt; clear hb hR1)
    | (go_at_call_of 32 (Value.slice ea el ec); refine (rsize_any _ _ _ es _ (HE.out.below HB.out)).mono ?_; rintro e w' ⟨rfl, hw'⟩; obtain rfl := hw'.symm; rw [HZE.out])
    | (go_at_call 32; refine (rsize_any _ _ _ ds _ (HD.out.below HB.out)).mono ?_; rintro e w' ⟨rfl, hw'⟩; obtain rfl := hw'.symm; rw [HSD.out]))
  have q1 := view_put' (x := .int .i64 0) (y := .slice none 0 0) (z := .slice none 0 0) HR1.out
  obtain ⟨⟨u0, u1, u2⟩, _⟩ := q1.cells
  exact bodyPost_ret (v := .tuple #[.agg #[.int .i64 0, .slice none 0 0, .slice none 0 0], .int .i64 6]) (by simp [results, Try.results26, go_sem, u0, u1, u2]) rfl ⟨givesF_none _ _ _ _, below_put HB.out (by omega)⟩

set_option maxRecDepth 100000 in
set_option maxHeartbeats 4000000 in
theorem rreform_none (s : Int) (da : Option Addr) (dl dc : Nat) (ds : List Int) (sa : Option Addr) (sl sc : Nat) (ss : List Int) (ea : Option Addr) (el ec : Nat) (es : List Int) (w : World) (hd : Ints w da dl ds) (hs : Ints w sa sl ss) (he : Ints w ea el es)
    (hW : wrongE s ds ss = 0) (hE : sizeE es = 0) (hN : sizeN es = prod ds) (h0 : prod es = 0) (hec : el ≤ ec) :
    Calls Try.prog 26 #[.agg #[.int .i64 s, .slice da dl dc, .slice sa sl sc], .slice ea el ec] w fun e w' => GivesF w ea e w' s es (List.replicate es.length 0) 0 ∧ Below w.heap.size w w' := by
  have HD := hide hd
  have HS := hide hs
  have HE := hide he
  have HW := hide hW
  have HZE := hide hE
  have hSD : sizeN ds = prod ds := by
    rcases dims_cases (wrongE_ok hW).1 with ⟨_, h, h'⟩ | ⟨_, h, _⟩ <;> omega
  have HSD := hide hSD
  have hN0 : sizeN es = 0 := by
    rcases dims_cases hE with ⟨_, h, _⟩ | ⟨_, _, _, h⟩ <;> omega
  have HN0 := hide hN0
  rw [← hN, hN0] at hSD
  replace HSD := hide hSD
  have HEL := hide he.1
  have hel : el ≤ 6 := by have := (sizeE_ok hE).1; have := he.1; omega
  have hmk := run_make_row' (P := Try.prog) 22 3 (.int .i64 0) 8 Try.underlying22 info_int rfl .i64 .i64 el (by omega) (by omega)
  clear hE hW he hN h0 hSD hN0
  have hb2 : Below w.heap.size w ((w.alloc (.cells #[.int .i64 s, .slice da dl dc, .slice sa sl sc] 24)).alloc (.cells #[.int .i64 0, .slice none 0 0, .slice none 0 0] 24)) := ((Below.refl _ _).alloc (Nat.le_refl _) _).alloc (by simp) _
  have HB2 := hide hb2
  clear hb2 hd hs
  go_enter Try.func26, Try.ntmps26
  go_wp2_with (first
    | (go_at_call 13; refine (rwrong_any _ _ _ _ ds _ _ _ ss _ (HD.out.below HB2.out) (HS.out.below HB2.out)).mono ?_; rintro e w1 ⟨rfl, hb⟩; rw [HW.out]; have HB := hide (Below.on HB2.out hb); have HV1 := hide (((ViewAt.new w (.int .i64 s) (.slice da dl dc) (.slice sa sl sc)).alloc (.cells #[.int .i64 0, .slice none 0 0, .slice none 0 0] 24)).below hb); have hR1 := (ViewAt.new (w.alloc (.cells #[.int .i64 s, .slice da dl dc, .slice sa sl sc] 24)) (.int .i64 0) (.slice none 0 0) (.slice none 0 0)).below hb; simp only [World.size_alloc] at hR1; obtain ⟨⟨v0, v1, v2⟩, _⟩ := HV1.out.cells; obtain ⟨⟨r0, r1, r2⟩, f0, f1, f2⟩ := hR1.cells; have HR1 := hide hR1; have l0 := HV1.out.lt; have l1 := HR1.out.lt; clear hb hR1)
    | (go_at_call_of 32 (Value.slice ea el ec); refine (rsize_any _ _ _ es _ (HE.out.below HB.out)).mono ?_; rintro e w' ⟨rfl, hw'⟩; obtain rfl := hw'.symm; rw [HZE.out, HN0.out])
    | (go_at_call 32; refine (rsize_any _ _ _ ds _ (HD.out.below HB.out)).mono ?_; rintro e w' ⟨rfl, hw'⟩; obtain rfl := hw'.symm; rw [HSD.out]))
  go_region
  all_goals go_wp2
  · have q1 := view_put' (x := .int .i64 s) (y := .slice ea el ec) (z := .slice (some ⟨w1.heap.size, 0, none⟩) el el) HR1.out
    have q3 := below_put (C := w.heap.size + 1) (x := .int .i64 s) (y := .slice ea el ec) (z := .slice (some ⟨w1.heap.size, 0, none⟩) el el) HB.out (by omega)
    generalize hW3 : ((w1.setCell ⟨w.heap.size + 1, 0, none⟩ (.int .i64 s)).setCell ⟨w.heap.size + 1, 1, none⟩ (.slice ea el ec)).setCell ⟨w.heap.size + 1, 2, none⟩ (.slice (some ⟨w1.heap.size, 0, none⟩) el el) = W3
    have hs3 : W3.heap.size = w1.heap.size := by rw [← hW3]; simp
    rw [hW3] at q1 q3
    clear hW3
    have hr := (World.rowIs.alloc (World.rowIs_made W3 (.int .i64 0) el 3) (.cells #[.int .i64 s, .slice ea el ec, .slice (some ⟨w1.heap.size, 0, none⟩) el el] 24)).drew
    rw [hs3] at hr
    have q5 := bl_drew (bl_alloc (o := .cells #[.int .i64 s, .slice ea el ec, .slice (some ⟨w1.heap.size, 0, none⟩) el el] 24) (bl_alloc (o := .cells (madeCells #[.int .i64 0] el) 3) q3))
    obtain ⟨⟨u0, u1, u2⟩, _⟩ := (vw_drew ((q1.alloc (.cells (madeCells #[.int .i64 0] el) 3)).alloc (.cells #[.int .i64 s, .slice ea el ec, .slice (some ⟨w1.heap.size, 0, none⟩) el el] 24))).cells
    refine bodyPost_ret (v := .tuple #[.agg #[.int .i64 s, .slice ea el ec, .slice (some ⟨w1.heap.size, 0, none⟩) el el], .int .i64 0]) (by simp [results, Try.results26, go_sem, u0, u1, u2]) rfl ⟨⟨_, _, _, _, _, _, rfl, HE.out.below q5, ?_, ⟨hec, Nat.le_refl _⟩, .inl rfl, far_some (by omega)⟩, q5⟩
    refine ints_of_rowI (hr.congr (fun j hj => ?_)) (by simp [HEL.out]) (by omega) (fun x hx => by have := List.eq_of_mem_replicate hx; omega)
    have : j < es.length := by rw [HEL.out]; exact hj
    simp [this]
  · have q1 := view_put' (x := .int .i64 s) (y := .slice ea el ec) (z := .slice (some ⟨w1.heap.size + 1, 0, none⟩) el el) HR1.out
    have q3 := below_put (C := w.heap.size + 1) (x := .int .i64 s) (y := .slice ea el ec) (z := .slice (some ⟨w1.heap.size + 1, 0, none⟩) el el) HB.out (by omega)
    generalize hW3 : ((w1.setCell ⟨w.heap.size + 1, 0, none⟩ (.int .i64 s)).setCell ⟨w.heap.size + 1, 1, none⟩ (.slice ea el ec)).setCell ⟨w.heap.size + 1, 2, none⟩ (.slice (some ⟨w1.heap.size + 1, 0, none⟩) el el) = W3
    have hs3 : W3.heap.size = w1.heap.size := by rw [← hW3]; simp
    rw [hW3] at q1 q3
    clear hW3
    have hr := (World.rowIs_made (W3.alloc (.cells #[.int .i64 s, .slice ea el ec, .slice (some ⟨w1.heap.size + 1, 0, none⟩) el el] 24)) (.int .i64 0) el 3).drew
    rw [World.size_alloc, hs3] at hr
    have q5 := bl_drew (bl_alloc (o := .cells (madeCells #[.int .i64 0] el) 3) (bl_alloc (o := .cells #[.int .i64 s, .slice ea el ec, .slice (some ⟨w1.heap.size + 1, 0, none⟩) el el] 24) q3))
    obtain ⟨⟨u0, u1, u2⟩, _⟩ := (vw_drew ((q1.alloc (.cells #[.int .i64 s, .slice ea el ec, .slice (some ⟨w1.heap.size + 1, 0, none⟩) el el] 24)).alloc (.cells (madeCells #[.int .i64 0] el) 3))).cells
    refine bodyPost_ret (v := .tuple #[.agg #[.int .i64 s, .slice ea el ec, .slice (some ⟨w1.heap.size + 1, 0, none⟩) el el], .int .i64 0]) (by simp [results, Try.results26, go_sem, u0, u1, u2]) rfl ⟨⟨_, _, _, _, _, _, rfl, HE.out.below q5, ?_, ⟨hec, Nat.le_refl _⟩, .inl rfl, far_some (by omega)⟩, q5⟩
    refine ints_of_rowI (hr.congr (fun j hj => ?_)) (by simp [HEL.out]) (by omega) (fun x hx => by have := List.eq_of_mem_replicate hx; omega)
    have : j < es.length := by rw [HEL.out]; exact hj
    simp [this]

theorem rreform_any (s : Int) (da : Option Addr) (dl dc : Nat) (ds : List Int) (sa : Option Addr) (sl sc : Nat) (ss : List Int) (ea : Option Addr) (el ec : Nat) (es : List Int) (w : World) (hd : Ints w da dl ds) (hs : Ints w sa sl ss) (he : Ints w ea el es) (hec : el ≤ ec) :
    Calls Try.prog 26 #[.agg #[.int .i64 s, .slice da dl dc, .slice sa sl sc], .slice ea el ec] w fun e w' => GivesF w ea e w' (okS (reformE s ds ss es) s) (okL (reformE s ds ss es) es) (okL (reformE s ds ss es) (reformL (readsV s ds ss) es)) (reformE s ds ss es) ∧ Below w.heap.size w w' := by
  by_cases hW : wrongE s ds ss = 0
  · by_cases hE : sizeE es = 0
    · by_cases hN : sizeN es = prod ds
      · by_cases h0 : prod es = 0
        · have e : reformE s ds ss es = 0 := by unfold reformE; rw [if_neg (by simp [hW]), if_neg (by simp [hE]), if_neg (by simp [hN]), if_pos h0]
          rw [e]
          simp only [okS, okL, if_true, reformL, if_pos h0]
          exact rreform_none s da dl dc ds sa sl sc ss ea el ec es w hd hs he hW hE hN h0 hec
        · have hpos : ∀ x ∈ es, 1 ≤ x := by
            rcases dims_cases hE with ⟨_, _, h⟩ | ⟨h, _⟩
            · exact absurd h h0
            · exact h
          simp only [reformL, if_neg h0]
          exact rreform_ok s da dl dc ds sa sl sc ss ea el ec es w hd hs he hec hW hE hN hpos
      · have e : reformE s ds ss es = 6 := by unfold reformE; rw [if_neg (by simp [hW]), if_neg (by simp [hE]), if_pos hN]
        rw [e]
        exact rreform_shape s da dl dc ds sa sl sc ss ea el ec es w hd hs he hW hE hN
    · have e : reformE s ds ss es = sizeE es := by unfold reformE; rw [if_neg (by simp [hW]), if_pos hE]
      rw [e]
      simp only [okS, okL, if_neg hE]
      exact rreform_size s da dl dc ds sa sl sc ss ea el ec es w hd hs he hW hE
  · have e : reformE s ds ss es = wrongE s ds ss := by unfold reformE; rw [if_pos hW]
    rw [e]
    simp only [okS, okL, if_neg hW]
    exact rreform_wrong s da dl dc ds sa sl sc ss ea el ec w hd hs hW
end Go.Proofs.Ytfamaaahofjglaa.V
