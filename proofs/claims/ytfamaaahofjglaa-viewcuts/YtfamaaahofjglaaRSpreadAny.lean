/-
  Contract: Spread of anything.
-/
import Derived.Test.YtfamaaahofjglaaRSpread
namespace Go.Proofs.Ytfamaaahofjglaa.V
open Go.RowKit

set_option maxHeartbeats 1000000 in
theorem rspread_wrong (s : Int) (da : Option Addr) (dl dc : Nat) (ds : List Int) (sa : Option Addr) (sl sc : Nat) (ss : List Int) (ea : Option Addr) (el ec : Nat) (_es : List Int) (pa : Option Addr) (pl pc : Nat) (w : World)
    (hd : Ints w da dl ds) (hs : Ints w sa sl ss) (hW : wrongE s ds ss ≠ 0) :
    Calls Try.prog 24 #[.agg #[.int .i64 s, .slice da dl dc, .slice sa sl sc], .slice ea el ec, .slice pa pl pc] w fun e w' => e = .returned (.tuple #[.agg #[.int .i64 0, .slice none 0 0, .slice none 0 0], .int .i64 (wrongE s ds ss)]) ∧ Below w.heap.size w w' := by
  have HD := hide hd
  have HS := hide hs
  have c1 : (wrongE s ds ss != 0) = true := by simp [hW]
  clear hd hs hW
  have hb2 : Below w.heap.size w ((w.alloc (.cells #[.int .i64 s, .slice da dl dc, .slice sa sl sc] 24)).alloc (.cells #[.int .i64 0, .slice none 0 0, .slice none 0 0] 24)) := ((Below.refl _ _).alloc (Nat.le_refl _) _).alloc (by simp) _
  have HB2 := hide hb2
  clear hb2
  go_enter Try.func24, Try.ntmps24
  go_wp2_with fail
  refine (rwrong_any _ _ _ _ ds _ _ _ ss _ (HD.out.below HB2.out) (HS.out.below HB2.out)).mono ?_
  rintro e w1 ⟨rfl, hb⟩
  have HB := hide (Below.on HB2.out hb)
  obtain ⟨hc1, hf1⟩ := bcell hb
  have hz := hb.size
  simp at hz
  clear hb
  go_wp2
  refine bodyPost_ret (v := .tuple #[.agg #[.int .i64 0, .slice none 0 0, .slice none 0 0], .int .i64 (wrongE s ds ss)]) (by simp [results, Try.results24, go_sem, hc1]) rfl ⟨rfl, below_put HB.out (by omega)⟩

set_option maxHeartbeats 1000000 in
theorem rspread_size (s : Int) (da : Option Addr) (dl dc : Nat) (ds : List Int) (sa : Option Addr) (sl sc : Nat) (ss : List Int) (ea : Option Addr) (el ec : Nat) (es : List Int) (pa : Option Addr) (pl pc : Nat) (w : World)
    (hd : Ints w da dl ds) (hs : Ints w sa sl ss) (he : Ints w ea el es) (hW : wrongE s ds ss = 0) (hE : sizeE es ≠ 0) :
    Calls Try.prog 24 #[.agg #[.int .i64 s, .slice da dl dc, .slice sa sl sc], .slice ea el ec, .slice pa pl pc] w fun e w' => e = .returned (.tuple #[.agg #[.int .i64 0, .slice none 0 0, .slice none 0 0], .int .i64 (sizeE es)]) ∧ Below w.heap.size w w' := by
  have HD := hide hd
  have HS := hide hs
  have HE := hide he
  have HW := hide hW
  have c1 : (sizeE es != 0) = true := by simp [hE]
  clear hd hs he hW hE
  have hb2 : Below w.heap.size w ((w.alloc (.cells #[.int .i64 s, .slice da dl dc, .slice sa sl sc] 24)).alloc (.cells #[.int .i64 0, .slice none 0 0, .slice none 0 0] 24)) := ((Below.refl _ _).alloc (Nat.le_refl _) _).alloc (by simp) _
  have HB2 := hide hb2
  clear hb2
  go_enter Try.func24, Try.ntmps24
  go_wp2_with fail
  refine (rwrong_any _ _ _ _ ds _ _ _ ss _ (HD.out.below HB2.out) (HS.out.below HB2.out)).mono ?_
  rintro e w1 ⟨rfl, hb⟩
  rw [HW.out]
  have HB := hide (Below.on HB2.out hb)
  have hV1 : ViewAt w1 w.heap.size (.int .i64 s) (.slice da dl dc) (.slice sa sl sc) := ((ViewAt.new w _ _ _).alloc _).below hb
  have hR1 : ViewAt w1 (w.heap.size + 1) (.int .i64 0) (.slice none 0 0) (.slice none 0 0) := by
    have := (ViewAt.new (w.alloc (.cells #[.int .i64 s, .slice da dl dc, .slice sa sl sc] 24)) (.int .i64 0) (.slice none 0 0) (.slice none 0 0)).below hb
    simpa using this
  obtain ⟨⟨v0, v1, v2⟩, _⟩ := hV1.cells
  obtain ⟨⟨r0, r1, r2⟩, rf0, rf1, rf2⟩ := hR1.cells
  clear hb hV1 hR1
  go_wp2_with fail
  refine (rsize_any _ _ _ es _ (HE.out.below HB.out)).mono ?_
  rintro e w2 ⟨rfl, hw⟩
  obtain rfl := hw.symm
  clear hw
  go_wp2
  refine bodyPost_ret (v := .tuple #[.agg #[.int .i64 0, .slice none 0 0, .slice none 0 0], .int .i64 (sizeE es)]) (by simp [results, Try.results24, go_sem, r0, r1, r2]) rfl ⟨rfl, below_put HB.out (by omega)⟩

set_option maxHeartbeats 1000000 in
theorem rspread_shape (s : Int) (da : Option Addr) (dl dc : Nat) (ds : List Int) (sa : Option Addr) (sl sc : Nat) (ss : List Int) (ea : Option Addr) (el ec : Nat) (es : List Int) (pa : Option Addr) (pl pc : Nat) (ps : List Int) (w : World)
    (hd : Ints w da dl ds) (hs : Ints w sa sl ss) (he : Ints w ea el es) (hp : Ints w pa pl ps) (hW : wrongE s ds ss = 0) (hE : sizeE es = 0) (h6 : el ≤ 6) (hP : ¬ (pl = dl ∧ RiseOk ps el)) :
    Calls Try.prog 24 #[.agg #[.int .i64 s, .slice da dl dc, .slice sa sl sc], .slice ea el ec, .slice pa pl pc] w fun e w' => e = .returned (.tuple #[.agg #[.int .i64 0, .slice none 0 0, .slice none 0 0], .int .i64 6]) ∧ Below w.heap.size w w' := by
  have HD := hide hd
  have HS := hide hs
  have HE := hide he
  have HW := hide hW
  have HZ := hide hE
  have HP := hide hp
  have HPO := hide hP
  clear hd hs he hp hW hE hP
  have hb2 : Below w.heap.size w ((w.alloc (.cells #[.int .i64 s, .slice da dl dc, .slice sa sl sc] 24)).alloc (.cells #[.int .i64 0, .slice none 0 0, .slice none 0 0] 24)) := ((Below.refl _ _).alloc (Nat.le_refl _) _).alloc (by simp) _
  have HB2 := hide hb2
  clear hb2
  go_enter Try.func24, Try.ntmps24
  go_wp2_with fail
  refine (rwrong_any _ _ _ _ ds _ _ _ ss _ (HD.out.below HB2.out) (HS.out.below HB2.out)).mono ?_
  rintro e w1 ⟨rfl, hb⟩
  rw [HW.out]
  have HB := hide (Below.on HB2.out hb)
  have hV1 : ViewAt w1 w.heap.size (.int .i64 s) (.slice da dl dc) (.slice sa sl sc) := ((ViewAt.new w _ _ _).alloc _).below hb
  have hR1 : ViewAt w1 (w.heap.size + 1) (.int .i64 0) (.slice none 0 0) (.slice none 0 0) := by
    have := (ViewAt.new (w.alloc (.cells #[.int .i64 s, .slice da dl dc, .slice sa sl sc] 24)) (.int .i64 0) (.slice none 0 0) (.slice none 0 0)).below hb
    simpa using this
  obtain ⟨⟨v0, v1, v2⟩, _⟩ := hV1.cells
  obtain ⟨⟨r0, r1, r2⟩, rf0, rf1, rf2⟩ := hR1.cells
  clear hb hV1 hR1
  go_wp2_with fail
  refine (rsize_any _ _ _ es _ (HE.out.below HB.out)).mono ?_
  rintro e w2 ⟨rfl, hw⟩
  obtain rfl := hw.symm
  clear hw
  rw [HZ.out]
  by_cases e1 : pl = dl
  · subst e1
    go_wp2_with fail
    refine (rrising_any _ _ _ ps el _ (HP.out.below HB.out) h6).mono ?_
    rintro e w2 ⟨⟨r, rfl, hr⟩, hw⟩
    obtain rfl := hw.symm
    obtain rfl : r = false := by
      cases r with
      | true => exact absurd (hr.1 rfl) (fun h => HPO.out ⟨by simp, h⟩)
      | false => rfl
    clear hr hw
    go_wp2
    refine bodyPost_ret (v := .tuple #[.agg #[.int .i64 0, .slice none 0 0, .slice none 0 0], .int .i64 6]) (by simp [results, Try.results24, go_sem, r0, r1, r2]) rfl ⟨rfl, below_put HB.out (by omega)⟩
  · have e1' : ((pl : Int) != (dl : Int)) = true := by simp; omega
    clear e1
    go_wp2
    refine bodyPost_ret (v := .tuple #[.agg #[.int .i64 0, .slice none 0 0, .slice none 0 0], .int .i64 6]) (by simp [results, Try.results24, go_sem, r0, r1, r2]) rfl ⟨rfl, below_put HB.out (by omega)⟩

theorem rspread_any (s : Int) (da : Option Addr) (dl dc : Nat) (ds : List Int) (sa : Option Addr) (sl sc : Nat) (ss : List Int) (ea : Option Addr) (el ec : Nat) (es : List Int) (pa : Option Addr) (pl pc : Nat) (ps : List Int) (w : World)
    (hd : Ints w da dl ds) (hs : Ints w sa sl ss) (he : Ints w ea el es) (hp : Ints w pa pl ps) (hec : el ≤ ec) :
    Calls Try.prog 24 #[.agg #[.int .i64 s, .slice da dl dc, .slice sa sl sc], .slice ea el ec, .slice pa pl pc] w fun e w' => GivesF w ea e w' (okS (sprE s ds ss es ps) s) (okL (sprE s ds ss es ps) es) (okL (sprE s ds ss es ps) (sprS es.length ss ps)) (sprE s ds ss es ps) ∧ Below w.heap.size w w' := by
  by_cases hW : wrongE s ds ss ≠ 0
  · have e : sprE s ds ss es ps = wrongE s ds ss := by simp [sprE, hW]
    rw [e]
    refine (rspread_wrong s da dl dc ds sa sl sc ss ea el ec es pa pl pc w hd hs hW).mono ?_
    rintro e w' ⟨rfl, hb⟩
    simp only [okS, okL, if_neg hW]
    exact ⟨givesF_none _ _ _ _, hb⟩
  replace hW : wrongE s ds ss = 0 := by simpa using hW
  by_cases hE : sizeE es ≠ 0
  · have e : sprE s ds ss es ps = sizeE es := by simp [sprE, hW, hE]
    rw [e]
    refine (rspread_size s da dl dc ds sa sl sc ss ea el ec es pa pl pc w hd hs he hW hE).mono ?_
    rintro e w' ⟨rfl, hb⟩
    simp only [okS, okL, if_neg hE]
    exact ⟨givesF_none _ _ _ _, hb⟩
  replace hE : sizeE es = 0 := by simpa using hE
  obtain ⟨w1, w2, _⟩ := wrongE_ok hW
  have h6 := (sizeE_ok w1).1
  have h6e := (sizeE_ok hE).1
  have ld := hd.1
  have ls := hs.1
  have le := he.1
  have lp := hp.1
  by_cases hP : pl = dl ∧ RiseOk ps el
  · obtain ⟨rfl, hr⟩ := hP
    obtain rfl : sl = pl := by omega
    refine (rspread_ok s da sl dc ds sa sc ss ea el ec es pa pc ps w hd hs he hp hW hE hr (by omega) (by omega) hec).mono ?_
    rintro e w' ⟨h, hb⟩
    refine ⟨?_, hb⟩
    have er : ps.length = ds.length ∧ riseB ps es.length = true := ⟨by omega, by rw [le]; exact (riseB_iff ps el).2 hr⟩
    rw [SprPost] at h
    by_cases hA : anyMis ds es ps = true
    · rw [if_pos hA] at h
      have e : sprE s ds ss es ps = 6 := by simp [sprE, hW, hE, er, hA]
      rw [e]; exact h
    · rw [if_neg hA] at h
      have e : sprE s ds ss es ps = 0 := by simp [sprE, hW, hE, er, hA]
      rw [e]; exact h
  · have e : sprE s ds ss es ps = 6 := by
      have : ¬ (ps.length = ds.length ∧ riseB ps es.length = true) := fun h => hP ⟨by omega, by have := h.2; rw [le] at this; exact (riseB_iff ps el).1 this⟩
      simp only [sprE, hW, hE, if_neg this]
      simp
    rw [e]
    refine (rspread_shape s da dl dc ds sa sl sc ss ea el ec es pa pl pc ps w hd hs he hp hW hE (by omega) hP).mono ?_
    rintro e w' ⟨rfl, hb⟩
    exact ⟨givesF_none _ _ _ _, hb⟩
end Go.Proofs.Ytfamaaahofjglaa.V
