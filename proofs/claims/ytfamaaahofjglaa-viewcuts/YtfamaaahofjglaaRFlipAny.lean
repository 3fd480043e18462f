/-
  Contract: adjointref1.Flip of anything.
-/
import Derived.Test.YtfamaaahofjglaaRFlip
namespace Go.Proofs.Ytfamaaahofjglaa.V
open Go.RowKit

set_option maxHeartbeats 1000000 in
theorem rflip_wrong (s : Int) (da : Option Addr) (dl dc : Nat) (ds : List Int) (sa : Option Addr) (sl sc : Nat) (ss : List Int) (a : Option Addr) (len cap : Nat) (w : World)
    (hd : Ints w da dl ds) (hs : Ints w sa sl ss) (hW : wrongE s ds ss ≠ 0) :
    Calls Try.prog 20 #[.agg #[.int .i64 s, .slice da dl dc, .slice sa sl sc], .slice a len cap] w fun e w' => e = .returned (.tuple #[.agg #[.int .i64 0, .slice none 0 0, .slice none 0 0], .int .i64 (wrongE s ds ss)]) ∧ Below w.heap.size w w' := by
  have HD := hide hd
  have HS := hide hs
  have c1 : (wrongE s ds ss != 0) = true := by simp [hW]
  clear hd hs hW
  have hb2 : Below w.heap.size w ((w.alloc (.cells #[.int .i64 s, .slice da dl dc, .slice sa sl sc] 24)).alloc (.cells #[.int .i64 0, .slice none 0 0, .slice none 0 0] 24)) := ((Below.refl _ _).alloc (Nat.le_refl _) _).alloc (by simp) _
  have HB2 := hide hb2
  clear hb2
  go_enter Try.func20, Try.ntmps20
  go_wp2_with fail
  refine (rwrong_any _ _ _ _ ds _ _ _ ss _ (HD.out.below HB2.out) (HS.out.below HB2.out)).mono ?_
  rintro e w1 ⟨rfl, hb⟩
  have HB := hide (Below.on HB2.out hb)
  obtain ⟨hc1, hf1⟩ := bcell hb
  have hz := hb.size
  simp at hz
  clear hb
  go_wp2
  refine bodyPost_ret (v := .tuple #[.agg #[.int .i64 0, .slice none 0 0, .slice none 0 0], .int .i64 (wrongE s ds ss)]) (by simp [results, Try.results20, go_sem, hc1]) rfl ⟨rfl, ?_⟩
  exact ((HB.out.setCell (p := ⟨w.heap.size + 1, 0, none⟩) (by simp) _).setCell (p := ⟨w.heap.size + 1, 1, none⟩) (by simp) _).setCell (p := ⟨w.heap.size + 1, 2, none⟩) (by simp) _

set_option maxHeartbeats 1000000 in
theorem rflip_shape (s : Int) (da : Option Addr) (dl dc : Nat) (ds : List Int) (sa : Option Addr) (sl sc : Nat) (ss : List Int) (a : Option Addr) (len cap : Nat) (ps : List Int) (w : World)
    (hd : Ints w da dl ds) (hs : Ints w sa sl ss) (hp : Ints w a len ps) (hW : wrongE s ds ss = 0) (hP : ¬ RiseOk ps dl) (h6 : dl ≤ 6) :
    Calls Try.prog 20 #[.agg #[.int .i64 s, .slice da dl dc, .slice sa sl sc], .slice a len cap] w fun e w' => e = .returned (.tuple #[.agg #[.int .i64 0, .slice none 0 0, .slice none 0 0], .int .i64 6]) ∧ Below w.heap.size w w' := by
  have HD := hide hd
  have HS := hide hs
  have HP := hide hp
  have HW := hide hW
  have HPO := hide hP
  clear hd hs hp hW hP
  have hb2 : Below w.heap.size w ((w.alloc (.cells #[.int .i64 s, .slice da dl dc, .slice sa sl sc] 24)).alloc (.cells #[.int .i64 0, .slice none 0 0, .slice none 0 0] 24)) := ((Below.refl _ _).alloc (Nat.le_refl _) _).alloc (by simp) _
  have HB2 := hide hb2
  clear hb2
  go_enter Try.func20, Try.ntmps20
  go_wp2_with fail
  refine (rwrong_any _ _ _ _ ds _ _ _ ss _ (HD.out.below HB2.out) (HS.out.below HB2.out)).mono ?_
  rintro e w1 ⟨rfl, hb⟩
  rw [HW.out]
  have HB := hide (Below.on HB2.out hb)
  have hV1 : ViewAt w1 w.heap.size (.int .i64 s) (.slice da dl dc) (.slice sa sl sc) := ((ViewAt.new w _ _ _).alloc _).below hb
  have hR1 : ViewAt w1 (w.heap.size + 1) (.int .i64 0) (.slice none 0 0) (.slice none 0 0) := by
    have := (ViewAt.new (w.alloc (.cells #[.int .i64 s, .slice da dl dc, .slice sa sl sc] 24)) (.int .i64 0) (.slice none 0 0) (.slice none 0 0)).below hb
    simpa using this
  have HR1 := hide hR1
  obtain ⟨⟨v0, v1, v2⟩, _⟩ := hV1.cells
  clear hb hV1 hR1
  go_wp2_with fail
  refine (rrising_any _ _ _ ps dl _ (HP.out.below HB.out) h6).mono ?_
  rintro e w2 ⟨⟨r, rfl, hr⟩, hw⟩
  obtain rfl := hw.symm
  obtain rfl : r = false := by
    cases r with
    | true => exact absurd (hr.1 rfl) HPO.out
    | false => rfl
  have HBa := HB
  obtain ⟨⟨r0, r1, r2⟩, rf0, rf1, rf2⟩ := HR1.out.cells
  clear hw hr v0 v1 v2
  go_wp2
  refine bodyPost_ret (v := .tuple #[.agg #[.int .i64 0, .slice none 0 0, .slice none 0 0], .int .i64 6]) (by simp [results, Try.results20, go_sem, r0, r1, r2]) rfl ⟨rfl, ?_⟩
  exact ((HBa.out.setCell (p := ⟨w.heap.size + 1, 0, none⟩) (by simp) _).setCell (p := ⟨w.heap.size + 1, 1, none⟩) (by simp) _).setCell (p := ⟨w.heap.size + 1, 2, none⟩) (by simp) _

theorem rflip_any (s : Int) (da : Option Addr) (dl dc : Nat) (ds : List Int) (sa : Option Addr) (sl sc : Nat) (ss : List Int) (a : Option Addr) (len cap : Nat) (ps : List Int) (w : World)
    (hd : Ints w da dl ds) (hs : Ints w sa sl ss) (hp : Ints w a len ps) (hdc : dl ≤ dc) :
    Calls Try.prog 20 #[.agg #[.int .i64 s, .slice da dl dc, .slice sa sl sc], .slice a len cap] w fun e w' => GivesF w da e w' (okS (flipE s ds ss ps) (flipAcc s ds ss ps ps.length)) (okL (flipE s ds ss ps) ds) (okL (flipE s ds ss ps) (flipL ss ps)) (flipE s ds ss ps) ∧ Below w.heap.size w w' := by
  by_cases hW : wrongE s ds ss ≠ 0
  · have e : flipE s ds ss ps = wrongE s ds ss := by simp [flipE, hW]
    rw [e]
    refine (rflip_wrong s da dl dc ds sa sl sc ss a len cap w hd hs hW).mono ?_
    rintro e w' ⟨rfl, hb⟩
    simp only [okS, okL, if_neg hW]
    exact ⟨givesF_none _ _ _ _, hb⟩
  replace hW : wrongE s ds ss = 0 := by simpa using hW
  obtain ⟨w1, w2, _⟩ := wrongE_ok hW
  have h6 := (sizeE_ok w1).1
  have ld := hd.1
  have ls := hs.1
  have lp := hp.1
  by_cases hP : RiseOk ps dl
  · obtain rfl : sl = dl := by omega
    refine (rflip_ok s da sl dc ds sa sc ss a len cap ps w hd hs hp hW hP (by omega) hdc).mono ?_
    rintro e w' ⟨h, hb⟩
    refine ⟨?_, hb⟩
    rw [rAcc_flipAcc s ds ss ps sl hP] at h
    have er : riseB ps ds.length = true := by rw [ld]; exact (riseB_iff ps sl).2 hP
    have ew : wrongE (flipAcc s ds ss ps ps.length) ds (flipL ss ps) = if beyondB (flipAcc s ds ss ps ps.length) (flipL ss ps) = true then 4 else 0 := by
      rw [wrongE, if_neg (by simp [w1]), if_neg (by rw [flipL_length]; simp [w2])]
    by_cases hB : beyondB (flipAcc s ds ss ps ps.length) (flipL ss ps) = true
    · rw [if_pos (by rw [ew, if_pos hB]; decide)] at h
      have e : flipE s ds ss ps = 5 := by simp [flipE, hW, er, hB]
      rw [e]; exact h
    · rw [if_neg (by rw [ew, if_neg hB]; decide)] at h
      have e : flipE s ds ss ps = 0 := by simp [flipE, hW, er, hB]
      rw [e]; exact h
  · have e : flipE s ds ss ps = 6 := by
      have : riseB ps dl = false := by
        cases c : riseB ps dl with
        | true => exact absurd ((riseB_iff ps dl).1 c) hP
        | false => rfl
      simp [flipE, hW, ld, this]
    rw [e]
    refine (rflip_shape s da dl dc ds sa sl sc ss a len cap ps w hd hs hp hW hP (by omega)).mono ?_
    rintro e w' ⟨rfl, hb⟩
    exact ⟨givesF_none _ _ _ _, hb⟩
end Go.Proofs.Ytfamaaahofjglaa.V
