/-
  Contracts: view.reached, adjointref1.made.
-/
import Derived.Test.YtfamaaahofjglaaFresh
namespace Go.Proofs.Ytfamaaahofjglaa.V
open Go.RowKit

set_option maxHeartbeats 1000000 in
theorem reached_any (s : Int) (da : Option Addr) (dl dc : Nat) (sa : Option Addr) (sl sc : Nat) (ss : List Int) (w : World) (h : Ints w sa sl ss) :
    Calls Try.prog 39 #[.agg #[.int .i64 s, .slice da dl dc, .slice sa sl sc]] w fun e w' => e = .returned (if beyondB s ss = true then .tuple #[.agg #[.int .i64 0, .slice none 0 0, .slice none 0 0], .int .i64 5] else .tuple #[.agg #[.int .i64 s, .slice da dl dc, .slice sa sl sc], .int .i64 0]) ∧ Below w.heap.size w w' := by
  have H := hide h
  clear h
  have hb2 : Below w.heap.size w ((w.alloc (.cells #[.int .i64 s, .slice da dl dc, .slice sa sl sc] 24)).alloc (.cells #[.int .i64 0, .slice none 0 0, .slice none 0 0] 24)) := ((Below.refl _ _).alloc (Nat.le_refl _) _).alloc (by simp) _
  have HB2 := hide hb2
  clear hb2
  cases c : beyondB s ss with
  | true =>
    rw [if_pos rfl]
    have C := hide c
    clear c
    go_enter Try.func39, Try.ntmps39
    go_wp2_with fail
    refine (beyond_any _ _ _ _ _ _ _ ss _ (H.out.below HB2.out)).mono ?_
    rintro e w1 ⟨rfl, hb⟩
    rw [C.out]
    have HB := hide (Below.on HB2.out hb)
    obtain ⟨hc1, hf1⟩ := bcell hb
    have hz := hb.size
    simp at hz
    clear hb
    go_wp2
    refine bodyPost_ret (v := .tuple #[.agg #[.int .i64 0, .slice none 0 0, .slice none 0 0], .int .i64 5]) (by simp [results, Try.results39, go_sem, hc1]) rfl ⟨rfl, ?_⟩
    exact ((HB.out.setCell (p := ⟨w.heap.size + 1, 0, none⟩) (by simp) _).setCell (p := ⟨w.heap.size + 1, 1, none⟩) (by simp) _).setCell (p := ⟨w.heap.size + 1, 2, none⟩) (by simp) _
  | false =>
    rw [if_neg (by simp)]
    have C := hide c
    clear c
    go_enter Try.func39, Try.ntmps39
    go_wp2_with fail
    refine (beyond_any _ _ _ _ _ _ _ ss _ (H.out.below HB2.out)).mono ?_
    rintro e w1 ⟨rfl, hb⟩
    rw [C.out]
    have HB := hide (Below.on HB2.out hb)
    obtain ⟨hc1, hf1⟩ := bcell hb
    have hz := hb.size
    simp at hz
    clear hb
    go_wp2
    refine bodyPost_ret (v := .tuple #[.agg #[.int .i64 s, .slice da dl dc, .slice sa sl sc], .int .i64 0]) (by simp [results, Try.results39, go_sem, hc1]) rfl ⟨rfl, ?_⟩
    exact ((HB.out.setCell (p := ⟨w.heap.size + 1, 0, none⟩) (by simp) _).setCell (p := ⟨w.heap.size + 1, 1, none⟩) (by simp) _).setCell (p := ⟨w.heap.size + 1, 2, none⟩) (by simp) _

set_option maxHeartbeats 1000000 in
theorem made_any (s : Int) (da : Option Addr) (dl dc : Nat) (ds : List Int) (sa : Option Addr) (sl sc : Nat) (ss : List Int) (w : World) (hd : Ints w da dl ds) (h : Ints w sa sl ss) :
    Calls Try.prog 44 #[.agg #[.int .i64 s, .slice da dl dc, .slice sa sl sc]] w fun e w' => e = .returned (if wrongE s ds ss ≠ 0 then .tuple #[.agg #[.int .i64 0, .slice none 0 0, .slice none 0 0], .int .i64 5] else .tuple #[.agg #[.int .i64 s, .slice da dl dc, .slice sa sl sc], .int .i64 0]) ∧ Below w.heap.size w w' := by
  have H := hide h
  have HD := hide hd
  clear h hd
  have hb2 : Below w.heap.size w ((w.alloc (.cells #[.int .i64 s, .slice da dl dc, .slice sa sl sc] 24)).alloc (.cells #[.int .i64 0, .slice none 0 0, .slice none 0 0] 24)) := ((Below.refl _ _).alloc (Nat.le_refl _) _).alloc (by simp) _
  have HB2 := hide hb2
  clear hb2
  by_cases c : wrongE s ds ss ≠ 0
  · rw [if_pos c]
    have c1 : (wrongE s ds ss != 0) = true := by simp [c]
    clear c
    go_enter Try.func44, Try.ntmps44
    go_wp2_with fail
    refine (rwrong_any _ _ _ _ ds _ _ _ ss _ (HD.out.below HB2.out) (H.out.below HB2.out)).mono ?_
    rintro e w1 ⟨rfl, hb⟩
    have HB := hide (Below.on HB2.out hb)
    obtain ⟨hc1, hf1⟩ := bcell hb
    have hz := hb.size
    simp at hz
    clear hb
    go_wp2
    refine bodyPost_ret (v := .tuple #[.agg #[.int .i64 0, .slice none 0 0, .slice none 0 0], .int .i64 5]) (by simp [results, Try.results44, go_sem, hc1]) rfl ⟨rfl, ?_⟩
    exact ((HB.out.setCell (p := ⟨w.heap.size + 1, 0, none⟩) (by simp) _).setCell (p := ⟨w.heap.size + 1, 1, none⟩) (by simp) _).setCell (p := ⟨w.heap.size + 1, 2, none⟩) (by simp) _
  · rw [if_neg c]
    have c1 : wrongE s ds ss = 0 := by simpa using c
    have C := hide c1
    clear c c1
    go_enter Try.func44, Try.ntmps44
    go_wp2_with fail
    refine (rwrong_any _ _ _ _ ds _ _ _ ss _ (HD.out.below HB2.out) (H.out.below HB2.out)).mono ?_
    rintro e w1 ⟨rfl, hb⟩
    rw [C.out]
    have HB := hide (Below.on HB2.out hb)
    obtain ⟨hc1, hf1⟩ := bcell hb
    have hz := hb.size
    simp at hz
    clear hb
    go_wp2
    refine bodyPost_ret (v := .tuple #[.agg #[.int .i64 s, .slice da dl dc, .slice sa sl sc], .int .i64 0]) (by simp [results, Try.results44, go_sem, hc1]) rfl ⟨rfl, ?_⟩
    exact ((HB.out.setCell (p := ⟨w.heap.size + 1, 0, none⟩) (by simp) _).setCell (p := ⟨w.heap.size + 1, 1, none⟩) (by simp) _).setCell (p := ⟨w.heap.size + 1, 2, none⟩) (by simp) _
end Go.Proofs.Ytfamaaahofjglaa.V
