/-
  Contracts: adjointref1.Whole, adjointref1.Reads, whatever they are asked.
-/
import Derived.Test.YtfamaaahofjglaaRReads
namespace Go.Proofs.Ytfamaaahofjglaa.V
open Go.RowKit

/-- It answers a list and what it tells. -/
def TellsL (w0 : World) (e : Ending) (w : World) (l : List Int) (E : Int) : Prop :=
  ∃ (A : Option Addr) (n c : Nat), e = .returned (.tuple #[.slice A n c, .int .i64 E]) ∧ Ints w A n l ∧ n ≤ c ∧ Far w0.heap.size A
theorem tells_none (w0 w : World) (E : Int) : TellsL w0 (.returned (.tuple #[.slice none 0 0, .int .i64 E])) w [] E := ⟨none, 0, 0, rfl, ⟨rfl, by omega, by simp, .inl rfl⟩, Nat.le_refl _, far_none _⟩

set_option maxHeartbeats 1000000 in
theorem rreads_wrong (s : Int) (da : Option Addr) (dl dc : Nat) (ds : List Int) (sa : Option Addr) (sl sc : Nat) (ss : List Int) (w : World) (hd : Ints w da dl ds) (hs : Ints w sa sl ss) (hW : wrongE s ds ss ≠ 0) :
    Calls Try.prog 15 #[.agg #[.int .i64 s, .slice da dl dc, .slice sa sl sc]] w fun e w' => e = .returned (.tuple #[.slice none 0 0, .int .i64 (wrongE s ds ss)]) ∧ Below w.heap.size w w' := by
  have HD := hide hd
  have HS := hide hs
  have c1 : (wrongE s ds ss != 0) = true := by simp [hW]
  clear hd hs hW
  have hb1 : Below w.heap.size w (w.alloc (.cells #[.int .i64 s, .slice da dl dc, .slice sa sl sc] 24)) := (Below.refl _ _).alloc (Nat.le_refl _) _
  have HB1 := hide hb1
  clear hb1
  go_enter Try.func15, Try.ntmps15
  go_wp2_with fail
  refine (rwrong_any _ _ _ _ ds _ _ _ ss _ (HD.out.below HB1.out) (HS.out.below HB1.out)).mono ?_
  rintro e w1 ⟨rfl, hb⟩
  have HB := hide (Below.on HB1.out hb)
  clear hb
  go_wp2
  go_ret2
  exact ⟨rfl, HB.out⟩
theorem rreads_any (s : Int) (da : Option Addr) (dl dc : Nat) (ds : List Int) (sa : Option Addr) (sl sc : Nat) (ss : List Int) (w : World) (hd : Ints w da dl ds) (hs : Ints w sa sl ss) :
    Calls Try.prog 15 #[.agg #[.int .i64 s, .slice da dl dc, .slice sa sl sc]] w fun e w' => TellsL w e w' (okL (wrongE s ds ss) (readsV s ds ss)) (wrongE s ds ss) ∧ Below w.heap.size w w' := by
  by_cases hW : wrongE s ds ss = 0
  · simp only [hW, okL]
    exact rreads_ok s da dl dc ds sa sl sc ss w hd hs hW
  · simp only [okL, if_neg hW]
    refine (rreads_wrong s da dl dc ds sa sl sc ss w hd hs hW).mono ?_
    rintro e w' ⟨rfl, hb⟩
    exact ⟨tells_none _ _ _, hb⟩

set_option maxRecDepth 100000 in
set_option maxHeartbeats 2000000 in
theorem rwhole_any (a : Option Addr) (len cap : Nat) (xs : List Int) (w : World) (h : Ints w a len xs) (hcap : len ≤ cap) :
    Calls Try.prog 10 #[.slice a len cap] w fun e w' => GivesF w a e w' 0 (okL (sizeE xs) xs) (okL (sizeE xs) (stepsV xs)) (sizeE xs) ∧ Below w.heap.size w w' := by
  have hb1 : Below w.heap.size w (w.alloc (.cells #[.int .i64 0, .slice none 0 0, .slice none 0 0] 24)) := (Below.refl _ _).alloc (Nat.le_refl _) _
  have HB1 := hide hb1
  have HR1 := hide (ViewAt.new w (.int .i64 0) (.slice none 0 0) (.slice none 0 0))
  have H := hide h
  clear hb1
  by_cases hE : sizeE xs = 0
  · obtain ⟨z1, z2, _, _⟩ := sizeE_ok hE
    have hlen : len ≤ 6 := by have := h.1; omega
    have HZ2 := hide z2
    have HE := hide hE
    simp only [hE, okL, if_true]
    clear h hE z1 z2
    go_enter Try.func10, Try.ntmps10
    go_wp2_with (first
      | (go_at_call 32; refine (rsize_any _ _ _ xs _ (H.out.below HB1.out)).mono ?_; rintro e w' ⟨rfl, hw'⟩; obtain rfl := hw'.symm; rw [HE.out])
      | (go_at_call 33; refine (rsteps_any _ _ _ xs _ (H.out.below HB1.out) hcap hlen HZ2.out).mono ?_; rintro e w1 ⟨⟨g1, c1, rfl, hgc, hi1⟩, hb1⟩; have HI1 := hide hi1; have HB2 := hide (Below.on HB1.out hb1); have HR2 := hide (HR1.out.below hb1); obtain ⟨⟨r0, r1, r2⟩, rf0, rf1, rf2⟩ := HR2.out.cells; have hlt2 := HR2.out.lt; clear hi1 hb1))
    simp only [World.size_alloc] at hgc
    have hR3 := view_put' (x := .int .i64 0) (y := .slice a len cap) (z := .slice (some ⟨g1, 0, none⟩) len c1) HR2.out
    obtain ⟨⟨u0, u1, u2⟩, _⟩ := hR3.cells
    have hB3 := below_put (x := .int .i64 0) (y := .slice a len cap) (z := .slice (some ⟨g1, 0, none⟩) len c1) HB2.out (Nat.le_refl w.heap.size)
    refine bodyPost_ret (v := .tuple #[.agg #[.int .i64 0, .slice a len cap, .slice (some ⟨g1, 0, none⟩) len c1], .int .i64 0]) (by simp [results, Try.results10, go_sem, u0, u1, u2]) rfl ⟨⟨_, _, _, _, _, _, rfl, H.out.below hB3, ?_, ⟨hcap, hgc.1⟩, .inl rfl, far_some (by omega)⟩, hB3⟩
    exact ints_set3 HI1.out (by omega)
  · have hE1 : (sizeE xs != 0) = true := by simp [hE]
    simp only [okL, if_neg hE]
    clear h hE
    go_enter Try.func10, Try.ntmps10
    go_wp2_with (go_at_call 32; refine (rsize_any _ _ _ xs _ (H.out.below HB1.out)).mono ?_; rintro e w' ⟨rfl, hw'⟩; obtain rfl := hw'.symm)
    obtain ⟨⟨u0, u1, u2⟩, _⟩ := HR1.out.cells
    refine bodyPost_ret (v := .tuple #[.agg #[.int .i64 0, .slice none 0 0, .slice none 0 0], .int .i64 (sizeE xs)]) (by simp [results, Try.results10, go_sem, u0, u1, u2]) rfl ⟨givesF_none _ _ _ _, HB1.out⟩
end Go.Proofs.Ytfamaaahofjglaa.V
