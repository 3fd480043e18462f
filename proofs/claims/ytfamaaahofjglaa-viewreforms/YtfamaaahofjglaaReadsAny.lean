/-
  Contract: view.Reads, whatever it is asked.
-/
import Derived.Test.YtfamaaahofjglaaReadsV
namespace Go.Proofs.Ytfamaaahofjglaa.V
open Go.RowKit Go.Shelf
attribute [local go_sem] Oper.semAt_some

set_option maxHeartbeats 1000000 in
theorem reads_wrong (s : Int) (da : Option Addr) (dl dc : Nat) (ds : List Int) (sa : Option Addr) (sl sc : Nat) (ss : List Int) (w : World) (hd : Ints w da dl ds) (hs : Ints w sa sl ss) (hW : wrongE s ds ss ≠ 0) :
    CallsIn FW 8 Try.prog 14 #[.agg #[.int .i64 s, .slice da dl dc, .slice sa sl sc]] w fun e w' => e = .returned (.tuple #[.slice none 0 0, .int .i64 (wrongE s ds ss)]) ∧ Below w.heap.size w w' := by
  have HD := hide hd
  have HS := hide hs
  have hro : FW.round = none := rfl
  have c1 : (wrongE s ds ss != 0) = true := by simp [hW]
  clear hd hs hW
  have hb1 : Below w.heap.size w (w.alloc (.cells #[.int .i64 s, .slice da dl dc, .slice sa sl sc] 24)) := (Below.refl _ _).alloc (Nat.le_refl _) _
  have HB1 := hide hb1
  clear hb1
  refine callsIn_of_wp Try.func14 rfl trivial ?_ hro
  simp only [Try.ntmps14, List.size_toArray, List.length_cons, List.length_nil, Nat.reduceAdd, Nat.reduceSub, Array.replicate_succ, Array.replicate_zero, List.push_toArray, List.append_toArray, List.nil_append, List.cons_append]
  gi_wp2_with (refine ⟨trivial, ?_⟩; gi_at_call 12; refine (callsIn_wide.2 (wrong_any _ _ _ _ ds _ _ _ ss _ (HD.out.below HB1.out) (HS.out.below HB1.out))).mono ?_; rintro e w1 ⟨rfl, hb⟩; have HB := hide (Below.on HB1.out hb); clear hb)
  go_ret2
  exact ⟨rfl, HB.out⟩

set_option maxHeartbeats 1000000 in
theorem reads_none (s : Int) (da : Option Addr) (dl dc : Nat) (ds : List Int) (sa : Option Addr) (sl sc : Nat) (ss : List Int) (w : World) (hd : Ints w da dl ds) (hs : Ints w sa sl ss) (hW : wrongE s ds ss = 0) (hN : sizeN ds = 0) :
    CallsIn FW 8 Try.prog 14 #[.agg #[.int .i64 s, .slice da dl dc, .slice sa sl sc]] w fun e w' => e = .returned (.tuple #[.slice none 0 0, .int .i64 0]) ∧ Below w.heap.size w w' := by
  have HD := hide hd
  have HS := hide hs
  have HW := hide hW
  have HN := hide hN
  have hro : FW.round = none := rfl
  clear hd hs hW hN
  have hb1 : Below w.heap.size w (w.alloc (.cells #[.int .i64 s, .slice da dl dc, .slice sa sl sc] 24)) := (Below.refl _ _).alloc (Nat.le_refl _) _
  have HB1 := hide hb1
  clear hb1
  refine callsIn_of_wp Try.func14 rfl trivial ?_ hro
  simp only [Try.ntmps14, List.size_toArray, List.length_cons, List.length_nil, Nat.reduceAdd, Nat.reduceSub, Array.replicate_succ, Array.replicate_zero, List.push_toArray, List.append_toArray, List.nil_append, List.cons_append]
  gi_wp2_with (first
    | (refine ⟨trivial, ?_⟩; gi_at_call 12; refine (callsIn_wide.2 (wrong_any _ _ _ _ ds _ _ _ ss _ (HD.out.below HB1.out) (HS.out.below HB1.out))).mono ?_; rintro e w1 ⟨rfl, hb⟩; rw [HW.out]; have HB := hide (Below.on HB1.out hb); have HV1 := hide ((ViewAt.new w (.int .i64 s) (.slice da dl dc) (.slice sa sl sc)).below hb); obtain ⟨⟨v0, v1, v2⟩, _⟩ := HV1.out.cells; have hlt1 := HV1.out.lt; clear hb)
    | (refine ⟨trivial, ?_⟩; gi_at_call 29; refine (callsIn_wide.2 (size_any _ _ _ ds _ (HD.out.below HB.out))).mono ?_; rintro e w' ⟨rfl, hw'⟩; obtain rfl := hw'.symm; rw [HN.out]))
  go_ret2
  exact ⟨rfl, HB.out⟩

theorem reads_any (s : Int) (da : Option Addr) (dl dc : Nat) (ds : List Int) (sa : Option Addr) (sl sc : Nat) (ss : List Int) (w : World) (hd : Ints w da dl ds) (hs : Ints w sa sl ss) :
    Calls Try.prog 14 #[.agg #[.int .i64 s, .slice da dl dc, .slice sa sl sc]] w fun e w' => TellsL w e w' (okL (wrongE s ds ss) (readsV s ds ss)) (wrongE s ds ss) ∧ Below w.heap.size w w' := by
  refine (callsIn_wide (n := 8)).1 ?_
  by_cases hW : wrongE s ds ss = 0
  · simp only [hW, okL]
    rcases dims_cases (wrongE_ok hW).1 with ⟨_, h1, h2⟩ | ⟨h1, _⟩
    · refine (reads_none s da dl dc ds sa sl sc ss w hd hs hW h1).mono ?_
      rintro e w' ⟨rfl, hb⟩
      have e : readsV s ds ss = [] := by simp [readsV, h2]
      rw [e]
      exact ⟨tells_none _ _ _, hb⟩
    · exact reads_ok s da dl dc ds sa sl sc ss w hd hs hW h1
  · simp only [okL, if_neg hW]
    refine (reads_wrong s da dl dc ds sa sl sc ss w hd hs hW).mono ?_
    rintro e w' ⟨rfl, hb⟩
    exact ⟨tells_none _ _ _, hb⟩
end Go.Proofs.Ytfamaaahofjglaa.V
