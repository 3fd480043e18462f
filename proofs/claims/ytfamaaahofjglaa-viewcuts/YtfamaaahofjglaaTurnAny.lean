/-
  Contract: view.Turn, whatever it is asked.
-/
import Derived.Test.YtfamaaahofjglaaTurn
namespace Go.Proofs.Ytfamaaahofjglaa.V
open Go.RowKit

/-- It answers a View and what it tells. -/
def Gives (e : Ending) (w : World) (s : Int) (ds ss : List Int) (E : Int) : Prop :=
  ∃ (da : Option Addr) (dl dc : Nat) (sa : Option Addr) (sl sc : Nat), e = .returned (.tuple #[.agg #[.int .i64 s, .slice da dl dc, .slice sa sl sc], .int .i64 E]) ∧ Ints w da dl ds ∧ Ints w sa sl ss ∧ dl ≤ dc ∧ sl ≤ sc
theorem gives_none (w : World) (E : Int) : Gives (.returned (.tuple #[.agg #[.int .i64 0, .slice none 0 0, .slice none 0 0], .int .i64 E])) w 0 [] [] E :=
  ⟨none, 0, 0, none, 0, 0, rfl, ⟨rfl, by omega, by simp, .inl rfl⟩, ⟨rfl, by omega, by simp, .inl rfl⟩, Nat.le_refl _, Nat.le_refl _⟩

def permB (xs : List Int) (n : Nat) : Bool := decide (xs.length = n) && (List.range n).all fun k => xs.any fun x => x == (k : Int)
theorem permB_iff (xs : List Int) (n : Nat) : permB xs n = true ↔ PermOk xs n := by
  unfold permB PermOk
  simp only [Bool.and_eq_true, decide_eq_true_eq, List.all_eq_true, List.mem_range, List.any_eq_true, beq_iff_eq]
  constructor
  · rintro ⟨h1, h2⟩
    exact ⟨h1, (perm_iff h1).2 (fun k hk => by obtain ⟨x, hx, he⟩ := h2 k hk; exact he ▸ hx)⟩
  · rintro ⟨h1, h2⟩
    exact ⟨h1, fun k hk => ⟨_, (perm_iff h1).1 h2 k hk, rfl⟩⟩
def turnE (s : Int) (ds ss ps : List Int) : Int := if wrongE s ds ss ≠ 0 then wrongE s ds ss else if permB ps ds.length = true then 0 else 6
def okS (E : Int) (s : Int) : Int := if E = 0 then s else 0
def okL (E : Int) (l : List Int) : List Int := if E = 0 then l else []

set_option maxHeartbeats 1000000 in
theorem turn_wrong (s : Int) (da : Option Addr) (dl dc : Nat) (ds : List Int) (sa : Option Addr) (sl sc : Nat) (ss : List Int) (a : Option Addr) (len cap : Nat) (w : World)
    (hd : Ints w da dl ds) (hs : Ints w sa sl ss) (hW : wrongE s ds ss ≠ 0) :
    Calls Try.prog 17 #[.agg #[.int .i64 s, .slice da dl dc, .slice sa sl sc], .slice a len cap] w fun e w' => e = .returned (.tuple #[.agg #[.int .i64 0, .slice none 0 0, .slice none 0 0], .int .i64 (wrongE s ds ss)]) ∧ Below w.heap.size w w' := by
  have HD := hide hd
  have HS := hide hs
  have c1 : (wrongE s ds ss != 0) = true := by simp [hW]
  clear hd hs hW
  have hb2 : Below w.heap.size w ((w.alloc (.cells #[.int .i64 s, .slice da dl dc, .slice sa sl sc] 24)).alloc (.cells #[.int .i64 0, .slice none 0 0, .slice none 0 0] 24)) := ((Below.refl _ _).alloc (Nat.le_refl _) _).alloc (by simp) _
  have HB2 := hide hb2
  clear hb2
  go_enter Try.func17, Try.ntmps17
  go_wp2_with fail
  refine (wrong_any _ _ _ _ ds _ _ _ ss _ (HD.out.below HB2.out) (HS.out.below HB2.out)).mono ?_
  rintro e w1 ⟨rfl, hb⟩
  have HB := hide (Below.on HB2.out hb)
  obtain ⟨hc1, hf1⟩ := bcell hb
  have hz := hb.size
  simp at hz
  clear hb
  go_wp2
  refine bodyPost_ret (v := .tuple #[.agg #[.int .i64 0, .slice none 0 0, .slice none 0 0], .int .i64 (wrongE s ds ss)]) (by simp [results, Try.results17, go_sem, hc1]) rfl ⟨rfl, ?_⟩
  exact ((HB.out.setCell (p := ⟨w.heap.size + 1, 0, none⟩) (by simp) _).setCell (p := ⟨w.heap.size + 1, 1, none⟩) (by simp) _).setCell (p := ⟨w.heap.size + 1, 2, none⟩) (by simp) _

set_option maxHeartbeats 1000000 in
theorem turn_shape (s : Int) (da : Option Addr) (dl dc : Nat) (ds : List Int) (sa : Option Addr) (sl sc : Nat) (ss : List Int) (a : Option Addr) (len cap : Nat) (ps : List Int) (w : World)
    (hd : Ints w da dl ds) (hs : Ints w sa sl ss) (hp : Ints w a len ps) (hW : wrongE s ds ss = 0) (hP : ¬ PermOk ps dl) (h6 : dl ≤ 6) :
    Calls Try.prog 17 #[.agg #[.int .i64 s, .slice da dl dc, .slice sa sl sc], .slice a len cap] w fun e w' => e = .returned (.tuple #[.agg #[.int .i64 0, .slice none 0 0, .slice none 0 0], .int .i64 6]) ∧ Below w.heap.size w w' := by
  have HD := hide hd
  have HS := hide hs
  have HP := hide hp
  have HW := hide hW
  have HPO := hide hP
  clear hd hs hp hW hP
  have hb2 : Below w.heap.size w ((w.alloc (.cells #[.int .i64 s, .slice da dl dc, .slice sa sl sc] 24)).alloc (.cells #[.int .i64 0, .slice none 0 0, .slice none 0 0] 24)) := ((Below.refl _ _).alloc (Nat.le_refl _) _).alloc (by simp) _
  have HB2 := hide hb2
  clear hb2
  go_enter Try.func17, Try.ntmps17
  go_wp2_with fail
  refine (wrong_any _ _ _ _ ds _ _ _ ss _ (HD.out.below HB2.out) (HS.out.below HB2.out)).mono ?_
  rintro e w1 ⟨rfl, hb⟩
  rw [HW.out]
  have HB := hide (Below.on HB2.out hb)
  have hV1 : ViewAt w1 w.heap.size (.int .i64 s) (.slice da dl dc) (.slice sa sl sc) := ((ViewAt.new w _ _ _).alloc _).below hb
  have hR1 : ViewAt w1 (w.heap.size + 1) (.int .i64 0) (.slice none 0 0) (.slice none 0 0) := by
    have := (ViewAt.new (w.alloc (.cells #[.int .i64 s, .slice da dl dc, .slice sa sl sc] 24)) (.int .i64 0) (.slice none 0 0) (.slice none 0 0)).below hb
    simpa using this
  have HR1 := hide hR1
  obtain ⟨⟨v0, v1, v2⟩, _⟩ := hV1.cells
  clear hb hV1 hR1
  go_wp2_with fail
  refine (permutes_any _ _ _ ps dl _ (HP.out.below HB.out) h6).mono ?_
  rintro e w2 ⟨⟨r, rfl, hr⟩, hb⟩
  obtain rfl : r = false := by
    cases r with
    | true => exact absurd (hr.1 rfl) HPO.out
    | false => rfl
  have HBa := hide (Below.on HB.out hb)
  obtain ⟨⟨r0, r1, r2⟩, rf0, rf1, rf2⟩ := (HR1.out.below hb).cells
  clear hb hr v0 v1 v2
  go_wp2
  refine bodyPost_ret (v := .tuple #[.agg #[.int .i64 0, .slice none 0 0, .slice none 0 0], .int .i64 6]) (by simp [results, Try.results17, go_sem, r0, r1, r2]) rfl ⟨rfl, ?_⟩
  exact ((HBa.out.setCell (p := ⟨w.heap.size + 1, 0, none⟩) (by simp) _).setCell (p := ⟨w.heap.size + 1, 1, none⟩) (by simp) _).setCell (p := ⟨w.heap.size + 1, 2, none⟩) (by simp) _

theorem turn_any (s : Int) (da : Option Addr) (dl dc : Nat) (ds : List Int) (sa : Option Addr) (sl sc : Nat) (ss : List Int) (a : Option Addr) (len cap : Nat) (ps : List Int) (w : World)
    (hd : Ints w da dl ds) (hs : Ints w sa sl ss) (hp : Ints w a len ps) :
    Calls Try.prog 17 #[.agg #[.int .i64 s, .slice da dl dc, .slice sa sl sc], .slice a len cap] w fun e w' => Gives e w' (okS (turnE s ds ss ps) s) (okL (turnE s ds ss ps) (taken ds ps)) (okL (turnE s ds ss ps) (taken ss ps)) (turnE s ds ss ps) ∧ Below w.heap.size w w' := by
  by_cases hW : wrongE s ds ss ≠ 0
  · have e : turnE s ds ss ps = wrongE s ds ss := by simp [turnE, hW]
    rw [e]
    refine (turn_wrong s da dl dc ds sa sl sc ss a len cap w hd hs hW).mono ?_
    rintro e w' ⟨rfl, hb⟩
    simp only [okS, okL, if_neg hW]
    exact ⟨gives_none _ _, hb⟩
  replace hW : wrongE s ds ss = 0 := by simpa using hW
  obtain ⟨w1, w2, _⟩ := wrongE_ok hW
  have h6 := (sizeE_ok w1).1
  have ld := hd.1
  have ls := hs.1
  by_cases hP : PermOk ps dl
  · have e : turnE s ds ss ps = 0 := by simp [turnE, hW, ld, (permB_iff ps dl).2 hP]
    rw [e]
    obtain rfl : sl = dl := by omega
    obtain rfl : len = sl := by rw [← hp.1]; exact hP.1
    refine (turn_ok s da len dc ds sa sc ss a cap ps w hd hs hp hW hP (by omega)).mono ?_
    rintro e w' ⟨⟨g1, g2, rfl, h1, h2⟩, hb⟩
    simp only [okS, okL]
    exact ⟨⟨_, _, _, _, _, _, rfl, h1, h2, Nat.le_refl _, Nat.le_refl _⟩, hb⟩
  · have e : turnE s ds ss ps = 6 := by
      have : permB ps dl = false := by
        cases c : permB ps dl with
        | true => exact absurd ((permB_iff ps dl).1 c) hP
        | false => rfl
      simp [turnE, hW, ld, this]
    rw [e]
    refine (turn_shape s da dl dc ds sa sl sc ss a len cap ps w hd hs hp hW hP (by omega)).mono ?_
    rintro e w' ⟨rfl, hb⟩
    exact ⟨gives_none _ _, hb⟩
end Go.Proofs.Ytfamaaahofjglaa.V
