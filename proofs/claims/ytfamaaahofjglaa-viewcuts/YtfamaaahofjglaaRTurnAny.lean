/-
  Contract: adjointref1.Turn, whatever it is asked.
-/
import Derived.Test.YtfamaaahofjglaaRTurn
namespace Go.Proofs.Ytfamaaahofjglaa.V
open Go.RowKit

set_option maxHeartbeats 1000000 in
theorem rturn_wrong (s : Int) (da : Option Addr) (dl dc : Nat) (ds : List Int) (sa : Option Addr) (sl sc : Nat) (ss : List Int) (a : Option Addr) (len cap : Nat) (w : World)
    (hd : Ints w da dl ds) (hs : Ints w sa sl ss) (hW : wrongE s ds ss ≠ 0) :
    Calls Try.prog 18 #[.agg #[.int .i64 s, .slice da dl dc, .slice sa sl sc], .slice a len cap] w fun e w' => e = .returned (.tuple #[.agg #[.int .i64 0, .slice none 0 0, .slice none 0 0], .int .i64 (wrongE s ds ss)]) ∧ Below w.heap.size w w' := by
  have HD := hide hd
  have HS := hide hs
  have c1 : (wrongE s ds ss != 0) = true := by simp [hW]
  clear hd hs hW
  have hb2 : Below w.heap.size w ((w.alloc (.cells #[.int .i64 s, .slice da dl dc, .slice sa sl sc] 24)).alloc (.cells #[.int .i64 0, .slice none 0 0, .slice none 0 0] 24)) := ((Below.refl _ _).alloc (Nat.le_refl _) _).alloc (by simp) _
  have HB2 := hide hb2
  clear hb2
  go_enter Try.func18, Try.ntmps18
  go_wp2_with fail
  refine (rwrong_any _ _ _ _ ds _ _ _ ss _ (HD.out.below HB2.out) (HS.out.below HB2.out)).mono ?_
  rintro e w1 ⟨rfl, hb⟩
  have HB := hide (Below.on HB2.out hb)
  obtain ⟨hc1, hf1⟩ := bcell hb
  have hz := hb.size
  simp at hz
  clear hb
  go_wp2
  refine bodyPost_ret (v := .tuple #[.agg #[.int .i64 0, .slice none 0 0, .slice none 0 0], .int .i64 (wrongE s ds ss)]) (by simp [results, Try.results18, go_sem, hc1]) rfl ⟨rfl, ?_⟩
  exact ((HB.out.setCell (p := ⟨w.heap.size + 1, 0, none⟩) (by simp) _).setCell (p := ⟨w.heap.size + 1, 1, none⟩) (by simp) _).setCell (p := ⟨w.heap.size + 1, 2, none⟩) (by simp) _

set_option maxHeartbeats 1000000 in
theorem rturn_shape (s : Int) (da : Option Addr) (dl dc : Nat) (ds : List Int) (sa : Option Addr) (sl sc : Nat) (ss : List Int) (a : Option Addr) (len cap : Nat) (ps : List Int) (w : World)
    (hd : Ints w da dl ds) (hs : Ints w sa sl ss) (hp : Ints w a len ps) (hW : wrongE s ds ss = 0) (hP : ¬ PermOk ps dl) :
    Calls Try.prog 18 #[.agg #[.int .i64 s, .slice da dl dc, .slice sa sl sc], .slice a len cap] w fun e w' => e = .returned (.tuple #[.agg #[.int .i64 0, .slice none 0 0, .slice none 0 0], .int .i64 6]) ∧ Below w.heap.size w w' := by
  have HD := hide hd
  have HS := hide hs
  have HP := hide hp
  have HW := hide hW
  have hm := hp.2.1
  have hmd := hd.2.1
  have lp := hp.1
  have hb2 : Below w.heap.size w ((w.alloc (.cells #[.int .i64 s, .slice da dl dc, .slice sa sl sc] 24)).alloc (.cells #[.int .i64 0, .slice none 0 0, .slice none 0 0] 24)) := ((Below.refl _ _).alloc (Nat.le_refl _) _).alloc (by simp) _
  have HB2 := hide hb2
  clear hb2 hd hs hp hW
  by_cases hn : len ≠ dl
  · have hn1 : ((len : Int) != (dl : Int)) = true := by simp; omega
    clear hn hP lp
    go_enter Try.func18, Try.ntmps18
    go_wp2_with fail
    refine (rwrong_any _ _ _ _ ds _ _ _ ss _ (HD.out.below HB2.out) (HS.out.below HB2.out)).mono ?_
    rintro e w1 ⟨rfl, hb⟩
    rw [HW.out]
    have HB := hide (Below.on HB2.out hb)
    obtain ⟨hc1, hf1⟩ := bcell hb
    have hz := hb.size
    simp at hz
    clear hb
    go_wp2
    refine bodyPost_ret (v := .tuple #[.agg #[.int .i64 0, .slice none 0 0, .slice none 0 0], .int .i64 6]) (by simp [results, Try.results18, go_sem, hc1]) rfl ⟨rfl, ?_⟩
    exact ((HB.out.setCell (p := ⟨w.heap.size + 1, 0, none⟩) (by simp) _).setCell (p := ⟨w.heap.size + 1, 1, none⟩) (by simp) _).setCell (p := ⟨w.heap.size + 1, 2, none⟩) (by simp) _
  obtain rfl : len = dl := by omega
  have HNO : Hid (¬ ∀ k : Nat, k < len → (k : Int) ∈ ps) := fun h => hP ⟨lp, (perm_iff lp).2 h⟩
  clear hn hP lp
  go_enter Try.func18, Try.ntmps18
  go_wp2_with fail
  refine (rwrong_any _ _ _ _ ds _ _ _ ss _ (HD.out.below HB2.out) (HS.out.below HB2.out)).mono ?_
  rintro e w1 ⟨rfl, hb⟩
  rw [HW.out]
  have HB := hide (Below.on HB2.out hb)
  have hV1 : ViewAt w1 w.heap.size (.int .i64 s) (.slice da len dc) (.slice sa sl sc) := ((ViewAt.new w _ _ _).alloc _).below hb
  have hR1 : ViewAt w1 (w.heap.size + 1) (.int .i64 0) (.slice none 0 0) (.slice none 0 0) := by
    have := (ViewAt.new (w.alloc (.cells #[.int .i64 s, .slice da len dc, .slice sa sl sc] 24)) (.int .i64 0) (.slice none 0 0) (.slice none 0 0)).below hb
    simpa using this
  obtain ⟨⟨v0, v1, v2⟩, _⟩ := hV1.cells
  obtain ⟨⟨r0, r1, r2⟩, rf0, rf1, rf2⟩ := hR1.cells
  clear hb hV1 hR1
  go_wp2_with fail
  go_loop [27] (fun i => ∃ k : Nat, k ≤ len ∧ i = .int .i64 k ∧ ∀ j : Nat, j < k → (j : Int) ∈ ps) (fun i => len - (intOf i).toNat)
  case atStart => exact ⟨0, Nat.zero_le _, rfl, fun j hj => by omega⟩
  case round =>
    obtain ⟨k, hk, rfl, hall⟩ := hrel
    have HALL := hide hall
    clear hall
    by_cases hlt : k < len
    · cases c : ps.any (fun x => x == (k : Int)) with
      | true =>
        have hin : (k : Int) ∈ ps := by
          rw [List.any_eq_true] at c
          obtain ⟨x, hx, he⟩ := c
          simp at he
          exact he ▸ hx
        have C := hide c
        have HIN := hide hin
        clear c hin
        go_wp2_with (go_at_call 40; refine (has_any _ _ _ ps _ _ (HP.out.below HB.out)).mono ?_; rintro e w' ⟨rfl, hw'⟩; obtain rfl := hw'.symm; rw [C.out])
        go_round
        case rel => exact ⟨k + 1, by omega, by go_num, fun j hj => by by_cases e : j = k; (subst e; exact HIN.out); exact HALL.out j (by omega)⟩
        case measure => simp [intOf]; omega
      | false =>
        have C := hide c
        clear c
        go_wp2_with (go_at_call 40; refine (has_any _ _ _ ps _ _ (HP.out.below HB.out)).mono ?_; rintro e w' ⟨rfl, hw'⟩; obtain rfl := hw'.symm; rw [C.out])
        refine bodyPost_ret (v := .tuple #[.agg #[.int .i64 0, .slice none 0 0, .slice none 0 0], .int .i64 6]) (by simp [results, Try.results18, go_sem, r0, r1, r2]) rfl ⟨rfl, ?_⟩
        exact ((HB.out.setCell (p := ⟨w.heap.size + 1, 0, none⟩) (by simp) _).setCell (p := ⟨w.heap.size + 1, 1, none⟩) (by simp) _).setCell (p := ⟨w.heap.size + 1, 2, none⟩) (by simp) _
    · exact absurd (fun j hj => HALL.out j (by omega)) HNO.out

theorem rturn_any (s : Int) (da : Option Addr) (dl dc : Nat) (ds : List Int) (sa : Option Addr) (sl sc : Nat) (ss : List Int) (a : Option Addr) (len cap : Nat) (ps : List Int) (w : World)
    (hd : Ints w da dl ds) (hs : Ints w sa sl ss) (hp : Ints w a len ps) :
    Calls Try.prog 18 #[.agg #[.int .i64 s, .slice da dl dc, .slice sa sl sc], .slice a len cap] w fun e w' => Gives e w' (okS (turnE s ds ss ps) s) (okL (turnE s ds ss ps) (taken ds ps)) (okL (turnE s ds ss ps) (taken ss ps)) (turnE s ds ss ps) ∧ Below w.heap.size w w' := by
  by_cases hW : wrongE s ds ss ≠ 0
  · have e : turnE s ds ss ps = wrongE s ds ss := by simp [turnE, hW]
    rw [e]
    refine (rturn_wrong s da dl dc ds sa sl sc ss a len cap w hd hs hW).mono ?_
    rintro e w' ⟨rfl, hb⟩
    simp only [okS, okL, if_neg hW]
    exact ⟨gives_none _ _, hb⟩
  replace hW : wrongE s ds ss = 0 := by simpa using hW
  obtain ⟨w1, w2, _⟩ := wrongE_ok hW
  have h6 := (sizeE_ok w1).1
  have ld := hd.1
  have ls := hs.1
  by_cases hP : PermOk ps dl
  · have e : turnE s ds ss ps = 0 := by simp [turnE, hW, ld, (permB_iff ps dl).2 hP]
    rw [e]
    obtain rfl : sl = dl := by omega
    obtain rfl : len = sl := by rw [← hp.1]; exact hP.1
    exact rturn_ok s da len dc ds sa sc ss a cap ps w hd hs hp hW hP (by omega)
  · have e : turnE s ds ss ps = 6 := by
      have : permB ps dl = false := by
        cases c : permB ps dl with
        | true => exact absurd ((permB_iff ps dl).1 c) hP
        | false => rfl
      simp [turnE, hW, ld, this]
    rw [e]
    refine (rturn_shape s da dl dc ds sa sl sc ss a len cap ps w hd hs hp hW hP).mono ?_
    rintro e w' ⟨rfl, hb⟩
    exact ⟨gives_none _ _, hb⟩
end Go.Proofs.Ytfamaaahofjglaa.V
