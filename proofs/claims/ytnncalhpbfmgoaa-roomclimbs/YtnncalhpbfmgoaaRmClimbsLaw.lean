/-
  The document's Climb; the law RoomClimbs.
-/
import Derived.Test.YtnncalhpbfmgoaaRmBest
import Derived.Test.YtnncalhpbfmgoaaSameLists
namespace Go.Proofs.Ytnncalhpbfmgoaa.V
open Go Go.Shelf Go.RowKit Go.Lib Go.Sort Go.Proofs
set_option linter.unusedVariables false

theorem best_any (a : Option Addr) (n cap : Nat) (ab : List Int) (b : Option Addr) (cap' : Nat) (ws : List Int) (T : Nat → List Nat) (bl : Nat → Int) (hS : Sorted ab ws T bl) (hn : ab.length = n) : ∀ (f k : Nat), k < f → k < n → BestOk a n cap ab b cap' ws T bl f k
  | 0, k, hf, _ => by omega
  | f + 1, k, hf, hk => best_step a n cap ab b cap' ws T bl f k hS hn hk (by omega) fun q hq => best_any a n cap ab b cap' ws T bl hS hn f q (by omega) (by omega)
theorem nil_ints (w : World) : Ints w none 0 [] := ⟨rfl, by omega, by simp, .inl rfl⟩
set_option maxHeartbeats 4000000 in
theorem rClimb_any (a : Option Addr) (n cap : Nat) (ab : List Int) (b : Option Addr) (m cap' : Nat) (ws : List Int) (T : Nat → List Nat) (bl : Nat → Int) (w : World) (h : Ints w a n ab) (h' : Ints w b m ws) (hS : treeE ab ws = 0 → Sorted ab ws T bl) :
    Calls Try.prog 18 #[.slice a n cap, .slice b m cap'] w fun e w' => (∃ X l c, e = .returned (.tuple #[.slice X l c, .int .i64 (climbN ab ws bl), .int .i64 (treeE ab ws)]) ∧ Ints w' X l (climbL ab ws T)) ∧ Below w.heap.size w w' := by
  have HA := hide (rTree_any a n cap ab b m cap' ws w h h')
  have H := hide h
  have HW := hide h'
  have hn63 := h.2.1
  have HL := hide h.1
  by_cases e0 : treeE ab ws = 0
  · have HE := hide e0
    have hok := treeE_ok e0
    have HSR := hide (hS e0)
    have hmn : m = n := by have := hok.same; rw [h.1, h'.1] at this; exact this
    subst hmn
    have HN4 : Hid (m ≤ 4096) := by have := hok.few; rw [h.1] at this; exact this
    clear h h' e0 hok hS
    by_cases h0 : m = 0
    · have hz : ((m : Int) == 0) = true := by simp [h0]
      have HZ := hide h0
      clear h0
      go_enter Try.func18, Try.ntmps18
      go_wp2_with (go_at_call 20; refine HA.out.mono ?_; rintro e wz ⟨rfl, hw⟩; rw [hw, HE.out]; clear hw wz)
      have hl0 : ab.length = 0 := by rw [HL.out, HZ.out]
      refine bodyPost_ret (v := .tuple #[.slice none 0 0, .int .i64 0, .int .i64 0]) (by simp [results, Try.results18, go_sem]) rfl ⟨⟨none, 0, 0, ?_, ?_⟩, Below.refl _ _⟩
      · rw [climbN, if_pos HE.out, HE.out, climbV2, if_pos hl0]
      · rw [climbL, if_pos HE.out, climbAll, if_pos hl0]
        exact nil_ints _
    · have hz : ((m : Int) == 0) = false := by simp [h0]
      have hw1 : IntKind.i64.wrap ((m : Int) - 1) = ((m - 1 : Nat) : Int) := by rw [IntKind.wrap_i64]; omega
      have HB := hide (best_any a m cap ab b cap' ws T bl HSR.out HL.out m (m - 1) (by omega) (by omega) w H.out HW.out)
      have HZ := hide h0
      clear h0
      obtain ⟨P, hP⟩ : ∃ P, P = peakN ws bl (m - 1) := ⟨_, rfl⟩
      obtain ⟨LS, hLS⟩ : ∃ LS, LS = climbF T m (m - 1) := ⟨_, rfl⟩
      rw [← hP, ← hLS] at HB
      have HP := hide hP
      have HLS := hide hLS
      clear hP hLS
      go_enter Try.func18, Try.ntmps18
      go_wp2_with (first
        | (go_at_call 20; refine HA.out.mono ?_; rintro e wz ⟨rfl, hw⟩; rw [hw, HE.out]; clear hw wz)
        | (go_at_call 35; refine HB.out.mono ?_; rintro e w1 ⟨⟨u, rfl, hu⟩, hb⟩; have HU := hide hu; have HB1 := hide hb; clear hu hb))
      have hca : climbAll T ab.length = LS := by rw [climbAll, HL.out, if_neg HZ.out, HLS.out]
      obtain ⟨X, c, rfl, hin⟩ := ints_of_ownN HU.out (by rw [← hca, climb_len HSR.out.rows, HL.out]; have := HN4.out; omega) (fun x hx => by have h1 := HSR.out.small x (by rw [hca]; exact hx); have h2 := HN4.out; have h3 := HL.out; omega)
      refine bodyPost_ret (v := .tuple #[.slice X LS.length c, .int .i64 P, .int .i64 0]) (by simp [results, Try.results18, go_sem]) rfl ⟨⟨X, LS.length, c, ?_, ?_⟩, HB1.out⟩
      · rw [climbN, if_pos HE.out, HE.out, climbV2, HL.out, if_neg HZ.out, HP.out]
      · rw [climbL, if_pos HE.out, hca]
        exact hin
  · have HE := hide e0
    have hne : (treeE ab ws != 0) = true := by simpa using e0
    obtain ⟨E, hE⟩ : ∃ E, E = treeE ab ws := ⟨_, rfl⟩
    rw [← hE] at hne
    have HEE := hide hE
    clear h h' e0 hE hS
    go_enter Try.func18, Try.ntmps18
    go_wp2_with (go_at_call 20; refine HA.out.mono ?_; rintro e wz ⟨rfl, hw⟩; rw [hw, ← HEE.out]; clear hw wz)
    refine bodyPost_ret (v := .tuple #[.slice none 0 0, .int .i64 0, .int .i64 E]) (by simp [results, Try.results18, go_sem]) rfl ⟨⟨none, 0, 0, ?_, ?_⟩, Below.refl _ _⟩
    · rw [climbN, if_neg HE.out, HEE.out]
    · rw [climbL, if_neg HE.out]
      exact nil_ints _
set_option maxHeartbeats 4000000 in
set_option maxRecDepth 100000 in
theorem roomClimbs_walk (a : Option Addr) (n cap : Nat) (ab : List Int) (b : Option Addr) (m cap' : Nat) (ws : List Int) (o : Option Addr) (len ocap : Nat) (ord : List Int) (w : World) (h : Ints w a n ab) (h' : Ints w b m ws) (ho : Ints w o len ord) :
    Calls Try.prog 4 #[.slice a n cap, .slice b m cap', .slice o len ocap] w fun e w' => e = .returned (.bool true) ∧ Below w.heap.size w w' := by
  have H := hide h
  have HW := hide h'
  have HO := hide ho
  have H1 := hide (roomPeak_any a n cap ab b m cap' ws o len ocap ord w h h' ho)
  clear h h' ho
  obtain ⟨P1, hP1⟩ : ∃ P1, P1 = (peakA ab ws ord).1 := ⟨_, rfl⟩
  obtain ⟨P2, hP2⟩ : ∃ P2, P2 = (peakA ab ws ord).2 := ⟨_, rfl⟩
  rw [← hP1, ← hP2] at H1
  have HP1 := hide hP1
  have HP2 := hide hP2
  clear hP1 hP2
  go_enter Try.func4, Try.ntmps4
  go_wp2_with (first
    | (go_at_call 15; refine H1.out.mono ?_; rintro e w1 ⟨rfl, hb⟩; have HB1 := hide hb; clear hb)
    | (go_at_call 16; refine (rPeak_any a n cap ab b m cap' ws o len ocap ord w1 (H.out.below HB1.out) (HW.out.below HB1.out) (HO.out.below HB1.out)).mono ?_; rintro e w2 ⟨rfl, hb⟩; rw [← HP1.out, ← HP2.out]; have HB2 := hide (bl_on HB1.out hb); clear hb)
    | fail)
  refine (roomClimb_any a n cap ab b m cap' ws w2 (H.out.below HB2.out) (HW.out.below HB2.out) (fun b' o' e h0 => by obtain ⟨b1, o1, e1, z1, _⟩ := (HW.out.below HB2.out).at h0; rw [e] at e1; cases e1; exact z1)).mono ?_
  rintro e w5 ⟨⟨T, bl, a5, l5, c5, hsr, rfl, hin5⟩, hb5⟩
  have HB5 := hide (bl_on HB2.out hb5)
  have HI5 := hide hin5
  have HSR := hide hsr
  clear hsr hin5 hb5
  have H6 := hide (rClimb_any a n cap ab b m cap' ws T bl w5 (H.out.below HB5.out) (HW.out.below HB5.out) HSR.out)
  obtain ⟨N2, hN2⟩ : ∃ N2, N2 = climbN ab ws bl := ⟨_, rfl⟩
  obtain ⟨E2, hE2⟩ : ∃ E2, E2 = treeE ab ws := ⟨_, rfl⟩
  rw [← hN2, ← hE2] at H6 ⊢
  clear hN2 hE2
  go_wp2_with fail
  refine H6.out.mono ?_
  rintro e w6 ⟨⟨a6, l6, c6, rfl, hin6⟩, hb6⟩
  have HB6 := hide (bl_on HB5.out hb6)
  have HS := sameList_any a5 l5 c5 (climbL ab ws T) a6 l6 c6 (climbL ab ws T) w6 (HI5.out.below hb6) hin6
  rw [decide_eq_true rfl] at HS
  have HSH := hide HS
  clear HS hin6 hb6
  go_wp2_with (go_at_call 14; refine HSH.out.mono ?_; rintro e w7 ⟨rfl, n7, rfl⟩)
  go_ret
  exact ⟨by simp, bl_on HB6.out (bl_drewN _ _)⟩
end Go.Proofs.Ytnncalhpbfmgoaa.V
