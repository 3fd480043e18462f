/-
  Contract: adjointlaw1.step: one of the five, by number.
-/
import Derived.Test.YtfamaaahofjglaaThroughAll
import Derived.Test.YtfamaaahofjglaaTurnNew
namespace Go.Proofs.Ytfamaaahofjglaa.V
open Go.RowKit

/-- What is stored into a View that was made for it leaves the lists. -/
theorem ints_putL {w w' : World} {d0 a : Option Addr} {dl n N C : Nat} {ds xs : List Int} {x y z : Value} (hi : Ints w' a n xs) (hF : a = d0 ∨ Far N a) (hd : Ints w d0 dl ds) (hn : 0 < n → 0 < dl) (hw : w.heap.size ≤ C) (hC : C < N) :
    Ints (((w'.setCell ⟨C, 0, none⟩ x).setCell ⟨C, 1, none⟩ y).setCell ⟨C, 2, none⟩ z) a n xs := by
  by_cases h0 : n = 0
  · obtain ⟨q1, q2, q3, _⟩ := hi
    exact ⟨q1, q2, q3, .inl h0⟩
  rcases hF with rfl | hF
  · obtain ⟨b, o, e, hb, _⟩ := hd.at (hn (by omega))
    exact ints_set3o hi (fun g o' e' => by rw [e] at e'; cases e'; omega)
  · exact ints_set3o hi (fun g o e => by have := hF g o e; omega)
theorem okL_len {E : Int} {l : List Int} {n m : Nat} {w : World} {a : Option Addr} (h : Ints w a n (okL E l)) (hl : E = 0 → l.length = m) : 0 < n → 0 < m := by
  intro h0
  have h1 := h.1
  unfold okL at h1
  by_cases c : E = 0
  · rw [if_pos c] at h1; have := hl c; omega
  · rw [if_neg c] at h1; simp at h1; omega

set_option maxRecDepth 100000 in
set_option maxHeartbeats 4000000 in
theorem step_1 (s n : Int) (da : Option Addr) (dl dc : Nat) (ds : List Int) (sa : Option Addr) (sl sc : Nat) (ss : List Int) (aa : Option Addr) (al ac : Nat) (as' : List Int) (ba : Option Addr) (bl bc : Nat) (bs : List Int) (ca : Option Addr) (cl cc : Nat) (cs : List Int) (w : World)
    (hd : Ints w da dl ds) (hs : Ints w sa sl ss) (ha : Ints w aa al as') (hb : Ints w ba bl bs) (hc : Ints w ca cl cs) (hn : n = 1) :
    Calls Try.prog 28 #[.agg #[.int .i64 s, .slice da dl dc, .slice sa sl sc], .int .i64 n, .slice aa al ac, .slice ba bl bc, .slice ca cl cc] w fun e w' => Gives e w' (okS (turnE s ds ss as') (s)) (okL (turnE s ds ss as') (taken ds as')) (okL (turnE s ds ss as') (taken ss as')) (turnE s ds ss as') ∧ Below w.heap.size w w' := by
  obtain ⟨E, hEE⟩ : ∃ E, turnE s ds ss as' = E := ⟨_, rfl⟩
  rw [hEE]
  have HEE := hide hEE
  have HD := hide hd
  have HS := hide hs
  have HA := hide ha
  have HBb := hide hb
  have HC := hide hc
  have c1 : (n == 1) = true := by simp; omega
  have HN := hide hn
  clear hn
  clear hd hs ha hb hc hEE
  have hb2 : Below w.heap.size w ((w.alloc (.cells #[.int .i64 s, .slice da dl dc, .slice sa sl sc] 24)).alloc (.cells #[.int .i64 0, .slice none 0 0, .slice none 0 0] 24)) := ((Below.refl _ _).alloc (Nat.le_refl _) _).alloc (by simp) _
  have HB2 := hide hb2
  have hR := ViewAt.new (w.alloc (.cells #[.int .i64 s, .slice da dl dc, .slice sa sl sc] 24)) (.int .i64 0) (.slice none 0 0) (.slice none 0 0)
  simp only [World.size_alloc] at hR
  have HR := hide hR
  clear hb2 hR
  go_enter Try.func28, Try.ntmps28
  go_wp2_with (go_at_call 17; refine (turn_anyF _ _ _ _ ds _ _ _ ss _ _ _ as' _ (HD.out.below HB2.out) (HS.out.below HB2.out) (HA.out.below HB2.out)).mono ?_; rintro e w1 ⟨hgv, hb⟩; rw [HEE.out] at hgv; obtain ⟨da1, dl1, dc1, sa1, sl1, sc1, rfl, hi1, hj1, ⟨hc1, hc2⟩, hF, hG⟩ := hgv; simp only [World.size_alloc] at hF hG; have HI1 := hide hi1; have HJ1 := hide hj1; have HF := hide hF; have HG := hide hG; have HR1 := hide (HR.out.below hb); have HB1 := hide (Below.on HB2.out hb); obtain ⟨⟨r0, r1, r2⟩, f0, f1, f2⟩ := HR1.out.cells; clear hb hi1 hj1 hF hG)
  have q1 := view_put' (x := .int .i64 (okS E (s))) (y := .slice da1 dl1 dc1) (z := .slice sa1 sl1 sc1) HR1.out
  obtain ⟨⟨u0, u1, u2⟩, _⟩ := q1.cells
  have hln : 0 < dl1 → 0 < dl := okL_len HI1.out (fun h => by
    have hE := HEE.out
    rw [h] at hE
    have h1 := (turn_again hE).1.1
    have h2 := HD.out.1
    rw [taken_length]; omega)
  exact bodyPost_ret (v := .tuple #[.agg #[.int .i64 (okS E (s)), .slice da1 dl1 dc1, .slice sa1 sl1 sc1], .int .i64 E]) (by simp [results, Try.results28, go_sem, u0, u1, u2]) rfl ⟨⟨_, _, _, _, _, _, rfl, ints_putL HI1.out HF.out HD.out hln (by omega) (by omega), ints_putF HJ1.out HG.out (by omega), hc1, hc2⟩, below_put HB1.out (by omega)⟩

set_option maxRecDepth 100000 in
set_option maxHeartbeats 4000000 in
theorem step_2 (s n : Int) (da : Option Addr) (dl dc : Nat) (ds : List Int) (sa : Option Addr) (sl sc : Nat) (ss : List Int) (aa : Option Addr) (al ac : Nat) (as' : List Int) (ba : Option Addr) (bl bc : Nat) (bs : List Int) (ca : Option Addr) (cl cc : Nat) (cs : List Int) (w : World)
    (hd : Ints w da dl ds) (hs : Ints w sa sl ss) (ha : Ints w aa al as') (hb : Ints w ba bl bs) (hc : Ints w ca cl cs) (hn : n = 2) :
    Calls Try.prog 28 #[.agg #[.int .i64 s, .slice da dl dc, .slice sa sl sc], .int .i64 n, .slice aa al ac, .slice ba bl bc, .slice ca cl cc] w fun e w' => Gives e w' (okS (flipE s ds ss as') (flipAcc s ds ss as' as'.length)) (okL (flipE s ds ss as') (ds)) (okL (flipE s ds ss as') (flipL ss as')) (flipE s ds ss as') ∧ Below w.heap.size w w' := by
  obtain ⟨E, hEE⟩ : ∃ E, flipE s ds ss as' = E := ⟨_, rfl⟩
  rw [hEE]
  have HEE := hide hEE
  have HD := hide hd
  have HS := hide hs
  have HA := hide ha
  have HBb := hide hb
  have HC := hide hc
  have c1 : (n == 1) = false := by simp; omega
  have c2 : (n == 2) = true := by simp; omega
  have HN := hide hn
  clear hn
  clear hd hs ha hb hc hEE
  have hb2 : Below w.heap.size w ((w.alloc (.cells #[.int .i64 s, .slice da dl dc, .slice sa sl sc] 24)).alloc (.cells #[.int .i64 0, .slice none 0 0, .slice none 0 0] 24)) := ((Below.refl _ _).alloc (Nat.le_refl _) _).alloc (by simp) _
  have HB2 := hide hb2
  have hR := ViewAt.new (w.alloc (.cells #[.int .i64 s, .slice da dl dc, .slice sa sl sc] 24)) (.int .i64 0) (.slice none 0 0) (.slice none 0 0)
  simp only [World.size_alloc] at hR
  have HR := hide hR
  clear hb2 hR
  go_enter Try.func28, Try.ntmps28
  go_wp2_with (go_at_call 19; refine (flip_any _ _ _ _ ds _ _ _ ss _ _ _ as' _ (HD.out.below HB2.out) (HS.out.below HB2.out) (HA.out.below HB2.out)).mono ?_; rintro e w1 ⟨hgv, hb⟩; rw [HEE.out] at hgv; obtain ⟨da1, dl1, dc1, sa1, sl1, sc1, rfl, hi1, hj1, ⟨hc1, hc2⟩, hF, hG⟩ := hgv; simp only [World.size_alloc] at hF hG; have HI1 := hide hi1; have HJ1 := hide hj1; have HF := hide hF; have HG := hide hG; have HR1 := hide (HR.out.below hb); have HB1 := hide (Below.on HB2.out hb); obtain ⟨⟨r0, r1, r2⟩, f0, f1, f2⟩ := HR1.out.cells; clear hb hi1 hj1 hF hG)
  have q1 := view_put' (x := .int .i64 (okS E (flipAcc s ds ss as' as'.length))) (y := .slice da1 dl1 dc1) (z := .slice sa1 sl1 sc1) HR1.out
  obtain ⟨⟨u0, u1, u2⟩, _⟩ := q1.cells
  have hln : 0 < dl1 → 0 < dl := okL_len HI1.out (fun h => by
    have hE := HEE.out
    rw [h] at hE
    exact HD.out.1)
  exact bodyPost_ret (v := .tuple #[.agg #[.int .i64 (okS E (flipAcc s ds ss as' as'.length)), .slice da1 dl1 dc1, .slice sa1 sl1 sc1], .int .i64 E]) (by simp [results, Try.results28, go_sem, u0, u1, u2]) rfl ⟨⟨_, _, _, _, _, _, rfl, ints_putL HI1.out HF.out HD.out hln (by omega) (by omega), ints_putF HJ1.out HG.out (by omega), hc1, hc2⟩, below_put HB1.out (by omega)⟩

set_option maxRecDepth 100000 in
set_option maxHeartbeats 4000000 in
theorem step_3 (s n : Int) (da : Option Addr) (dl dc : Nat) (ds : List Int) (sa : Option Addr) (sl sc : Nat) (ss : List Int) (aa : Option Addr) (al ac : Nat) (as' : List Int) (ba : Option Addr) (bl bc : Nat) (bs : List Int) (ca : Option Addr) (cl cc : Nat) (cs : List Int) (w : World)
    (hd : Ints w da dl ds) (hs : Ints w sa sl ss) (ha : Ints w aa al as') (hb : Ints w ba bl bs) (hc : Ints w ca cl cs) (hn : n = 3) :
    Calls Try.prog 28 #[.agg #[.int .i64 s, .slice da dl dc, .slice sa sl sc], .int .i64 n, .slice aa al ac, .slice ba bl bc, .slice ca cl cc] w fun e w' => Gives e w' (okS (cutE s ds ss as' bs cs) (cutAcc s ss as' ds.length)) (okL (cutE s ds ss as' bs cs) (cutD ds as' bs cs)) (okL (cutE s ds ss as' bs cs) (cutS ss cs)) (cutE s ds ss as' bs cs) ∧ Below w.heap.size w w' := by
  obtain ⟨E, hEE⟩ : ∃ E, cutE s ds ss as' bs cs = E := ⟨_, rfl⟩
  rw [hEE]
  have HEE := hide hEE
  have HD := hide hd
  have HS := hide hs
  have HA := hide ha
  have HBb := hide hb
  have HC := hide hc
  have c1 : (n == 1) = false := by simp; omega
  have c2 : (n == 2) = false := by simp; omega
  have c3 : (n == 3) = true := by simp; omega
  have HN := hide hn
  clear hn
  clear hd hs ha hb hc hEE
  have hb2 : Below w.heap.size w ((w.alloc (.cells #[.int .i64 s, .slice da dl dc, .slice sa sl sc] 24)).alloc (.cells #[.int .i64 0, .slice none 0 0, .slice none 0 0] 24)) := ((Below.refl _ _).alloc (Nat.le_refl _) _).alloc (by simp) _
  have HB2 := hide hb2
  have hR := ViewAt.new (w.alloc (.cells #[.int .i64 s, .slice da dl dc, .slice sa sl sc] 24)) (.int .i64 0) (.slice none 0 0) (.slice none 0 0)
  simp only [World.size_alloc] at hR
  have HR := hide hR
  clear hb2 hR
  go_enter Try.func28, Try.ntmps28
  go_wp2_with (go_at_call 21; refine (cut_any _ _ _ _ ds _ _ _ ss _ _ _ as' _ _ _ bs _ _ _ cs _ (HD.out.below HB2.out) (HS.out.below HB2.out) (HA.out.below HB2.out) (HBb.out.below HB2.out) (HC.out.below HB2.out)).mono ?_; rintro e w1 ⟨hgv, hb⟩; rw [HEE.out] at hgv; obtain ⟨da1, dl1, dc1, sa1, sl1, sc1, rfl, hi1, hj1, ⟨hc1, hc2⟩, hF, hG⟩ := hgv; simp only [World.size_alloc] at hF hG; have HI1 := hide hi1; have HJ1 := hide hj1; have HF := hide hF; have HG := hide hG; have HR1 := hide (HR.out.below hb); have HB1 := hide (Below.on HB2.out hb); obtain ⟨⟨r0, r1, r2⟩, f0, f1, f2⟩ := HR1.out.cells; clear hb hi1 hj1 hF hG)
  have q1 := view_put' (x := .int .i64 (okS E (cutAcc s ss as' ds.length))) (y := .slice da1 dl1 dc1) (z := .slice sa1 sl1 sc1) HR1.out
  obtain ⟨⟨u0, u1, u2⟩, _⟩ := q1.cells
  have hln : 0 < dl1 → 0 < dl := okL_len HI1.out (fun h => by
    have hE := HEE.out
    rw [h] at hE
    rw [cutD_length]; exact HD.out.1)
  exact bodyPost_ret (v := .tuple #[.agg #[.int .i64 (okS E (cutAcc s ss as' ds.length)), .slice da1 dl1 dc1, .slice sa1 sl1 sc1], .int .i64 E]) (by simp [results, Try.results28, go_sem, u0, u1, u2]) rfl ⟨⟨_, _, _, _, _, _, rfl, ints_putL HI1.out HF.out HD.out hln (by omega) (by omega), ints_putF HJ1.out HG.out (by omega), hc1, hc2⟩, below_put HB1.out (by omega)⟩

set_option maxRecDepth 100000 in
set_option maxHeartbeats 4000000 in
theorem step_4 (s n : Int) (da : Option Addr) (dl dc : Nat) (ds : List Int) (sa : Option Addr) (sl sc : Nat) (ss : List Int) (aa : Option Addr) (al ac : Nat) (as' : List Int) (ba : Option Addr) (bl bc : Nat) (bs : List Int) (ca : Option Addr) (cl cc : Nat) (cs : List Int) (w : World)
    (hd : Ints w da dl ds) (hs : Ints w sa sl ss) (ha : Ints w aa al as') (hb : Ints w ba bl bs) (hc : Ints w ca cl cs) (hn : n = 4) :
    Calls Try.prog 28 #[.agg #[.int .i64 s, .slice da dl dc, .slice sa sl sc], .int .i64 n, .slice aa al ac, .slice ba bl bc, .slice ca cl cc] w fun e w' => Gives e w' (okS (sprE s ds ss as' bs) (s)) (okL (sprE s ds ss as' bs) (as')) (okL (sprE s ds ss as' bs) (sprS as'.length ss bs)) (sprE s ds ss as' bs) ∧ Below w.heap.size w w' := by
  obtain ⟨E, hEE⟩ : ∃ E, sprE s ds ss as' bs = E := ⟨_, rfl⟩
  rw [hEE]
  have HEE := hide hEE
  have HD := hide hd
  have HS := hide hs
  have HA := hide ha
  have HBb := hide hb
  have HC := hide hc
  have c1 : (n == 1) = false := by simp; omega
  have c2 : (n == 2) = false := by simp; omega
  have c3 : (n == 3) = false := by simp; omega
  have c4 : (n == 4) = true := by simp; omega
  have HN := hide hn
  clear hn
  clear hd hs ha hb hc hEE
  have hb2 : Below w.heap.size w ((w.alloc (.cells #[.int .i64 s, .slice da dl dc, .slice sa sl sc] 24)).alloc (.cells #[.int .i64 0, .slice none 0 0, .slice none 0 0] 24)) := ((Below.refl _ _).alloc (Nat.le_refl _) _).alloc (by simp) _
  have HB2 := hide hb2
  have hR := ViewAt.new (w.alloc (.cells #[.int .i64 s, .slice da dl dc, .slice sa sl sc] 24)) (.int .i64 0) (.slice none 0 0) (.slice none 0 0)
  simp only [World.size_alloc] at hR
  have HR := hide hR
  clear hb2 hR
  go_enter Try.func28, Try.ntmps28
  go_wp2_with (go_at_call 23; refine (spread_any _ _ _ _ ds _ _ _ ss _ _ _ as' _ _ _ bs _ (HD.out.below HB2.out) (HS.out.below HB2.out) (HA.out.below HB2.out) (HBb.out.below HB2.out)).mono ?_; rintro e w1 ⟨hgv, hb⟩; rw [HEE.out] at hgv; obtain ⟨da1, dl1, dc1, sa1, sl1, sc1, rfl, hi1, hj1, ⟨hc1, hc2⟩, hF, hG⟩ := hgv; simp only [World.size_alloc] at hF hG; have HI1 := hide hi1; have HJ1 := hide hj1; have HF := hide hF; have HG := hide hG; have HR1 := hide (HR.out.below hb); have HB1 := hide (Below.on HB2.out hb); obtain ⟨⟨r0, r1, r2⟩, f0, f1, f2⟩ := HR1.out.cells; clear hb hi1 hj1 hF hG)
  have q1 := view_put' (x := .int .i64 (okS E (s))) (y := .slice da1 dl1 dc1) (z := .slice sa1 sl1 sc1) HR1.out
  obtain ⟨⟨u0, u1, u2⟩, _⟩ := q1.cells
  have hln : 0 < dl1 → 0 < al := okL_len HI1.out (fun h => by
    have hE := HEE.out
    rw [h] at hE
    exact HA.out.1)
  exact bodyPost_ret (v := .tuple #[.agg #[.int .i64 (okS E (s)), .slice da1 dl1 dc1, .slice sa1 sl1 sc1], .int .i64 E]) (by simp [results, Try.results28, go_sem, u0, u1, u2]) rfl ⟨⟨_, _, _, _, _, _, rfl, ints_putL HI1.out HF.out HA.out hln (by omega) (by omega), ints_putF HJ1.out HG.out (by omega), hc1, hc2⟩, below_put HB1.out (by omega)⟩

set_option maxRecDepth 100000 in
set_option maxHeartbeats 4000000 in
theorem step_5 (s n : Int) (da : Option Addr) (dl dc : Nat) (ds : List Int) (sa : Option Addr) (sl sc : Nat) (ss : List Int) (aa : Option Addr) (al ac : Nat) (as' : List Int) (ba : Option Addr) (bl bc : Nat) (bs : List Int) (ca : Option Addr) (cl cc : Nat) (cs : List Int) (w : World)
    (hd : Ints w da dl ds) (hs : Ints w sa sl ss) (ha : Ints w aa al as') (hb : Ints w ba bl bs) (hc : Ints w ca cl cs) (hn : n ≠ 1 ∧ n ≠ 2 ∧ n ≠ 3 ∧ n ≠ 4) :
    Calls Try.prog 28 #[.agg #[.int .i64 s, .slice da dl dc, .slice sa sl sc], .int .i64 n, .slice aa al ac, .slice ba bl bc, .slice ca cl cc] w fun e w' => Gives e w' (okS (reformE s ds ss as') (s)) (okL (reformE s ds ss as') (as')) (okL (reformE s ds ss as') (reformL (readsV s ds ss) as')) (reformE s ds ss as') ∧ Below w.heap.size w w' := by
  obtain ⟨E, hEE⟩ : ∃ E, reformE s ds ss as' = E := ⟨_, rfl⟩
  rw [hEE]
  have HEE := hide hEE
  have HD := hide hd
  have HS := hide hs
  have HA := hide ha
  have HBb := hide hb
  have HC := hide hc
  have c1 : (n == 1) = false := by simp; omega
  have c2 : (n == 2) = false := by simp; omega
  have c3 : (n == 3) = false := by simp; omega
  have c4 : (n == 4) = false := by simp; omega
  have HN := hide hn
  clear hn
  clear hd hs ha hb hc hEE
  have hb2 : Below w.heap.size w ((w.alloc (.cells #[.int .i64 s, .slice da dl dc, .slice sa sl sc] 24)).alloc (.cells #[.int .i64 0, .slice none 0 0, .slice none 0 0] 24)) := ((Below.refl _ _).alloc (Nat.le_refl _) _).alloc (by simp) _
  have HB2 := hide hb2
  have hR := ViewAt.new (w.alloc (.cells #[.int .i64 s, .slice da dl dc, .slice sa sl sc] 24)) (.int .i64 0) (.slice none 0 0) (.slice none 0 0)
  simp only [World.size_alloc] at hR
  have HR := hide hR
  clear hb2 hR
  go_enter Try.func28, Try.ntmps28
  go_wp2_with (go_at_call 25; refine (reform_any _ _ _ _ ds _ _ _ ss _ _ _ as' _ (HD.out.below HB2.out) (HS.out.below HB2.out) (HA.out.below HB2.out) none).mono ?_; rintro e w1 ⟨hgv, hb⟩; rw [HEE.out] at hgv; obtain ⟨da1, dl1, dc1, sa1, sl1, sc1, rfl, hi1, hj1, ⟨hc1, hc2⟩, hF, hG⟩ := hgv; simp only [World.size_alloc] at hF hG; have HI1 := hide hi1; have HJ1 := hide hj1; have HF := hide hF; have HG := hide hG; have HR1 := hide (HR.out.below hb); have HB1 := hide (Below.on HB2.out hb); obtain ⟨⟨r0, r1, r2⟩, f0, f1, f2⟩ := HR1.out.cells; clear hb hi1 hj1 hF hG)
  have q1 := view_put' (x := .int .i64 (okS E (s))) (y := .slice da1 dl1 dc1) (z := .slice sa1 sl1 sc1) HR1.out
  obtain ⟨⟨u0, u1, u2⟩, _⟩ := q1.cells
  have hF5 : Far (w.heap.size + 1 + 1) da1 := by
    rcases HF.out with e | e
    · rw [e]; exact far_none _
    · exact e
  exact bodyPost_ret (v := .tuple #[.agg #[.int .i64 (okS E (s)), .slice da1 dl1 dc1, .slice sa1 sl1 sc1], .int .i64 E]) (by simp [results, Try.results28, go_sem, u0, u1, u2]) rfl ⟨⟨_, _, _, _, _, _, rfl, ints_putF HI1.out hF5 (by omega), ints_putF HJ1.out HG.out (by omega), hc1, hc2⟩, below_put HB1.out (by omega)⟩

theorem step_any (s n : Int) (da : Option Addr) (dl dc : Nat) (ds : List Int) (sa : Option Addr) (sl sc : Nat) (ss : List Int) (aa : Option Addr) (al ac : Nat) (as' : List Int) (ba : Option Addr) (bl bc : Nat) (bs : List Int) (ca : Option Addr) (cl cc : Nat) (cs : List Int) (w : World)
    (hd : Ints w da dl ds) (hs : Ints w sa sl ss) (ha : Ints w aa al as') (hb : Ints w ba bl bs) (hc : Ints w ca cl cs) :
    Calls Try.prog 28 #[.agg #[.int .i64 s, .slice da dl dc, .slice sa sl sc], .int .i64 n, .slice aa al ac, .slice ba bl bc, .slice ca cl cc] w fun e w' => Gives e w' (okS (stE n s ds ss as' bs cs) (stS n s ds ss as')) (okL (stE n s ds ss as' bs cs) (stD n ds as' bs cs)) (okL (stE n s ds ss as' bs cs) (stT n s ds ss as' bs cs)) (stE n s ds ss as' bs cs) ∧ Below w.heap.size w w' := by
  unfold stE stS stD stT
  by_cases c1 : n = 1
  · simp only [if_pos c1]; exact step_1 s n da dl dc ds sa sl sc ss aa al ac as' ba bl bc bs ca cl cc cs w hd hs ha hb hc c1
  simp only [if_neg c1]
  by_cases c2 : n = 2
  · simp only [if_pos c2]; exact step_2 s n da dl dc ds sa sl sc ss aa al ac as' ba bl bc bs ca cl cc cs w hd hs ha hb hc c2
  simp only [if_neg c2]
  by_cases c3 : n = 3
  · simp only [if_pos c3]; exact step_3 s n da dl dc ds sa sl sc ss aa al ac as' ba bl bc bs ca cl cc cs w hd hs ha hb hc c3
  simp only [if_neg c3]
  by_cases c4 : n = 4
  · simp only [if_pos c4]; exact step_4 s n da dl dc ds sa sl sc ss aa al ac as' ba bl bc bs ca cl cc cs w hd hs ha hb hc c4
  simp only [if_neg c4]
  exact step_5 s n da dl dc ds sa sl sc ss aa al ac as' ba bl bc bs ca cl cc cs w hd hs ha hb hc ⟨c1, c2, c3, c4⟩
end Go.Proofs.Ytfamaaahofjglaa.V
