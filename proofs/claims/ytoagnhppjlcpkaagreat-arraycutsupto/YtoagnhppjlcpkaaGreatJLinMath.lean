/-
  Contracts: array.Do of a Dot of two matrices, and of a Turn of one.
-/
import Derived.Test.YtoagnhppjlcpkaaGreatGArrCopy
import Derived.Test.YtoagnhppjlcpkaaGreatGArrWork
import Derived.Test.YtoagnhppjlcpkaaGreatGArrWrap
import Derived.Test.YtoagnhppjlcpkaaGreatGArrDoBad
namespace Go.Proofs.YtoagnhppjlcpkaaGreat.V
set_option maxRecDepth 20000
open Go.RowKit

theorem lst_none (w : World) : Lst w none 0 0 [] := ⟨ints_nil w, Nat.le_refl _, fun _ => rfl⟩
theorem lst_of {w : World} {Z : Option Addr} {n c : Nat} {xs : List Int} (h : Ints w Z n xs) (hc : n ≤ c) (h0 : 0 < n) : Lst w Z n c xs := ⟨h, hc, fun e => by
  obtain ⟨b, off, e', _⟩ := h.at h0
  rw [e] at e'; cases e'⟩
/-- The arrays of a product. -/
def twoV2 (da : Option Addr) (dl dc : Nat) (ds : List Int) (xa : Option Addr) (n xc : Nat) (ea : Option Addr) (el ec : Nat) (es : List Int) (ya : Option Addr) (m yc : Nat) (j : Nat) : ArrV := if j = 0 then ⟨da, dl, dc, ds, xa, n, xc⟩ else ⟨ea, el, ec, es, ya, m, yc⟩
theorem arrs_two {w : World} {b off : Nat} {da : Option Addr} {dl dc : Nat} {ds : List Int} {xa : Option Addr} {n xc : Nat} {ea : Option Addr} {el ec : Nat} {es : List Int} {ya : Option Addr} {m yc : Nat} (c0 : w.cell? ⟨b, off, none⟩ = some (.slice da dl dc)) (c1 : w.cell? ⟨b, off + 1, none⟩ = some (.slice xa n xc)) (c2 : w.cell? ⟨b, off + 2, none⟩ = some (.slice ea el ec)) (c3 : w.cell? ⟨b, off + 3, none⟩ = some (.slice ya m yc)) (hd : Lst w da dl dc ds) (he : Lst w ea el ec es) :
    Arrs w (some ⟨b, off, none⟩) 2 (twoV2 da dl dc ds xa n xc ea el ec es ya m yc) := .inr ⟨b, off, rfl, fun j hj => by
  have : j = 0 ∨ j = 1 := by omega
  rcases this with rfl | rfl
  · exact ⟨c0, c1, hd⟩
  · exact ⟨c2, c3, he⟩⟩

theorem Do_mat (P S : Nat) (b off cap : Nat) (da : Option Addr) (dl dc : Nat) (xa : Option Addr) (n1 xc : Nat) (xs : List Int) (ea : Option Addr) (el ec : Nat) (ya : Option Addr) (n2 yc : Nat) (ys : List Int) (p q r : Nat) (w : World)
    (hP : Ints w (some ⟨P, 0, none⟩) 1 [1]) (hS : Ints w (some ⟨S, 0, none⟩) 1 [0])
    (c0 : w.cell? ⟨b, off, none⟩ = some (.slice da dl dc)) (c1 : w.cell? ⟨b, off + 1, none⟩ = some (.slice xa n1 xc)) (c2 : w.cell? ⟨b, off + 2, none⟩ = some (.slice ea el ec)) (c3 : w.cell? ⟨b, off + 3, none⟩ = some (.slice ya n2 yc))
    (hd : Lst w da dl dc [(p : Int), (q : Int)]) (he : Lst w ea el ec [(q : Int), (r : Int)]) (hx : Ints w xa n1 xs) (hy : Ints w ya n2 ys) (e1 : arrE [(p : Int), (q : Int)] n1 = 0) (e2 : arrE [(q : Int), (r : Int)] n2 = 0) (e3 : sizeE [(p : Int), (r : Int)] = 0) :
    Calls Tryz.prog 7 #[.agg #[.int .i64 16, .slice none 0 0, .slice (some ⟨P, 0, none⟩) 1 1, .slice none 0 0, .slice none 0 0, .slice (some ⟨S, 0, none⟩) 1 1, .int .i64 0], .slice (some ⟨b, off, none⟩) 2 cap] w fun e w' =>
      (∃ (Z : Option Addr) (nz cz G : Nat), e = .returned (.tuple #[.agg #[.slice Z nz cz, .slice (some ⟨G, 0, none⟩) (p * r) (p * r)], .int .i64 0]) ∧ (Ints w' Z nz [(p : Int), (r : Int)] ∧ nz ≤ cz) ∧ Ints w' (some ⟨G, 0, none⟩) (p * r) (matL xs ys p q r) ∧ w.heap.size ≤ G) ∧ Below w.heap.size w w' := by
  have hdl : dl = 2 := hd.1.1.symm
  have hel : el = 2 := he.1.1.symm
  have hn1 := flat_len e1
  have hn2 := flat_len e2
  have hn16 := (arrE_ok e1).2.2
  have hn26 := (arrE_ok e2).2.2
  have hz1 := (arrE_ok e1).1
  have hz2 := (arrE_ok e2).1
  have hn6 := (arrE_ok (arrE_two e3)).2.2
  obtain ⟨hE, hL, hB⟩ := ok_mat (v := twoV2 da dl dc [(p : Int), (q : Int)] xa n1 xc ea el ec [(q : Int), (r : Int)] ya n2 yc) (p := p) (q := q) (r := r) rfl rfl e1 e2 e3
  refine Do_good 16 0 none 0 0 [] (some ⟨P, 0, none⟩) 1 1 [1] none 0 0 [] none 0 0 [] (some ⟨S, 0, none⟩) 1 1 [0] (some ⟨b, off, none⟩) 2 cap (twoV2 da dl dc [(p : Int), (q : Int)] xa n1 xc ea el ec [(q : Int), (r : Int)] ya n2 yc) [(p : Int), (r : Int)] (p * r) (matL xs ys p q r) w (lst_none w) (lst_of hP (Nat.le_refl _) (by omega)) (lst_none w) (lst_none w) (lst_of hS (Nat.le_refl _) (by omega)) (by omega) (by omega) (by omega) (by omega) (by omega) (arrs_two c0 c1 c2 c3 hd he) (by omega) hE hL.symm (by simp [prod]) (matL_length _ _ _ _ _) (matL_bd _ _ _ _ _) ?_
  intro hpos W Z nz cz g hW hg _ _ hrow
  obtain ⟨hp0, hr0⟩ := pos_of_lt_mul hpos
  have hp4 : p ≤ 65536 := Nat.le_trans (Nat.le_mul_of_pos_right p hr0) hn6
  have hr4 : r ≤ 65536 := Nat.le_trans (Nat.le_mul_of_pos_left r hp0) hn6
  have hq4 : q ≤ 65536 := by
    refine Nat.le_trans (Nat.le_mul_of_pos_left q hp0) ?_
    rw [← hn1]; exact hn16
  have hb := lt_of_cell c0
  refine work_dot 0 (.slice none 0 0) (.slice (some ⟨P, 0, none⟩) 1 1) (.slice none 0 0) (.slice none 0 0) (.slice (some ⟨S, 0, none⟩) 1 1) Z nz cz g (p * r) b off cap (.slice da dl dc) (.slice xa n1 xc) (.slice ea el ec) (.slice ya n2 yc) (matL xs ys p q r) W ((hW.cell (p := ⟨b, off, none⟩) (lt_of_cell c0)).trans c0) ((hW.cell (p := ⟨b, off + 1, none⟩) (lt_of_cell c1)).trans c1) ((hW.cell (p := ⟨b, off + 2, none⟩) (lt_of_cell c2)).trans c2) ((hW.cell (p := ⟨b, off + 3, none⟩) (lt_of_cell c3)).trans c3) (by simp at hb; omega) hrow (fun W2 hW2 hrow2 => ?_)
  have hWW := hW.trans (hW2.mono hW.size)
  have key := dot_any 16 0 (.slice none 0 0) (some ⟨P, 0, none⟩) 1 1 [1] none 0 0 [] none 0 0 [] (some ⟨S, 0, none⟩) 1 1 [0] da dl dc [(p : Int), (q : Int)] xa n1 xc xs ea el ec [(q : Int), (r : Int)] ya n2 yc ys (readsV 0 (taken [(p : Int), (q : Int)] [0, 1]) (taken (stepsV [(p : Int), (q : Int)]) [0, 1])) (readsV 0 (taken [(q : Int), (r : Int)] [1, 0]) (taken (stepsV [(q : Int), (r : Int)]) [1, 0])) q p r g (p * r) W2
    (lst_of (hP.below hWW) (Nat.le_refl _) (by omega)) (lst_none W2) (lst_none W2) (lst_of (hS.below hWW) (Nat.le_refl _) (by omega)) (hd.1.below hWW) (he.1.below hWW) (hx.below hWW) (hy.below hWW) hz1 hz2 hn16 hn26 hn6 hB
    ?_ rfl ?_ (by rw [readsA_len, hn1]) (fun i hi => ?_) (by show 0 + 1 + 1 ≤ 6; omega)
    ?_ rfl ?_ (by rw [readsB_len, hn2, Nat.mul_comm]) (fun i hi => ?_) (by show 0 + 1 + 1 ≤ 6; omega)
    (by show (q : Int) * 1 = q; omega) (by show (p : Int) * 1 = p; omega) (by show (r : Int) * 1 = r; omega) hp0 hr0 hq4 hp4 hr4 (fun i hi => ?_) hrow2
  · rw [dot_mat] at key
    exact key
  · show turnE 0 [(p : Int), (q : Int)] (stepsV [(p : Int), (q : Int)]) [0, 1] = 0
    unfold turnE
    rw [if_neg (by rw [wrong_whole hz1]; simp), if_pos]
    show permB [0, 1] 2 = true
    decide
  · show wrongE 0 (taken [(p : Int), (q : Int)] [0, 1]) (taken (stepsV [(p : Int), (q : Int)]) [0, 1]) = 0
    have hw := wrong_whole hz1
    obtain ⟨s, t, e⟩ := two_of_len (stepsV_len [(p : Int), (q : Int)])
    rw [e] at hw ⊢
    exact hw
  · rw [readsA (by rw [← hn1]; exact hi)]; omega
  · show turnE 0 [(q : Int), (r : Int)] (stepsV [(q : Int), (r : Int)]) [1, 0] = 0
    unfold turnE
    rw [if_neg (by rw [wrong_whole hz2]; simp), if_pos]
    show permB [1, 0] 2 = true
    decide
  · show wrongE 0 (taken [(q : Int), (r : Int)] [1, 0]) (taken (stepsV [(q : Int), (r : Int)]) [1, 0]) = 0
    have hw := wrong_whole hz2
    obtain ⟨s, t, e⟩ := two_of_len (stepsV_len [(q : Int), (r : Int)])
    rw [e] at hw ⊢
    exact wrong_swap hw
  · have hi' : i < r * q := by rw [Nat.mul_comm, ← hn2]; exact hi
    have := place_lt hi'
    rw [readsB hi']
    rw [← hn2] at this
    exact ⟨Int.natCast_nonneg _, Int.ofNat_lt.2 this⟩
  · have h1 : i / r < p := div_row hi
    have h2 : i % r < r := Nat.mod_lt _ hr0
    rw [Nat.div_eq_of_lt h1, Nat.zero_mul, Nat.zero_add]
    refine ⟨?_, ?_, by omega⟩
    · rw [hn1]
      have : (i / r + 1) * q ≤ p * q := Nat.mul_le_mul_right _ h1
      rw [Nat.add_mul, Nat.one_mul] at this
      exact this
    · rw [hn2, Nat.mul_comm q r]
      have : (i % r + 1) * q ≤ r * q := Nat.mul_le_mul_right _ h2
      rw [Nat.add_mul, Nat.one_mul] at this
      exact this
theorem Do_turn2 (P : Nat) (b off cap : Nat) (da : Option Addr) (dl dc : Nat) (xa : Option Addr) (n xc : Nat) (xs : List Int) (p q : Nat) (w : World) (hP : Ints w (some ⟨P, 0, none⟩) 2 [1, 0])
    (c0 : w.cell? ⟨b, off, none⟩ = some (.slice da dl dc)) (c1 : w.cell? ⟨b, off + 1, none⟩ = some (.slice xa n xc)) (hd : Lst w da dl dc [(p : Int), (q : Int)]) (hx : Ints w xa n xs) (e1 : arrE [(p : Int), (q : Int)] n = 0) :
    Calls Tryz.prog 7 #[.agg #[.int .i64 11, .slice none 0 0, .slice (some ⟨P, 0, none⟩) 2 2, .slice none 0 0, .slice none 0 0, .slice none 0 0, .int .i64 0], .slice (some ⟨b, off, none⟩) 1 cap] w fun e w' =>
      (∃ (Z : Option Addr) (nz cz G : Nat), e = .returned (.tuple #[.agg #[.slice Z nz cz, .slice (some ⟨G, 0, none⟩) (q * p) (q * p)], .int .i64 0]) ∧ (Ints w' Z nz [(q : Int), (p : Int)] ∧ nz ≤ cz) ∧ Ints w' (some ⟨G, 0, none⟩) (q * p) (turnL xs p q) ∧ w.heap.size ≤ G) ∧ Below w.heap.size w w' := by
  have hn := flat_len e1
  have hn6 := (arrE_ok e1).2.2
  have hz := (arrE_ok e1).1
  have hb := lt_of_cell c0
  obtain ⟨ht, hE, hL⟩ := ok_turn (v := fun _ => ⟨da, dl, dc, [(p : Int), (q : Int)], xa, n, xc⟩) (p := p) (q := q) rfl e1
  refine Do_good 11 0 none 0 0 [] (some ⟨P, 0, none⟩) 2 2 [1, 0] none 0 0 [] none 0 0 [] none 0 0 [] (some ⟨b, off, none⟩) 1 cap (fun _ => ⟨da, dl, dc, [(p : Int), (q : Int)], xa, n, xc⟩) [(q : Int), (p : Int)] (q * p) (turnL xs p q) w (lst_none w) (lst_of hP (Nat.le_refl _) (by omega)) (lst_none w) (lst_none w) (lst_none w) (by omega) (by omega) (by omega) (by omega) (by omega) (.inr ⟨b, off, rfl, fun j hj => by obtain rfl : j = 0 := by { omega }; exact ⟨c0, c1, hd⟩⟩) (by omega) hE hL.symm (by simp [prod]) (turnL_length _ _ _) (turnL_bd hx.2.2.1 _ _) ?_
  intro hpos W Z nz cz g hW hg _ _ hrow
  have hn0 : 0 < n := by rw [hn, Nat.mul_comm]; exact hpos
  have key := work_look 11 0 (.inr (.inl rfl)) (.slice none 0 0) (.slice (some ⟨P, 0, none⟩) 2 2) (.slice none 0 0) (.slice none 0 0) (.slice none 0 0) Z nz cz g (q * p) b off 1 cap (.slice da dl dc) xa n xc xs (readsV 0 (taken [(p : Int), (q : Int)] [1, 0]) (taken (stepsV [(p : Int), (q : Int)]) [1, 0])) W (by omega) ((hW.cell (p := ⟨b, off, none⟩) (lt_of_cell c0)).trans c0) ((hW.cell (p := ⟨b, off + 1, none⟩) (lt_of_cell c1)).trans c1) (hx.below hW) (fun b' o' e' => by
      obtain ⟨b2, o2, e2, hb2, _⟩ := hx.at hn0
      rw [e'] at e2; cases e2
      omega) hrow (by rw [Nat.mul_comm, ← hn]; omega) (readsB_len p q) (fun i hi => by
      have := place_lt hi
      rw [readsB hi]
      rw [← hn] at this
      exact ⟨Int.natCast_nonneg _, Int.ofNat_lt.2 this⟩) (fun W2 hW2 => lookedAt_gen 11 0 (.slice none 0 0) (.slice (some ⟨P, 0, none⟩) 2 2) (.slice none 0 0) (.slice none 0 0) (.slice none 0 0) da dl dc (.slice xa n xc) 0 (taken [(p : Int), (q : Int)] [1, 0]) (taken (stepsV [(p : Int), (q : Int)]) [1, 0]) W2 (fun W3 hW3 => by
        have h1 := hW.trans (hW2.mono hW.size)
        have h2 := h1.trans (hW3.mono h1.size)
        exact seen11 da dl dc [(p : Int), (q : Int)] (some ⟨P, 0, none⟩) 2 2 [1, 0] W3 (hd.1.below h2) (hP.below h2) hz ht) (by
        have hw := wrong_whole hz
        obtain ⟨s, t, e⟩ := two_of_len (stepsV_len [(p : Int), (q : Int)])
        rw [e] at hw ⊢
        exact wrong_swap hw))
  rw [look_turn] at key
  exact key
end Go.Proofs.YtoagnhppjlcpkaaGreat.V

/-
  Contracts: adjointlaw2.times, adjointlaw2.one of a Turn, adjointlaw2.alive.
-/
namespace Go.Proofs.YtoagnhppjlcpkaaGreat.V
set_option maxRecDepth 20000
open Go.RowKit

/-- One number in a block. -/
theorem ints_one {w : World} {B : Nat} (x : Int) (hx : -9223372036854775808 ≤ x ∧ x ≤ 9223372036854775807) (t : TypeId) (h : w.heap.size = B) : Ints (w.alloc (.cells #[.int .i64 x] t)) (some ⟨B, 0, none⟩) 1 [x] := by
  subst h
  refine ⟨rfl, by omega, by simpa using hx, .inr ⟨_, _, rfl, fun j hj => ?_⟩⟩
  obtain rfl : j = 0 := by omega
  simp

set_option maxRecDepth 100000 in
set_option maxHeartbeats 2000000 in
theorem one_turn (P : Nat) (da : Option Addr) (dl dc : Nat) (xa : Option Addr) (n1 xc : Nat) (xs : List Int) (p q : Nat) (w : World) (hP : Ints w (some ⟨P, 0, none⟩) 2 [1, 0])
    (hd : Lst w da dl dc [(p : Int), (q : Int)]) (hx : Ints w xa n1 xs) (e1 : arrE [(p : Int), (q : Int)] n1 = 0) :
    Calls Tryz.prog 11 #[.agg #[.int .i64 11, .slice none 0 0, .slice (some ⟨P, 0, none⟩) 2 2, .slice none 0 0, .slice none 0 0, .slice none 0 0, .int .i64 0], .agg #[.slice da dl dc, .slice xa n1 xc]] w fun e w' =>
      (∃ (Z : Option Addr) (nz cz G : Nat), e = .returned (.tuple #[.agg #[.slice Z nz cz, .slice (some ⟨G, 0, none⟩) (q * p) (q * p)], .bool true]) ∧ Lst w' Z nz cz [(q : Int), (p : Int)] ∧ Ints w' (some ⟨G, 0, none⟩) (q * p) (turnL xs p q)) ∧ Below w.heap.size w w' := by
  have HB1 := (Below.refl w.heap.size w).alloc (Nat.le_refl _) (.cells #[.int .i64 11, .slice none 0 0, .slice (some ⟨P, 0, none⟩) 2 2, .slice none 0 0, .slice none 0 0, .slice none 0 0, .int .i64 0] 24)
  have HB2 := HB1.alloc HB1.size (.cells #[.slice da dl dc, .slice xa n1 xc] 28)
  have HB3 := HB2.alloc HB2.size (.cells #[.slice none 0 0, .slice none 0 0] 28)
  have HB4 := HB3.alloc HB3.size (.cells #[.slice da dl dc, .slice xa n1 xc] 28)
  have HB := hide HB4
  have b1 := ((OpAt.new w 11 (.slice none 0 0) (.slice (some ⟨P, 0, none⟩) 2 2) (.slice none 0 0) (.slice none 0 0) (.slice none 0 0) 0).alloc (.cells #[.slice da dl dc, .slice xa n1 xc] 28)).alloc (.cells #[.slice none 0 0, .slice none 0 0] 28)
  have a1 := (ArrAt.new (w.alloc (.cells #[.int .i64 11, .slice none 0 0, .slice (some ⟨P, 0, none⟩) 2 2, .slice none 0 0, .slice none 0 0, .slice none 0 0, .int .i64 0] 24)) (.slice da dl dc) (.slice xa n1 xc)).alloc (.cells #[.slice none 0 0, .slice none 0 0] 28)
  have a3 := (ArrAt.new ((w.alloc (.cells #[.int .i64 11, .slice none 0 0, .slice (some ⟨P, 0, none⟩) 2 2, .slice none 0 0, .slice none 0 0, .slice none 0 0, .int .i64 0] 24)).alloc (.cells #[.slice da dl dc, .slice xa n1 xc] 28)) (.slice none 0 0) (.slice none 0 0)).alloc (.cells #[.slice da dl dc, .slice xa n1 xc] 28)
  have a4 := ArrAt.new (((w.alloc (.cells #[.int .i64 11, .slice none 0 0, .slice (some ⟨P, 0, none⟩) 2 2, .slice none 0 0, .slice none 0 0, .slice none 0 0, .int .i64 0] 24)).alloc (.cells #[.slice da dl dc, .slice xa n1 xc] 28)).alloc (.cells #[.slice none 0 0, .slice none 0 0] 28)) (.slice da dl dc) (.slice xa n1 xc)
  simp only [World.size_alloc] at a1 a3 a4
  obtain ⟨o0, o1, o2, o3, o4, o5, o6⟩ := b1.cells
  obtain ⟨⟨p0, p1⟩, _⟩ := a1.cells
  obtain ⟨⟨c0, c1⟩, _⟩ := a4.cells
  have HA3 := hide a3
  have HS := hide (Do_turn2 P (w.heap.size + 1 + 1 + 1) 0 1 da dl dc xa n1 xc xs p q _ (hP.below HB.out) c0 c1 (hd.below HB.out) (hx.below HB.out) e1)
  clear b1 a1 a3 a4 HB1 HB2 HB3 HB4 c0 c1 hd hx hP
  go_enter Tryz.func11, Tryz.ntmps11
  go_wp2_with (go_at_call 7; refine HS.out.mono ?_; rintro e w1 ⟨⟨Z, nz, cz, G, rfl, ⟨hi1, hnc⟩, hi2, hg⟩, hb⟩; have hnz := hi1.1; have HI1 := hide (lst_of hi1 hnc (by rw [← hnz]; show 0 < 2; omega)); have HI2 := hide hi2; have HB7 := hide (Below.on HB.out hb); have HA7 := hide (HA3.out.below hb); have HA8 := hide (HA7.out.alloc (.cells #[.slice Z nz cz, .slice (some ⟨G, 0, none⟩) (q * p) (q * p)] 28)); have HB8 := hide (HB7.out.alloc HB7.out.size (.cells #[.slice Z nz cz, .slice (some ⟨G, 0, none⟩) (q * p) (q * p)] 28)); obtain ⟨⟨a0, a1⟩, fa0, fa1⟩ := HA8.out.cells; clear hi1 hi2 hb p0 p1 o0 o1 o2 o3 o4 o5 o6 hnz hg)
  obtain ⟨⟨u0, u1⟩, _⟩ := (HA8.out.put (.slice Z nz cz) (.slice (some ⟨G, 0, none⟩) (q * p) (q * p))).cells
  have hl := HA7.out.lt
  have HBF := hide ((HB8.out.setCell (p := ⟨w.heap.size + 1 + 1, 0, none⟩) (by simp; omega) (.slice Z nz cz)).setCell (p := ⟨w.heap.size + 1 + 1, 1, none⟩) (by simp; omega) (.slice (some ⟨G, 0, none⟩) (q * p) (q * p)))
  refine bodyPost_ret (v := .tuple #[.agg #[.slice Z nz cz, .slice (some ⟨G, 0, none⟩) (q * p) (q * p)], .bool true]) (by simp [results, Tryz.results11, go_sem, u0, u1]) rfl ⟨⟨Z, nz, cz, G, rfl, ⟨?_, HI1.out.2⟩, ?_⟩, HBF.out⟩
  · exact ints_put_arr (HI1.out.1.below ((Below.refl _ _).alloc (Nat.le_refl _) _)) HA8.out (fun _ _ e => by cases e) (fun _ _ e => by cases e) _ _
  · exact ints_put_arr (HI2.out.below ((Below.refl _ _).alloc (Nat.le_refl _) _)) HA8.out (fun _ _ e => by cases e) (fun _ _ e => by cases e) _ _
end Go.Proofs.YtoagnhppjlcpkaaGreat.V

/-
  What goes with sums and with products by a number.
-/
namespace Go.Proofs.YtoagnhppjlcpkaaGreat.V
set_option maxRecDepth 20000
open Go.RowKit

/-- A table times a list. -/
def mvL (M : Nat → Nat → Int) (xs : List Int) (n N : Nat) : List Int := (List.range N).map fun i => IntKind.i64.wrap (sumN (fun j => M i j * xs[j]?.getD 0) n)
theorem mvL_at (M : Nat → Nat → Int) (xs : List Int) (n N i : Nat) (h : i < N) : (mvL M xs n N)[i]?.getD 0 = IntKind.i64.wrap (sumN (fun j => M i j * xs[j]?.getD 0) n) := by simp [mvL, h]
def Bnd (xs : List Int) : Prop := ∀ x ∈ xs, -9223372036854775808 ≤ x ∧ x ≤ 9223372036854775807
def IsLin (f : List Int → List Int) (n N : Nat) : Prop := ∃ M, ∀ xs, xs.length = n → Bnd xs → f xs = mvL M xs n N
theorem twoL_bnd (k : Int) (hk : k = 3 ∨ k = 4 ∨ k = 5) (xs ys : List Int) (n : Nat) : Bnd (twoL k xs ys n) := by
  intro x hx
  simp only [twoL, List.mem_map] at hx
  obtain ⟨i, _, rfl⟩ := hx
  rcases hk with rfl | rfl | rfl <;> simp only [twoV] <;> rw [w64] <;> exact wrap_bd _
theorem rep_at (n i : Nat) (k : Int) (h : i < n) : (List.replicate n k)[i]?.getD 0 = k := by simp [h]

/-- What is made of a sum is the sum of what is made. -/
theorem lin_law {f : List Int → List Int} {n N : Nat} (hf : IsLin f n N) (k : Int) (xs ys : List Int) (lx : xs.length = n) (ly : ys.length = n) (bx : Bnd xs) (bY : Bnd ys) :
    f (twoL 3 xs (twoL 5 (List.replicate n k) ys n) n) = twoL 3 (f xs) (twoL 5 (List.replicate N k) (f ys) N) N := by
  obtain ⟨M, hM⟩ := hf
  rw [hM _ (twoL_length _ _ _ _) (twoL_bnd 3 (.inl rfl) _ _ _), hM xs lx bx, hM ys ly bY]
  show (List.range N).map _ = (List.range N).map _
  refine List.map_congr_left (fun i hi => ?_)
  have hi' : i < N := by simpa using hi
  rw [mvL_at _ _ _ _ _ hi', twoL_at _ _ _ _ _ hi', rep_at _ _ _ hi', mvL_at _ _ _ _ _ hi']
  have e5 : ∀ a b : Int, twoV 5 a b = IntKind.i64.wrap (a * b) := fun a b => by simp [twoV, w64]
  have e3 : ∀ a b : Int, twoV 3 a b = IntKind.i64.wrap (a + b) := fun a b => by simp [twoV, w64]
  rw [e5, e3, wrap_mulr, wrap_addl, wrap_addr]
  rw [wrap_sum (g := fun j => M i j * xs[j]?.getD 0 + k * (M i j * ys[j]?.getD 0)) n (fun j hj => ?_)]
  · rw [sumN_add, sumN_mull]
  · rw [twoL_at _ _ _ _ _ hj, twoL_at _ _ _ _ _ hj, rep_at _ _ _ hj, e5, e3, wrap_mulr, ← wrap_mulr, wrap_addr, wrap_mulr, Int.mul_add]
    congr 1
    rw [← Int.mul_assoc, ← Int.mul_assoc, Int.mul_comm (M i j) k]

theorem sumN_delta (a : Nat) (c : Int) (x : Nat → Int) : ∀ n, sumN (fun j => (if a = j then c else 0) * x j) n = if a < n then c * x a else 0
  | 0 => by simp [sumN]
  | n + 1 => by
    rw [sumN, sumN_delta a c x n]
    by_cases e : a = n
    · subst e
      rw [if_neg (Nat.lt_irrefl a), if_pos rfl, if_pos (Nat.lt_succ_self a), Int.zero_add]
    · rw [if_neg e, Int.zero_mul, Int.add_zero]
      by_cases h : a < n
      · rw [if_pos h, if_pos (by omega)]
      · rw [if_neg h, if_neg (by omega)]
/-- A sum of some entries, times numbers. -/
theorem lin_gather {f : List Int → List Int} {n N K : Nat} (c : Nat → Nat → Int) (a : Nat → Nat → Nat) (h : ∀ xs, xs.length = n → Bnd xs → f xs = (List.range N).map fun i => IntKind.i64.wrap (sumN (fun k => c i k * xs[a i k]?.getD 0) K)) : IsLin f n N := by
  refine ⟨fun i j => sumN (fun k => if a i k = j then c i k else 0) K, fun xs lx bx => ?_⟩
  rw [h xs lx bx]
  show (List.range N).map _ = (List.range N).map _
  refine List.map_congr_left (fun i _ => ?_)
  congr 1
  have e1 : (sumN (fun j => sumN (fun k => if a i k = j then c i k else 0) K * xs[j]?.getD 0) n) = sumN (fun j => sumN (fun k => (if a i k = j then c i k else 0) * xs[j]?.getD 0) K) n := sumN_ext n (fun j _ => sumN_mulr _ _ _)
  show _ = sumN (fun j => sumN (fun k => if a i k = j then c i k else 0) K * xs[j]?.getD 0) n
  rw [e1, sumN_swap (fun k j => (if a i k = j then c i k else 0) * xs[j]?.getD 0) K n]
  refine sumN_ext K (fun k _ => ?_)
  rw [sumN_delta (a i k) (c i k) (fun j => xs[j]?.getD 0) n]
  by_cases hk : a i k < n
  · rw [if_pos hk]
  · rw [if_neg hk, List.getElem?_eq_none (by omega)]; simp
theorem bnd_at {xs : List Int} (h : Bnd xs) (i : Nat) : -9223372036854775808 ≤ xs[i]?.getD 0 ∧ xs[i]?.getD 0 ≤ 9223372036854775807 := by
  by_cases hi : i < xs.length
  · exact h _ (mem_getD xs i hi)
  · rw [List.getElem?_eq_none (by omega)]; simp
/-- One entry, times one or nothing. -/
theorem lin_one {f : List Int → List Int} {n N : Nat} (c : Nat → Int) (a : Nat → Nat) (hc : ∀ i, c i = 0 ∨ c i = 1) (h : ∀ xs, xs.length = n → Bnd xs → f xs = (List.range N).map fun i => c i * xs[a i]?.getD 0) : IsLin f n N := by
  refine lin_gather (K := 1) (fun i _ => c i) (fun i _ => a i) (fun xs lx bx => ?_)
  rw [h xs lx bx]
  refine List.map_congr_left (fun i _ => ?_)
  have := bnd_at bx (a i)
  simp only [sumN, Int.zero_add]
  rcases hc i with e | e
  · rw [e, Int.zero_mul, wrap_in _ (by omega) (by omega)]
  · rw [e, Int.one_mul, wrap_in _ this.1 this.2]
theorem list_map_range (l : List Int) (N : Nat) (h : l.length = N) : l = (List.range N).map fun i => l[i]?.getD 0 := by
  rw [← h, map_getD_range]
theorem lin_look (Q : List Int) (n : Nat) : IsLin (fun xs => lookL xs Q) n Q.length := by
  refine lin_one (fun _ => 1) (fun i => (Q[i]?.getD 0).toNat) (fun _ => .inr rfl) (fun xs _ _ => ?_)
  show lookL xs Q = _
  rw [list_map_range (lookL xs Q) Q.length (lookL_length _ _)]
  refine List.map_congr_left (fun i hi => ?_)
  rw [lookL_at _ _ _ (by simpa using hi), Int.one_mul]
theorem lin_id (n : Nat) : IsLin (fun xs => xs) n n := by
  refine lin_one (fun _ => 1) (fun i => i) (fun _ => .inr rfl) (fun xs lx _ => ?_)
  show xs = _
  conv => lhs; rw [list_map_range xs n lx]
  exact List.map_congr_left (fun i _ => by rw [Int.one_mul])
theorem lin_take (ys : List Int) (long D n N : Nat) : IsLin (fun xs => takeL xs ys long D N) n N := by
  refine lin_one (fun j => if 0 ≤ ys[j / long]?.getD 0 ∧ ys[j / long]?.getD 0 < (D : Int) then 1 else 0) (fun j => (ys[j / long]?.getD 0).toNat * long + j % long) (fun j => by by_cases h : 0 ≤ ys[j / long]?.getD 0 ∧ ys[j / long]?.getD 0 < (D : Int); exact .inr (if_pos h); exact .inl (if_neg h)) (fun xs _ _ => ?_)
  show takeL xs ys long D N = _
  unfold takeL
  refine List.map_congr_left (fun j _ => ?_)
  by_cases h : 0 ≤ ys[j / long]?.getD 0 ∧ ys[j / long]?.getD 0 < (D : Int)
  · rw [if_pos h, if_pos h, Int.one_mul]
  · rw [if_neg h, if_neg h, Int.zero_mul]
theorem lin_put (ys : List Int) (long m n N : Nat) : IsLin (fun xs => putL xs ys long N m) n N := by
  refine lin_gather (K := m) (fun i t => if ys[t]?.getD 0 = ((i / long : Nat) : Int) then 1 else 0) (fun i t => t * long + i % long) (fun xs _ _ => ?_)
  show putL xs ys long N m = _
  unfold putL
  refine List.map_congr_left (fun i _ => ?_)
  congr 1
  refine sumN_ext m (fun t _ => ?_)
  by_cases h : ys[t]?.getD 0 = ((i / long : Nat) : Int)
  · rw [if_pos h, if_pos h, Int.one_mul]
  · rw [if_neg h, if_neg h, Int.zero_mul]
theorem addS_at {zs Q xs : List Int} (hz : Bnd zs) (i : Nat) (hi : i < zs.length) : ∀ k, (∀ j : Nat, j < k → 0 ≤ Q[j]?.getD 0 ∧ Q[j]?.getD 0 < (zs.length : Int)) → (addS zs Q xs k)[i]?.getD 0 = IntKind.i64.wrap (zs[i]?.getD 0 + sumN (fun j => (if Q[j]?.getD 0 = (i : Int) then 1 else 0) * xs[j]?.getD 0) k)
  | 0, _ => by
    have := bnd_at hz i
    rw [addS, sumN, Int.add_zero, wrap_in _ this.1 this.2]
  | k + 1, h => by
    have ih := addS_at (xs := xs) hz i hi k (fun j hj => h j (by omega))
    have hq := h k (by omega)
    rw [addS, sumN]
    by_cases e : Q[k]?.getD 0 = (i : Int)
    · rw [if_pos e, e, Int.toNat_natCast, List.getElem?_set_self (by rw [addS_length]; exact hi)]
      simp only [Option.getD_some]
      rw [ih, w64, wrap_addl, Int.one_mul, Int.add_assoc]
    · rw [if_neg e, List.getElem?_set_ne (by omega), ih, Int.zero_mul, Int.add_zero]
theorem lin_land (Q : List Int) (n N : Nat) (h : ∀ j, j < n → 0 ≤ Q[j]?.getD 0 ∧ Q[j]?.getD 0 < N) : IsLin (fun xs => addS (List.replicate N 0) Q xs n) n N := by
  refine lin_gather (K := n) (fun i j => if Q[j]?.getD 0 = (i : Int) then 1 else 0) (fun _ j => j) (fun xs _ _ => ?_)
  show addS (List.replicate N 0) Q xs n = _
  rw [list_map_range (addS (List.replicate N 0) Q xs n) N (by rw [addS_length]; simp)]
  refine List.map_congr_left (fun i hi => ?_)
  have hi' : i < N := by simpa using hi
  rw [addS_at (fun x hx => by simp at hx; rw [hx.2]; omega) i (by simpa using hi') n (fun j hj => by simpa using h j hj), replicate_zero_at, Int.zero_add]
theorem lin_dot (Q y : List Int) (long rows cols n N : Nat) (hb : ∀ i, i < N → i / cols * long + long ≤ Q.length) : IsLin (fun xs => dotF (lookL xs Q) y long rows cols N) n N := by
  refine lin_gather (K := long) (fun i k => (sub y ((i / cols / rows * cols + i % cols) * long) long)[k]?.getD 0) (fun i k => (Q[i / cols * long + k]?.getD 0).toNat) (fun xs _ _ => ?_)
  show dotF (lookL xs Q) y long rows cols N = _
  unfold dotF
  refine List.map_congr_left (fun i hi => ?_)
  have hi' : i < N := by simpa using hi
  rw [innS_sum]
  congr 1
  refine sumN_ext long (fun k hk => ?_)
  have := hb i hi'
  rw [sub_at (lookL xs Q) _ _ _ hk, lookL_at _ _ _ (by omega), Int.mul_comm]
end Go.Proofs.YtoagnhppjlcpkaaGreat.V

/-
  What Do makes of one array, in what it makes go with sums.
-/
namespace Go.Proofs.YtoagnhppjlcpkaaGreat.V
set_option maxRecDepth 20000
open Go.RowKit

theorem dimsP_parts {k : Int} {es ps lo hi st : List Int} {xss : List (List Int)} (h : (dimsP k es ps lo hi st xss).2 = 0) : (shapeP k es ps lo hi st xss).2 = 0 ∧ sizeE (shapeP k es ps lo hi st xss).1 = 0 ∧ (dimsP k es ps lo hi st xss).1 = (shapeP k es ps lo hi st xss).1 := by
  unfold dimsP at h ⊢
  by_cases c1 : takesE k xss.length ≠ 0
  · rw [if_pos c1] at h; exact absurd h c1
  rw [if_neg c1] at h ⊢
  by_cases c2 : sizesE xss ≠ 0
  · rw [if_pos c2] at h; exact absurd h c2
  rw [if_neg c2] at h ⊢
  by_cases c3 : (shapeP k es ps lo hi st xss).2 ≠ 0
  · rw [if_pos c3] at h; exact absurd h c3
  rw [if_neg c3] at h ⊢
  by_cases c4 : sizeE (shapeP k es ps lo hi st xss).1 ≠ 0
  · rw [if_pos c4] at h; exact absurd h c4
  rw [if_neg c4]
  exact ⟨Decidable.not_not.1 c3, Decidable.not_not.1 c4, rfl⟩
theorem arrsE_congr {v v' : Nat → ArrV} : ∀ m, (∀ j, j < m → (v j).ds = (v' j).ds ∧ (v j).xl = (v' j).xl) → arrsE v m = arrsE v' m
  | 0, _ => rfl
  | m + 1, h => by rw [arrsE, arrsE, arrsE_congr m (fun j hj => h j (by omega)), (h m (by omega)).1, (h m (by omega)).2]
theorem doE_congr {k : Int} {es ps lo hi st : List Int} {m : Nat} {v v' : Nat → ArrV} (h : ∀ j, j < m → (v j).ds = (v' j).ds ∧ (v j).xl = (v' j).xl) : doE k es ps lo hi st m v = doE k es ps lo hi st m v' := by
  have hd : dimsOf m v = dimsOf m v' := by
    unfold dimsOf
    exact List.map_congr_left (fun j hj => (h j (by simpa using hj)).1)
  unfold doE
  rw [arrsE_congr m h, hd]
/-- One array, of which nothing but its dimensions and how many numbers it has is known. -/
def oneV (ds : List Int) (n : Nat) (_ : Nat) : ArrV := ⟨none, 0, 0, ds, none, n, 0⟩
theorem oneV_parts {k : Int} {es ps lo hi st ds : List Int} {n : Nat} (h : doE k es ps lo hi st 1 (oneV ds n) = 0) : arrE ds n = 0 ∧ (shapeP k es ps lo hi st [ds]).2 = 0 ∧ sizeE (shapeP k es ps lo hi st [ds]).1 = 0 ∧ (dimsP k es ps lo hi st [ds]).1 = (shapeP k es ps lo hi st [ds]).1 := by
  obtain ⟨_, c2, c3⟩ := doE_ok h
  exact ⟨arrsE_ok 1 c2 0 (by omega), dimsP_parts c3⟩

/-- What Do answers, where it tells no error. -/
def DoesTo (W : World) (L f : List Int) (N : Nat) (e : Ending) (W' : World) : Prop :=
  ∃ (Z : Option Addr) (nz cz G : Nat), e = .returned (.tuple #[.agg #[.slice Z nz cz, .slice (some ⟨G, 0, none⟩) N N], .int .i64 0]) ∧ (Ints W' Z nz L ∧ nz ≤ cz) ∧ Ints W' (some ⟨G, 0, none⟩) N f ∧ W.heap.size ≤ G
/-- Of one array Do makes what goes with sums. -/
def Lin1 (w : World) (op : Value) (ds : List Int) (n : Nat) : Prop :=
  ∃ (L : List Int) (N : Nat) (f : List Int → List Int), IsLin f n N ∧ arrE L N = 0 ∧ ∀ (W : World) (b off cap : Nat) (da : Option Addr) (dl dc : Nat) (xa : Option Addr) (xc : Nat) (xs : List Int),
    Below w.heap.size w W → W.cell? ⟨b, off, none⟩ = some (.slice da dl dc) → W.cell? ⟨b, off + 1, none⟩ = some (.slice xa n xc) → Lst W da dl dc ds → Ints W xa n xs → n ≤ xc →
    Calls Tryz.prog 7 #[op, .slice (some ⟨b, off, none⟩) 1 cap] W fun e W' => DoesTo W L (f xs) N e W' ∧ Below W.heap.size W W'
theorem arrE_of {L : List Int} (h : sizeE L = 0) : arrE L (prod L).toNat = 0 ∧ ((prod L).toNat : Int) = prod L := by
  have hp : 0 ≤ prod L := by
    rcases dims_cases h with ⟨_, _, h3⟩ | ⟨_, _, _, h4⟩ <;> omega
  have he : ((prod L).toNat : Int) = prod L := by omega
  refine ⟨?_, he⟩
  unfold arrE
  rw [if_neg (by rw [h]; simp), if_neg (by rw [size_prod h, he]; simp)]
theorem off_new {w W : World} {X : Option Addr} {n g : Nat} {xs : List Int} (h : Ints w X n xs) (hn : 0 < n) (hg : w.heap.size ≤ g) : OffG g X := fun b o e => by
  obtain ⟨b', o', e', hb', _⟩ := h.at hn
  rw [e] at e'; cases e'
  have := W.heap.size
  omega

/-- What looks at an array through a view. -/
theorem do_look (k : Int) (hk : k = 9 ∨ k = 11 ∨ k = 13 ∨ k = 15) (x : Int) (ea : Option Addr) (el ec : Nat) (es : List Int) (pa : Option Addr) (pl pc : Nat) (ps : List Int) (la : Option Addr) (ll lc : Nat) (lo : List Int) (ha : Option Addr) (hl hc : Nat) (hi : List Int) (ta : Option Addr) (tl tc : Nat) (st : List Int) (ds : List Int) (n : Nat) (S : Int) (D Tt : List Int) (w : World)
    (he : Lst w ea el ec es) (hp : Lst w pa pl pc ps) (hlo : Lst w la ll lc lo) (hhi : Lst w ha hl hc hi) (hst : Lst w ta tl tc st) (b0 : el ≤ 1048576) (b1 : pl ≤ 1048576) (b2 : ll ≤ 1048576) (b3 : hl ≤ 1048576) (b4 : tl ≤ 1048576) (hE : doE k es ps lo hi st 1 (oneV ds n) = 0) (hL : (shapeP k es ps lo hi st [ds]).1 = D) (hwr : wrongE S D Tt = 0) (hq : ∀ i : Nat, i < (prod D).toNat → ∃ p : Nat, p < (prod ds).toNat ∧ (readsV S D Tt)[i]?.getD 0 = (p : Int))
    (hseen : ∀ (W : World) (da : Option Addr) (dl dc : Nat), Below w.heap.size w W → Ints W da dl ds → Calls Tryz.prog 54 #[.agg #[.int .i64 k, .slice ea el ec, .slice pa pl pc, .slice la ll lc, .slice ha hl hc, .slice ta tl tc, .int .i64 x], .slice da dl dc] W fun e W' => Seen S D Tt e W' ∧ Below W.heap.size W W') :
    Lin1 w (.agg #[.int .i64 k, .slice ea el ec, .slice pa pl pc, .slice la ll lc, .slice ha hl hc, .slice ta tl tc, .int .i64 x]) ds n := by
  obtain ⟨hae, hs1, hs2, hs3⟩ := oneV_parts hE
  rw [hL] at hs2 hs3
  obtain ⟨haL, hN⟩ := arrE_of hs2
  have hn := (arrE_ok hae).2.1
  have hlen : (readsV S D Tt).length = (prod D).toNat := readsV_length _ _ _
  have hlin := lin_look (readsV S D Tt) n
  rw [hlen] at hlin
  refine ⟨D, (prod D).toNat, fun xs => lookL xs (readsV S D Tt), hlin, haL, ?_⟩
  intro W b off cap da dl dc xa xc xs hW c0 c1 hd hx hxc
  have hn6 := (arrE_ok haL).2.2
  have hbk := lt_of_cell c0
  refine Do_good k x ea el ec es pa pl pc ps la ll lc lo ha hl hc hi ta tl tc st (some ⟨b, off, none⟩) 1 cap (fun _ => ⟨da, dl, dc, ds, xa, n, xc⟩) D (prod D).toNat (lookL xs (readsV S D Tt)) W (he.below hW) (hp.below hW) (hlo.below hW) (hhi.below hW) (hst.below hW) b0 b1 b2 b3 b4 (.inr ⟨b, off, rfl, fun j hj => by obtain rfl : j = 0 := by { omega }; exact ⟨c0, c1, hd⟩⟩) (by omega) ((doE_congr (fun j _ => ⟨rfl, rfl⟩)).trans hE) hs3.symm hN ((lookL_length _ _).trans hlen) (lookL_bd hx.2.2.1) ?_
  intro hpos W2 Z nz cz g hW2 hg _ _ hrow
  have hn0 : 0 < n := by
    obtain ⟨p, hp', _⟩ := hq 0 hpos
    omega
  have hWW := hW.trans (hW2.mono hW.size)
  exact work_look k x hk (.slice ea el ec) (.slice pa pl pc) (.slice la ll lc) (.slice ha hl hc) (.slice ta tl tc) Z nz cz g (prod D).toNat b off 1 cap (.slice da dl dc) xa n xc xs (readsV S D Tt) W2 (by omega) ((hW2.cell (p := ⟨b, off, none⟩) (lt_of_cell c0)).trans c0) ((hW2.cell (p := ⟨b, off + 1, none⟩) (lt_of_cell c1)).trans c1) (hx.below hW2) (off_new (W := W) hx hn0 hg) hrow (by omega) hlen (fun i hi => by
      obtain ⟨p, hp', e⟩ := hq i hi
      rw [e]; omega) (fun W3 hW3 => lookedAt_gen k x (.slice ea el ec) (.slice pa pl pc) (.slice la ll lc) (.slice ha hl hc) (.slice ta tl tc) da dl dc (.slice xa n xc) S D Tt W3 (fun W4 hW4 => by
        have h3 := hWW.trans (hW3.mono hWW.size)
        have h4 := h3.trans (hW4.mono h3.size)
        have g3 := hW2.trans (hW3.mono hW2.size)
        exact hseen W4 da dl dc h4 (hd.1.below (g3.trans (hW4.mono g3.size)))) hwr)
end Go.Proofs.YtoagnhppjlcpkaaGreat.V

/-
  Dimensions of what goes with sums: what may be asked, and where entries lie.
-/
namespace Go.Proofs.YtoagnhppjlcpkaaGreat.V
set_option maxRecDepth 20000
open Go.RowKit

theorem cut_whole {ds lo hi st : List Int} (h1 : sizeE ds = 0) (hl : lensB ds.length lo hi st = true) (hb : anyBad ds lo hi st = false) : cutE 0 ds (stepsV ds) lo hi st = 0 := by
  have hbw : beyondB (cutAcc 0 (stepsV ds) lo ds.length) (cutS (stepsV ds) st) = false := by
    have ha := cutAcc_whole h1 hb ds.length (Nat.le_refl _)
    have h6 := (sizeE_ok h1).1
    refine far_of (by omega) fun x hx => ?_
    simp only [cutS, List.mem_map, List.mem_range, stepsV_len] at hx
    obtain ⟨k, hk, rfl⟩ := hx
    have h4 := badCut_false (of_anyBad_false hb k hk)
    have h5 := steps_bd h1 k
    have h7 : 0 ≤ st[k]?.getD 0 * (stepsV ds)[k]?.getD 0 := Int.mul_nonneg (by omega) h5.1
    have h8 : st[k]?.getD 0 * (stepsV ds)[k]?.getD 0 ≤ 4096 * 65536 := Int.mul_le_mul h4.2.2.2.2 h5.2 h5.1 (by omega)
    omega
  unfold cutE
  rw [if_neg (by simp [wrong_whole h1]), if_pos hl, if_neg (by rw [hb]; simp), if_neg (by rw [hbw]; simp)]

theorem mem_freeL {xs : List Int} : ∀ {n : Nat} {x : Int}, x ∈ freeL xs n ↔ ∃ k : Nat, k < n ∧ x = (k : Int) ∧ inB xs k = false
  | 0, x => by simp [freeL]
  | n + 1, x => by
    rw [freeL, List.mem_append, mem_freeL]
    constructor
    · rintro (⟨k, hk, h⟩ | h)
      · exact ⟨k, by omega, h⟩
      · by_cases c : inB xs n = true
        · rw [if_pos c] at h; cases h
        · rw [if_neg c] at h
          exact ⟨n, by omega, by simpa using h, by simpa using c⟩
    · rintro ⟨k, hk, h1, h2⟩
      by_cases e : k = n
      · subst e
        exact .inr (by rw [if_neg (by rw [h2]; simp)]; simpa using h1)
      · exact .inl ⟨k, by omega, h1, h2⟩
theorem inB_iff {xs : List Int} {k : Nat} : inB xs k = true ↔ (k : Int) ∈ xs := by simp [inB]
theorem inB_not {xs : List Int} {k : Nat} : inB xs k = false ↔ (k : Int) ∉ xs := by rw [← inB_iff]; simp
theorem freeL_congr {xs ys : List Int} : ∀ n, (∀ k : Nat, k < n → inB xs k = inB ys k) → freeL xs n = freeL ys n
  | 0, _ => rfl
  | n + 1, h => by rw [freeL, freeL, freeL_congr n (fun k hk => h k (by omega)), h n (by omega)]
theorem freeL_count : ∀ (n : Nat) (xs : List Int), xs.Nodup → (∀ x ∈ xs, 0 ≤ x ∧ x < n) → (freeL xs n).length + xs.length = n
  | 0, xs, _, h => by
    have : xs = [] := by
      cases xs with
      | nil => rfl
      | cons a l => have := h a (by simp); omega
    rw [this]; rfl
  | n + 1, xs, hn, h => by
    rw [freeL]
    by_cases c : inB xs n = true
    · rw [if_pos c, List.append_nil]
      have hm := inB_iff.1 c
      have ih := freeL_count n (xs.erase (n : Int)) (hn.erase _) (fun x hx => by
        have h1 := List.mem_of_mem_erase hx
        have h2 : x ≠ (n : Int) := ((hn.mem_erase_iff).1 hx).1
        have := h x h1
        omega)
      rw [List.length_erase_of_mem hm] at ih
      have hc : freeL xs n = freeL (xs.erase (n : Int)) n := freeL_congr n (fun k hk => by
        rw [Bool.eq_iff_iff, inB_iff, inB_iff, hn.mem_erase_iff]
        constructor
        · intro h; exact ⟨by omega, h⟩
        · intro h; exact h.2)
      have hp := List.length_pos_of_mem hm
      rw [hc]; omega
    · rw [if_neg c]
      have hnm : (n : Int) ∉ xs := fun h => c (inB_iff.2 h)
      have ih := freeL_count n xs hn (fun x hx => by
        have := h x hx
        have : x ≠ (n : Int) := fun e => hnm (e ▸ hx)
        omega)
      simp; omega
theorem rise_up {l : List Int} {n : Nat} (h : RiseOk l n) : RiseOk l (n + 1) := fun i hi => by
  have := h i hi
  exact ⟨this.1, by omega, this.2.2⟩
theorem rise_snoc {l : List Int} {n : Nat} (h : RiseOk l n) : RiseOk (l ++ [(n : Int)]) (n + 1) := fun i hi => by
  simp only [List.length_append, List.length_cons, List.length_nil] at hi
  by_cases e : i < l.length
  · have h1 := h i e
    rw [List.getElem?_append_left e]
    refine ⟨h1.1, by omega, fun h0 => ?_⟩
    rw [List.getElem?_append_left (by omega)]
    exact h1.2.2 h0
  · obtain rfl : i = l.length := by omega
    rw [List.getElem?_append_right (Nat.le_refl _)]
    simp only [Nat.sub_self, List.getElem?_cons_zero, Option.getD_some]
    refine ⟨by omega, by omega, fun h0 => ?_⟩
    rw [List.getElem?_append_left (by omega)]
    exact (h (l.length - 1) (by omega)).2.1
theorem freeL_rise (xs : List Int) : ∀ n, RiseOk (freeL xs n) n
  | 0 => fun i hi => by simp [freeL] at hi
  | n + 1 => by
    rw [freeL]
    by_cases c : inB xs n = true
    · rw [if_pos c, List.append_nil]; exact rise_up (freeL_rise xs n)
    · rw [if_neg c]; exact rise_snoc (freeL_rise xs n)
theorem rise_nodup {l : List Int} {n : Nat} (h : RiseOk l n) : l.Nodup := (once_iff.1 (once_of_rise h)).2
theorem taken_at (ds ps : List Int) (j : Nat) (h : j < ps.length) : (taken ds ps)[j]?.getD 0 = ds[(ps[j]?.getD 0).toNat]?.getD 0 := by simp [taken, h]
theorem taken_append (ds ps qs : List Int) : taken ds (ps ++ qs) = taken ds ps ++ taken ds qs := by simp [taken]

/-- Where the entries of what is summed go. -/
theorem sum_spread {ds ps : List Int} (hz : sizeE ds = 0) (hL : sizeE (taken ds (freeL ps ds.length)) = 0) : sprE 0 (taken ds (freeL ps ds.length)) (stepsV (taken ds (freeL ps ds.length))) ds (freeL ps ds.length) = 0 := by
  unfold sprE
  rw [if_neg (by rw [wrong_whole hL]; simp), if_neg (by rw [hz]; simp), if_pos ⟨(taken_length _ _).symm, (riseB_iff _ _).2 (freeL_rise _ _)⟩, if_neg]
  rw [anyMis_false (fun j hj => ?_)]
  · simp
  · unfold misAt
    rw [taken_at _ _ _ hj]
    simp

theorem of_anyPad_false {n : Nat} {lo hi st : List Int} (h : anyPad n lo hi st = false) (j : Nat) (hj : j < n) : (0 ≤ lo[j]?.getD 0 ∧ lo[j]?.getD 0 ≤ 4096) ∧ (0 ≤ hi[j]?.getD 0 ∧ hi[j]?.getD 0 ≤ 4096) ∧ 1 ≤ st[j]?.getD 0 ∧ st[j]?.getD 0 ≤ 4096 := by
  unfold anyPad at h
  rw [List.any_eq_false] at h
  have := h j (by simpa using hj)
  simp only [padBad, Bool.or_eq_true, decide_eq_true_eq] at this
  omega
theorem kept_pad {d l t : Int} (hd : 0 ≤ d) (ht : 1 ≤ t) : keptN l (l + (if 0 < d then (d - 1) * t + 1 else 0)) t = d := by
  unfold keptN
  by_cases h : 0 < d
  · rw [if_pos h]
    have e : l + ((d - 1) * t + 1) - l + t - 1 = t * d := by rw [Int.sub_mul, Int.one_mul, Int.mul_comm t d]; omega
    rw [e, Int.mul_ediv_cancel_left _ (by omega)]
  · rw [if_neg h]
    have : d = 0 := by omega
    subst this
    have e : l + 0 - l + t - 1 = t - 1 := by omega
    rw [e, Int.ediv_eq_zero_of_lt (by omega) (by omega)]
/-- What is padded is cut out again. -/
theorem pad_cut {ds lo hi st : List Int} (hz : sizeE ds = 0) (hl : lensB ds.length lo hi st = true) (hb : anyPad ds.length lo hi st = false) :
    lensB (padD ds lo hi st).length lo (endL (padD ds lo hi st) hi) st = true ∧ anyBad (padD ds lo hi st) lo (endL (padD ds lo hi st) hi) st = false ∧ cutD (padD ds lo hi st) lo (endL (padD ds lo hi st) hi) st = ds := by
  obtain ⟨l1, l2, l3⟩ := lensB_true.1 hl
  have hpl := padD_length ds lo hi st
  have he : ∀ j, j < ds.length → (endL (padD ds lo hi st) hi)[j]?.getD 0 = lo[j]?.getD 0 + (if 0 < ds[j]?.getD 0 then (ds[j]?.getD 0 - 1) * st[j]?.getD 0 + 1 else 0) := fun j hj => by
    rw [endL_at _ _ _ (by rw [hpl]; exact hj), padD_getD _ _ _ _ _ hj, padV]; omega
  have hd : ∀ j, j < ds.length → 0 ≤ ds[j]?.getD 0 := fun j hj => ((sizeE_ok hz).2.1 _ (mem_getD ds j hj)).1
  have hm : ∀ j, j < ds.length → 0 ≤ (if 0 < ds[j]?.getD 0 then (ds[j]?.getD 0 - 1) * st[j]?.getD 0 + 1 else 0) := fun j hj => by
    have := of_anyPad_false hb j hj
    split
    · have : 0 ≤ (ds[j]?.getD 0 - 1) * st[j]?.getD 0 := Int.mul_nonneg (by omega) (by omega)
      omega
    · omega
  refine ⟨?_, anyBad_false (fun j hj => ?_), ?_⟩
  · rw [lensB_true, hpl, endL_length, hpl]
    exact ⟨l1, rfl, l3⟩
  · rw [hpl] at hj
    have h1 := of_anyPad_false hb j hj
    have h2 := hm j hj
    unfold badAt badCut
    rw [he j hj, padD_getD _ _ _ _ _ hj, padV]
    simp only [Bool.or_eq_false_iff, decide_eq_false_iff_not]
    omega
  · unfold cutD
    rw [hpl]
    conv => rhs; rw [← map_getD_range ds]
    refine List.map_congr_left (fun j hj => ?_)
    have hj' : j < ds.length := by simpa using hj
    rw [he j hj', kept_pad (hd j hj') (of_anyPad_false hb j hj').2.2.1]

/-- How a Dot looks at an array is a turn. -/
theorem dot_perm {lo ps : List Int} {n : Nat} (h : Once (lo ++ ps) n) : PermOk (lo ++ freeL (lo ++ ps) n ++ ps) n := by
  obtain ⟨hb, hn⟩ := once_iff.1 h
  have hc := freeL_count n (lo ++ ps) hn hb
  have hlen : (lo ++ freeL (lo ++ ps) n ++ ps).length = n := by
    simp only [List.length_append] at hc ⊢; omega
  have hon : Once (lo ++ freeL (lo ++ ps) n ++ ps) n := by
    rw [once_iff]
    have hfb : ∀ x ∈ freeL (lo ++ ps) n, x ∉ lo ++ ps := fun x hx => by
      obtain ⟨k, _, rfl, hk⟩ := mem_freeL.1 hx
      exact inB_not.1 hk
    rw [List.nodup_append] at hn
    obtain ⟨n1, n2, n3⟩ := hn
    refine ⟨fun x hx => ?_, ?_⟩
    · rcases List.mem_append.1 hx with hx | hx
      · rcases List.mem_append.1 hx with hx | hx
        · exact hb x (List.mem_append_left _ hx)
        · exact freeL_bd _ _ x hx
      · exact hb x (List.mem_append_right _ hx)
    · rw [List.nodup_append, List.nodup_append]
      refine ⟨⟨n1, rise_nodup (freeL_rise _ _), fun a ha b hb' e => ?_⟩, n2, fun a ha b hb' e => ?_⟩
      · subst e; exact hfb a hb' (List.mem_append_left _ ha)
      · subst e
        rcases List.mem_append.1 ha with ha | ha
        · exact n3 a ha a hb' rfl
        · exact hfb a ha (List.mem_append_right _ hb')
  refine ⟨hlen, ?_⟩
  unfold Once at hon
  rw [hlen] at hon
  exact hon
end Go.Proofs.YtoagnhppjlcpkaaGreat.V

/-
  What Do makes of one array, kind by kind.
-/
namespace Go.Proofs.YtoagnhppjlcpkaaGreat.V
set_option maxRecDepth 20000
open Go.RowKit

theorem lin_spread (x : Int) (ea : Option Addr) (el ec : Nat) (es : List Int) (pa : Option Addr) (pl pc : Nat) (ps : List Int) (la : Option Addr) (ll lc : Nat) (lo : List Int) (ha : Option Addr) (hl hc : Nat) (hi : List Int) (ta : Option Addr) (tl tc : Nat) (st : List Int) (ds : List Int) (n : Nat) (w : World)
    (he : Lst w ea el ec es) (hp : Lst w pa pl pc ps) (hlo : Lst w la ll lc lo) (hhi : Lst w ha hl hc hi) (hst : Lst w ta tl tc st) (b0 : el ≤ 1048576) (b1 : pl ≤ 1048576) (b2 : ll ≤ 1048576) (b3 : hl ≤ 1048576) (b4 : tl ≤ 1048576) (hE : doE 9 es ps lo hi st 1 (oneV ds n) = 0) : Lin1 w (.agg #[.int .i64 9, .slice ea el ec, .slice pa pl pc, .slice la ll lc, .slice ha hl hc, .slice ta tl tc, .int .i64 x]) ds n := by
  obtain ⟨hae, hs1, hs2, _⟩ := oneV_parts hE
  have e0 : sprE 0 ds (stepsV ds) es ps = 0 := hs1
  obtain ⟨_, _, _, t4, t5⟩ := thr_spread e0
  have hL : (shapeP 9 es ps lo hi st [ds]).1 = es := by
    show okL (sprE 0 ds (stepsV ds) es ps) (es) = _
    rw [e0]; rfl
  refine do_look 9 (by omega) x ea el ec es pa pl pc ps la ll lc lo ha hl hc hi ta tl tc st ds n (0) (es) (sprS es.length (stepsV ds) ps) w he hp hlo hhi hst b0 b1 b2 b3 b4 hE hL t4 (fun i hi' => ?_) (fun W da dl dc hW hd => ?_)
  · obtain ⟨p, h1, h2, _⟩ := t5 i hi'
    exact ⟨p, h1, h2⟩
  · refine (seen_spread 9 x da dl dc ds ea el ec es pa pl pc ps la ll lc lo ha hl hc hi ta tl tc st W hd (he.1.below hW) (hp.1.below hW) (hlo.1.below hW) (hhi.1.below hW) (hst.1.below hW) (arrE_ok hae).1 rfl).mono ?_
    rintro e W' ⟨⟨a, b, c', d, f, g, rfl, h1, h2, _⟩, hb⟩
    rw [e0] at h1 h2 ⊢
    exact ⟨⟨a, b, c', d, f, g, 0, rfl, h1, h2⟩, hb⟩
theorem lin_turn (x : Int) (ea : Option Addr) (el ec : Nat) (es : List Int) (pa : Option Addr) (pl pc : Nat) (ps : List Int) (la : Option Addr) (ll lc : Nat) (lo : List Int) (ha : Option Addr) (hl hc : Nat) (hi : List Int) (ta : Option Addr) (tl tc : Nat) (st : List Int) (ds : List Int) (n : Nat) (w : World)
    (he : Lst w ea el ec es) (hp : Lst w pa pl pc ps) (hlo : Lst w la ll lc lo) (hhi : Lst w ha hl hc hi) (hst : Lst w ta tl tc st) (b0 : el ≤ 1048576) (b1 : pl ≤ 1048576) (b2 : ll ≤ 1048576) (b3 : hl ≤ 1048576) (b4 : tl ≤ 1048576) (hE : doE 11 es ps lo hi st 1 (oneV ds n) = 0) : Lin1 w (.agg #[.int .i64 11, .slice ea el ec, .slice pa pl pc, .slice la ll lc, .slice ha hl hc, .slice ta tl tc, .int .i64 x]) ds n := by
  obtain ⟨hae, hs1, hs2, _⟩ := oneV_parts hE
  have e0 : turnE 0 ds (stepsV ds) ps = 0 := hs1
  obtain ⟨_, _, _, t4, t5⟩ := thr_turn e0
  have hL : (shapeP 11 es ps lo hi st [ds]).1 = taken ds ps := by
    show okL (turnE 0 ds (stepsV ds) ps) (taken ds ps) = _
    rw [e0]; rfl
  refine do_look 11 (by omega) x ea el ec es pa pl pc ps la ll lc lo ha hl hc hi ta tl tc st ds n (0) (taken ds ps) (taken (stepsV ds) ps) w he hp hlo hhi hst b0 b1 b2 b3 b4 hE hL t4 (fun i hi' => ?_) (fun W da dl dc hW hd => ?_)
  · obtain ⟨p, h1, h2, _⟩ := t5 i hi'
    exact ⟨p, h1, h2⟩
  · refine (seen_turn 11 x da dl dc ds ea el ec es pa pl pc ps la ll lc lo ha hl hc hi ta tl tc st W hd (he.1.below hW) (hp.1.below hW) (hlo.1.below hW) (hhi.1.below hW) (hst.1.below hW) (arrE_ok hae).1 rfl).mono ?_
    rintro e W' ⟨⟨a, b, c', d, f, g, rfl, h1, h2, _⟩, hb⟩
    rw [e0] at h1 h2 ⊢
    exact ⟨⟨a, b, c', d, f, g, 0, rfl, h1, h2⟩, hb⟩
theorem lin_cut (x : Int) (ea : Option Addr) (el ec : Nat) (es : List Int) (pa : Option Addr) (pl pc : Nat) (ps : List Int) (la : Option Addr) (ll lc : Nat) (lo : List Int) (ha : Option Addr) (hl hc : Nat) (hi : List Int) (ta : Option Addr) (tl tc : Nat) (st : List Int) (ds : List Int) (n : Nat) (w : World)
    (he : Lst w ea el ec es) (hp : Lst w pa pl pc ps) (hlo : Lst w la ll lc lo) (hhi : Lst w ha hl hc hi) (hst : Lst w ta tl tc st) (b0 : el ≤ 1048576) (b1 : pl ≤ 1048576) (b2 : ll ≤ 1048576) (b3 : hl ≤ 1048576) (b4 : tl ≤ 1048576) (hE : doE 13 es ps lo hi st 1 (oneV ds n) = 0) : Lin1 w (.agg #[.int .i64 13, .slice ea el ec, .slice pa pl pc, .slice la ll lc, .slice ha hl hc, .slice ta tl tc, .int .i64 x]) ds n := by
  obtain ⟨hae, hs1, hs2, _⟩ := oneV_parts hE
  have e0 : cutE 0 ds (stepsV ds) lo hi st = 0 := hs1
  obtain ⟨_, _, _, t4, t5⟩ := thr_cut e0
  have hL : (shapeP 13 es ps lo hi st [ds]).1 = cutD ds lo hi st := by
    show okL (cutE 0 ds (stepsV ds) lo hi st) (cutD ds lo hi st) = _
    rw [e0]; rfl
  refine do_look 13 (by omega) x ea el ec es pa pl pc ps la ll lc lo ha hl hc hi ta tl tc st ds n (cutAcc 0 (stepsV ds) lo ds.length) (cutD ds lo hi st) (cutS (stepsV ds) st) w he hp hlo hhi hst b0 b1 b2 b3 b4 hE hL t4 (fun i hi' => ?_) (fun W da dl dc hW hd => ?_)
  · obtain ⟨p, h1, h2, _⟩ := t5 i hi'
    exact ⟨p, h1, h2⟩
  · refine (seen_cut 13 x da dl dc ds ea el ec es pa pl pc ps la ll lc lo ha hl hc hi ta tl tc st W hd (he.1.below hW) (hp.1.below hW) (hlo.1.below hW) (hhi.1.below hW) (hst.1.below hW) (arrE_ok hae).1 rfl).mono ?_
    rintro e W' ⟨⟨a, b, c', d, f, g, rfl, h1, h2, _⟩, hb⟩
    rw [e0] at h1 h2 ⊢
    exact ⟨⟨a, b, c', d, f, g, 0, rfl, h1, h2⟩, hb⟩
theorem lin_flip (x : Int) (ea : Option Addr) (el ec : Nat) (es : List Int) (pa : Option Addr) (pl pc : Nat) (ps : List Int) (la : Option Addr) (ll lc : Nat) (lo : List Int) (ha : Option Addr) (hl hc : Nat) (hi : List Int) (ta : Option Addr) (tl tc : Nat) (st : List Int) (ds : List Int) (n : Nat) (w : World)
    (he : Lst w ea el ec es) (hp : Lst w pa pl pc ps) (hlo : Lst w la ll lc lo) (hhi : Lst w ha hl hc hi) (hst : Lst w ta tl tc st) (b0 : el ≤ 1048576) (b1 : pl ≤ 1048576) (b2 : ll ≤ 1048576) (b3 : hl ≤ 1048576) (b4 : tl ≤ 1048576) (hE : doE 15 es ps lo hi st 1 (oneV ds n) = 0) : Lin1 w (.agg #[.int .i64 15, .slice ea el ec, .slice pa pl pc, .slice la ll lc, .slice ha hl hc, .slice ta tl tc, .int .i64 x]) ds n := by
  obtain ⟨hae, hs1, hs2, _⟩ := oneV_parts hE
  have e0 : flipE 0 ds (stepsV ds) ps = 0 := hs1
  obtain ⟨_, _, _, t4, t5⟩ := thr_flip e0
  have hL : (shapeP 15 es ps lo hi st [ds]).1 = ds := by
    show okL (flipE 0 ds (stepsV ds) ps) (ds) = _
    rw [e0]; rfl
  refine do_look 15 (by omega) x ea el ec es pa pl pc ps la ll lc lo ha hl hc hi ta tl tc st ds n (flipAcc 0 ds (stepsV ds) ps ps.length) (ds) (flipL (stepsV ds) ps) w he hp hlo hhi hst b0 b1 b2 b3 b4 hE hL t4 (fun i hi' => ?_) (fun W da dl dc hW hd => ?_)
  · obtain ⟨p, h1, h2, _⟩ := t5 i hi'
    exact ⟨p, h1, h2⟩
  · refine (seen_flip 15 x da dl dc ds ea el ec es pa pl pc ps la ll lc lo ha hl hc hi ta tl tc st W hd (he.1.below hW) (hp.1.below hW) (hlo.1.below hW) (hhi.1.below hW) (hst.1.below hW) (arrE_ok hae).1 (by decide)).mono ?_
    rintro e W' ⟨⟨a, b, c', d, f, g, rfl, h1, h2, _⟩, hb⟩
    rw [e0] at h1 h2 ⊢
    exact ⟨⟨a, b, c', d, f, g, 0, rfl, h1, h2⟩, hb⟩
theorem lin_reform (x : Int) (ea : Option Addr) (el ec : Nat) (es : List Int) (pa : Option Addr) (pl pc : Nat) (ps : List Int) (la : Option Addr) (ll lc : Nat) (lo : List Int) (ha : Option Addr) (hl hc : Nat) (hi : List Int) (ta : Option Addr) (tl tc : Nat) (st : List Int) (ds : List Int) (n : Nat) (w : World)
    (he : Lst w ea el ec es) (hp : Lst w pa pl pc ps) (hlo : Lst w la ll lc lo) (hhi : Lst w ha hl hc hi) (hst : Lst w ta tl tc st) (b0 : el ≤ 1048576) (b1 : pl ≤ 1048576) (b2 : ll ≤ 1048576) (b3 : hl ≤ 1048576) (b4 : tl ≤ 1048576) (hE : doE 12 es ps lo hi st 1 (oneV ds n) = 0) : Lin1 w (.agg #[.int .i64 12, .slice ea el ec, .slice pa pl pc, .slice la ll lc, .slice ha hl hc, .slice ta tl tc, .int .i64 x]) ds n := by
  obtain ⟨hae, hs1, hs2, hs3⟩ := oneV_parts hE
  have hsh : shapeP 12 es ps lo hi st [ds] = reformP ds es := rfl
  rw [hsh] at hs1 hs2 hs3
  have hz := (arrE_ok hae).1
  have hn := (arrE_ok hae).2.1
  have hn6 := (arrE_ok hae).2.2
  have hp0 : sizeE es = 0 ∧ sizeN es = sizeN ds ∧ (reformP ds es).1 = es := by
    unfold reformP at hs1 ⊢
    by_cases c : sizeE es ≠ 0
    · rw [if_pos c] at hs1; exact absurd hs1 c
    rw [if_neg c] at hs1 ⊢
    by_cases c2 : sizeN es = sizeN ds
    · rw [if_pos c2]; exact ⟨Decidable.not_not.1 c, c2, rfl⟩
    · rw [if_neg c2] at hs1; exact absurd hs1 (by simp)
  obtain ⟨q1, q2, q3⟩ := hp0
  rw [q3] at hs3
  have hpe : (n : Int) = prod es := by rw [hn, ← size_prod hz, ← q2, size_prod q1]
  refine ⟨es, n, fun xs => xs, lin_id n, ?_, ?_⟩
  · unfold arrE
    rw [if_neg (by rw [q1]; simp), if_neg (by rw [size_prod q1, hpe]; simp)]
  intro W b off cap da dl dc xa xc xs hW c0 c1 hd hx hxc
  refine Do_good 12 x ea el ec es pa pl pc ps la ll lc lo ha hl hc hi ta tl tc st (some ⟨b, off, none⟩) 1 cap (fun _ => ⟨da, dl, dc, ds, xa, n, xc⟩) es n xs W (he.below hW) (hp.below hW) (hlo.below hW) (hhi.below hW) (hst.below hW) b0 b1 b2 b3 b4 (.inr ⟨b, off, rfl, fun j hj => by obtain rfl : j = 0 := by { omega }; exact ⟨c0, c1, hd⟩⟩) (by omega) ((doE_congr (fun j _ => ⟨rfl, rfl⟩)).trans hE) hs3.symm hpe hx.1 hx.2.2.1 ?_
  intro hpos W2 Z nz cz g hW2 hg _ _ hrow
  exact work_reform x (.slice ea el ec) (.slice pa pl pc) (.slice la ll lc) (.slice ha hl hc) (.slice ta tl tc) Z nz cz g n b off 1 cap xa xc xs W2 (by omega) ((hW2.cell (p := ⟨b, off + 1, none⟩) (lt_of_cell c1)).trans c1) (hx.below hW2) hrow
theorem lin_sum (x : Int) (ea : Option Addr) (el ec : Nat) (es : List Int) (pa : Option Addr) (pl pc : Nat) (ps : List Int) (la : Option Addr) (ll lc : Nat) (lo : List Int) (ha : Option Addr) (hl hc : Nat) (hi : List Int) (ta : Option Addr) (tl tc : Nat) (st : List Int) (ds : List Int) (n : Nat) (w : World)
    (he : Lst w ea el ec es) (hp : Lst w pa pl pc ps) (hlo : Lst w la ll lc lo) (hhi : Lst w ha hl hc hi) (hst : Lst w ta tl tc st) (b0 : el ≤ 1048576) (b1 : pl ≤ 1048576) (b2 : ll ≤ 1048576) (b3 : hl ≤ 1048576) (b4 : tl ≤ 1048576) (hE : doE 10 es ps lo hi st 1 (oneV ds n) = 0) : Lin1 w (.agg #[.int .i64 10, .slice ea el ec, .slice pa pl pc, .slice la ll lc, .slice ha hl hc, .slice ta tl tc, .int .i64 x]) ds n := by
  obtain ⟨hae, hs1, hs2, hs3⟩ := oneV_parts hE
  have hsh : shapeP 10 es ps lo hi st [ds] = sumP ds ps := rfl
  rw [hsh] at hs1 hs2 hs3
  have hz := (arrE_ok hae).1
  have hn := (arrE_ok hae).2.1
  have hrise : riseB ps ds.length = true ∧ (sumP ds ps).1 = taken ds (freeL ps ds.length) := by
    unfold sumP at hs1 ⊢
    by_cases c : riseB ps ds.length = true
    · rw [if_pos c]; exact ⟨c, rfl⟩
    · rw [if_neg c] at hs1; exact absurd hs1 (by simp)
  obtain ⟨hr, hq1⟩ := hrise
  rw [hq1] at hs2 hs3
  obtain ⟨haL, hN⟩ := arrE_of hs2
  have hsp := sum_spread hz hs2
  obtain ⟨_, _, _, t4, t5⟩ := thr_spread hsp
  have hqq : ∀ j, j < n → 0 ≤ (readsV 0 ds (sprS ds.length (stepsV (taken ds (freeL ps ds.length))) (freeL ps ds.length)))[j]?.getD 0 ∧ (readsV 0 ds (sprS ds.length (stepsV (taken ds (freeL ps ds.length))) (freeL ps ds.length)))[j]?.getD 0 < ((prod (taken ds (freeL ps ds.length))).toNat : Int) := fun j hj => by
    obtain ⟨p, h1, h2, _⟩ := t5 j (by omega)
    rw [h2]; omega
  refine ⟨(taken ds (freeL ps ds.length)), (prod (taken ds (freeL ps ds.length))).toNat, fun xs => addS (List.replicate (prod (taken ds (freeL ps ds.length))).toNat 0) (readsV 0 ds (sprS ds.length (stepsV (taken ds (freeL ps ds.length))) (freeL ps ds.length))) xs n, lin_land _ _ _ hqq, haL, ?_⟩
  intro W b off cap da dl dc xa xc xs hW c0 c1 hd hx hxc
  have hN6 := (arrE_ok haL).2.2
  refine Do_good 10 x ea el ec es pa pl pc ps la ll lc lo ha hl hc hi ta tl tc st (some ⟨b, off, none⟩) 1 cap (fun _ => ⟨da, dl, dc, ds, xa, n, xc⟩) (taken ds (freeL ps ds.length)) (prod (taken ds (freeL ps ds.length))).toNat (addS (List.replicate (prod (taken ds (freeL ps ds.length))).toNat 0) (readsV 0 ds (sprS ds.length (stepsV (taken ds (freeL ps ds.length))) (freeL ps ds.length))) xs n) W (he.below hW) (hp.below hW) (hlo.below hW) (hhi.below hW) (hst.below hW) b0 b1 b2 b3 b4 (.inr ⟨b, off, rfl, fun j hj => by obtain rfl : j = 0 := by { omega }; exact ⟨c0, c1, hd⟩⟩) (by omega) ((doE_congr (fun j _ => ⟨rfl, rfl⟩)).trans hE) hs3.symm hN (by rw [addS_length]; simp) (addS_bd (fun x hx => by simp at hx; rw [hx.2]; omega) _) ?_
  intro hpos W2 Z nz cz g hW2 hg hZ _ hrow
  have hWW := hW.trans (hW2.mono hW.size)
  exact work_land 10 x (by omega) (.slice ea el ec) (.slice pa pl pc) (.slice la ll lc) (.slice ha hl hc) (.slice ta tl tc) Z nz cz g (prod (taken ds (freeL ps ds.length))).toNat b off 1 cap da dl dc xa n xc xs (readsV 0 ds (sprS ds.length (stepsV (taken ds (freeL ps ds.length))) (freeL ps ds.length))) W2 (by omega) ((hW2.cell (p := ⟨b, off, none⟩) (lt_of_cell c0)).trans c0) ((hW2.cell (p := ⟨b, off + 1, none⟩) (lt_of_cell c1)).trans c1) (hx.below hW2) (fun h0 => off_new (W := W) hx h0 hg) hrow (by rw [readsV_length]; omega) hqq (fun W3 hW3 => by {
      have h3 := hWW.trans (hW3.mono hWW.size)
      have hdl := hd.1.1
      subst hdl
      exact landing_sum x (.slice ea el ec) pa pl pc ps la ll lc ha hl hc ta tl tc da ds.length dc ds Z nz cz (taken ds (freeL ps ds.length)) W3 (hp.below h3) (hd.1.below (hW2.trans (hW3.mono hW2.size))) (hZ.below hW3) (sizeE_ok hz).1 (once_of_rise ((riseB_iff _ _).1 hr)) hs2 hsp t4 })
theorem lin_pad (x : Int) (ea : Option Addr) (el ec : Nat) (es : List Int) (pa : Option Addr) (pl pc : Nat) (ps : List Int) (la : Option Addr) (ll lc : Nat) (lo : List Int) (ha : Option Addr) (hl hc : Nat) (hi : List Int) (ta : Option Addr) (tl tc : Nat) (st : List Int) (ds : List Int) (n : Nat) (w : World)
    (he : Lst w ea el ec es) (hp : Lst w pa pl pc ps) (hlo : Lst w la ll lc lo) (hhi : Lst w ha hl hc hi) (hst : Lst w ta tl tc st) (b0 : el ≤ 1048576) (b1 : pl ≤ 1048576) (b2 : ll ≤ 1048576) (b3 : hl ≤ 1048576) (b4 : tl ≤ 1048576) (hE : doE 14 es ps lo hi st 1 (oneV ds n) = 0) : Lin1 w (.agg #[.int .i64 14, .slice ea el ec, .slice pa pl pc, .slice la ll lc, .slice ha hl hc, .slice ta tl tc, .int .i64 x]) ds n := by
  obtain ⟨hae, hs1, hs2, hs3⟩ := oneV_parts hE
  have hsh : shapeP 14 es ps lo hi st [ds] = padP ds lo hi st := rfl
  rw [hsh] at hs1 hs2 hs3
  have hz := (arrE_ok hae).1
  have hn := (arrE_ok hae).2.1
  have hpp : lensB ds.length lo hi st = true ∧ anyPad ds.length lo hi st = false ∧ (padP ds lo hi st).1 = padD ds lo hi st := by
    unfold padP at hs1 ⊢
    by_cases c : lensB ds.length lo hi st = true
    · rw [if_pos c] at hs1 ⊢
      by_cases c2 : anyPad ds.length lo hi st = true
      · rw [if_pos c2] at hs1; exact absurd hs1 (by simp)
      · rw [if_neg c2]; exact ⟨c, by simpa using c2, rfl⟩
    · rw [if_neg c] at hs1; exact absurd hs1 (by simp)
  obtain ⟨hl1, hl2, hq1⟩ := hpp
  rw [hq1] at hs2 hs3
  obtain ⟨haL, hN⟩ := arrE_of hs2
  obtain ⟨k1, k2, k3⟩ := pad_cut hz hl1 hl2
  have hct := cut_whole hs2 k1 k2
  obtain ⟨_, _, _, t4, t5⟩ := thr_cut hct
  have t4' := t4
  have t5' := t5
  rw [k3] at t4' t5'
  have hqq : ∀ j, j < n → 0 ≤ (readsV (cutAcc 0 (stepsV (padD ds lo hi st)) lo (padD ds lo hi st).length) ds (cutS (stepsV (padD ds lo hi st)) st))[j]?.getD 0 ∧ (readsV (cutAcc 0 (stepsV (padD ds lo hi st)) lo (padD ds lo hi st).length) ds (cutS (stepsV (padD ds lo hi st)) st))[j]?.getD 0 < ((prod (padD ds lo hi st)).toNat : Int) := fun j hj => by
    obtain ⟨p, h1, h2, _⟩ := t5' j (by omega)
    rw [h2]; omega
  obtain ⟨m1, m2, m3⟩ := lensB_true.1 hl1
  refine ⟨(padD ds lo hi st), (prod (padD ds lo hi st)).toNat, fun xs => addS (List.replicate (prod (padD ds lo hi st)).toNat 0) (readsV (cutAcc 0 (stepsV (padD ds lo hi st)) lo (padD ds lo hi st).length) ds (cutS (stepsV (padD ds lo hi st)) st)) xs n, lin_land _ _ _ hqq, haL, ?_⟩
  intro W b off cap da dl dc xa xc xs hW c0 c1 hd hx hxc
  have hN6 := (arrE_ok haL).2.2
  refine Do_good 14 x ea el ec es pa pl pc ps la ll lc lo ha hl hc hi ta tl tc st (some ⟨b, off, none⟩) 1 cap (fun _ => ⟨da, dl, dc, ds, xa, n, xc⟩) (padD ds lo hi st) (prod (padD ds lo hi st)).toNat (addS (List.replicate (prod (padD ds lo hi st)).toNat 0) (readsV (cutAcc 0 (stepsV (padD ds lo hi st)) lo (padD ds lo hi st).length) ds (cutS (stepsV (padD ds lo hi st)) st)) xs n) W (he.below hW) (hp.below hW) (hlo.below hW) (hhi.below hW) (hst.below hW) b0 b1 b2 b3 b4 (.inr ⟨b, off, rfl, fun j hj => by obtain rfl : j = 0 := by { omega }; exact ⟨c0, c1, hd⟩⟩) (by omega) ((doE_congr (fun j _ => ⟨rfl, rfl⟩)).trans hE) hs3.symm hN (by rw [addS_length]; simp) (addS_bd (fun x hx => by simp at hx; rw [hx.2]; omega) _) ?_
  intro hpos W2 Z nz cz g hW2 hg hZ _ hrow
  have hWW := hW.trans (hW2.mono hW.size)
  exact work_land 14 x (by omega) (.slice ea el ec) (.slice pa pl pc) (.slice la ll lc) (.slice ha hl hc) (.slice ta tl tc) Z nz cz g (prod (padD ds lo hi st)).toNat b off 1 cap da dl dc xa n xc xs (readsV (cutAcc 0 (stepsV (padD ds lo hi st)) lo (padD ds lo hi st).length) ds (cutS (stepsV (padD ds lo hi st)) st)) W2 (by omega) ((hW2.cell (p := ⟨b, off, none⟩) (lt_of_cell c0)).trans c0) ((hW2.cell (p := ⟨b, off + 1, none⟩) (lt_of_cell c1)).trans c1) (hx.below hW2) (fun h0 => off_new (W := W) hx h0 hg) hrow (by rw [readsV_length]; omega) hqq (fun W3 hW3 => by {
      have h3 := hWW.trans (hW3.mono hWW.size)
      have hpl := padD_length ds lo hi st
      have hnz := hZ.1
      have hhl := hhi.1.1
      have key := landing_pad x (.slice ea el ec) pa pl pc la ll lc lo ha hl hc hi ta tl tc st (.slice da dl dc) Z nz cz (padD ds lo hi st) W3 (hlo.1.below h3) (hhi.1.below h3) (hst.1.below h3) (hZ.below hW3) (by have := (sizeE_ok hs2).1; omega) (by omega) (fun j hj => ⟨(of_anyPad_false hl2 j (by omega)).2.1, (sizeE_ok hs2).2.1 _ (mem_getD _ j (by omega))⟩) hs2 hct t4
      rw [k3] at key
      exact key })
end Go.Proofs.YtoagnhppjlcpkaaGreat.V

/-
  What Do makes of two arrays, in what it makes go with sums of the first one.
-/
namespace Go.Proofs.YtoagnhppjlcpkaaGreat.V
set_option maxRecDepth 20000
open Go.RowKit

/-- Two arrays, of which nothing but their dimensions and how many numbers they have is known. -/
def pairV (ds : List Int) (n : Nat) (gs : List Int) (m : Nat) (j : Nat) : ArrV := if j = 0 then ⟨none, 0, 0, ds, none, n, 0⟩ else ⟨none, 0, 0, gs, none, m, 0⟩
theorem two_congr (da : Option Addr) (dl dc : Nat) (ds : List Int) (xa : Option Addr) (n xc : Nat) (fa : Option Addr) (fl fc : Nat) (gs : List Int) (ya : Option Addr) (m yc : Nat) : ∀ j, j < 2 → (twoV2 da dl dc ds xa n xc fa fl fc gs ya m yc j).ds = (pairV ds n gs m j).ds ∧ (twoV2 da dl dc ds xa n xc fa fl fc gs ya m yc j).xl = (pairV ds n gs m j).xl := fun j hj => by
  have : j = 0 ∨ j = 1 := by omega
  rcases this with rfl | rfl
  · exact ⟨rfl, rfl⟩
  · exact ⟨rfl, rfl⟩
theorem pairV_parts {k : Int} {es ps lo hi st ds gs : List Int} {n m : Nat} (h : doE k es ps lo hi st 2 (pairV ds n gs m) = 0) : arrE ds n = 0 ∧ arrE gs m = 0 ∧ (shapeP k es ps lo hi st [ds, gs]).2 = 0 ∧ sizeE (shapeP k es ps lo hi st [ds, gs]).1 = 0 ∧ (dimsP k es ps lo hi st [ds, gs]).1 = (shapeP k es ps lo hi st [ds, gs]).1 := by
  obtain ⟨_, c2, c3⟩ := doE_ok h
  exact ⟨arrsE_ok 2 c2 0 (by omega), arrsE_ok 2 c2 1 (by omega), dimsP_parts c3⟩
def Lin2 (w : World) (op : Value) (ds : List Int) (n : Nat) (fa : Option Addr) (fl fc : Nat) (ya : Option Addr) (m yc : Nat) : Prop :=
  ∃ (L : List Int) (N : Nat) (f : List Int → List Int), IsLin f n N ∧ arrE L N = 0 ∧ ∀ (W : World) (b off cap : Nat) (da : Option Addr) (dl dc : Nat) (xa : Option Addr) (xc : Nat) (xs : List Int),
    Below w.heap.size w W → W.cell? ⟨b, off, none⟩ = some (.slice da dl dc) → W.cell? ⟨b, off + 1, none⟩ = some (.slice xa n xc) → W.cell? ⟨b, off + 2, none⟩ = some (.slice fa fl fc) → W.cell? ⟨b, off + 3, none⟩ = some (.slice ya m yc) → Lst W da dl dc ds → Ints W xa n xs → n ≤ xc →
    Calls Tryz.prog 7 #[op, .slice (some ⟨b, off, none⟩) 2 cap] W fun e W' => DoesTo W L (f xs) N e W' ∧ Below W.heap.size W W'
theorem prod_nn : ∀ l : List Int, (∀ x ∈ l, 0 ≤ x) → 0 ≤ prod l
  | [], _ => by simp [prod]
  | a :: l, h => Int.mul_nonneg (h a (by simp)) (prod_nn l (fun x hx => h x (by simp [hx])))
theorem size_nn {ds : List Int} (h : sizeE ds = 0) : ∀ x ∈ ds, 0 ≤ x := fun x hx => ((sizeE_ok h).2.1 x hx).1
theorem taken_nn {ds ps : List Int} (h : ∀ x ∈ ds, 0 ≤ x) : ∀ x ∈ taken ds ps, 0 ≤ x := by
  intro x hx
  simp only [taken, List.mem_map] at hx
  obtain ⟨k, _, rfl⟩ := hx
  by_cases c : k.toNat < ds.length
  · exact h _ (mem_getD ds _ c)
  · simp [List.getElem?_eq_none (Nat.le_of_not_lt c)]
theorem nat_prod {l : List Int} (h : ∀ x ∈ l, 0 ≤ x) : ∃ t : Nat, prod l = (t : Int) := ⟨(prod l).toNat, by have := prod_nn l h; omega⟩
/-- The three parts of a Dot's dimensions. -/
theorem dot_parts {lo ps ds : List Int} (h : onceB (lo ++ ps) ds.length = true) : PermOk (lo ++ freeL (lo ++ ps) ds.length ++ ps) ds.length ∧ prod ds = prod (taken ds lo) * prod (taken ds (freeL (lo ++ ps) ds.length)) * prod (taken ds ps) := by
  have hp := dot_perm ((onceB_iff _ _).1 h)
  refine ⟨hp, ?_⟩
  rw [← prod_perm (taken_perm hp), taken_append, taken_append, prod_append, prod_append]

theorem lin_dot2 (x : Int) (ea : Option Addr) (el ec : Nat) (es : List Int) (pa : Option Addr) (pl pc : Nat) (ps : List Int) (la : Option Addr) (ll lc : Nat) (lo : List Int) (ha : Option Addr) (hl hc : Nat) (hi : List Int) (ta : Option Addr) (tl tc : Nat) (st : List Int) (ds : List Int) (n : Nat) (fa : Option Addr) (fl fc : Nat) (gs : List Int) (ya : Option Addr) (m yc : Nat) (ys : List Int) (w : World)
    (he : Lst w ea el ec es) (hp : Lst w pa pl pc ps) (hlo : Lst w la ll lc lo) (hhi : Lst w ha hl hc hi) (hst : Lst w ta tl tc st) (b0 : el ≤ 1048576) (b1 : pl ≤ 1048576) (b2 : ll ≤ 1048576) (b3 : hl ≤ 1048576) (b4 : tl ≤ 1048576) (hf : Lst w fa fl fc gs) (hy : Ints w ya m ys) (hE : doE 16 es ps lo hi st 2 (pairV ds n gs m) = 0) : Lin2 w (.agg #[.int .i64 16, .slice ea el ec, .slice pa pl pc, .slice la ll lc, .slice ha hl hc, .slice ta tl tc, .int .i64 x]) ds n fa fl fc ya m yc := by
  obtain ⟨ha1, ha2, hs1, hs2, hs3⟩ := pairV_parts hE
  have hsh : shapeP 16 es ps lo hi st [ds, gs] = dotP ps st lo hi ds gs := rfl
  rw [hsh] at hs1 hs2 hs3
  have hz1 := (arrE_ok ha1).1
  have hz2 := (arrE_ok ha2).1
  have hn := (arrE_ok ha1).2.1
  have hm := (arrE_ok ha2).2.1
  have hn6 := (arrE_ok ha1).2.2
  have hm6 := (arrE_ok ha2).2.2
  have hdB : dotB ps st lo hi ds gs = true ∧ (dotP ps st lo hi ds gs).1 = dotL ps st lo hi ds gs := by
    unfold dotP at hs1 ⊢
    by_cases c : dotB ps st lo hi ds gs = true
    · rw [if_pos c]; exact ⟨c, rfl⟩
    · rw [if_neg c] at hs1; exact absurd hs1 (by simp)
  obtain ⟨hB, hq1⟩ := hdB
  rw [hq1] at hs2 hs3
  obtain ⟨haL, hN⟩ := arrE_of hs2
  have hB' := hB
  unfold dotB at hB'
  simp only [Bool.and_eq_true, decide_eq_true_eq] at hB'
  obtain ⟨o1, o2, q2, q3⟩ := hB'
  obtain ⟨p1, p2⟩ := dot_parts o1
  obtain ⟨p3, p4⟩ := dot_parts o2
  obtain ⟨t, ht⟩ := nat_prod (taken_nn (ps := lo) (size_nn hz1))
  obtain ⟨r, hr⟩ := nat_prod (taken_nn (ps := freeL (lo ++ ps) ds.length) (size_nn hz1))
  obtain ⟨c, hcc⟩ := nat_prod (taken_nn (ps := freeL (hi ++ st) gs.length) (size_nn hz2))
  obtain ⟨g', hg'⟩ := nat_prod (taken_nn (ps := ps) (size_nn hz1))
  have en : n = t * r * g' := by rw [p2, ht, hr, hg', ← Int.natCast_mul, ← Int.natCast_mul] at hn; omega
  have em : m = t * c * g' := by rw [p4, ← q2, ← q3, ht, hcc, hg', ← Int.natCast_mul, ← Int.natCast_mul] at hm; omega
  have eN : (prod (dotL ps st lo hi ds gs)).toNat = t * r * c := by
    have : prod (dotL ps st lo hi ds gs) = ((t * r * c : Nat) : Int) := by unfold dotL; rw [prod_append, prod_append, ht, hr, hcc, ← Int.natCast_mul, ← Int.natCast_mul]
    rw [this]; omega
  have hN6 := (arrE_ok haL).2.2
  rw [eN] at haL hN hN6
  have ht1 : turnE 0 ds (stepsV ds) (lo ++ freeL (lo ++ ps) ds.length ++ ps) = 0 := by
    unfold turnE
    rw [if_neg (by rw [wrong_whole hz1]; simp), if_pos ((permB_iff _ _).2 p1)]
  have ht2 : turnE 0 gs (stepsV gs) (hi ++ freeL (hi ++ st) gs.length ++ st) = 0 := by
    unfold turnE
    rw [if_neg (by rw [wrong_whole hz2]; simp), if_pos ((permB_iff _ _).2 p3)]
  obtain ⟨_, _, _, w1, r1⟩ := thr_turn ht1
  obtain ⟨_, _, _, w2, r2⟩ := thr_turn ht2
  have l1 : (prod (taken ds (lo ++ freeL (lo ++ ps) ds.length ++ ps))).toNat = n := by rw [prod_perm (taken_perm p1)]; omega
  have l2 : (prod (taken gs (hi ++ freeL (hi ++ st) gs.length ++ st))).toNat = m := by rw [prod_perm (taken_perm p3)]; omega
  obtain ⟨Q1, hQ1⟩ : ∃ Q1, Q1 = readsV 0 (taken ds (lo ++ freeL (lo ++ ps) ds.length ++ ps)) (taken (stepsV ds) (lo ++ freeL (lo ++ ps) ds.length ++ ps)) := ⟨_, rfl⟩
  obtain ⟨Q2, hQ2⟩ : ∃ Q2, Q2 = readsV 0 (taken gs (hi ++ freeL (hi ++ st) gs.length ++ st)) (taken (stepsV gs) (hi ++ freeL (hi ++ st) gs.length ++ st)) := ⟨_, rfl⟩
  have k1 : Q1.length = n := by rw [hQ1, readsV_length, l1]
  have k2 : Q2.length = m := by rw [hQ2, readsV_length, l2]
  have kb1 : ∀ i, i < n → 0 ≤ Q1[i]?.getD 0 ∧ Q1[i]?.getD 0 < n := fun i hi' => by
    obtain ⟨p, h1, h2, _⟩ := r1 i (by rw [l1]; exact hi')
    rw [hQ1, h2]; omega
  have kb2 : ∀ i, i < m → 0 ≤ Q2[i]?.getD 0 ∧ Q2[i]?.getD 0 < m := fun i hi' => by
    obtain ⟨p, h1, h2, _⟩ := r2 i (by rw [l2]; exact hi')
    rw [hQ2, h2]; omega
  have hbn : ∀ i, i < t * r * c → i / c * g' + g' ≤ n ∧ (i / c / r * c + i % c) * g' + g' ≤ m ∧ i / c / r * c + i % c < t * c := fun i hi' => by
    have hc0 := (pos_of_lt_mul hi').2
    have d1 : i / c < t * r := div_row hi'
    have d2 : i / c / r < t := div_row d1
    have d3 : i / c / r * c + i % c < t * c := row_lt d2 (Nat.mod_lt _ hc0)
    refine ⟨?_, ?_, d3⟩
    · rw [en]
      have := Nat.mul_le_mul_right g' d1
      rw [Nat.succ_mul] at this
      exact this
    · rw [em]
      have := Nat.mul_le_mul_right g' d3
      rw [Nat.succ_mul] at this
      exact this
  refine ⟨dotL ps st lo hi ds gs, t * r * c, fun xs => dotF (lookL xs Q1) (lookL ys Q2) g' r c (t * r * c), lin_dot _ _ _ _ _ _ _ (fun i hi' => by rw [k1]; exact (hbn i hi').1), haL, ?_⟩
  intro W b off cap da dl dc xa xc xs hW c0 c1 c2 c3 hd hx hxc
  refine Do_good 16 x ea el ec es pa pl pc ps la ll lc lo ha hl hc hi ta tl tc st (some ⟨b, off, none⟩) 2 cap (twoV2 da dl dc ds xa n xc fa fl fc gs ya m yc) (dotL ps st lo hi ds gs) (t * r * c) (dotF (lookL xs Q1) (lookL ys Q2) g' r c (t * r * c)) W (he.below hW) (hp.below hW) (hlo.below hW) (hhi.below hW) (hst.below hW) b0 b1 b2 b3 b4 (arrs_two c0 c1 c2 c3 hd (hf.below hW)) (by omega) ((doE_congr (two_congr _ _ _ _ _ _ _ _ _ _ _ _ _ _)).trans hE) hs3.symm hN (dotF_length _ _ _ _ _ _) (fun y hy' => by
    simp only [dotF, List.mem_map] at hy'
    obtain ⟨i, _, rfl⟩ := hy'
    rw [innS_sum]; exact wrap_bd _) ?_
  intro hpos W2 Z nz cz g hW2 hg _ _ hrow
  have hc0 := (pos_of_lt_mul hpos).2
  have hr0 := (pos_of_lt_mul (pos_of_lt_mul hpos).1).2
  have ht0 := (pos_of_lt_mul (pos_of_lt_mul hpos).1).1
  have hg6 : g' ≤ 65536 := Nat.le_trans (Nat.le_trans (Nat.le_mul_of_pos_left g' (Nat.mul_pos ht0 hr0)) (Nat.le_of_eq en.symm)) hn6
  have hr6 : r ≤ 65536 := Nat.le_trans (Nat.le_trans (Nat.le_mul_of_pos_left r ht0) (Nat.le_mul_of_pos_right (t * r) hc0)) hN6
  have hc6 : c ≤ 65536 := Nat.le_trans (Nat.le_mul_of_pos_left c (Nat.mul_pos ht0 hr0)) hN6
  have htc6 : t * c ≤ 65536 := by
    refine Nat.le_trans ?_ hN6
    rw [Nat.mul_assoc, Nat.mul_comm r c, ← Nat.mul_assoc]
    exact Nat.le_mul_of_pos_right _ hr0
  have hbk := lt_of_cell c0
  have hr61 := (sizeE_ok hz1).1
  have hr62 := (sizeE_ok hz2).1
  have pl1 := p1.1
  have pl2 := p3.1
  simp only [List.length_append] at pl1 pl2
  refine work_dot x (.slice ea el ec) (.slice pa pl pc) (.slice la ll lc) (.slice ha hl hc) (.slice ta tl tc) Z nz cz g (t * r * c) b off cap (.slice da dl dc) (.slice xa n xc) (.slice fa fl fc) (.slice ya m yc) _ W2 ((hW2.cell (p := ⟨b, off, none⟩) (lt_of_cell c0)).trans c0) ((hW2.cell (p := ⟨b, off + 1, none⟩) (lt_of_cell c1)).trans c1) ((hW2.cell (p := ⟨b, off + 2, none⟩) (lt_of_cell c2)).trans c2) ((hW2.cell (p := ⟨b, off + 3, none⟩) (lt_of_cell c3)).trans c3) (by simp at hbk; omega) hrow (fun W3 hW3 hrow3 => ?_)
  have hWW := hW.trans (hW2.mono hW.size)
  have h3 := hWW.trans (hW3.mono hWW.size)
  have g3 := hW2.trans (hW3.mono hW2.size)
  exact dot_any 16 x (.slice ea el ec) pa pl pc ps la ll lc lo ha hl hc hi ta tl tc st da dl dc ds xa n xc xs fa fl fc gs ya m yc ys Q1 Q2 g' r c g (t * r * c) W3 (hp.below h3) (hlo.below h3) (hhi.below h3) (hst.below h3) (hd.1.below g3) (hf.1.below h3) (hx.below g3) (hy.below h3) hz1 hz2 hn6 hm6 hN6 hB ht1 hQ1 w1 k1 kb1 (by omega) ht2 hQ2 w2 k2 kb2 (by omega) hg' hr hcc hr0 hc0 hg6 hr6 hc6 (fun i hi' => ⟨(hbn i hi').1, (hbn i hi').2.1, by have := (hbn i hi').2.2; omega⟩) hrow3

theorem lin_take2 (x : Int) (ea : Option Addr) (el ec : Nat) (es : List Int) (pa : Option Addr) (pl pc : Nat) (ps : List Int) (la : Option Addr) (ll lc : Nat) (lo : List Int) (ha : Option Addr) (hl hc : Nat) (hi : List Int) (ta : Option Addr) (tl tc : Nat) (st : List Int) (ds : List Int) (n : Nat) (fa : Option Addr) (fl fc : Nat) (gs : List Int) (ya : Option Addr) (m yc : Nat) (ys : List Int) (w : World)
    (he : Lst w ea el ec es) (hp : Lst w pa pl pc ps) (hlo : Lst w la ll lc lo) (hhi : Lst w ha hl hc hi) (hst : Lst w ta tl tc st) (b0 : el ≤ 1048576) (b1 : pl ≤ 1048576) (b2 : ll ≤ 1048576) (b3 : hl ≤ 1048576) (b4 : tl ≤ 1048576) (hf : Lst w fa fl fc gs) (hy : Ints w ya m ys) (hE : doE 18 es ps lo hi st 2 (pairV ds n gs m) = 0) : Lin2 w (.agg #[.int .i64 18, .slice ea el ec, .slice pa pl pc, .slice la ll lc, .slice ha hl hc, .slice ta tl tc, .int .i64 x]) ds n fa fl fc ya m yc := by
  obtain ⟨ha1, ha2, hs1, hs2, hs3⟩ := pairV_parts hE
  have hsh : shapeP 18 es ps lo hi st [ds, gs] = takeP ds gs := rfl
  rw [hsh] at hs1 hs2 hs3
  have hz1 := (arrE_ok ha1).1
  have hz2 := (arrE_ok ha2).1
  have hn := (arrE_ok ha1).2.1
  have hm := (arrE_ok ha2).2.1
  have hn6 := (arrE_ok ha1).2.2
  have hT : ds.length ≠ 0 ∧ (takeP ds gs).1 = gs ++ ds.drop 1 := by
    unfold takeP at hs1 ⊢
    by_cases c : ds.length = 0
    · rw [if_pos c] at hs1; exact absurd hs1 (by simp)
    · rw [if_neg c]; exact ⟨c, rfl⟩
  obtain ⟨hl0, hq1⟩ := hT
  rw [hq1] at hs2 hs3
  obtain ⟨haL, hN⟩ := arrE_of hs2
  obtain ⟨D, hD⟩ := nat_of' (size_nn hz1 _ (mem_getD ds 0 (by omega)))
  obtain ⟨long, hlong⟩ := nat_prod (l := ds.drop 1) (fun x hx => size_nn hz1 x (List.mem_of_mem_drop hx))
  have en : n = D * long := by
    have := prod_drop ds 0 (by omega)
    rw [List.drop_zero, hD, Nat.zero_add, hlong, ← Int.natCast_mul] at this
    omega
  have eN : (prod (gs ++ ds.drop 1)).toNat = m * long := by
    have : prod (gs ++ ds.drop 1) = ((m * long : Nat) : Int) := by rw [prod_append, ← hm, hlong, ← Int.natCast_mul]
    rw [this]; omega
  have hN6 := (arrE_ok haL).2.2
  rw [eN] at haL hN hN6
  refine ⟨gs ++ ds.drop 1, m * long, fun xs => takeL xs ys long D (m * long), lin_take _ _ _ _ _, haL, ?_⟩
  intro W b off cap da dl dc xa xc xs hW c0 c1 c2 c3 hd hx hxc
  refine Do_good 18 x ea el ec es pa pl pc ps la ll lc lo ha hl hc hi ta tl tc st (some ⟨b, off, none⟩) 2 cap (twoV2 da dl dc ds xa n xc fa fl fc gs ya m yc) (gs ++ ds.drop 1) (m * long) (takeL xs ys long D (m * long)) W (he.below hW) (hp.below hW) (hlo.below hW) (hhi.below hW) (hst.below hW) b0 b1 b2 b3 b4 (arrs_two c0 c1 c2 c3 hd (hf.below hW)) (by omega) ((doE_congr (two_congr _ _ _ _ _ _ _ _ _ _ _ _ _ _)).trans hE) hs3.symm hN (takeL_length _ _ _ _ _) (fun y hy' => by
    simp only [takeL, List.mem_map] at hy'
    obtain ⟨i, _, rfl⟩ := hy'
    split
    · exact bnd_at hx.2.2.1 _
    · omega) ?_
  intro hpos W2 Z nz cz g hW2 hg _ _ hrow
  have hm0 := (pos_of_lt_mul hpos).1
  have hbk := lt_of_cell c0
  refine work_take x (.slice ea el ec) (.slice pa pl pc) (.slice la ll lc) (.slice ha hl hc) (.slice ta tl tc) Z nz cz g (m * long) b off cap (.slice da dl dc) (.slice xa n xc) (.slice fa fl fc) (.slice ya m yc) _ W2 ((hW2.cell (p := ⟨b, off, none⟩) (lt_of_cell c0)).trans c0) ((hW2.cell (p := ⟨b, off + 1, none⟩) (lt_of_cell c1)).trans c1) ((hW2.cell (p := ⟨b, off + 2, none⟩) (lt_of_cell c2)).trans c2) ((hW2.cell (p := ⟨b, off + 3, none⟩) (lt_of_cell c3)).trans c3) hrow (fun W3 hW3 hrow3 => ?_)
  have hWW := hW.trans (hW2.mono hW.size)
  have h3 := hWW.trans (hW3.mono hWW.size)
  have g3 := hW2.trans (hW3.mono hW2.size)
  exact takeRows_any g (m * long) m long D da dl dc ds xa n xc xs ya yc ys W3 (hd.1.below g3) (by rw [← hd.1.1]; omega) hD (hx.below g3) (hy.below h3) hxc rfl hpos en hN6 hn6 (off_new (W := W) hd.1 (by rw [← hd.1.1]; omega) hg) (fun h0 => off_new (W := W) hx h0 hg) (off_new (W := W) (hy.below hW) hm0 hg) hrow3

theorem lin_put2 (x : Int) (ea : Option Addr) (el ec : Nat) (es : List Int) (pa : Option Addr) (pl pc : Nat) (ps : List Int) (la : Option Addr) (ll lc : Nat) (lo : List Int) (ha : Option Addr) (hl hc : Nat) (hi : List Int) (ta : Option Addr) (tl tc : Nat) (st : List Int) (ds : List Int) (n : Nat) (fa : Option Addr) (fl fc : Nat) (gs : List Int) (ya : Option Addr) (m yc : Nat) (ys : List Int) (w : World)
    (he : Lst w ea el ec es) (hp : Lst w pa pl pc ps) (hlo : Lst w la ll lc lo) (hhi : Lst w ha hl hc hi) (hst : Lst w ta tl tc st) (b0 : el ≤ 1048576) (b1 : pl ≤ 1048576) (b2 : ll ≤ 1048576) (b3 : hl ≤ 1048576) (b4 : tl ≤ 1048576) (hf : Lst w fa fl fc gs) (hy : Ints w ya m ys) (hE : doE 19 es ps lo hi st 2 (pairV ds n gs m) = 0) : Lin2 w (.agg #[.int .i64 19, .slice ea el ec, .slice pa pl pc, .slice la ll lc, .slice ha hl hc, .slice ta tl tc, .int .i64 x]) ds n fa fl fc ya m yc := by
  obtain ⟨ha1, ha2, hs1, hs2, hs3⟩ := pairV_parts hE
  have hsh : shapeP 19 es ps lo hi st [ds, gs] = putP es ds gs := rfl
  rw [hsh] at hs1 hs2 hs3
  have hz1 := (arrE_ok ha1).1
  have hn := (arrE_ok ha1).2.1
  have hm := (arrE_ok ha2).2.1
  have hn6 := (arrE_ok ha1).2.2
  have hT : es.length = 1 ∧ ds.take gs.length = gs ∧ (putP es ds gs).1 = es ++ ds.drop gs.length := by
    unfold putP at hs1 ⊢
    by_cases c : es.length ≠ 1
    · rw [if_pos c] at hs1; exact absurd hs1 (by simp)
    rw [if_neg c] at hs1 ⊢
    by_cases c2 : ds.length < gs.length
    · rw [if_pos c2] at hs1; exact absurd hs1 (by simp)
    rw [if_neg c2] at hs1 ⊢
    by_cases c3 : ds.take gs.length = gs
    · rw [if_pos c3]; exact ⟨Decidable.not_not.1 c, c3, rfl⟩
    · rw [if_neg c3] at hs1; exact absurd hs1 (by simp)
  obtain ⟨hl1, htk, hq1⟩ := hT
  rw [hq1] at hs2 hs3
  obtain ⟨haL, hN⟩ := arrE_of hs2
  obtain ⟨e0, he0⟩ : ∃ e0, es = [e0] := by
    match es, hl1 with
    | [a], _ => exact ⟨a, rfl⟩
  have hpos0 : 0 ≤ e0 := size_nn hs2 e0 (by rw [he0]; simp)
  obtain ⟨D, hD⟩ := nat_of' hpos0
  obtain ⟨long, hlong⟩ := nat_prod (l := ds.drop gs.length) (fun x hx => size_nn hz1 x (List.mem_of_mem_drop hx))
  have en : n = m * long := by
    have h1 : prod ds = prod gs * prod (ds.drop gs.length) := by
      conv => lhs; rw [← List.take_append_drop gs.length ds, prod_append, htk]
    rw [h1, ← hm, hlong, ← Int.natCast_mul] at hn
    omega
  have eN : (prod (es ++ ds.drop gs.length)).toNat = D * long := by
    have : prod (es ++ ds.drop gs.length) = ((D * long : Nat) : Int) := by rw [prod_append, he0, hlong, hD]; simp [prod]
    rw [this]; omega
  have hN6 := (arrE_ok haL).2.2
  rw [eN] at haL hN hN6
  have hL0 : (es ++ ds.drop gs.length)[0]?.getD 0 = (D : Int) := by rw [he0, hD]; simp
  refine ⟨es ++ ds.drop gs.length, D * long, fun xs => putL xs ys long (D * long) m, lin_put _ _ _ _ _, haL, ?_⟩
  intro W b off cap da dl dc xa xc xs hW c0 c1 c2 c3 hd hx hxc
  refine Do_good 19 x ea el ec es pa pl pc ps la ll lc lo ha hl hc hi ta tl tc st (some ⟨b, off, none⟩) 2 cap (twoV2 da dl dc ds xa n xc fa fl fc gs ya m yc) (es ++ ds.drop gs.length) (D * long) (putL xs ys long (D * long) m) W (he.below hW) (hp.below hW) (hlo.below hW) (hhi.below hW) (hst.below hW) b0 b1 b2 b3 b4 (arrs_two c0 c1 c2 c3 hd (hf.below hW)) (by omega) ((doE_congr (two_congr _ _ _ _ _ _ _ _ _ _ _ _ _ _)).trans hE) hs3.symm hN (putL_length _ _ _ _ _) (fun y hy' => by
    simp only [putL, List.mem_map] at hy'
    obtain ⟨i, _, rfl⟩ := hy'
    exact wrap_bd _) ?_
  intro hpos W2 Z nz cz g hW2 hg hZ _ hrow
  refine work_put x (.slice ea el ec) (.slice pa pl pc) (.slice la ll lc) (.slice ha hl hc) (.slice ta tl tc) Z nz cz g (D * long) b off cap (.slice da dl dc) (.slice xa n xc) (.slice fa fl fc) (.slice ya m yc) _ W2 ((hW2.cell (p := ⟨b, off, none⟩) (lt_of_cell c0)).trans c0) ((hW2.cell (p := ⟨b, off + 1, none⟩) (lt_of_cell c1)).trans c1) ((hW2.cell (p := ⟨b, off + 2, none⟩) (lt_of_cell c2)).trans c2) ((hW2.cell (p := ⟨b, off + 3, none⟩) (lt_of_cell c3)).trans c3) hrow (fun W3 hW3 hrow3 => ?_)
  have hWW := hW.trans (hW2.mono hW.size)
  have h3 := hWW.trans (hW3.mono hWW.size)
  have g3 := hW2.trans (hW3.mono hW2.size)
  exact putRows_any g (D * long) m long D Z nz cz (es ++ ds.drop gs.length) xa n xc xs ya yc ys W3 (hZ.below hW3) (by rw [← hZ.1, he0]; simp) hL0 (hx.below g3) (hy.below h3) hxc rfl hpos en hN6 hn6 (fun h0 => off_new (W := W) hx h0 hg) (fun h0 => off_new (W := W) (hy.below hW) h0 hg) hrow3
end Go.Proofs.YtoagnhppjlcpkaaGreat.V

/-
  Contracts: array.Do of Take and of Put: just what is made.
-/
namespace Go.Proofs.YtoagnhppjlcpkaaGreat.V
set_option maxRecDepth 20000
open Go.RowKit

theorem do_take2 (x : Int) (ea : Option Addr) (el ec : Nat) (es : List Int) (pa : Option Addr) (pl pc : Nat) (ps : List Int) (la : Option Addr) (ll lc : Nat) (lo : List Int) (ha : Option Addr) (hl hc : Nat) (hi : List Int) (ta : Option Addr) (tl tc : Nat) (st : List Int) (ds : List Int) (n : Nat) (fa : Option Addr) (fl fc : Nat) (gs : List Int) (ya : Option Addr) (m yc : Nat) (ys : List Int) (w : World)
    (he : Lst w ea el ec es) (hp : Lst w pa pl pc ps) (hlo : Lst w la ll lc lo) (hhi : Lst w ha hl hc hi) (hst : Lst w ta tl tc st) (b0 : el ≤ 1048576) (b1 : pl ≤ 1048576) (b2 : ll ≤ 1048576) (b3 : hl ≤ 1048576) (b4 : tl ≤ 1048576) (hf : Lst w fa fl fc gs) (hy : Ints w ya m ys) (hE : doE 18 es ps lo hi st 2 (pairV ds n gs m) = 0) : ∃ D long : Nat, ds.length ≠ 0 ∧ ds[0]?.getD 0 = (D : Int) ∧ prod (ds.drop 1) = (long : Int) ∧ n = D * long ∧ arrE (gs ++ ds.drop 1) (m * long) = 0 ∧ ∀ (W : World) (b off cap : Nat) (da : Option Addr) (dl dc : Nat) (xa : Option Addr) (xc : Nat) (xs : List Int), Below w.heap.size w W → W.cell? ⟨b, off, none⟩ = some (.slice da dl dc) → W.cell? ⟨b, off + 1, none⟩ = some (.slice xa n xc) → W.cell? ⟨b, off + 2, none⟩ = some (.slice fa fl fc) → W.cell? ⟨b, off + 3, none⟩ = some (.slice ya m yc) → Lst W da dl dc ds → Ints W xa n xs → n ≤ xc →
    Calls Tryz.prog 7 #[.agg #[.int .i64 18, .slice ea el ec, .slice pa pl pc, .slice la ll lc, .slice ha hl hc, .slice ta tl tc, .int .i64 x], .slice (some ⟨b, off, none⟩) 2 cap] W fun e W' => DoesTo W (gs ++ ds.drop 1) (takeL xs ys long D (m * long)) (m * long) e W' ∧ Below W.heap.size W W' := by
  obtain ⟨ha1, ha2, hs1, hs2, hs3⟩ := pairV_parts hE
  have hsh : shapeP 18 es ps lo hi st [ds, gs] = takeP ds gs := rfl
  rw [hsh] at hs1 hs2 hs3
  have hz1 := (arrE_ok ha1).1
  have hz2 := (arrE_ok ha2).1
  have hn := (arrE_ok ha1).2.1
  have hm := (arrE_ok ha2).2.1
  have hn6 := (arrE_ok ha1).2.2
  have hT : ds.length ≠ 0 ∧ (takeP ds gs).1 = gs ++ ds.drop 1 := by
    unfold takeP at hs1 ⊢
    by_cases c : ds.length = 0
    · rw [if_pos c] at hs1; exact absurd hs1 (by simp)
    · rw [if_neg c]; exact ⟨c, rfl⟩
  obtain ⟨hl0, hq1⟩ := hT
  rw [hq1] at hs2 hs3
  obtain ⟨haL, hN⟩ := arrE_of hs2
  obtain ⟨D, hD⟩ := nat_of' (size_nn hz1 _ (mem_getD ds 0 (by omega)))
  obtain ⟨long, hlong⟩ := nat_prod (l := ds.drop 1) (fun x hx => size_nn hz1 x (List.mem_of_mem_drop hx))
  have en : n = D * long := by
    have := prod_drop ds 0 (by omega)
    rw [List.drop_zero, hD, Nat.zero_add, hlong, ← Int.natCast_mul] at this
    omega
  have eN : (prod (gs ++ ds.drop 1)).toNat = m * long := by
    have : prod (gs ++ ds.drop 1) = ((m * long : Nat) : Int) := by rw [prod_append, ← hm, hlong, ← Int.natCast_mul]
    rw [this]; omega
  have hN6 := (arrE_ok haL).2.2
  rw [eN] at haL hN hN6
  refine ⟨D, long, hl0, hD, hlong, en, haL, ?_⟩
  intro W b off cap da dl dc xa xc xs hW c0 c1 c2 c3 hd hx hxc
  refine Do_good 18 x ea el ec es pa pl pc ps la ll lc lo ha hl hc hi ta tl tc st (some ⟨b, off, none⟩) 2 cap (twoV2 da dl dc ds xa n xc fa fl fc gs ya m yc) (gs ++ ds.drop 1) (m * long) (takeL xs ys long D (m * long)) W (he.below hW) (hp.below hW) (hlo.below hW) (hhi.below hW) (hst.below hW) b0 b1 b2 b3 b4 (arrs_two c0 c1 c2 c3 hd (hf.below hW)) (by omega) ((doE_congr (two_congr _ _ _ _ _ _ _ _ _ _ _ _ _ _)).trans hE) hs3.symm hN (takeL_length _ _ _ _ _) (fun y hy' => by
    simp only [takeL, List.mem_map] at hy'
    obtain ⟨i, _, rfl⟩ := hy'
    split
    · exact bnd_at hx.2.2.1 _
    · omega) ?_
  intro hpos W2 Z nz cz g hW2 hg _ _ hrow
  have hm0 := (pos_of_lt_mul hpos).1
  have hbk := lt_of_cell c0
  refine work_take x (.slice ea el ec) (.slice pa pl pc) (.slice la ll lc) (.slice ha hl hc) (.slice ta tl tc) Z nz cz g (m * long) b off cap (.slice da dl dc) (.slice xa n xc) (.slice fa fl fc) (.slice ya m yc) _ W2 ((hW2.cell (p := ⟨b, off, none⟩) (lt_of_cell c0)).trans c0) ((hW2.cell (p := ⟨b, off + 1, none⟩) (lt_of_cell c1)).trans c1) ((hW2.cell (p := ⟨b, off + 2, none⟩) (lt_of_cell c2)).trans c2) ((hW2.cell (p := ⟨b, off + 3, none⟩) (lt_of_cell c3)).trans c3) hrow (fun W3 hW3 hrow3 => ?_)
  have hWW := hW.trans (hW2.mono hW.size)
  have h3 := hWW.trans (hW3.mono hWW.size)
  have g3 := hW2.trans (hW3.mono hW2.size)
  exact takeRows_any g (m * long) m long D da dl dc ds xa n xc xs ya yc ys W3 (hd.1.below g3) (by rw [← hd.1.1]; omega) hD (hx.below g3) (hy.below h3) hxc rfl hpos en hN6 hn6 (off_new (W := W) hd.1 (by rw [← hd.1.1]; omega) hg) (fun h0 => off_new (W := W) hx h0 hg) (off_new (W := W) (hy.below hW) hm0 hg) hrow3

theorem do_put2 (x : Int) (ea : Option Addr) (el ec : Nat) (es : List Int) (pa : Option Addr) (pl pc : Nat) (ps : List Int) (la : Option Addr) (ll lc : Nat) (lo : List Int) (ha : Option Addr) (hl hc : Nat) (hi : List Int) (ta : Option Addr) (tl tc : Nat) (st : List Int) (ds : List Int) (n : Nat) (fa : Option Addr) (fl fc : Nat) (gs : List Int) (ya : Option Addr) (m yc : Nat) (ys : List Int) (w : World)
    (he : Lst w ea el ec es) (hp : Lst w pa pl pc ps) (hlo : Lst w la ll lc lo) (hhi : Lst w ha hl hc hi) (hst : Lst w ta tl tc st) (b0 : el ≤ 1048576) (b1 : pl ≤ 1048576) (b2 : ll ≤ 1048576) (b3 : hl ≤ 1048576) (b4 : tl ≤ 1048576) (hf : Lst w fa fl fc gs) (hy : Ints w ya m ys) (hE : doE 19 es ps lo hi st 2 (pairV ds n gs m) = 0) : ∃ D long : Nat, es = [(D : Int)] ∧ ds.take gs.length = gs ∧ prod (ds.drop gs.length) = (long : Int) ∧ n = m * long ∧ arrE (es ++ ds.drop gs.length) (D * long) = 0 ∧ ∀ (W : World) (b off cap : Nat) (da : Option Addr) (dl dc : Nat) (xa : Option Addr) (xc : Nat) (xs : List Int), Below w.heap.size w W → W.cell? ⟨b, off, none⟩ = some (.slice da dl dc) → W.cell? ⟨b, off + 1, none⟩ = some (.slice xa n xc) → W.cell? ⟨b, off + 2, none⟩ = some (.slice fa fl fc) → W.cell? ⟨b, off + 3, none⟩ = some (.slice ya m yc) → Lst W da dl dc ds → Ints W xa n xs → n ≤ xc →
    Calls Tryz.prog 7 #[.agg #[.int .i64 19, .slice ea el ec, .slice pa pl pc, .slice la ll lc, .slice ha hl hc, .slice ta tl tc, .int .i64 x], .slice (some ⟨b, off, none⟩) 2 cap] W fun e W' => DoesTo W (es ++ ds.drop gs.length) (putL xs ys long (D * long) m) (D * long) e W' ∧ Below W.heap.size W W' := by
  obtain ⟨ha1, ha2, hs1, hs2, hs3⟩ := pairV_parts hE
  have hsh : shapeP 19 es ps lo hi st [ds, gs] = putP es ds gs := rfl
  rw [hsh] at hs1 hs2 hs3
  have hz1 := (arrE_ok ha1).1
  have hn := (arrE_ok ha1).2.1
  have hm := (arrE_ok ha2).2.1
  have hn6 := (arrE_ok ha1).2.2
  have hT : es.length = 1 ∧ ds.take gs.length = gs ∧ (putP es ds gs).1 = es ++ ds.drop gs.length := by
    unfold putP at hs1 ⊢
    by_cases c : es.length ≠ 1
    · rw [if_pos c] at hs1; exact absurd hs1 (by simp)
    rw [if_neg c] at hs1 ⊢
    by_cases c2 : ds.length < gs.length
    · rw [if_pos c2] at hs1; exact absurd hs1 (by simp)
    rw [if_neg c2] at hs1 ⊢
    by_cases c3 : ds.take gs.length = gs
    · rw [if_pos c3]; exact ⟨Decidable.not_not.1 c, c3, rfl⟩
    · rw [if_neg c3] at hs1; exact absurd hs1 (by simp)
  obtain ⟨hl1, htk, hq1⟩ := hT
  rw [hq1] at hs2 hs3
  obtain ⟨haL, hN⟩ := arrE_of hs2
  obtain ⟨e0, he0⟩ : ∃ e0, es = [e0] := by
    match es, hl1 with
    | [a], _ => exact ⟨a, rfl⟩
  have hpos0 : 0 ≤ e0 := size_nn hs2 e0 (by rw [he0]; simp)
  obtain ⟨D, hD⟩ := nat_of' hpos0
  obtain ⟨long, hlong⟩ := nat_prod (l := ds.drop gs.length) (fun x hx => size_nn hz1 x (List.mem_of_mem_drop hx))
  have en : n = m * long := by
    have h1 : prod ds = prod gs * prod (ds.drop gs.length) := by
      conv => lhs; rw [← List.take_append_drop gs.length ds, prod_append, htk]
    rw [h1, ← hm, hlong, ← Int.natCast_mul] at hn
    omega
  have eN : (prod (es ++ ds.drop gs.length)).toNat = D * long := by
    have : prod (es ++ ds.drop gs.length) = ((D * long : Nat) : Int) := by rw [prod_append, he0, hlong, hD]; simp [prod]
    rw [this]; omega
  have hN6 := (arrE_ok haL).2.2
  rw [eN] at haL hN hN6
  have hL0 : (es ++ ds.drop gs.length)[0]?.getD 0 = (D : Int) := by rw [he0, hD]; simp
  refine ⟨D, long, by rw [he0, hD], htk, hlong, en, haL, ?_⟩
  intro W b off cap da dl dc xa xc xs hW c0 c1 c2 c3 hd hx hxc
  refine Do_good 19 x ea el ec es pa pl pc ps la ll lc lo ha hl hc hi ta tl tc st (some ⟨b, off, none⟩) 2 cap (twoV2 da dl dc ds xa n xc fa fl fc gs ya m yc) (es ++ ds.drop gs.length) (D * long) (putL xs ys long (D * long) m) W (he.below hW) (hp.below hW) (hlo.below hW) (hhi.below hW) (hst.below hW) b0 b1 b2 b3 b4 (arrs_two c0 c1 c2 c3 hd (hf.below hW)) (by omega) ((doE_congr (two_congr _ _ _ _ _ _ _ _ _ _ _ _ _ _)).trans hE) hs3.symm hN (putL_length _ _ _ _ _) (fun y hy' => by
    simp only [putL, List.mem_map] at hy'
    obtain ⟨i, _, rfl⟩ := hy'
    exact wrap_bd _) ?_
  intro hpos W2 Z nz cz g hW2 hg hZ _ hrow
  refine work_put x (.slice ea el ec) (.slice pa pl pc) (.slice la ll lc) (.slice ha hl hc) (.slice ta tl tc) Z nz cz g (D * long) b off cap (.slice da dl dc) (.slice xa n xc) (.slice fa fl fc) (.slice ya m yc) _ W2 ((hW2.cell (p := ⟨b, off, none⟩) (lt_of_cell c0)).trans c0) ((hW2.cell (p := ⟨b, off + 1, none⟩) (lt_of_cell c1)).trans c1) ((hW2.cell (p := ⟨b, off + 2, none⟩) (lt_of_cell c2)).trans c2) ((hW2.cell (p := ⟨b, off + 3, none⟩) (lt_of_cell c3)).trans c3) hrow (fun W3 hW3 hrow3 => ?_)
  have hWW := hW.trans (hW2.mono hW.size)
  have h3 := hWW.trans (hW3.mono hWW.size)
  have g3 := hW2.trans (hW3.mono hW2.size)
  exact putRows_any g (D * long) m long D Z nz cz (es ++ ds.drop gs.length) xa n xc xs ya yc ys W3 (hZ.below hW3) (by rw [← hZ.1, he0]; simp) hL0 (hx.below g3) (hy.below h3) hxc rfl hpos en hN6 hn6 (fun h0 => off_new (W := W) hx h0 hg) (fun h0 => off_new (W := W) (hy.below hW) h0 hg) hrow3
end Go.Proofs.YtoagnhppjlcpkaaGreat.V

/-
  Contracts: array.Do, kind by kind: just what is made.
-/
namespace Go.Proofs.YtoagnhppjlcpkaaGreat.V
set_option maxRecDepth 20000
open Go.RowKit

theorem do_look2 (k : Int) (hk : k = 9 ∨ k = 11 ∨ k = 13 ∨ k = 15) (x : Int) (ea : Option Addr) (el ec : Nat) (es : List Int) (pa : Option Addr) (pl pc : Nat) (ps : List Int) (la : Option Addr) (ll lc : Nat) (lo : List Int) (ha : Option Addr) (hl hc : Nat) (hi : List Int) (ta : Option Addr) (tl tc : Nat) (st : List Int) (ds : List Int) (n : Nat) (S : Int) (D Tt : List Int) (w : World)
    (he : Lst w ea el ec es) (hp : Lst w pa pl pc ps) (hlo : Lst w la ll lc lo) (hhi : Lst w ha hl hc hi) (hst : Lst w ta tl tc st) (b0 : el ≤ 1048576) (b1 : pl ≤ 1048576) (b2 : ll ≤ 1048576) (b3 : hl ≤ 1048576) (b4 : tl ≤ 1048576) (hE : doE k es ps lo hi st 1 (oneV ds n) = 0) (hL : (shapeP k es ps lo hi st [ds]).1 = D) (hwr : wrongE S D Tt = 0) (hq : ∀ i : Nat, i < (prod D).toNat → ∃ p : Nat, p < (prod ds).toNat ∧ (readsV S D Tt)[i]?.getD 0 = (p : Int))
    (hseen : ∀ (W : World) (da : Option Addr) (dl dc : Nat), Below w.heap.size w W → Ints W da dl ds → Calls Tryz.prog 54 #[.agg #[.int .i64 k, .slice ea el ec, .slice pa pl pc, .slice la ll lc, .slice ha hl hc, .slice ta tl tc, .int .i64 x], .slice da dl dc] W fun e W' => Seen S D Tt e W' ∧ Below W.heap.size W W') :
    ∀ (W : World) (b off cap : Nat) (da : Option Addr) (dl dc : Nat) (xa : Option Addr) (xc : Nat) (xs : List Int), Below w.heap.size w W → W.cell? ⟨b, off, none⟩ = some (.slice da dl dc) → W.cell? ⟨b, off + 1, none⟩ = some (.slice xa n xc) → Lst W da dl dc ds → Ints W xa n xs → n ≤ xc → Calls Tryz.prog 7 #[.agg #[.int .i64 k, .slice ea el ec, .slice pa pl pc, .slice la ll lc, .slice ha hl hc, .slice ta tl tc, .int .i64 x], .slice (some ⟨b, off, none⟩) 1 cap] W fun e W' => DoesTo W D (lookL xs (readsV S D Tt)) (prod D).toNat e W' ∧ Below W.heap.size W W' := by
  obtain ⟨hae, hs1, hs2, hs3⟩ := oneV_parts hE
  rw [hL] at hs2 hs3
  obtain ⟨haL, hN⟩ := arrE_of hs2
  have hn := (arrE_ok hae).2.1
  have hlen : (readsV S D Tt).length = (prod D).toNat := readsV_length _ _ _
  intro W b off cap da dl dc xa xc xs hW c0 c1 hd hx hxc
  have hn6 := (arrE_ok haL).2.2
  have hbk := lt_of_cell c0
  refine Do_good k x ea el ec es pa pl pc ps la ll lc lo ha hl hc hi ta tl tc st (some ⟨b, off, none⟩) 1 cap (fun _ => ⟨da, dl, dc, ds, xa, n, xc⟩) D (prod D).toNat (lookL xs (readsV S D Tt)) W (he.below hW) (hp.below hW) (hlo.below hW) (hhi.below hW) (hst.below hW) b0 b1 b2 b3 b4 (.inr ⟨b, off, rfl, fun j hj => by obtain rfl : j = 0 := by { omega }; exact ⟨c0, c1, hd⟩⟩) (by omega) ((doE_congr (fun j _ => ⟨rfl, rfl⟩)).trans hE) hs3.symm hN ((lookL_length _ _).trans hlen) (lookL_bd hx.2.2.1) ?_
  intro hpos W2 Z nz cz g hW2 hg _ _ hrow
  have hn0 : 0 < n := by
    obtain ⟨p, hp', _⟩ := hq 0 hpos
    omega
  have hWW := hW.trans (hW2.mono hW.size)
  exact work_look k x hk (.slice ea el ec) (.slice pa pl pc) (.slice la ll lc) (.slice ha hl hc) (.slice ta tl tc) Z nz cz g (prod D).toNat b off 1 cap (.slice da dl dc) xa n xc xs (readsV S D Tt) W2 (by omega) ((hW2.cell (p := ⟨b, off, none⟩) (lt_of_cell c0)).trans c0) ((hW2.cell (p := ⟨b, off + 1, none⟩) (lt_of_cell c1)).trans c1) (hx.below hW2) (off_new (W := W) hx hn0 hg) hrow (by omega) hlen (fun i hi => by
      obtain ⟨p, hp', e⟩ := hq i hi
      rw [e]; omega) (fun W3 hW3 => lookedAt_gen k x (.slice ea el ec) (.slice pa pl pc) (.slice la ll lc) (.slice ha hl hc) (.slice ta tl tc) da dl dc (.slice xa n xc) S D Tt W3 (fun W4 hW4 => by
        have h3 := hWW.trans (hW3.mono hWW.size)
        have h4 := h3.trans (hW4.mono h3.size)
        have g3 := hW2.trans (hW3.mono hW2.size)
        exact hseen W4 da dl dc h4 (hd.1.below (g3.trans (hW4.mono g3.size)))) hwr)

theorem do_9 (x : Int) (ea : Option Addr) (el ec : Nat) (es : List Int) (pa : Option Addr) (pl pc : Nat) (ps : List Int) (la : Option Addr) (ll lc : Nat) (lo : List Int) (ha : Option Addr) (hl hc : Nat) (hi : List Int) (ta : Option Addr) (tl tc : Nat) (st : List Int) (ds : List Int) (n : Nat) (w : World)
    (he : Lst w ea el ec es) (hp : Lst w pa pl pc ps) (hlo : Lst w la ll lc lo) (hhi : Lst w ha hl hc hi) (hst : Lst w ta tl tc st) (b0 : el ≤ 1048576) (b1 : pl ≤ 1048576) (b2 : ll ≤ 1048576) (b3 : hl ≤ 1048576) (b4 : tl ≤ 1048576) (hE : doE 9 es ps lo hi st 1 (oneV ds n) = 0) : ∀ (W : World) (b off cap : Nat) (da : Option Addr) (dl dc : Nat) (xa : Option Addr) (xc : Nat) (xs : List Int), Below w.heap.size w W → W.cell? ⟨b, off, none⟩ = some (.slice da dl dc) → W.cell? ⟨b, off + 1, none⟩ = some (.slice xa n xc) → Lst W da dl dc ds → Ints W xa n xs → n ≤ xc → Calls Tryz.prog 7 #[.agg #[.int .i64 9, .slice ea el ec, .slice pa pl pc, .slice la ll lc, .slice ha hl hc, .slice ta tl tc, .int .i64 x], .slice (some ⟨b, off, none⟩) 1 cap] W fun e W' => DoesTo W es (lookL xs (readsV 0 es (sprS es.length (stepsV ds) ps))) (prod es).toNat e W' ∧ Below W.heap.size W W' := by
  obtain ⟨hae, hs1, _, _⟩ := oneV_parts hE
  have e0 : sprE 0 ds (stepsV ds) es ps = 0 := hs1
  obtain ⟨_, _, _, t4, t5⟩ := thr_spread e0
  have hL : (shapeP 9 es ps lo hi st [ds]).1 = es := by
    show okL (sprE 0 ds (stepsV ds) es ps) (es) = _
    rw [e0]; rfl
  refine do_look2 9 (by omega) x ea el ec es pa pl pc ps la ll lc lo ha hl hc hi ta tl tc st ds n (0) (es) (sprS es.length (stepsV ds) ps) w he hp hlo hhi hst b0 b1 b2 b3 b4 hE hL t4 (fun i hi' => ?_) (fun W da dl dc hW hd => ?_)
  · obtain ⟨p, h1, h2, _⟩ := t5 i hi'
    exact ⟨p, h1, h2⟩
  · refine (seen_spread 9 x da dl dc ds ea el ec es pa pl pc ps la ll lc lo ha hl hc hi ta tl tc st W hd (he.1.below hW) (hp.1.below hW) (hlo.1.below hW) (hhi.1.below hW) (hst.1.below hW) (arrE_ok hae).1 rfl).mono ?_
    rintro e W' ⟨⟨a, b, c', d, f, g, rfl, h1, h2, _⟩, hb⟩
    rw [e0] at h1 h2 ⊢
    exact ⟨⟨a, b, c', d, f, g, 0, rfl, h1, h2⟩, hb⟩

theorem do_11 (x : Int) (ea : Option Addr) (el ec : Nat) (es : List Int) (pa : Option Addr) (pl pc : Nat) (ps : List Int) (la : Option Addr) (ll lc : Nat) (lo : List Int) (ha : Option Addr) (hl hc : Nat) (hi : List Int) (ta : Option Addr) (tl tc : Nat) (st : List Int) (ds : List Int) (n : Nat) (w : World)
    (he : Lst w ea el ec es) (hp : Lst w pa pl pc ps) (hlo : Lst w la ll lc lo) (hhi : Lst w ha hl hc hi) (hst : Lst w ta tl tc st) (b0 : el ≤ 1048576) (b1 : pl ≤ 1048576) (b2 : ll ≤ 1048576) (b3 : hl ≤ 1048576) (b4 : tl ≤ 1048576) (hE : doE 11 es ps lo hi st 1 (oneV ds n) = 0) : ∀ (W : World) (b off cap : Nat) (da : Option Addr) (dl dc : Nat) (xa : Option Addr) (xc : Nat) (xs : List Int), Below w.heap.size w W → W.cell? ⟨b, off, none⟩ = some (.slice da dl dc) → W.cell? ⟨b, off + 1, none⟩ = some (.slice xa n xc) → Lst W da dl dc ds → Ints W xa n xs → n ≤ xc → Calls Tryz.prog 7 #[.agg #[.int .i64 11, .slice ea el ec, .slice pa pl pc, .slice la ll lc, .slice ha hl hc, .slice ta tl tc, .int .i64 x], .slice (some ⟨b, off, none⟩) 1 cap] W fun e W' => DoesTo W (taken ds ps) (lookL xs (readsV 0 (taken ds ps) (taken (stepsV ds) ps))) (prod (taken ds ps)).toNat e W' ∧ Below W.heap.size W W' := by
  obtain ⟨hae, hs1, _, _⟩ := oneV_parts hE
  have e0 : turnE 0 ds (stepsV ds) ps = 0 := hs1
  obtain ⟨_, _, _, t4, t5⟩ := thr_turn e0
  have hL : (shapeP 11 es ps lo hi st [ds]).1 = taken ds ps := by
    show okL (turnE 0 ds (stepsV ds) ps) (taken ds ps) = _
    rw [e0]; rfl
  refine do_look2 11 (by omega) x ea el ec es pa pl pc ps la ll lc lo ha hl hc hi ta tl tc st ds n (0) (taken ds ps) (taken (stepsV ds) ps) w he hp hlo hhi hst b0 b1 b2 b3 b4 hE hL t4 (fun i hi' => ?_) (fun W da dl dc hW hd => ?_)
  · obtain ⟨p, h1, h2, _⟩ := t5 i hi'
    exact ⟨p, h1, h2⟩
  · refine (seen_turn 11 x da dl dc ds ea el ec es pa pl pc ps la ll lc lo ha hl hc hi ta tl tc st W hd (he.1.below hW) (hp.1.below hW) (hlo.1.below hW) (hhi.1.below hW) (hst.1.below hW) (arrE_ok hae).1 rfl).mono ?_
    rintro e W' ⟨⟨a, b, c', d, f, g, rfl, h1, h2, _⟩, hb⟩
    rw [e0] at h1 h2 ⊢
    exact ⟨⟨a, b, c', d, f, g, 0, rfl, h1, h2⟩, hb⟩

theorem do_13 (x : Int) (ea : Option Addr) (el ec : Nat) (es : List Int) (pa : Option Addr) (pl pc : Nat) (ps : List Int) (la : Option Addr) (ll lc : Nat) (lo : List Int) (ha : Option Addr) (hl hc : Nat) (hi : List Int) (ta : Option Addr) (tl tc : Nat) (st : List Int) (ds : List Int) (n : Nat) (w : World)
    (he : Lst w ea el ec es) (hp : Lst w pa pl pc ps) (hlo : Lst w la ll lc lo) (hhi : Lst w ha hl hc hi) (hst : Lst w ta tl tc st) (b0 : el ≤ 1048576) (b1 : pl ≤ 1048576) (b2 : ll ≤ 1048576) (b3 : hl ≤ 1048576) (b4 : tl ≤ 1048576) (hE : doE 13 es ps lo hi st 1 (oneV ds n) = 0) : ∀ (W : World) (b off cap : Nat) (da : Option Addr) (dl dc : Nat) (xa : Option Addr) (xc : Nat) (xs : List Int), Below w.heap.size w W → W.cell? ⟨b, off, none⟩ = some (.slice da dl dc) → W.cell? ⟨b, off + 1, none⟩ = some (.slice xa n xc) → Lst W da dl dc ds → Ints W xa n xs → n ≤ xc → Calls Tryz.prog 7 #[.agg #[.int .i64 13, .slice ea el ec, .slice pa pl pc, .slice la ll lc, .slice ha hl hc, .slice ta tl tc, .int .i64 x], .slice (some ⟨b, off, none⟩) 1 cap] W fun e W' => DoesTo W (cutD ds lo hi st) (lookL xs (readsV (cutAcc 0 (stepsV ds) lo ds.length) (cutD ds lo hi st) (cutS (stepsV ds) st))) (prod (cutD ds lo hi st)).toNat e W' ∧ Below W.heap.size W W' := by
  obtain ⟨hae, hs1, _, _⟩ := oneV_parts hE
  have e0 : cutE 0 ds (stepsV ds) lo hi st = 0 := hs1
  obtain ⟨_, _, _, t4, t5⟩ := thr_cut e0
  have hL : (shapeP 13 es ps lo hi st [ds]).1 = cutD ds lo hi st := by
    show okL (cutE 0 ds (stepsV ds) lo hi st) (cutD ds lo hi st) = _
    rw [e0]; rfl
  refine do_look2 13 (by omega) x ea el ec es pa pl pc ps la ll lc lo ha hl hc hi ta tl tc st ds n (cutAcc 0 (stepsV ds) lo ds.length) (cutD ds lo hi st) (cutS (stepsV ds) st) w he hp hlo hhi hst b0 b1 b2 b3 b4 hE hL t4 (fun i hi' => ?_) (fun W da dl dc hW hd => ?_)
  · obtain ⟨p, h1, h2, _⟩ := t5 i hi'
    exact ⟨p, h1, h2⟩
  · refine (seen_cut 13 x da dl dc ds ea el ec es pa pl pc ps la ll lc lo ha hl hc hi ta tl tc st W hd (he.1.below hW) (hp.1.below hW) (hlo.1.below hW) (hhi.1.below hW) (hst.1.below hW) (arrE_ok hae).1 rfl).mono ?_
    rintro e W' ⟨⟨a, b, c', d, f, g, rfl, h1, h2, _⟩, hb⟩
    rw [e0] at h1 h2 ⊢
    exact ⟨⟨a, b, c', d, f, g, 0, rfl, h1, h2⟩, hb⟩

theorem do_15 (x : Int) (ea : Option Addr) (el ec : Nat) (es : List Int) (pa : Option Addr) (pl pc : Nat) (ps : List Int) (la : Option Addr) (ll lc : Nat) (lo : List Int) (ha : Option Addr) (hl hc : Nat) (hi : List Int) (ta : Option Addr) (tl tc : Nat) (st : List Int) (ds : List Int) (n : Nat) (w : World)
    (he : Lst w ea el ec es) (hp : Lst w pa pl pc ps) (hlo : Lst w la ll lc lo) (hhi : Lst w ha hl hc hi) (hst : Lst w ta tl tc st) (b0 : el ≤ 1048576) (b1 : pl ≤ 1048576) (b2 : ll ≤ 1048576) (b3 : hl ≤ 1048576) (b4 : tl ≤ 1048576) (hE : doE 15 es ps lo hi st 1 (oneV ds n) = 0) : ∀ (W : World) (b off cap : Nat) (da : Option Addr) (dl dc : Nat) (xa : Option Addr) (xc : Nat) (xs : List Int), Below w.heap.size w W → W.cell? ⟨b, off, none⟩ = some (.slice da dl dc) → W.cell? ⟨b, off + 1, none⟩ = some (.slice xa n xc) → Lst W da dl dc ds → Ints W xa n xs → n ≤ xc → Calls Tryz.prog 7 #[.agg #[.int .i64 15, .slice ea el ec, .slice pa pl pc, .slice la ll lc, .slice ha hl hc, .slice ta tl tc, .int .i64 x], .slice (some ⟨b, off, none⟩) 1 cap] W fun e W' => DoesTo W ds (lookL xs (readsV (flipAcc 0 ds (stepsV ds) ps ps.length) ds (flipL (stepsV ds) ps))) (prod ds).toNat e W' ∧ Below W.heap.size W W' := by
  obtain ⟨hae, hs1, _, _⟩ := oneV_parts hE
  have e0 : flipE 0 ds (stepsV ds) ps = 0 := hs1
  obtain ⟨_, _, _, t4, t5⟩ := thr_flip e0
  have hL : (shapeP 15 es ps lo hi st [ds]).1 = ds := by
    show okL (flipE 0 ds (stepsV ds) ps) (ds) = _
    rw [e0]; rfl
  refine do_look2 15 (by omega) x ea el ec es pa pl pc ps la ll lc lo ha hl hc hi ta tl tc st ds n (flipAcc 0 ds (stepsV ds) ps ps.length) (ds) (flipL (stepsV ds) ps) w he hp hlo hhi hst b0 b1 b2 b3 b4 hE hL t4 (fun i hi' => ?_) (fun W da dl dc hW hd => ?_)
  · obtain ⟨p, h1, h2, _⟩ := t5 i hi'
    exact ⟨p, h1, h2⟩
  · refine (seen_flip 15 x da dl dc ds ea el ec es pa pl pc ps la ll lc lo ha hl hc hi ta tl tc st W hd (he.1.below hW) (hp.1.below hW) (hlo.1.below hW) (hhi.1.below hW) (hst.1.below hW) (arrE_ok hae).1 (by decide)).mono ?_
    rintro e W' ⟨⟨a, b, c', d, f, g, rfl, h1, h2, _⟩, hb⟩
    rw [e0] at h1 h2 ⊢
    exact ⟨⟨a, b, c', d, f, g, 0, rfl, h1, h2⟩, hb⟩

theorem do_12 (x : Int) (ea : Option Addr) (el ec : Nat) (es : List Int) (pa : Option Addr) (pl pc : Nat) (ps : List Int) (la : Option Addr) (ll lc : Nat) (lo : List Int) (ha : Option Addr) (hl hc : Nat) (hi : List Int) (ta : Option Addr) (tl tc : Nat) (st : List Int) (ds : List Int) (n : Nat) (w : World)
    (he : Lst w ea el ec es) (hp : Lst w pa pl pc ps) (hlo : Lst w la ll lc lo) (hhi : Lst w ha hl hc hi) (hst : Lst w ta tl tc st) (b0 : el ≤ 1048576) (b1 : pl ≤ 1048576) (b2 : ll ≤ 1048576) (b3 : hl ≤ 1048576) (b4 : tl ≤ 1048576) (hE : doE 12 es ps lo hi st 1 (oneV ds n) = 0) : ∀ (W : World) (b off cap : Nat) (da : Option Addr) (dl dc : Nat) (xa : Option Addr) (xc : Nat) (xs : List Int), Below w.heap.size w W → W.cell? ⟨b, off, none⟩ = some (.slice da dl dc) → W.cell? ⟨b, off + 1, none⟩ = some (.slice xa n xc) → Lst W da dl dc ds → Ints W xa n xs → n ≤ xc → Calls Tryz.prog 7 #[.agg #[.int .i64 12, .slice ea el ec, .slice pa pl pc, .slice la ll lc, .slice ha hl hc, .slice ta tl tc, .int .i64 x], .slice (some ⟨b, off, none⟩) 1 cap] W fun e W' => DoesTo W es xs n e W' ∧ Below W.heap.size W W' := by
  obtain ⟨hae, hs1, hs2, hs3⟩ := oneV_parts hE
  have hsh : shapeP 12 es ps lo hi st [ds] = reformP ds es := rfl
  rw [hsh] at hs1 hs2 hs3
  have hz := (arrE_ok hae).1
  have hn := (arrE_ok hae).2.1
  have hp0 : sizeE es = 0 ∧ sizeN es = sizeN ds ∧ (reformP ds es).1 = es := by
    unfold reformP at hs1 ⊢
    by_cases c : sizeE es ≠ 0
    · rw [if_pos c] at hs1; exact absurd hs1 c
    rw [if_neg c] at hs1 ⊢
    by_cases c2 : sizeN es = sizeN ds
    · rw [if_pos c2]; exact ⟨Decidable.not_not.1 c, c2, rfl⟩
    · rw [if_neg c2] at hs1; exact absurd hs1 (by simp)
  obtain ⟨q1, q2, q3⟩ := hp0
  rw [q3] at hs3
  have hpe : (n : Int) = prod es := by rw [hn, ← size_prod hz, ← q2, size_prod q1]
  intro W b off cap da dl dc xa xc xs hW c0 c1 hd hx hxc
  refine Do_good 12 x ea el ec es pa pl pc ps la ll lc lo ha hl hc hi ta tl tc st (some ⟨b, off, none⟩) 1 cap (fun _ => ⟨da, dl, dc, ds, xa, n, xc⟩) es n xs W (he.below hW) (hp.below hW) (hlo.below hW) (hhi.below hW) (hst.below hW) b0 b1 b2 b3 b4 (.inr ⟨b, off, rfl, fun j hj => by obtain rfl : j = 0 := by { omega }; exact ⟨c0, c1, hd⟩⟩) (by omega) ((doE_congr (fun j _ => ⟨rfl, rfl⟩)).trans hE) hs3.symm hpe hx.1 hx.2.2.1 ?_
  intro hpos W2 Z nz cz g hW2 hg _ _ hrow
  exact work_reform x (.slice ea el ec) (.slice pa pl pc) (.slice la ll lc) (.slice ha hl hc) (.slice ta tl tc) Z nz cz g n b off 1 cap xa xc xs W2 (by omega) ((hW2.cell (p := ⟨b, off + 1, none⟩) (lt_of_cell c1)).trans c1) (hx.below hW2) hrow

theorem do_10 (x : Int) (ea : Option Addr) (el ec : Nat) (es : List Int) (pa : Option Addr) (pl pc : Nat) (ps : List Int) (la : Option Addr) (ll lc : Nat) (lo : List Int) (ha : Option Addr) (hl hc : Nat) (hi : List Int) (ta : Option Addr) (tl tc : Nat) (st : List Int) (ds : List Int) (n : Nat) (w : World)
    (he : Lst w ea el ec es) (hp : Lst w pa pl pc ps) (hlo : Lst w la ll lc lo) (hhi : Lst w ha hl hc hi) (hst : Lst w ta tl tc st) (b0 : el ≤ 1048576) (b1 : pl ≤ 1048576) (b2 : ll ≤ 1048576) (b3 : hl ≤ 1048576) (b4 : tl ≤ 1048576) (hE : doE 10 es ps lo hi st 1 (oneV ds n) = 0) : ∀ (W : World) (b off cap : Nat) (da : Option Addr) (dl dc : Nat) (xa : Option Addr) (xc : Nat) (xs : List Int), Below w.heap.size w W → W.cell? ⟨b, off, none⟩ = some (.slice da dl dc) → W.cell? ⟨b, off + 1, none⟩ = some (.slice xa n xc) → Lst W da dl dc ds → Ints W xa n xs → n ≤ xc → Calls Tryz.prog 7 #[.agg #[.int .i64 10, .slice ea el ec, .slice pa pl pc, .slice la ll lc, .slice ha hl hc, .slice ta tl tc, .int .i64 x], .slice (some ⟨b, off, none⟩) 1 cap] W fun e W' => DoesTo W (taken ds (freeL ps ds.length)) (addS (List.replicate (prod (taken ds (freeL ps ds.length))).toNat 0) (readsV 0 ds (sprS ds.length (stepsV (taken ds (freeL ps ds.length))) (freeL ps ds.length))) xs n) (prod (taken ds (freeL ps ds.length))).toNat e W' ∧ Below W.heap.size W W' := by
  obtain ⟨hae, hs1, hs2, hs3⟩ := oneV_parts hE
  have hsh : shapeP 10 es ps lo hi st [ds] = sumP ds ps := rfl
  rw [hsh] at hs1 hs2 hs3
  have hz := (arrE_ok hae).1
  have hn := (arrE_ok hae).2.1
  have hrise : riseB ps ds.length = true ∧ (sumP ds ps).1 = taken ds (freeL ps ds.length) := by
    unfold sumP at hs1 ⊢
    by_cases c : riseB ps ds.length = true
    · rw [if_pos c]; exact ⟨c, rfl⟩
    · rw [if_neg c] at hs1; exact absurd hs1 (by simp)
  obtain ⟨hr, hq1⟩ := hrise
  rw [hq1] at hs2 hs3
  obtain ⟨haL, hN⟩ := arrE_of hs2
  have hsp := sum_spread hz hs2
  obtain ⟨_, _, _, t4, t5⟩ := thr_spread hsp
  have hqq : ∀ j, j < n → 0 ≤ (readsV 0 ds (sprS ds.length (stepsV (taken ds (freeL ps ds.length))) (freeL ps ds.length)))[j]?.getD 0 ∧ (readsV 0 ds (sprS ds.length (stepsV (taken ds (freeL ps ds.length))) (freeL ps ds.length)))[j]?.getD 0 < ((prod (taken ds (freeL ps ds.length))).toNat : Int) := fun j hj => by
    obtain ⟨p, h1, h2, _⟩ := t5 j (by omega)
    rw [h2]; omega
  intro W b off cap da dl dc xa xc xs hW c0 c1 hd hx hxc
  have hN6 := (arrE_ok haL).2.2
  refine Do_good 10 x ea el ec es pa pl pc ps la ll lc lo ha hl hc hi ta tl tc st (some ⟨b, off, none⟩) 1 cap (fun _ => ⟨da, dl, dc, ds, xa, n, xc⟩) (taken ds (freeL ps ds.length)) (prod (taken ds (freeL ps ds.length))).toNat (addS (List.replicate (prod (taken ds (freeL ps ds.length))).toNat 0) (readsV 0 ds (sprS ds.length (stepsV (taken ds (freeL ps ds.length))) (freeL ps ds.length))) xs n) W (he.below hW) (hp.below hW) (hlo.below hW) (hhi.below hW) (hst.below hW) b0 b1 b2 b3 b4 (.inr ⟨b, off, rfl, fun j hj => by obtain rfl : j = 0 := by { omega }; exact ⟨c0, c1, hd⟩⟩) (by omega) ((doE_congr (fun j _ => ⟨rfl, rfl⟩)).trans hE) hs3.symm hN (by rw [addS_length]; simp) (addS_bd (fun x hx => by simp at hx; rw [hx.2]; omega) _) ?_
  intro hpos W2 Z nz cz g hW2 hg hZ _ hrow
  have hWW := hW.trans (hW2.mono hW.size)
  exact work_land 10 x (by omega) (.slice ea el ec) (.slice pa pl pc) (.slice la ll lc) (.slice ha hl hc) (.slice ta tl tc) Z nz cz g (prod (taken ds (freeL ps ds.length))).toNat b off 1 cap da dl dc xa n xc xs (readsV 0 ds (sprS ds.length (stepsV (taken ds (freeL ps ds.length))) (freeL ps ds.length))) W2 (by omega) ((hW2.cell (p := ⟨b, off, none⟩) (lt_of_cell c0)).trans c0) ((hW2.cell (p := ⟨b, off + 1, none⟩) (lt_of_cell c1)).trans c1) (hx.below hW2) (fun h0 => off_new (W := W) hx h0 hg) hrow (by rw [readsV_length]; omega) hqq (fun W3 hW3 => by {
      have h3 := hWW.trans (hW3.mono hWW.size)
      have hdl := hd.1.1
      subst hdl
      exact landing_sum x (.slice ea el ec) pa pl pc ps la ll lc ha hl hc ta tl tc da ds.length dc ds Z nz cz (taken ds (freeL ps ds.length)) W3 (hp.below h3) (hd.1.below (hW2.trans (hW3.mono hW2.size))) (hZ.below hW3) (sizeE_ok hz).1 (once_of_rise ((riseB_iff _ _).1 hr)) hs2 hsp t4 })

theorem do_14 (x : Int) (ea : Option Addr) (el ec : Nat) (es : List Int) (pa : Option Addr) (pl pc : Nat) (ps : List Int) (la : Option Addr) (ll lc : Nat) (lo : List Int) (ha : Option Addr) (hl hc : Nat) (hi : List Int) (ta : Option Addr) (tl tc : Nat) (st : List Int) (ds : List Int) (n : Nat) (w : World)
    (he : Lst w ea el ec es) (hp : Lst w pa pl pc ps) (hlo : Lst w la ll lc lo) (hhi : Lst w ha hl hc hi) (hst : Lst w ta tl tc st) (b0 : el ≤ 1048576) (b1 : pl ≤ 1048576) (b2 : ll ≤ 1048576) (b3 : hl ≤ 1048576) (b4 : tl ≤ 1048576) (hE : doE 14 es ps lo hi st 1 (oneV ds n) = 0) : ∀ (W : World) (b off cap : Nat) (da : Option Addr) (dl dc : Nat) (xa : Option Addr) (xc : Nat) (xs : List Int), Below w.heap.size w W → W.cell? ⟨b, off, none⟩ = some (.slice da dl dc) → W.cell? ⟨b, off + 1, none⟩ = some (.slice xa n xc) → Lst W da dl dc ds → Ints W xa n xs → n ≤ xc → Calls Tryz.prog 7 #[.agg #[.int .i64 14, .slice ea el ec, .slice pa pl pc, .slice la ll lc, .slice ha hl hc, .slice ta tl tc, .int .i64 x], .slice (some ⟨b, off, none⟩) 1 cap] W fun e W' => DoesTo W (padD ds lo hi st) (addS (List.replicate (prod (padD ds lo hi st)).toNat 0) (readsV (cutAcc 0 (stepsV (padD ds lo hi st)) lo (padD ds lo hi st).length) ds (cutS (stepsV (padD ds lo hi st)) st)) xs n) (prod (padD ds lo hi st)).toNat e W' ∧ Below W.heap.size W W' := by
  obtain ⟨hae, hs1, hs2, hs3⟩ := oneV_parts hE
  have hsh : shapeP 14 es ps lo hi st [ds] = padP ds lo hi st := rfl
  rw [hsh] at hs1 hs2 hs3
  have hz := (arrE_ok hae).1
  have hn := (arrE_ok hae).2.1
  have hpp : lensB ds.length lo hi st = true ∧ anyPad ds.length lo hi st = false ∧ (padP ds lo hi st).1 = padD ds lo hi st := by
    unfold padP at hs1 ⊢
    by_cases c : lensB ds.length lo hi st = true
    · rw [if_pos c] at hs1 ⊢
      by_cases c2 : anyPad ds.length lo hi st = true
      · rw [if_pos c2] at hs1; exact absurd hs1 (by simp)
      · rw [if_neg c2]; exact ⟨c, by simpa using c2, rfl⟩
    · rw [if_neg c] at hs1; exact absurd hs1 (by simp)
  obtain ⟨hl1, hl2, hq1⟩ := hpp
  rw [hq1] at hs2 hs3
  obtain ⟨haL, hN⟩ := arrE_of hs2
  obtain ⟨k1, k2, k3⟩ := pad_cut hz hl1 hl2
  have hct := cut_whole hs2 k1 k2
  obtain ⟨_, _, _, t4, t5⟩ := thr_cut hct
  have t4' := t4
  have t5' := t5
  rw [k3] at t4' t5'
  have hqq : ∀ j, j < n → 0 ≤ (readsV (cutAcc 0 (stepsV (padD ds lo hi st)) lo (padD ds lo hi st).length) ds (cutS (stepsV (padD ds lo hi st)) st))[j]?.getD 0 ∧ (readsV (cutAcc 0 (stepsV (padD ds lo hi st)) lo (padD ds lo hi st).length) ds (cutS (stepsV (padD ds lo hi st)) st))[j]?.getD 0 < ((prod (padD ds lo hi st)).toNat : Int) := fun j hj => by
    obtain ⟨p, h1, h2, _⟩ := t5' j (by omega)
    rw [h2]; omega
  obtain ⟨m1, m2, m3⟩ := lensB_true.1 hl1
  intro W b off cap da dl dc xa xc xs hW c0 c1 hd hx hxc
  have hN6 := (arrE_ok haL).2.2
  refine Do_good 14 x ea el ec es pa pl pc ps la ll lc lo ha hl hc hi ta tl tc st (some ⟨b, off, none⟩) 1 cap (fun _ => ⟨da, dl, dc, ds, xa, n, xc⟩) (padD ds lo hi st) (prod (padD ds lo hi st)).toNat (addS (List.replicate (prod (padD ds lo hi st)).toNat 0) (readsV (cutAcc 0 (stepsV (padD ds lo hi st)) lo (padD ds lo hi st).length) ds (cutS (stepsV (padD ds lo hi st)) st)) xs n) W (he.below hW) (hp.below hW) (hlo.below hW) (hhi.below hW) (hst.below hW) b0 b1 b2 b3 b4 (.inr ⟨b, off, rfl, fun j hj => by obtain rfl : j = 0 := by { omega }; exact ⟨c0, c1, hd⟩⟩) (by omega) ((doE_congr (fun j _ => ⟨rfl, rfl⟩)).trans hE) hs3.symm hN (by rw [addS_length]; simp) (addS_bd (fun x hx => by simp at hx; rw [hx.2]; omega) _) ?_
  intro hpos W2 Z nz cz g hW2 hg hZ _ hrow
  have hWW := hW.trans (hW2.mono hW.size)
  exact work_land 14 x (by omega) (.slice ea el ec) (.slice pa pl pc) (.slice la ll lc) (.slice ha hl hc) (.slice ta tl tc) Z nz cz g (prod (padD ds lo hi st)).toNat b off 1 cap da dl dc xa n xc xs (readsV (cutAcc 0 (stepsV (padD ds lo hi st)) lo (padD ds lo hi st).length) ds (cutS (stepsV (padD ds lo hi st)) st)) W2 (by omega) ((hW2.cell (p := ⟨b, off, none⟩) (lt_of_cell c0)).trans c0) ((hW2.cell (p := ⟨b, off + 1, none⟩) (lt_of_cell c1)).trans c1) (hx.below hW2) (fun h0 => off_new (W := W) hx h0 hg) hrow (by rw [readsV_length]; omega) hqq (fun W3 hW3 => by {
      have h3 := hWW.trans (hW3.mono hWW.size)
      have hpl := padD_length ds lo hi st
      have hnz := hZ.1
      have hhl := hhi.1.1
      have key := landing_pad x (.slice ea el ec) pa pl pc la ll lc lo ha hl hc hi ta tl tc st (.slice da dl dc) Z nz cz (padD ds lo hi st) W3 (hlo.1.below h3) (hhi.1.below h3) (hst.1.below h3) (hZ.below hW3) (by have := (sizeE_ok hs2).1; omega) (by omega) (fun j hj => ⟨(of_anyPad_false hl2 j (by omega)).2.1, (sizeE_ok hs2).2.1 _ (mem_getD _ j (by omega))⟩) hs2 hct t4
      rw [k3] at key
      exact key })

theorem do_16 (x : Int) (ea : Option Addr) (el ec : Nat) (es : List Int) (pa : Option Addr) (pl pc : Nat) (ps : List Int) (la : Option Addr) (ll lc : Nat) (lo : List Int) (ha : Option Addr) (hl hc : Nat) (hi : List Int) (ta : Option Addr) (tl tc : Nat) (st : List Int) (ds : List Int) (n : Nat) (fa : Option Addr) (fl fc : Nat) (gs : List Int) (ya : Option Addr) (m yc : Nat) (ys : List Int) (w : World)
    (he : Lst w ea el ec es) (hp : Lst w pa pl pc ps) (hlo : Lst w la ll lc lo) (hhi : Lst w ha hl hc hi) (hst : Lst w ta tl tc st) (b0 : el ≤ 1048576) (b1 : pl ≤ 1048576) (b2 : ll ≤ 1048576) (b3 : hl ≤ 1048576) (b4 : tl ≤ 1048576) (hf : Lst w fa fl fc gs) (hy : Ints w ya m ys) (hE : doE 16 es ps lo hi st 2 (pairV ds n gs m) = 0) {t r c g' : Nat} (ht : prod (taken ds lo) = (t : Int)) (hr : prod (taken ds (freeL (lo ++ ps) ds.length)) = (r : Int)) (hcc : prod (taken gs (freeL (hi ++ st) gs.length)) = (c : Int)) (hg' : prod (taken ds ps) = (g' : Int)) : ∀ (W : World) (b off cap : Nat) (da : Option Addr) (dl dc : Nat) (xa : Option Addr) (xc : Nat) (xs : List Int), Below w.heap.size w W → W.cell? ⟨b, off, none⟩ = some (.slice da dl dc) → W.cell? ⟨b, off + 1, none⟩ = some (.slice xa n xc) → W.cell? ⟨b, off + 2, none⟩ = some (.slice fa fl fc) → W.cell? ⟨b, off + 3, none⟩ = some (.slice ya m yc) → Lst W da dl dc ds → Ints W xa n xs → n ≤ xc → Calls Tryz.prog 7 #[.agg #[.int .i64 16, .slice ea el ec, .slice pa pl pc, .slice la ll lc, .slice ha hl hc, .slice ta tl tc, .int .i64 x], .slice (some ⟨b, off, none⟩) 2 cap] W fun e W' => DoesTo W (dotL ps st lo hi ds gs) (dotF (lookL xs (readsV 0 (taken ds (lo ++ freeL (lo ++ ps) ds.length ++ ps)) (taken (stepsV ds) (lo ++ freeL (lo ++ ps) ds.length ++ ps)))) (lookL ys (readsV 0 (taken gs (hi ++ freeL (hi ++ st) gs.length ++ st)) (taken (stepsV gs) (hi ++ freeL (hi ++ st) gs.length ++ st)))) g' r c (t * r * c)) (t * r * c) e W' ∧ Below W.heap.size W W' := by
  obtain ⟨ha1, ha2, hs1, hs2, hs3⟩ := pairV_parts hE
  have hsh : shapeP 16 es ps lo hi st [ds, gs] = dotP ps st lo hi ds gs := rfl
  rw [hsh] at hs1 hs2 hs3
  have hz1 := (arrE_ok ha1).1
  have hz2 := (arrE_ok ha2).1
  have hn := (arrE_ok ha1).2.1
  have hm := (arrE_ok ha2).2.1
  have hn6 := (arrE_ok ha1).2.2
  have hm6 := (arrE_ok ha2).2.2
  have hdB : dotB ps st lo hi ds gs = true ∧ (dotP ps st lo hi ds gs).1 = dotL ps st lo hi ds gs := by
    unfold dotP at hs1 ⊢
    by_cases c : dotB ps st lo hi ds gs = true
    · rw [if_pos c]; exact ⟨c, rfl⟩
    · rw [if_neg c] at hs1; exact absurd hs1 (by simp)
  obtain ⟨hB, hq1⟩ := hdB
  rw [hq1] at hs2 hs3
  obtain ⟨haL, hN⟩ := arrE_of hs2
  have hB' := hB
  unfold dotB at hB'
  simp only [Bool.and_eq_true, decide_eq_true_eq] at hB'
  obtain ⟨o1, o2, q2, q3⟩ := hB'
  obtain ⟨p1, p2⟩ := dot_parts o1
  obtain ⟨p3, p4⟩ := dot_parts o2
  have en : n = t * r * g' := by rw [p2, ht, hr, hg', ← Int.natCast_mul, ← Int.natCast_mul] at hn; omega
  have em : m = t * c * g' := by rw [p4, ← q2, ← q3, ht, hcc, hg', ← Int.natCast_mul, ← Int.natCast_mul] at hm; omega
  have eN : (prod (dotL ps st lo hi ds gs)).toNat = t * r * c := by
    have : prod (dotL ps st lo hi ds gs) = ((t * r * c : Nat) : Int) := by unfold dotL; rw [prod_append, prod_append, ht, hr, hcc, ← Int.natCast_mul, ← Int.natCast_mul]
    rw [this]; omega
  have hN6 := (arrE_ok haL).2.2
  rw [eN] at haL hN hN6
  have ht1 : turnE 0 ds (stepsV ds) (lo ++ freeL (lo ++ ps) ds.length ++ ps) = 0 := by
    unfold turnE
    rw [if_neg (by rw [wrong_whole hz1]; simp), if_pos ((permB_iff _ _).2 p1)]
  have ht2 : turnE 0 gs (stepsV gs) (hi ++ freeL (hi ++ st) gs.length ++ st) = 0 := by
    unfold turnE
    rw [if_neg (by rw [wrong_whole hz2]; simp), if_pos ((permB_iff _ _).2 p3)]
  obtain ⟨_, _, _, w1, r1⟩ := thr_turn ht1
  obtain ⟨_, _, _, w2, r2⟩ := thr_turn ht2
  have l1 : (prod (taken ds (lo ++ freeL (lo ++ ps) ds.length ++ ps))).toNat = n := by rw [prod_perm (taken_perm p1)]; omega
  have l2 : (prod (taken gs (hi ++ freeL (hi ++ st) gs.length ++ st))).toNat = m := by rw [prod_perm (taken_perm p3)]; omega
  obtain ⟨Q1, hQ1⟩ : ∃ Q1, Q1 = readsV 0 (taken ds (lo ++ freeL (lo ++ ps) ds.length ++ ps)) (taken (stepsV ds) (lo ++ freeL (lo ++ ps) ds.length ++ ps)) := ⟨_, rfl⟩
  obtain ⟨Q2, hQ2⟩ : ∃ Q2, Q2 = readsV 0 (taken gs (hi ++ freeL (hi ++ st) gs.length ++ st)) (taken (stepsV gs) (hi ++ freeL (hi ++ st) gs.length ++ st)) := ⟨_, rfl⟩
  have k1 : Q1.length = n := by rw [hQ1, readsV_length, l1]
  have k2 : Q2.length = m := by rw [hQ2, readsV_length, l2]
  have kb1 : ∀ i, i < n → 0 ≤ Q1[i]?.getD 0 ∧ Q1[i]?.getD 0 < n := fun i hi' => by
    obtain ⟨p, h1, h2, _⟩ := r1 i (by rw [l1]; exact hi')
    rw [hQ1, h2]; omega
  have kb2 : ∀ i, i < m → 0 ≤ Q2[i]?.getD 0 ∧ Q2[i]?.getD 0 < m := fun i hi' => by
    obtain ⟨p, h1, h2, _⟩ := r2 i (by rw [l2]; exact hi')
    rw [hQ2, h2]; omega
  have hbn : ∀ i, i < t * r * c → i / c * g' + g' ≤ n ∧ (i / c / r * c + i % c) * g' + g' ≤ m ∧ i / c / r * c + i % c < t * c := fun i hi' => by
    have hc0 := (pos_of_lt_mul hi').2
    have d1 : i / c < t * r := div_row hi'
    have d2 : i / c / r < t := div_row d1
    have d3 : i / c / r * c + i % c < t * c := row_lt d2 (Nat.mod_lt _ hc0)
    refine ⟨?_, ?_, d3⟩
    · rw [en]
      have := Nat.mul_le_mul_right g' d1
      rw [Nat.succ_mul] at this
      exact this
    · rw [em]
      have := Nat.mul_le_mul_right g' d3
      rw [Nat.succ_mul] at this
      exact this
  rw [← hQ1, ← hQ2]
  intro W b off cap da dl dc xa xc xs hW c0 c1 c2 c3 hd hx hxc
  refine Do_good 16 x ea el ec es pa pl pc ps la ll lc lo ha hl hc hi ta tl tc st (some ⟨b, off, none⟩) 2 cap (twoV2 da dl dc ds xa n xc fa fl fc gs ya m yc) (dotL ps st lo hi ds gs) (t * r * c) (dotF (lookL xs Q1) (lookL ys Q2) g' r c (t * r * c)) W (he.below hW) (hp.below hW) (hlo.below hW) (hhi.below hW) (hst.below hW) b0 b1 b2 b3 b4 (arrs_two c0 c1 c2 c3 hd (hf.below hW)) (by omega) ((doE_congr (two_congr _ _ _ _ _ _ _ _ _ _ _ _ _ _)).trans hE) hs3.symm hN (dotF_length _ _ _ _ _ _) (fun y hy' => by
    simp only [dotF, List.mem_map] at hy'
    obtain ⟨i, _, rfl⟩ := hy'
    rw [innS_sum]; exact wrap_bd _) ?_
  intro hpos W2 Z nz cz g hW2 hg _ _ hrow
  have hc0 := (pos_of_lt_mul hpos).2
  have hr0 := (pos_of_lt_mul (pos_of_lt_mul hpos).1).2
  have ht0 := (pos_of_lt_mul (pos_of_lt_mul hpos).1).1
  have hg6 : g' ≤ 65536 := Nat.le_trans (Nat.le_trans (Nat.le_mul_of_pos_left g' (Nat.mul_pos ht0 hr0)) (Nat.le_of_eq en.symm)) hn6
  have hr6 : r ≤ 65536 := Nat.le_trans (Nat.le_trans (Nat.le_mul_of_pos_left r ht0) (Nat.le_mul_of_pos_right (t * r) hc0)) hN6
  have hc6 : c ≤ 65536 := Nat.le_trans (Nat.le_mul_of_pos_left c (Nat.mul_pos ht0 hr0)) hN6
  have htc6 : t * c ≤ 65536 := by
    refine Nat.le_trans ?_ hN6
    rw [Nat.mul_assoc, Nat.mul_comm r c, ← Nat.mul_assoc]
    exact Nat.le_mul_of_pos_right _ hr0
  have hbk := lt_of_cell c0
  have hr61 := (sizeE_ok hz1).1
  have hr62 := (sizeE_ok hz2).1
  have pl1 := p1.1
  have pl2 := p3.1
  simp only [List.length_append] at pl1 pl2
  refine work_dot x (.slice ea el ec) (.slice pa pl pc) (.slice la ll lc) (.slice ha hl hc) (.slice ta tl tc) Z nz cz g (t * r * c) b off cap (.slice da dl dc) (.slice xa n xc) (.slice fa fl fc) (.slice ya m yc) _ W2 ((hW2.cell (p := ⟨b, off, none⟩) (lt_of_cell c0)).trans c0) ((hW2.cell (p := ⟨b, off + 1, none⟩) (lt_of_cell c1)).trans c1) ((hW2.cell (p := ⟨b, off + 2, none⟩) (lt_of_cell c2)).trans c2) ((hW2.cell (p := ⟨b, off + 3, none⟩) (lt_of_cell c3)).trans c3) (by simp at hbk; omega) hrow (fun W3 hW3 hrow3 => ?_)
  have hWW := hW.trans (hW2.mono hW.size)
  have h3 := hWW.trans (hW3.mono hWW.size)
  have g3 := hW2.trans (hW3.mono hW2.size)
  exact dot_any 16 x (.slice ea el ec) pa pl pc ps la ll lc lo ha hl hc hi ta tl tc st da dl dc ds xa n xc xs fa fl fc gs ya m yc ys Q1 Q2 g' r c g (t * r * c) W3 (hp.below h3) (hlo.below h3) (hhi.below h3) (hst.below h3) (hd.1.below g3) (hf.1.below h3) (hx.below g3) (hy.below h3) hz1 hz2 hn6 hm6 hN6 hB ht1 hQ1 w1 k1 kb1 (by omega) ht2 hQ2 w2 k2 kb2 (by omega) hg' hr hcc hr0 hc0 hg6 hr6 hc6 (fun i hi' => ⟨(hbn i hi').1, (hbn i hi').2.1, by have := (hbn i hi').2.2; omega⟩) hrow3

end Go.Proofs.YtoagnhppjlcpkaaGreat.V

/-
  Mathematics of ArrayRows: taking rows and putting them go back and forth.
-/
namespace Go.Proofs.YtoagnhppjlcpkaaGreat.V
set_option maxRecDepth 20000
open Go.RowKit

theorem sumN_split (f : Nat → Int) (r : Nat) : ∀ m, sumN f (m * r) = sumN (fun t => sumN (fun k => f (t * r + k)) r) m
  | 0 => by simp [sumN]
  | m + 1 => by
    have h : ∀ k, sumN f (m * r + k) = sumN f (m * r) + sumN (fun k => f (m * r + k)) k := fun k => by
      induction k with
      | zero => simp [sumN]
      | succ k ih => rw [← Nat.add_assoc]; simp only [sumN]; rw [ih]; omega
    rw [Nat.succ_mul, h r, sumN_split f r m]
    simp only [sumN]
theorem sumN_pick (c : Int) (x : Nat → Int) : ∀ n : Nat, sumN (fun r => if c = (r : Int) then x r else 0) n = if 0 ≤ c ∧ c < n then x c.toNat else 0
  | 0 => by rw [if_neg (by omega)]; rfl
  | n + 1 => by
    simp only [sumN]
    rw [sumN_pick c x n]
    by_cases h : c = (n : Int)
    · subst h
      rw [if_pos rfl, if_neg (by omega), if_pos (by omega)]
      simp
    · rw [if_neg h]
      by_cases h2 : 0 ≤ c ∧ c < n
      · rw [if_pos h2, if_pos (by omega)]; omega
      · rw [if_neg h2, if_neg (by omega)]; omega
theorem rows_back (xs ys us : List Int) (long D m : Nat) : innS (takeL xs ys long D (m * long)) us (m * long) = innS xs (putL us ys long (D * long) m) (D * long) := by
  rw [innS_sum, innS_sum]
  have h1 : IntKind.i64.wrap (sumN (fun j => xs[j]?.getD 0 * (putL us ys long (D * long) m)[j]?.getD 0) (D * long)) = IntKind.i64.wrap (sumN (fun j => xs[j]?.getD 0 * sumN (fun t => if ys[t]?.getD 0 = ((j / long : Nat) : Int) then us[t * long + j % long]?.getD 0 else 0) m) (D * long)) := by
    refine wrap_sum _ (fun j hj => ?_)
    rw [putL_at _ _ _ _ _ _ hj, wrap_mulr]
  rw [h1]
  congr 1
  rw [sumN_split, sumN_split]
  have h2 : ∀ r, r < D → ∀ k, k < long → xs[r * long + k]?.getD 0 * sumN (fun t => if ys[t]?.getD 0 = (((r * long + k) / long : Nat) : Int) then us[t * long + (r * long + k) % long]?.getD 0 else 0) m = sumN (fun t => if ys[t]?.getD 0 = (r : Int) then xs[r * long + k]?.getD 0 * us[t * long + k]?.getD 0 else 0) m := fun r hr k hk => by
    rw [row_div r k long hk, row_mod r k long hk, sumN_mull]
    refine sumN_ext _ (fun t _ => ?_)
    split <;> simp
  have h3 : sumN (fun r => sumN (fun k => xs[r * long + k]?.getD 0 * sumN (fun t => if ys[t]?.getD 0 = (((r * long + k) / long : Nat) : Int) then us[t * long + (r * long + k) % long]?.getD 0 else 0) m) long) D = sumN (fun r => sumN (fun k => sumN (fun t => if ys[t]?.getD 0 = (r : Int) then xs[r * long + k]?.getD 0 * us[t * long + k]?.getD 0 else 0) m) long) D :=
    sumN_ext _ (fun r hr => sumN_ext _ (fun k hk => h2 r hr k hk))
  rw [h3]
  have h4 : ∀ r : Nat, sumN (fun k => sumN (fun t => if ys[t]?.getD 0 = (r : Int) then xs[r * long + k]?.getD 0 * us[t * long + k]?.getD 0 else 0) m) long = sumN (fun t => sumN (fun k => if ys[t]?.getD 0 = (r : Int) then xs[r * long + k]?.getD 0 * us[t * long + k]?.getD 0 else 0) long) m := fun r => sumN_swap _ _ _
  rw [sumN_ext D (fun r _ => h4 r)]
  conv => rhs; rw [sumN_swap]
  refine sumN_ext _ (fun t ht => ?_)
  conv => rhs; rw [sumN_swap]
  refine sumN_ext _ (fun k hk => ?_)
  rw [sumN_pick (ys[t]?.getD 0) (fun r => xs[r * long + k]?.getD 0 * us[t * long + k]?.getD 0) D, takeL_at _ _ _ _ _ _ (row_lt ht hk), row_div t k long hk, row_mod t k long hk]
  split <;> simp
end Go.Proofs.YtoagnhppjlcpkaaGreat.V

/-
  Contract: adjointlaw2.alive.
-/
namespace Go.Proofs.YtoagnhppjlcpkaaGreat.V
set_option maxRecDepth 20000
open Go.RowKit

set_option maxRecDepth 100000 in
set_option maxHeartbeats 2000000 in
theorem alive2_any (w : World) : Calls Tryz.prog 10 #[] w fun e w' => e = .returned (.bool true) ∧ Below w.heap.size w w' := by
  have HB1 := (Below.refl w.heap.size w).alloc (Nat.le_refl _) (.cells #[.int .i64 2] 2)
  have HB2 := HB1.alloc HB1.size (.cells #[.int .i64 3] 2)
  have HB3 := HB2.alloc HB2.size (.cells #[.slice none 0 0, .slice (some ⟨w.heap.size, 0, none⟩) 1 1, .slice none 0 0, .slice (some ⟨w.heap.size + 1, 0, none⟩) 1 1] 28)
  have HB := hide HB3
  have i2 := ((ints_one 2 (by omega) 2 (w := w) (B := w.heap.size) rfl).below ((Below.refl _ _).alloc (Nat.le_refl _) (.cells #[.int .i64 3] 2))).below ((Below.refl _ _).alloc (Nat.le_refl _) (.cells #[.slice none 0 0, .slice (some ⟨w.heap.size, 0, none⟩) 1 1, .slice none 0 0, .slice (some ⟨w.heap.size + 1, 0, none⟩) 1 1] 28))
  have i3 := (ints_one 3 (by omega) 2 (w := (w.alloc (.cells #[.int .i64 2] 2))) (B := w.heap.size + 1) (by simp)).below ((Below.refl _ _).alloc (Nat.le_refl _) (.cells #[.slice none 0 0, .slice (some ⟨w.heap.size, 0, none⟩) 1 1, .slice none 0 0, .slice (some ⟨w.heap.size + 1, 0, none⟩) 1 1] 28))
  have f4 := FourAt.new (w := ((w.alloc (.cells #[.int .i64 2] 2)).alloc (.cells #[.int .i64 3] 2))) (B := w.heap.size + 1 + 1) (.slice none 0 0) (.slice (some ⟨w.heap.size, 0, none⟩) 1 1) (.slice none 0 0) (.slice (some ⟨w.heap.size + 1, 0, none⟩) 1 1) (by simp)
  obtain ⟨c0, c1, c2, c3⟩ := f4.cells
  have hS := Do_two 3 (.inl rfl) (w.heap.size + 1 + 1) 0 2 none 0 0 none 0 0 [] 1 (some ⟨w.heap.size, 0, none⟩) 1 [2] (some ⟨w.heap.size + 1, 0, none⟩) 1 [3] _ c0 c1 c2 c3 (ints_nil _) (ints_nil _) i2 i3 (by decide)
  have ht : twoL 3 [2] [3] 1 = [5] := by simp [twoL, twoV, List.range_succ, w64, wrap_in 5 (by omega) (by omega)]
  rw [ht] at hS
  have HS := hide hS
  clear i2 i3 f4 c0 c1 c2 c3 HB1 HB2 HB3 hS ht
  go_enter Tryz.func10, Tryz.ntmps10
  go_wp2_with (go_at_call 7; refine HS.out.mono ?_; rintro e w1 ⟨⟨g, G, rfl, hi1, hi2, hg1, hg2⟩, hb⟩; obtain ⟨b5, o5, e5, _, hc5⟩ := hi2.at (by omega); cases e5; have c5 := alloc_cell (o := .cells #[.slice (some ⟨g, 0, none⟩) 0 0, .slice (some ⟨G, 0, none⟩) 1 1] 28) (hc5 0 (by omega)); simp only [Nat.add_zero, List.getElem?_cons_zero, Option.getD_some] at c5; have HB5 := hide (Below.on HB.out hb); obtain ⟨⟨a0, a1⟩, _⟩ := (ArrAt.new w1 (.slice (some ⟨g, 0, none⟩) 0 0) (.slice (some ⟨G, 0, none⟩) 1 1)).cells; clear hi1 hi2 hb hc5 hg1 hg2)
  all_goals go_ret
  all_goals exact ⟨rfl, HB5.out.alloc HB5.out.size _⟩
end Go.Proofs.YtoagnhppjlcpkaaGreat.V

/-
  Contracts: array.Do of Fill, whatever the list of dimensions is; adjointlaw2.one0 of it.
-/
namespace Go.Proofs.YtoagnhppjlcpkaaGreat.V
set_option maxRecDepth 20000
open Go.RowKit

set_option maxRecDepth 100000 in
set_option maxHeartbeats 2000000 in
theorem shape_fill (x : Int) (ea : Option Addr) (el ec : Nat) (es : List Int) (av : Value) (w : World) (he : Ints w ea el es) (h6 : el ≤ 6) :
    Calls Tryz.prog 28 #[.agg #[.int .i64 2, .slice ea el ec, .slice none 0 0, .slice none 0 0, .slice none 0 0, .slice none 0 0, .int .i64 x], av] w fun e w' => OutP e w' (es, 0) ∧ Below w.heap.size w w' := by
  have HE := hide he
  have HB1 := hide ((Below.refl w.heap.size w).alloc (Nat.le_refl _) (.cells #[.int .i64 2, .slice ea el ec, .slice none 0 0, .slice none 0 0, .slice none 0 0, .slice none 0 0, .int .i64 x] 24))
  have HOP := hide (OpAt.new w 2 (.slice ea el ec) (.slice none 0 0) (.slice none 0 0) (.slice none 0 0) (.slice none 0 0) x)
  obtain ⟨o0, o1, o2, o3, o4, o5, o6⟩ := HOP.out.cells
  clear he
  go_enter Tryz.func28, Tryz.ntmps28
  go_wp2_with (go_at_call 53; refine (afresh_any _ _ _ es _ (HE.out.below HB1.out) (by omega)).mono ?_; rintro e w1 ⟨⟨g, rfl, hr, hg⟩, hb⟩; have HR := hide hr; have HB2 := hide (Below.on HB1.out hb); have hgg : w.heap.size ≤ g := Nat.le_trans HB1.out.size hg; clear hr hb hg)
  go_ret2
  exact ⟨outP_new (newAt_row HR.out hgg HE.out.1 (by omega) HE.out.2.2.1) 0, HB2.out⟩

set_option maxRecDepth 100000 in
set_option maxHeartbeats 2000000 in
theorem Dims_fill (x : Int) (ea : Option Addr) (el ec : Nat) (es : List Int) (A : Option Addr) (cap : Nat) (w : World) (he : Ints w ea el es) (hz : sizeE es = 0) :
    Calls Tryz.prog 17 #[.agg #[.int .i64 2, .slice ea el ec, .slice none 0 0, .slice none 0 0, .slice none 0 0, .slice none 0 0, .int .i64 x], .slice A 0 cap] w fun e w' => OutP e w' (es, 0) ∧ Below w.heap.size w w' := by
  have HE := hide he
  have HZ := hide hz
  have h6 : el ≤ 6 := by have := (sizeE_ok hz).1; have := he.1; omega
  have HB1 := hide ((Below.refl w.heap.size w).alloc (Nat.le_refl _) (.cells #[.int .i64 2, .slice ea el ec, .slice none 0 0, .slice none 0 0, .slice none 0 0, .slice none 0 0, .int .i64 x] 24))
  have HOP := hide (OpAt.new w 2 (.slice ea el ec) (.slice none 0 0) (.slice none 0 0) (.slice none 0 0) (.slice none 0 0) x)
  have HTK := hide (show takesE 2 0 = 0 by decide)
  obtain ⟨o0, o1, o2, o3, o4, o5, o6⟩ := HOP.out.cells
  clear he hz
  go_enter Tryz.func17, Tryz.ntmps17
  go_wp2_with (go_at_call 15; refine (takes_any 2 0 _).mono ?_; rintro e w' ⟨rfl, hw'⟩; obtain rfl := hw'.symm; rw [HTK.out])
  go_loopw [25] (fun i wr => i = .int .i64 0 ∧ OpAt wr w.heap.size 2 (.slice ea el ec) (.slice none 0 0) (.slice none 0 0) (.slice none 0 0) (.slice none 0 0) x ∧ Below w.heap.size w wr) (fun _ _ => 0)
  case atStart => exact ⟨rfl, HOP.out, HB1.out⟩
  case round =>
    obtain ⟨rfl, ho, hB⟩ := hrel
    have HO := hide ho
    have HB := hide hB
    clear o0 o1 o2 o3 o4 o5 o6
    obtain ⟨o0, o1, o2, o3, o4, o5, o6⟩ := HO.out.cells
    clear ho hB
    go_wp2_with (first
      | (go_at_call 28; refine (shape_fill x ea el ec es _ _ (HE.out.below HB.out) h6).mono ?_; rintro e w2 ⟨⟨Z, nz, cz, rfl, hi, hnc⟩, hb⟩; have HI := hide hi; have HB2 := hide (Below.on HB.out hb); clear hi hb)
      | (go_at_call 27; refine (size_any _ _ _ es _ HI.out).mono ?_; rintro e w' ⟨rfl, hw'⟩; obtain rfl := hw'.symm; rw [HZ.out]))
    go_ret2
    exact ⟨⟨Z, nz, cz, rfl, HI.out, hnc⟩, HB2.out⟩

set_option maxRecDepth 100000 in
set_option maxHeartbeats 4000000 in
theorem Do_fill (x : Int) (ea : Option Addr) (el ec : Nat) (es : List Int) (n : Nat) (w : World) (he : Ints w ea el es) (hE : arrE es n = 0) (hx : -9223372036854775808 ≤ x ∧ x ≤ 9223372036854775807) :
    Calls Tryz.prog 7 #[.agg #[.int .i64 2, .slice ea el ec, .slice none 0 0, .slice none 0 0, .slice none 0 0, .slice none 0 0, .int .i64 x], .slice none 0 0] w fun e w' => DoesTo w es (List.replicate n x) n e w' ∧ Below w.heap.size w w' := by
  have hz := (arrE_ok hE).1
  have hN := (arrE_ok hE).2.1
  have hn6 := (arrE_ok hE).2.2
  have HE := hide he
  have HZ := hide hz
  have HN := hide hN
  have HXB := hide hx
  have HTK := hide (show takesE 2 0 = 0 by decide)
  have HB1 := hide ((Below.refl w.heap.size w).alloc (Nat.le_refl _) (.cells #[.int .i64 2, .slice ea el ec, .slice none 0 0, .slice none 0 0, .slice none 0 0, .slice none 0 0, .int .i64 x] 24))
  have HB2 := hide (HB1.out.alloc HB1.out.size (.cells #[.slice none 0 0, .slice none 0 0] 28))
  have HOP := hide ((OpAt.new w 2 (.slice ea el ec) (.slice none 0 0) (.slice none 0 0) (.slice none 0 0) (.slice none 0 0) x).alloc (.cells #[.slice none 0 0, .slice none 0 0] 28))
  have har := ArrAt.new (w.alloc (.cells #[.int .i64 2, .slice ea el ec, .slice none 0 0, .slice none 0 0, .slice none 0 0, .slice none 0 0, .int .i64 x] 24)) (.slice none 0 0) (.slice none 0 0)
  simp only [World.size_alloc] at har
  have HAR := hide har
  obtain ⟨o0, o1, o2, o3, o4, o5, o6⟩ := HOP.out.cells
  have hmk := run_make_row' (P := Tryz.prog) 45 22 (.slice none 0 0) 24 Tryz.underlying45 info_ints rfl .i64 .i64 0 (by omega) (by omega)
  rw [show ((0 : Nat) : Int) = 0 from rfl] at hmk
  have hmk2 := run_make_row' (P := Tryz.prog) 26 2 (.int .i64 0) 8 Tryz.underlying26 info_int64 rfl .i64 .i64 n (by omega) (by omega)
  clear he har hE hN hz hx
  go_enter Tryz.func7, Tryz.ntmps7
  go_wp2_with (go_at_call 15; refine (takes_any 2 0 _).mono ?_; rintro e w' ⟨rfl, hw'⟩; obtain rfl := hw'.symm; rw [HTK.out])
  go_loopw [28] (fun i wr => i = .int .i64 0 ∧ OpAt wr w.heap.size 2 (.slice ea el ec) (.slice none 0 0) (.slice none 0 0) (.slice none 0 0) (.slice none 0 0) x ∧ ArrAt wr (w.heap.size + 1) (.slice none 0 0) (.slice none 0 0) ∧ Below w.heap.size w wr) (fun _ _ => 0)
  case atStart => exact ⟨rfl, HOP.out.alloc _, HAR.out.alloc _, HB2.out.alloc HB2.out.size _⟩
  case round =>
    obtain ⟨rfl, ho, ha, hB⟩ := hrel
    have HO := hide ho
    have HA := hide ha
    have HB := hide hB
    clear o0 o1 o2 o3 o4 o5 o6
    obtain ⟨o0, o1, o2, o3, o4, o5, o6⟩ := HO.out.cells
    clear ho ha hB
    by_cases hn0 : (0 : Int) < (n : Int)
    · go_wp2_with (first
        | (go_at_call 19; refine (work_fill x _ _ _ _ _ Z nz cz w1.heap.size n _ _ ((World.rowIs_made w1 (.int .i64 0) n 2).of_block (Below.heap_alloc _ _ _ (by simp))) (by omega)).mono ?_; rintro e w6 ⟨rfl, hr6, hsv⟩; have hs0 := HBa.out.size; have ha0 := HA2.out.lt; have HR6 := hide hr6; have HX6 : Hid (ArrAt w6 (w1.heap.size + 1) _ _) := (hsv.1 (w1.heap.size + 1) (by simp) (by omega)).trans HX5.out; have HA6 : Hid (ArrAt w6 (w.heap.size + 1) _ _) := (hsv.1 (w.heap.size + 1) (by simp; omega) (by omega)).trans HA5.out; have HI6 := hide (ints_save HI1.out (((Below.refl _ _).alloc (Nat.le_refl _) (.cells (madeCells #[.int .i64 0] n) 2)).alloc (by simp) (.cells #[.slice Z nz cz, .slice (some ⟨w1.heap.size, 0, none⟩) n n] 28)) hsv); have HB6 := hide (Save.below HB5.out hsv (by omega) (Nat.le_refl _)); clear hsv hr6 x0 x1 o0 o1 o2 o3 o4 o5 o6; obtain ⟨⟨x0, x1⟩, _⟩ := HX6.out.cells; obtain ⟨⟨a0, a1⟩, fa0, fa1⟩ := HA6.out.cells)
        | (go_at_call 18; refine (count_any _ _ _ es _ HI1.out (count_ok HZ.out)).mono ?_; rintro e w' ⟨rfl, hw'⟩; obtain rfl := hw'.symm; rw [← HN.out]; have HO5 := hide ((HO2.out.alloc (.cells (madeCells #[.int .i64 0] n) 2)).alloc (.cells #[.slice Z nz cz, .slice (some ⟨w1.heap.size, 0, none⟩) n n] 28)); have HA5 := hide ((HA2.out.alloc (.cells (madeCells #[.int .i64 0] n) 2)).alloc (.cells #[.slice Z nz cz, .slice (some ⟨w1.heap.size, 0, none⟩) n n] 28)); have HB5 := hide ((HBa.out.alloc HBa.out.size (.cells (madeCells #[.int .i64 0] n) 2)).alloc (HBa.out.alloc HBa.out.size (.cells (madeCells #[.int .i64 0] n) 2)).size (.cells #[.slice Z nz cz, .slice (some ⟨w1.heap.size, 0, none⟩) n n] 28)); have hx5 := ArrAt.new (w1.alloc (.cells (madeCells #[.int .i64 0] n) 2)) (.slice Z nz cz) (.slice (some ⟨w1.heap.size, 0, none⟩) n n); simp only [World.size_alloc] at hx5; have HX5 := hide hx5; clear o0 o1 o2 o3 o4 o5 o6 hx5; obtain ⟨o0, o1, o2, o3, o4, o5, o6⟩ := HO5.out.cells; obtain ⟨⟨x0, x1⟩, _⟩ := HX5.out.cells)
        | (go_at_call 17; refine (Dims_fill x ea el ec es _ _ _ (HE.out.below HB.out) HZ.out).mono ?_; rintro e w1 ⟨⟨Z, nz, cz, rfl, hi1, hnc⟩, hb⟩; have HI1 : Hid (Ints w1 Z nz es) := hi1; have HBa := hide (Below.on HB.out hb); have hna := HA.out.lt; have HO2 := hide (HO.out.below hb); have HA2 := hide (HA.out.below hb); clear hi1 hb o0 o1 o2 o3 o4 o5 o6; obtain ⟨o0, o1, o2, o3, o4, o5, o6⟩ := HO2.out.cells))
      have hs1 := HBa.out.size
      have ha1 := HA2.out.lt
      obtain ⟨⟨u0, u1⟩, _⟩ := (HA6.out.put (.slice Z nz cz) (.slice (some ⟨w1.heap.size, 0, none⟩) n n)).cells
      refine bodyPost_ret (v := .tuple #[.agg #[.slice Z nz cz, .slice (some ⟨w1.heap.size, 0, none⟩) n n], .int .i64 0]) (by simp [results, Tryz.results7, go_sem, u0, u1]) rfl ⟨⟨Z, nz, cz, w1.heap.size, rfl, ⟨?_, hnc⟩, ?_, hs1⟩, ?_⟩
      · exact ints_put_arr HI6.out HA6.out (fun _ _ e => by cases e) (fun _ _ e => by cases e) _ _
      · have hr8 := (HR6.out.setOther (a := ⟨w.heap.size + 1, 0, none⟩) (by simp; omega) (.slice Z nz cz)).setOther (a := ⟨w.heap.size + 1, 1, none⟩) (by simp; omega) (.slice (some ⟨w1.heap.size, 0, none⟩) n n)
        exact ⟨by simp, by omega, fun y hy => by simp at hy; rw [hy.2]; exact HXB.out, .inr ⟨_, _, rfl, fun t ht => by rw [Nat.zero_add]; exact hr8.cell ht⟩⟩
      · exact (HB6.out.setCell (p := ⟨w.heap.size + 1, 0, none⟩) (by simp) _).setCell (p := ⟨w.heap.size + 1, 1, none⟩) (by simp) _
    · have hn2 : decide ((0 : Int) < (n : Int)) = false := decide_eq_false hn0
      have hn3 : n = 0 := by omega
      have hn4 : decide (0 < n) = false := decide_eq_false (by omega)
      have hn5 : ¬ 0 < n := by omega
      have HN3 := hide hn3
      clear hn3 hn0
      go_wp2_with (first
        | (go_at_call 18; refine (count_any _ _ _ es _ HI1.out (count_ok HZ.out)).mono ?_; rintro e w' ⟨rfl, hw'⟩; obtain rfl := hw'.symm; rw [← HN.out]; have HO5 := hide ((HO2.out.alloc (.cells (madeCells #[.int .i64 0] n) 2)).alloc (.cells #[.slice Z nz cz, .slice (some ⟨w1.heap.size, 0, none⟩) n n] 28)); have HA5 := hide ((HA2.out.alloc (.cells (madeCells #[.int .i64 0] n) 2)).alloc (.cells #[.slice Z nz cz, .slice (some ⟨w1.heap.size, 0, none⟩) n n] 28)); have HB5 := hide ((HBa.out.alloc HBa.out.size (.cells (madeCells #[.int .i64 0] n) 2)).alloc (HBa.out.alloc HBa.out.size (.cells (madeCells #[.int .i64 0] n) 2)).size (.cells #[.slice Z nz cz, .slice (some ⟨w1.heap.size, 0, none⟩) n n] 28)); have hx5 := ArrAt.new (w1.alloc (.cells (madeCells #[.int .i64 0] n) 2)) (.slice Z nz cz) (.slice (some ⟨w1.heap.size, 0, none⟩) n n); simp only [World.size_alloc] at hx5; have HX5 := hide hx5; clear o0 o1 o2 o3 o4 o5 o6 hx5; obtain ⟨o0, o1, o2, o3, o4, o5, o6⟩ := HO5.out.cells; obtain ⟨⟨x0, x1⟩, _⟩ := HX5.out.cells; obtain ⟨⟨a0, a1⟩, fa0, fa1⟩ := HA5.out.cells)
        | (go_at_call 17; refine (Dims_fill x ea el ec es _ _ _ (HE.out.below HB.out) HZ.out).mono ?_; rintro e w1 ⟨⟨Z, nz, cz, rfl, hi1, hnc⟩, hb⟩; have HI1 : Hid (Ints w1 Z nz es) := hi1; have HBa := hide (Below.on HB.out hb); have hna := HA.out.lt; have HO2 := hide (HO.out.below hb); have HA2 := hide (HA.out.below hb); clear hi1 hb o0 o1 o2 o3 o4 o5 o6; obtain ⟨o0, o1, o2, o3, o4, o5, o6⟩ := HO2.out.cells))
      have hs1 := HBa.out.size
      have ha1 := HA2.out.lt
      obtain ⟨⟨u0, u1⟩, _⟩ := (HA5.out.put (.slice Z nz cz) (.slice (some ⟨w1.heap.size, 0, none⟩) n n)).cells
      refine bodyPost_ret (v := .tuple #[.agg #[.slice Z nz cz, .slice (some ⟨w1.heap.size, 0, none⟩) n n], .int .i64 0]) (by simp [results, Tryz.results7, go_sem, u0, u1]) rfl ⟨⟨Z, nz, cz, w1.heap.size, rfl, ⟨?_, hnc⟩, ?_, hs1⟩, ?_⟩
      · exact ints_put_arr (HI1.out.below (((Below.refl _ _).alloc (Nat.le_refl _) _).alloc (by simp) _)) HA5.out (fun _ _ e => by cases e) (fun _ _ e => by cases e) _ _
      · exact ⟨by simp, by omega, fun y hy => by simp at hy; rw [hy.2]; exact HXB.out, .inl HN3.out⟩
      · exact (HB5.out.setCell (p := ⟨w.heap.size + 1, 0, none⟩) (by simp) _).setCell (p := ⟨w.heap.size + 1, 1, none⟩) (by simp) _
end Go.Proofs.YtoagnhppjlcpkaaGreat.V
