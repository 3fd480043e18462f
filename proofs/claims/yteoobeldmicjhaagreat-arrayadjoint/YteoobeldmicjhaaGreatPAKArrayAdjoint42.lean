/-
  Contracts: array.Do, kind by kind: just what is made. Contract: adjointlaw2.one, whatever is asked, where Do tells no error. Mathematics of ArrayRows: taking rows and putting them go back and forth. Contracts: array.Do of Fill, whatever the list of dimensions is; adjointlaw2.one0 of it.
-/
import Derived.Test.YteoobeldmicjhaaGreatPAKArrayAdjoint41
import Derived.Test.YteoobeldmicjhaaGreatPAKArrayAdjoint39
import Derived.Test.YteoobeldmicjhaaGreatPAKArrayAdjoint40
import Derived.Test.YteoobeldmicjhaaGreatPAKArrayAdjoint34
namespace Go.Proofs.YteoobeldmicjhaaGreat.V
set_option maxRecDepth 20000
open Go.RowKit

end Go.Proofs.YteoobeldmicjhaaGreat.V
namespace Go.Proofs.YteoobeldmicjhaaGreat.V
set_option maxRecDepth 20000
open Go.RowKit

set_option maxRecDepth 100000 in
set_option maxHeartbeats 2000000 in
theorem one_gen (k x : Int) (E1 E2 E3 E4 E5 : Value) (da : Option Addr) (dl dc : Nat) (xa : Option Addr) (n1 xc : Nat) (L F : List Int) (N : Nat) (w : World)
    (hS : ∀ (W : World) (b : Nat), Below w.heap.size w W → ArrAt W b (.slice da dl dc) (.slice xa n1 xc) → Calls Tryz.prog 9 #[.agg #[.int .i64 k, E1, E2, E3, E4, E5, .int .i64 x], .slice (some ⟨b, 0, none⟩) 1 1] W fun e W' => DoesTo W L F N e W' ∧ Below W.heap.size W W') :
    Calls Tryz.prog 12 #[.agg #[.int .i64 k, E1, E2, E3, E4, E5, .int .i64 x], .agg #[.slice da dl dc, .slice xa n1 xc]] w fun e w' =>
      (∃ (Z : Option Addr) (nz cz G : Nat), e = .returned (.tuple #[.agg #[.slice Z nz cz, .slice (some ⟨G, 0, none⟩) N N], .bool true]) ∧ (Ints w' Z nz L ∧ nz ≤ cz) ∧ Ints w' (some ⟨G, 0, none⟩) N F) ∧ Below w.heap.size w w' := by
  have HB1 := (Below.refl w.heap.size w).alloc (Nat.le_refl _) (.cells #[.int .i64 k, E1, E2, E3, E4, E5, .int .i64 x] 31)
  have HB2 := HB1.alloc HB1.size (.cells #[.slice da dl dc, .slice xa n1 xc] 25)
  have HB3 := HB2.alloc HB2.size (.cells #[.slice none 0 0, .slice none 0 0] 25)
  have HB4 := HB3.alloc HB3.size (.cells #[.slice da dl dc, .slice xa n1 xc] 25)
  have HB := hide HB4
  have b1 := ((OpAt.new w k E1 E2 E3 E4 E5 x).alloc (.cells #[.slice da dl dc, .slice xa n1 xc] 25)).alloc (.cells #[.slice none 0 0, .slice none 0 0] 25)
  have a1 := (ArrAt.new (w.alloc (.cells #[.int .i64 k, E1, E2, E3, E4, E5, .int .i64 x] 31)) (.slice da dl dc) (.slice xa n1 xc)).alloc (.cells #[.slice none 0 0, .slice none 0 0] 25)
  have a3 := (ArrAt.new ((w.alloc (.cells #[.int .i64 k, E1, E2, E3, E4, E5, .int .i64 x] 31)).alloc (.cells #[.slice da dl dc, .slice xa n1 xc] 25)) (.slice none 0 0) (.slice none 0 0)).alloc (.cells #[.slice da dl dc, .slice xa n1 xc] 25)
  have a4 := ArrAt.new (((w.alloc (.cells #[.int .i64 k, E1, E2, E3, E4, E5, .int .i64 x] 31)).alloc (.cells #[.slice da dl dc, .slice xa n1 xc] 25)).alloc (.cells #[.slice none 0 0, .slice none 0 0] 25)) (.slice da dl dc) (.slice xa n1 xc)
  simp only [World.size_alloc] at a1 a3 a4
  obtain ⟨o0, o1, o2, o3, o4, o5, o6⟩ := b1.cells
  obtain ⟨⟨p0, p1⟩, _⟩ := a1.cells
  have HA3 := hide a3
  have HS := hide (hS _ (w.heap.size + 1 + 1 + 1) HB.out a4)
  clear b1 a1 a3 a4 HB1 HB2 HB3 HB4 hS
  go_enter Tryz.func12, Tryz.ntmps12
  go_wp2_with (go_at_call 9; refine HS.out.mono ?_; rintro e w1 ⟨⟨Z, nz, cz, G, rfl, ⟨hi1, hnc⟩, hi2, hg⟩, hb⟩; have HI1 := hide hi1; have HNC := hide hnc; have HI2 := hide hi2; have HB7 := hide (Below.on HB.out hb); have HA7 := hide (HA3.out.below hb); have HA8 := hide (HA7.out.alloc (.cells #[.slice Z nz cz, .slice (some ⟨G, 0, none⟩) N N] 25)); have HB8 := hide (HB7.out.alloc HB7.out.size (.cells #[.slice Z nz cz, .slice (some ⟨G, 0, none⟩) N N] 25)); obtain ⟨⟨a0, a1⟩, fa0, fa1⟩ := HA8.out.cells; clear hi1 hi2 hnc hb p0 p1 o0 o1 o2 o3 o4 o5 o6 hg)
  obtain ⟨⟨u0, u1⟩, _⟩ := (HA8.out.put (.slice Z nz cz) (.slice (some ⟨G, 0, none⟩) N N)).cells
  have hl := HA7.out.lt
  have HBF := hide ((HB8.out.setCell (p := ⟨w.heap.size + 1 + 1, 0, none⟩) (by simp; omega) (.slice Z nz cz)).setCell (p := ⟨w.heap.size + 1 + 1, 1, none⟩) (by simp; omega) (.slice (some ⟨G, 0, none⟩) N N))
  refine bodyPost_ret (v := .tuple #[.agg #[.slice Z nz cz, .slice (some ⟨G, 0, none⟩) N N], .bool true]) (by simp [results, Tryz.results12, go_sem, u0, u1]) rfl ⟨⟨Z, nz, cz, G, rfl, ⟨?_, HNC.out⟩, ?_⟩, HBF.out⟩
  · exact ints_put_arr (HI1.out.below ((Below.refl _ _).alloc (Nat.le_refl _) _)) HA8.out (fun _ _ e => by cases e) (fun _ _ e => by cases e) _ _
  · exact ints_put_arr (HI2.out.below ((Below.refl _ _).alloc (Nat.le_refl _) _)) HA8.out (fun _ _ e => by cases e) (fun _ _ e => by cases e) _ _
end Go.Proofs.YteoobeldmicjhaaGreat.V
namespace Go.Proofs.YteoobeldmicjhaaGreat.V
set_option maxRecDepth 20000
open Go.RowKit

theorem sumN_pick (c : Int) (x : Nat → Int) : ∀ n : Nat, sumN (fun r => if c = (r : Int) then x r else 0) n = if 0 ≤ c ∧ c < n then x c.toNat else 0
  | 0 => by rw [if_neg (by omega)]; rfl
  | n + 1 => by
    simp only [sumN]
    rw [sumN_pick c x n]
    by_cases h : c = (n : Int)
    · subst h
      rw [if_pos rfl, if_neg (by omega), if_pos (by omega)]
      simp
    · rw [if_neg h]
      by_cases h2 : 0 ≤ c ∧ c < n
      · rw [if_pos h2, if_pos (by omega)]; omega
      · rw [if_neg h2, if_neg (by omega)]; omega
end Go.Proofs.YteoobeldmicjhaaGreat.V
namespace Go.Proofs.YteoobeldmicjhaaGreat.V
set_option maxRecDepth 20000
open Go.RowKit

end Go.Proofs.YteoobeldmicjhaaGreat.V
