/-
  Contracts: adjointref2.SameArray of arrays that are the same; adjointlaw2.alike.
-/
import Derived.Test.YtiocknidgiccjacHArrLawTwo
namespace Go.Proofs.Ytiocknidgiccjac.V
open Go.RowKit

set_option maxRecDepth 100000 in
set_option maxHeartbeats 2000000 in
theorem sameArr_true (da : Option Addr) (dl dc : Nat) (ea : Option Addr) (el ec : Nat) (ds : List Int) (n : Nat) (xa : Option Addr) (xc : Nat) (ya : Option Addr) (yc : Nat) (xs : List Int) (w : World)
    (hd : Ints w da dl ds) (he : Ints w ea el ds) (ix : Ints w xa n xs) (iy : Ints w ya n xs) :
    Calls Try.prog 8 #[.agg #[.slice da dl dc, .slice xa n xc], .agg #[.slice ea el ec, .slice ya n yc]] w fun e w' => e = .returned (.bool true) ∧ Below w.heap.size w w' := by
  have hm := ix.2.1
  have HB1 := (Below.refl w.heap.size w).alloc (Nat.le_refl _) (.cells #[.slice da dl dc, .slice xa n xc] 25)
  have HB2 := hide (HB1.alloc HB1.size (.cells #[.slice ea el ec, .slice ya n yc] 25))
  have HA1 := hide ((ArrAt.new w (.slice da dl dc) (.slice xa n xc)).alloc (.cells #[.slice ea el ec, .slice ya n yc] 25))
  have a2 := ArrAt.new (w.alloc (.cells #[.slice da dl dc, .slice xa n xc] 25)) (.slice ea el ec) (.slice ya n yc)
  simp only [World.size_alloc] at a2
  have HA2 := hide a2
  obtain ⟨⟨p0, p1⟩, _⟩ := HA1.out.cells
  obtain ⟨⟨q0, q1⟩, _⟩ := HA2.out.cells
  have HD := hide hd
  have HE := hide he
  have HX := hide ix
  have HY := hide iy
  clear hd he ix iy a2 HB1
  go_enter Try.func8, Try.ntmps8
  go_wp2_with (go_at_call 16; refine (sameList_any _ _ _ ds _ _ _ ds _ (HD.out.below HB2.out) (HE.out.below HB2.out)).mono ?_; rintro e w1 ⟨rfl, n1, hw1⟩; rw [decide_eq_true (rfl : ds = ds)]; have hb : Below ((w.alloc (.cells #[.slice da dl dc, .slice xa n xc] 25)).alloc (.cells #[.slice ea el ec, .slice ya n yc] 25)).heap.size ((w.alloc (.cells #[.slice da dl dc, .slice xa n xc] 25)).alloc (.cells #[.slice ea el ec, .slice ya n yc] 25)) w1 := hw1 ▸ below_drewN _ n1; have HB3 := hide (Below.on HB2.out hb); have HA3 := hide (HA1.out.below hb); have HA4 := hide (HA2.out.below hb); clear p0 p1 q0 q1 hb hw1; obtain ⟨⟨p0, p1⟩, _⟩ := HA3.out.cells; obtain ⟨⟨q0, q1⟩, _⟩ := HA4.out.cells)
  go_loopw [24] (fun i wr => ∃ k : Nat, k ≤ n ∧ i = .int .i64 k ∧ ArrAt wr w.heap.size (.slice da dl dc) (.slice xa n xc) ∧ ArrAt wr (w.heap.size + 1) (.slice ea el ec) (.slice ya n yc) ∧ Below w.heap.size w wr) (fun i _ => n - (intOf i).toNat)
  case atStart => exact ⟨0, Nat.zero_le _, rfl, HA3.out, HA4.out, HB3.out⟩
  case round =>
    obtain ⟨k, hk, rfl, h1, h2, hB⟩ := hrel
    have H1 := hide h1
    have H2 := hide h2
    have HB := hide hB
    clear h1 h2 hB p0 p1 q0 q1
    by_cases hlt : k < n
    · obtain ⟨b, off, rfl, hb, hc⟩ := HX.out.at (by omega)
      obtain ⟨b', off', rfl, hb', hc'⟩ := HY.out.at (by omega)
      have hck := (HB.out.cell (p := ⟨b, off + k, none⟩) hb).trans (hc k hlt)
      have hck' := (HB.out.cell (p := ⟨b', off' + k, none⟩) hb').trans (hc' k hlt)
      obtain ⟨X, hX⟩ : ∃ X, X = xs[k]?.getD 0 := ⟨_, rfl⟩
      rw [← hX] at hck hck'
      obtain ⟨⟨p0, p1⟩, _⟩ := H1.out.cells
      obtain ⟨⟨q0, q1⟩, _⟩ := H2.out.cells
      clear hc hc' hX
      go_wp2
      go_quiet (fail)
      go_wp2
      go_roundw
      case rel => exact ⟨k + 1, by omega, by go_num, H1.out, H2.out, Below.on HB.out (below_drewN _ _)⟩
      case measure => simp [intOf]; omega
    · go_wp2
      go_ret
      exact ⟨rfl, HB.out⟩
end Go.Proofs.Ytiocknidgiccjac.V
