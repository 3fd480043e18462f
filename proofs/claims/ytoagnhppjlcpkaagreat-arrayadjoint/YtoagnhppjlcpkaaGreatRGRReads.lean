/-
  Contracts: adjointref1.Whole, adjointref1.Reads.
-/
import Derived.Test.YtoagnhppjlcpkaaGreatRGSteps
import Derived.Test.YtoagnhppjlcpkaaGreatRGPut
import Derived.Deep.AppendLies
namespace Go.Proofs.YtoagnhppjlcpkaaGreat.V
set_option maxRecDepth 20000
open Go.RowKit

theorem prod_zero {xs : List Int} (h : (0 : Int) ∈ xs) : prod xs = 0 := by
  induction xs with
  | nil => cases h
  | cons x r ih =>
    rcases List.mem_cons.1 h with e | e
    · rw [prod, ← e]; omega
    · rw [prod, ih e]; omega
theorem dims_cases {xs : List Int} (hE : sizeE xs = 0) : (0 : Int) ∈ xs ∧ sizeN xs = 0 ∧ prod xs = 0 ∨ (∀ x ∈ xs, 1 ≤ x) ∧ sizeN xs = prod xs ∧ prod xs ≤ 65536 ∧ 1 ≤ prod xs := by
  obtain ⟨z1, z2, z3, z4⟩ := sizeE_ok hE
  by_cases hz : (0 : Int) ∈ xs
  · exact .inl ⟨hz, z4 hz, prod_zero hz⟩
  · have hpos : ∀ x ∈ xs, 1 ≤ x := fun x hx => by
      have := z2 x hx
      by_cases e : x = 0
      · exact absurd (e ▸ hx) hz
      · omega
    exact .inr ⟨hpos, (z3 hpos).2, (z3 hpos).1, prod_pos xs hpos⟩

set_option maxHeartbeats 1000000 in
theorem rall_none (a : Option Addr) (len cap : Nat) (xs : List Int) (w : World) (h : Ints w a len xs) (hE : sizeE xs = 0) (hN : sizeN xs = 0) :
    Calls Tryz.prog 23 #[.slice a len cap] w fun e w' => e = .returned (.slice none 0 0) ∧ Below w.heap.size w w' := by
  have H := hide h
  have HE := hide hE
  have HN := hide hN
  clear h hE hN
  go_enter Tryz.func23, Tryz.ntmps23
  go_wp2_with (go_at_call 37; refine (rsize_any _ _ _ xs _ H.out).mono ?_; rintro e w' ⟨rfl, hw'⟩; obtain rfl := hw'.symm; rw [HE.out, HN.out])
  go_ret
  exact ⟨rfl, Below.refl _ _⟩

theorem readsV_getD (s : Int) (ds ss : List Int) (i : Nat) (h : i < (prod ds).toNat) : (readsV s ds ss)[i]?.getD 0 = s + lieN ds ss i := by simp [readsV, h]
theorem readsV_bd {s : Int} {ds ss : List Int} (hs : Small s ds ss) (hpos : ∀ x ∈ ds, 1 ≤ x) : ∀ x ∈ readsV s ds ss, -28115000000000000 ≤ x ∧ x ≤ 28115000000000000 := by
  intro x hx
  simp only [readsV, List.mem_map, List.mem_range] at hx
  obtain ⟨n, hn, rfl⟩ := hx
  have := lieN_bd (n := n) hs.len hs.rank (fun x hx => ⟨hpos x hx, (hs.dims x hx).2⟩) hs.steps (by omega) (by omega)
  have := hs.start
  omega

end Go.Proofs.YtoagnhppjlcpkaaGreat.V

/-
  Contracts: adjointref1.Whole, adjointref1.Reads, whatever they are asked.
-/
namespace Go.Proofs.YtoagnhppjlcpkaaGreat.V
set_option maxRecDepth 20000
open Go.RowKit

/-- It answers a list and what it tells. -/
def TellsL (w0 : World) (e : Ending) (w : World) (l : List Int) (E : Int) : Prop :=
  ∃ (A : Option Addr) (n c : Nat), e = .returned (.tuple #[.slice A n c, .int .i64 E]) ∧ Ints w A n l ∧ n ≤ c ∧ Far w0.heap.size A
theorem tells_none (w0 w : World) (E : Int) : TellsL w0 (.returned (.tuple #[.slice none 0 0, .int .i64 E])) w [] E := ⟨none, 0, 0, rfl, ⟨rfl, by omega, by simp, .inl rfl⟩, Nat.le_refl _, far_none _⟩

set_option maxRecDepth 100000 in
set_option maxHeartbeats 2000000 in
theorem rwhole_any (a : Option Addr) (len cap : Nat) (xs : List Int) (w : World) (h : Ints w a len xs) (hcap : len ≤ cap) :
    Calls Tryz.prog 104 #[.slice a len cap] w fun e w' => GivesF w a e w' 0 (okL (sizeE xs) xs) (okL (sizeE xs) (stepsV xs)) (sizeE xs) ∧ Below w.heap.size w w' := by
  have hb1 : Below w.heap.size w (w.alloc (.cells #[.int .i64 0, .slice none 0 0, .slice none 0 0] 80)) := (Below.refl _ _).alloc (Nat.le_refl _) _
  have HB1 := hide hb1
  have HR1 := hide (ViewAt.new w (.int .i64 0) (.slice none 0 0) (.slice none 0 0))
  have H := hide h
  clear hb1
  by_cases hE : sizeE xs = 0
  · obtain ⟨z1, z2, _, _⟩ := sizeE_ok hE
    have hlen : len ≤ 6 := by have := h.1; omega
    have HZ2 := hide z2
    have HE := hide hE
    simp only [hE, okL, if_true]
    clear h hE z1 z2
    go_enter Tryz.func104, Tryz.ntmps104
    go_wp2_with (first
      | (go_at_call 37; refine (rsize_any _ _ _ xs _ (H.out.below HB1.out)).mono ?_; rintro e w' ⟨rfl, hw'⟩; obtain rfl := hw'.symm; rw [HE.out])
      | (go_at_call 110; refine (rsteps_any _ _ _ xs _ (H.out.below HB1.out) hcap hlen HZ2.out).mono ?_; rintro e w1 ⟨⟨g1, c1, rfl, hgc, hi1⟩, hb1⟩; have HI1 := hide hi1; have HB2 := hide (Below.on HB1.out hb1); have HR2 := hide (HR1.out.below hb1); obtain ⟨⟨r0, r1, r2⟩, rf0, rf1, rf2⟩ := HR2.out.cells; have hlt2 := HR2.out.lt; clear hi1 hb1))
    simp only [World.size_alloc] at hgc
    have hR3 := view_put' (x := .int .i64 0) (y := .slice a len cap) (z := .slice (some ⟨g1, 0, none⟩) len c1) HR2.out
    obtain ⟨⟨u0, u1, u2⟩, _⟩ := hR3.cells
    have hB3 := below_put (x := .int .i64 0) (y := .slice a len cap) (z := .slice (some ⟨g1, 0, none⟩) len c1) HB2.out (Nat.le_refl w.heap.size)
    refine bodyPost_ret (v := .tuple #[.agg #[.int .i64 0, .slice a len cap, .slice (some ⟨g1, 0, none⟩) len c1], .int .i64 0]) (by simp [results, Tryz.results104, go_sem, u0, u1, u2]) rfl ⟨⟨_, _, _, _, _, _, rfl, H.out.below hB3, ?_, ⟨hcap, hgc.1⟩, .inl rfl, far_some (by omega)⟩, hB3⟩
    exact ints_set3 HI1.out (by omega)
  · have hE1 : (sizeE xs != 0) = true := by simp [hE]
    simp only [okL, if_neg hE]
    clear h hE
    go_enter Tryz.func104, Tryz.ntmps104
    go_wp2_with (go_at_call 37; refine (rsize_any _ _ _ xs _ (H.out.below HB1.out)).mono ?_; rintro e w' ⟨rfl, hw'⟩; obtain rfl := hw'.symm)
    obtain ⟨⟨u0, u1, u2⟩, _⟩ := HR1.out.cells
    refine bodyPost_ret (v := .tuple #[.agg #[.int .i64 0, .slice none 0 0, .slice none 0 0], .int .i64 (sizeE xs)]) (by simp [results, Tryz.results104, go_sem, u0, u1, u2]) rfl ⟨givesF_none _ _ _ _, HB1.out⟩
end Go.Proofs.YtoagnhppjlcpkaaGreat.V
