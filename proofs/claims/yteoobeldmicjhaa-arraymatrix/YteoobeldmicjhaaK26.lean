/-
  Contract: adjointref2.joinDims. Contracts: array.shape and adjointref2.ruled where all dimensions must be alike.
-/
import Derived.Test.YteoobeldmicjhaaK23
import Derived.Test.YteoobeldmicjhaaK7
import Derived.Test.YteoobeldmicjhaaK22
namespace Go.Proofs.Yteoobeldmicjhaa.V
open Go.RowKit

/-- A row with room behind it. -/
def RowC (w : World) (g c n : Nat) (xs : List Int) : Prop := ∃ f, w.rowIs g 3 c f ∧ ∀ j, j < n → f j = .int .i64 (xs[j]?.getD 0)
theorem RowC.below {w w' : World} {g c n : Nat} {xs : List Int} (h : RowC w g c n xs) (hb : Below w.heap.size w w') : RowC w' g c n xs := by
  obtain ⟨f, h1, h2⟩ := h
  exact ⟨f, h1.of_block (hb.block g h1.lt), h2⟩
theorem RowC.cell {w : World} {g c n : Nat} {xs : List Int} (h : RowC w g c n xs) (hn : n ≤ c) {j : Nat} (hj : j < n) : w.cell? ⟨g, j, none⟩ = some (.int .i64 (xs[j]?.getD 0)) := by
  obtain ⟨f, h1, h2⟩ := h
  have := h1.cell (show j < c by omega)
  rwa [h2 j hj] at this
theorem RowC.frozen {w : World} {g c n : Nat} {xs : List Int} (h : RowC w g c n xs) (j : Nat) : w.frozen? ⟨g, j, none⟩ = false := by
  obtain ⟨f, h1, h2⟩ := h
  exact h1.frozen j
theorem RowC.set {w : World} {g c n : Nat} {xs : List Int} (h : RowC w g c n xs) (p : Nat) (V' : Int) (hp : p < xs.length) : RowC (w.setCell ⟨g, p, none⟩ (.int .i64 V')) g c n (xs.set p V') := by
  obtain ⟨f, h1, h2⟩ := h
  refine ⟨_, h1.set p (.int .i64 V'), fun j hj => ?_⟩
  rw [set_getD xs p j V' hp]
  by_cases e : j = p
  · simp [e]
  · simp [e, h2 j hj]
theorem RowC.ints {w : World} {g c n : Nat} {xs : List Int} (h : RowC w g c n xs) (hn : n ≤ c) (hl : xs.length = n) (hm : n ≤ 9223372036854775807) (hb : ∀ x ∈ xs, -9223372036854775808 ≤ x ∧ x ≤ 9223372036854775807) : Ints w (some ⟨g, 0, none⟩) n xs :=
  ⟨hl, hm, hb, .inr ⟨g, 0, rfl, fun j hj => by rw [Nat.zero_add]; exact h.cell hn hj⟩⟩
theorem own_split {w : World} {B n : Nat} {v : Value} {xs : List Int} (h : w.ownsRow B 3 1 v n (xs.map (Value.int .i64))) (hl : xs.length = n) (h0 : 0 < n) : ∃ g c, v = .slice (some ⟨g, 0, none⟩) n c ∧ B ≤ g ∧ n ≤ c ∧ RowC w g c n xs := by
  rcases h.2 with ⟨rfl, h2⟩ | ⟨g, cap, cur, rfl, h3, _, h4, _⟩
  · omega
  · obtain ⟨f, hf, hg⟩ := row_of_own h hl
    exact ⟨g, cap, rfl, h3, h4, f, hf, hg.1⟩
theorem joinB_iff {p : Nat} {ds d : List Int} : joinB p ds d = true ↔ d.length = ds.length ∧ ∀ q, q < ds.length → q ≠ p → d[q]?.getD 0 = ds[q]?.getD 0 := by
  simp only [joinB, Bool.and_eq_true, decide_eq_true_eq]
  constructor
  · rintro ⟨h1, h2, h3⟩
    refine ⟨h1, fun q hq hne => ?_⟩
    by_cases e : q < p
    · have := congrArg (fun l => l[q]?) h2
      simp only [List.getElem?_take_of_lt e] at this
      rw [this]
    · have := congrArg (fun l => l[q - (p + 1)]?) h3
      simp only [List.getElem?_drop] at this
      have e2 : p + 1 + (q - (p + 1)) = q := by omega
      rw [e2] at this
      rw [this]
  · rintro ⟨h1, h2⟩
    have key : ∀ q, q ≠ p → d[q]? = ds[q]? := fun q hne => by
      by_cases e : q < ds.length
      · have := h2 q e hne
        have e' : q < d.length := by omega
        simpa [e, e'] using this
      · have e' : ¬ q < d.length := by omega
        simp [e, e']
    refine ⟨h1, ?_, ?_⟩
    · apply List.ext_getElem?
      intro q
      by_cases e : q < p
      · rw [List.getElem?_take_of_lt e, List.getElem?_take_of_lt e]; exact key q (by omega)
      · rw [List.getElem?_take_eq_none (by omega), List.getElem?_take_eq_none (by omega)]
    · apply List.ext_getElem?
      intro q
      rw [List.getElem?_drop, List.getElem?_drop]; exact key _ (by omega)
end Go.Proofs.Yteoobeldmicjhaa.V
namespace Go.Proofs.Yteoobeldmicjhaa.V
open Go.RowKit

set_option maxRecDepth 100000 in
set_option maxHeartbeats 2000000 in
theorem shape_same (k x : Int) (ea : Option Addr) (el ec : Nat) (es : List Int) (pa : Option Addr) (pl pc : Nat) (ps : List Int) (la : Option Addr) (ll lc : Nat) (lo : List Int) (ha : Option Addr) (hl hc : Nat) (hi : List Int) (ta : Option Addr) (tl tc : Nat) (st : List Int) (A : Option Addr) (len cap : Nat) (xss : List (List Int)) (w : World)
    (he : Lst w ea el ec es) (hp : Lst w pa pl pc ps) (hlo : Lst w la ll lc lo) (hhi : Lst w ha hl hc hi) (hst : Lst w ta tl tc st) (h : Lsts w A len xss) (hcap : len ≤ cap) (hz : ∀ d ∈ xss, sizeE d = 0) (hk : 3 ≤ k ∧ k ≤ 8) (hn : 1 ≤ len) (hlen : len ≤ 1048576) (b0 : el ≤ 1048576) (b1 : pl ≤ 1048576) (b2 : ll ≤ 1048576) (b3 : hl ≤ 1048576) (b4 : tl ≤ 1048576) :
    Calls Try.prog 16 #[.agg #[.int .i64 k, .slice ea el ec, .slice pa pl pc, .slice la ll lc, .slice ha hl hc, .slice ta tl tc, .int .i64 x], .slice A len cap] w fun e w' => OutP e w' (sameP xss) ∧ Below w.heap.size w w' := by
  have zz := And.intro hcap (And.intro hlen (And.intro hn (And.intro b0 (And.intro b1 (And.intro b2 (And.intro b3 b4))))))
  clear zz
  have HE := hide he
  have HP := hide hp
  have HLO := hide hlo
  have HHI := hide hhi
  have HST := hide hst
  have H := hide h
  have HN := hide h.1
  have HZ := hide hz
  have HB1 := hide ((Below.refl w.heap.size w).alloc (Nat.le_refl _) (.cells #[.int .i64 k, .slice ea el ec, .slice pa pl pc, .slice la ll lc, .slice ha hl hc, .slice ta tl tc, .int .i64 x] 30))
  have HOP := hide (OpAt.new w k (.slice ea el ec) (.slice pa pl pc) (.slice la ll lc) (.slice ha hl hc) (.slice ta tl tc) x)
  obtain ⟨o0, o1, o2, o3, o4, o5, o6⟩ := HOP.out.cells
  obtain ⟨b, off, rfl, hc⟩ := h.at (by omega)
  obtain ⟨X0, m0, c0, hc0, hl0⟩ := hc 0 (by omega)
  have hc0' : w.cell? ⟨b, off, none⟩ = some (.slice X0 m0 c0) := hc0
  obtain ⟨ds, hds⟩ : ∃ ds, ds = xss[0]?.getD [] := ⟨_, rfl⟩
  rw [← hds] at hl0
  have HL0 := hide hl0
  have HC0 := hide hc0'
  have hzd : sizeE ds = 0 := by rw [hds]; exact hz _ (mem_getDL xss 0 (by rw [h.1]; omega))
  have HZD := hide hzd
  have h06 : m0 ≤ 6 := by have := (sizeE_ok hzd).1; have := hl0.1.1; omega
  have HD1 := hide (HL0.out.below HB1.out)
  have q0 := (HB1.out.cell (p := ⟨b, off, none⟩) (lt_of_cell hc0')).trans hc0'
  have i0 : (0 : Int) < (len : Int) := by omega
  clear h he hp hlo hhi hst hz hc0 hc0' hl0 hzd
  have H6 : Hid ((xss[0]?.getD []).length ≤ 6) := by rw [Hid, ← hds]; exact (sizeE_ok HZD.out).1
  have hk' : k = 3 ∨ k = 4 ∨ k = 5 ∨ k = 6 ∨ k = 7 ∨ k = 8 := by omega
  clear hk
  clear hc hds
  rcases hk' with rfl | rfl | rfl | rfl | rfl | rfl
  all_goals go_enter Try.func16, Try.ntmps16
  all_goals go_wp2_with (go_at_call 37; refine (sameDims_any _ _ _ xss _ (H.out.below HB1.out) hn H6.out).mono ?_; rintro e w1 ⟨⟨Z, nz, cz, rfl, hi1, hnc⟩, hb⟩; have HI1 := hide hi1; have HB2 := hide (Below.on HB1.out hb); clear hi1 hb)
  all_goals go_ret2
  all_goals exact ⟨⟨_, _, _, rfl, HI1.out, hnc⟩, HB2.out⟩

end Go.Proofs.Yteoobeldmicjhaa.V
