/-
  Nobody comes through with less: by chains of states from which the rest can be gone back through, and what they cost at least.
-/
import Derived.Test.YtdfpgpekilhelaaRpPlayMath
namespace Go.Proofs.Ytdfpgpekilhelaa.V

/-- A chain upward from state x, with l slots, to state L: what it costs at least. Sources: states that are at hand. -/
inductive Ch (A : Nat → Prop) (L : Nat) : Nat → Nat → Nat → Prop
  | stop {x l : Nat} : x < L → (l = 0 → L ≤ x + 1) → Ch A L x l (T l (L - x))
  | next {x y z l c : Nat} : x < z → z ≤ y → y < L → A z → Ch A L y l c → Ch A L x (l + 1) (T (l + 1) (y - x) + (y - z) + c)

theorem Ch.mono {A A' : Nat → Prop} {L : Nat} (h : ∀ z, A z → A' z) {x l c : Nat} (hc : Ch A L x l c) : Ch A' L x l c := by
  induction hc with
  | stop h1 h2 => exact .stop h1 h2
  | next h1 h2 h3 h4 _ ih => exact .next h1 h2 h3 (h _ h4) ih
theorem Ch.above {A A' : Nat → Prop} {L b : Nat} (h : ∀ z, b < z → A z → A' z) {x l c : Nat} (hc : Ch A L x l c) (hx : b ≤ x) : Ch A' L x l c := by
  induction hc with
  | stop h1 h2 => exact .stop h1 h2
  | next h1 h2 h3 h4 _ ih => exact .next h1 h2 h3 (h _ (by omega) h4) (ih (by omega))
theorem Ch.slot {A : Nat → Prop} {L x l c : Nat} (hc : Ch A L x l c) : ∃ c', c' ≤ c ∧ Ch A L x (l + 1) c' := by
  induction hc with
  | @stop x l h1 h2 =>
    refine ⟨_, ?_, .stop h1 (fun e => by omega)⟩
    by_cases e : l = 0
    · rw [T_zero (s := l + 1) (.inr (by have := h2 e; omega))]; omega
    · exact T_mono l _ (by omega)
  | @next x y z l c h1 h2 h3 h4 _ ih =>
    obtain ⟨c', g1, g2⟩ := ih
    refine ⟨_, ?_, .next h1 h2 h3 h4 g2⟩
    have := T_mono (l + 1) (y - x) (by omega)
    omega
/-- A state of a chain can be left out, at the price of the way to it. -/
theorem Ch.merge {A : Nat → Prop} {L x y l c : Nat} (hc : Ch A L y l c) (hx : x < y) : ∃ c', c' ≤ T (l + 1) (y - x) + (y - x) + c ∧ Ch A L x (l + 1) c' := by
  cases hc with
  | stop h1 h2 =>
    refine ⟨_, ?_, .stop (by omega) (fun e => by omega)⟩
    by_cases e : l = 0
    · subst e
      have e1 := h2 rfl
      have e2 := T_one (n := L - x) (by omega)
      rw [show L - x - 1 = y - x by omega] at e2
      simp only [Nat.zero_add] at *
      omega
    · have := T_le (s := l + 1) (n := L - x) (k := y - x) (by omega) (by omega) (by omega)
      rw [show l + 1 - 1 = l by omega, show L - x - (y - x) = L - y by omega] at this
      omega
  | @next _ y2 z l2 c2 h1 h2 h3 h4 hc2 =>
    obtain ⟨c', g1, g2⟩ := hc2.slot
    refine ⟨_, ?_, .next (by omega) h2 h3 h4 g2⟩
    have := T_le (s := l2 + 1 + 1) (n := y2 - x) (k := y - x) (by omega) (by omega) (by omega)
    rw [show l2 + 1 + 1 - 1 = l2 + 1 by omega, show y2 - x - (y - x) = y2 - y by omega] at this
    omega
/-- The current state goes one step ahead. -/
theorem Ch.ahead {Sl : Nat → Prop} {L a x l c : Nat} (hc : Ch (fun z => Sl z ∨ z = a + 1) L x l c) : ∃ c', c' ≤ c + 1 ∧ Ch (fun z => Sl z ∨ z = a) L x l c' := by
  induction hc with
  | stop h1 h2 => exact ⟨_, by omega, .stop h1 h2⟩
  | @next x y z l c h1 h2 h3 h4 hc ih =>
    by_cases hs : Sl z
    · obtain ⟨c', g1, g2⟩ := ih
      exact ⟨_, by omega, .next h1 h2 h3 (.inl hs) g2⟩
    · have ez : z = a + 1 := by rcases h4 with h | h; exact absurd h hs; exact h
      have hup : Ch (fun z => Sl z ∨ z = a) L y l c := hc.above (b := a + 1) (fun t ht hA => by rcases hA with h | h; exact .inl h; omega) (by omega)
      by_cases hxa : x < a
      · exact ⟨_, by omega, .next hxa (by omega) h3 (.inr rfl) hup⟩
      · have ex : x = a := by omega
        obtain ⟨c', g1, g2⟩ := hup.merge (x := x) (by omega)
        exact ⟨c', by omega, g2⟩
/-- How many slots have a state kAbove x. -/
def kAbove (K : List (Option Nat)) (x : Nat) : Nat := K.countP fun o => match o with | some z => decide (x < z) | none => false
theorem above_mono (K : List (Option Nat)) {x y : Nat} (h : x ≤ y) : kAbove K y ≤ kAbove K x := by
  refine List.countP_mono_left fun o _ => ?_
  cases o with
  | none => simp
  | some z => simp; omega
theorem above_drop {K : List (Option Nat)} {x y z : Nat} (hz : some z ∈ K) (h1 : x < z) (h2 : z ≤ y) : kAbove K y + 1 ≤ kAbove K x := by
  induction K with
  | nil => simp at hz
  | cons o r ih =>
    unfold kAbove at *
    rw [List.countP_cons, List.countP_cons]
    rcases List.mem_cons.1 hz with e | e
    · subst e
      have := above_mono r (x := x) (y := y) (by omega)
      unfold kAbove at this
      have c1 : ¬ y < z := by omega
      simp only [h1, c1, decide_true, decide_false]
      simp
      omega
    · have := ih e
      cases o with
      | none => simp; omega
      | some v =>
        by_cases c : y < v
        · have c2 : x < v := by omega
          simp [c, c2]; omega
        · simp only [c, decide_false]
          by_cases c2 : x < v
          · simp [c2]; omega
          · simp [c2]; omega
theorem above_le (K : List (Option Nat)) (x : Nat) : kAbove K x ≤ K.length := List.countP_le_length
theorem above_lt {K : List (Option Nat)} {a x : Nat} (h : some a ∈ K) (hx : a ≤ x) : kAbove K x + 1 ≤ K.length := by
  induction K with
  | nil => simp at h
  | cons o r ih =>
    unfold kAbove at *
    rw [List.countP_cons, List.length_cons]
    rcases List.mem_cons.1 h with e | e
    · subst e
      have := above_le r x
      unfold kAbove at this
      have c : ¬ x < a := by omega
      simp [c]; omega
    · have := ih e
      cases o with
      | none => simp; omega
      | some v => by_cases c : x < v <;> simp [c] <;> omega
/-- One step back. -/
theorem Ch.back {K : List (Option Nat)} {a x l c : Nat} (hc : Ch (fun z => some z ∈ K ∨ z = a) a x l c) (hl : kAbove K x + 1 ≤ l) : ∃ c', c' ≤ c ∧ Ch (fun z => some z ∈ K ∨ z = a) (a + 1) x l c' := by
  induction hc with
  | @stop x l h1 h2 =>
    obtain ⟨l, rfl⟩ : ∃ m, l = m + 1 := ⟨l - 1, by omega⟩
    refine ⟨_, ?_, .next h1 (Nat.le_refl a) (by omega) (.inr rfl) (.stop (by omega) (fun _ => by omega))⟩
    rw [T_zero (s := l) (n := a + 1 - a) (.inr (by omega))]
    omega
  | @next x y z l c h1 h2 h3 h4 hc ih =>
    have hz : some z ∈ K := by rcases h4 with h | h; exact h; omega
    obtain ⟨c', g1, g2⟩ := ih (by have := above_drop hz h1 h2; omega)
    exact ⟨_, by omega, .next h1 h2 (by omega) h4 g2⟩

/-- Whatever comes to its end has a chain that costs no more than it. -/
theorem play_chain (n S : Nat) : ∀ (ms : List (Int × Int)) (s : St) (c : Int), s.Ok n S → playL n s ms = (c, 0) → (s.cost : Int) ≤ c ∧ (1 ≤ s.left → (some 0 ∈ s.kept ∨ s.now = 0) ∧ ∃ c' : Nat, (s.cost : Int) + c' ≤ c ∧ Ch (fun z => some z ∈ s.kept ∨ z = s.now) s.left 0 S c')
  | [], s, c, ho, h => by
    rw [playL] at h
    by_cases hl : s.left = 0
    · rw [if_pos hl] at h
      have : (s.cost : Int) = c := by have := congrArg Prod.fst h; simpa using this
      exact ⟨by omega, fun h1 => by omega⟩
    · rw [if_neg hl] at h
      have := congrArg Prod.snd h
      simp at this
  | m :: r, s, c, ho, h => by
    rw [playL] at h
    by_cases he : stepE n s m.1 m.2 = 0
    · rw [if_pos he] at h
      obtain ⟨i1, i2⟩ := play_chain n S r _ c (ho.step he) h
      unfold stepE at he
      unfold stepS at i1 i2
      by_cases d1 : m.1 = 1
      · rw [if_pos d1] at i1 i2
        simp only at i1 i2
        refine ⟨by omega, fun hl => ?_⟩
        obtain ⟨j1, c', j2, j3⟩ := i2 hl
        obtain ⟨c2, g1, g2⟩ := j3.ahead
        exact ⟨by rcases j1 with j | j; exact .inl j; omega, c2, by omega, g2⟩
      · rw [if_neg d1] at he i1 i2
        by_cases d2 : m.1 = 2
        · rw [if_pos d2] at i1 i2
          simp only at i1 i2
          refine ⟨by omega, fun hl => ?_⟩
          obtain ⟨j1, c', j2, j3⟩ := i2 hl
          have sub : ∀ z, some z ∈ s.kept.set m.2.toNat (some s.now) → some z ∈ s.kept ∨ z = s.now := by
            intro z hz
            rcases List.mem_or_eq_of_mem_set hz with h1 | h1
            · exact .inl h1
            · cases h1; exact .inr rfl
          refine ⟨?_, c', j2, j3.mono fun z hz => ?_⟩
          · rcases j1 with j | j
            · rcases sub 0 j with k | k
              · exact .inl k
              · exact .inr k.symm
            · exact .inr j
          · rcases hz with k | k
            · exact sub z k
            · exact .inr k
        · rw [if_neg d2] at he i1 i2
          by_cases d3 : m.1 = 3
          · rw [if_pos d3] at he i1 i2
            simp only at i1 i2
            refine ⟨by omega, fun hl => ?_⟩
            obtain ⟨j1, c', j2, j3⟩ := i2 hl
            have hin : inS m.2 s.kept.length = true := by
              by_cases q : inS m.2 s.kept.length = true
              · exact q
              · rw [if_neg q] at he; omega
            rw [if_pos hin] at he
            obtain ⟨a, ha⟩ : ∃ a, s.slot m.2 = some a := by
              cases hs : s.slot m.2 with
              | none => rw [if_pos hs] at he; omega
              | some a => exact ⟨a, rfl⟩
            have hm := slot_mem ha
            rw [ha] at j1 j3
            simp only [Option.getD_some] at j1 j3
            refine ⟨?_, c', j2, j3.mono fun z hz => ?_⟩
            · rcases j1 with j | j
              · exact .inl j
              · subst j; exact .inl hm
            · rcases hz with k | k
              · exact .inl k
              · subst k; exact .inl hm
          · rw [if_neg d3] at he i1 i2
            simp only at i1 i2
            refine ⟨by omega, fun hl => ?_⟩
            have hb : s.now + 1 = s.left := by
              by_cases d4 : m.1 = 4
              · rw [if_pos d4] at he
                by_cases q : s.now + 1 = s.left
                · exact q
                · rw [if_neg q] at he; omega
              · rw [if_neg d4] at he; omega
            by_cases h0 : s.now = 0
            · refine ⟨.inr h0, 0, by omega, ?_⟩
              have := Ch.stop (A := fun z => some z ∈ s.kept ∨ z = s.now) (L := s.left) (x := 0) (l := S) (by omega) (fun _ => by omega)
              rw [T_zero (.inr (by omega))] at this
              exact this
            · obtain ⟨j1, c', j2, j3⟩ := i2 (by omega)
              have hk : some 0 ∈ s.kept := by rcases j1 with j | j; exact j; omega
              rw [show s.left - 1 = s.now by omega] at j3
              obtain ⟨c2, g1, g2⟩ := j3.back (by have := above_lt hk (Nat.le_refl 0); rw [ho.len] at this; exact this)
              rw [hb] at g2
              exact ⟨.inl hk, c2, by omega, g2⟩
    · rw [if_neg he] at h
      have := congrArg Prod.snd h
      simp at this
      exact absurd this he

/-- NOBODY COMES THROUGH WITH LESS. -/
theorem no_less (n S : Nat) (ms : List (Int × Int)) (c : Int) (h : playL n (.begun n S) ms = (c, 0)) : ¬ (2 ≤ n ∧ S = 0) ∧ (T S n : Nat) ≤ c := by
  obtain ⟨h1, h2⟩ := play_chain n S ms (.begun n S) c (St.Ok.begun n S) h
  by_cases hn : n = 0
  · subst hn
    refine ⟨by omega, ?_⟩
    rw [T_zero (.inr (by omega))]
    simpa [St.begun] using h1
  · obtain ⟨_, c', g1, g2⟩ := h2 (by simp [St.begun]; omega)
    simp only [St.begun] at g1 g2
    cases g2 with
    | stop q1 q2 =>
      refine ⟨fun e => by have := q2 e.2; omega, ?_⟩
      rw [Nat.sub_zero] at g1
      omega
    | next q1 q2 q3 q4 _ =>
      exfalso
      rcases q4 with q | q
      · simp at q
      · omega
end Go.Proofs.Ytdfpgpekilhelaa.V
