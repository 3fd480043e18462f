/-
  A team's play: what is handed in, what is answered. A script of the law's own, in memory.
-/
import Derived.Test.YticcoacoepajpaaPK26
import Derived.Test.YticcoacoepajpaaPK27
import Derived.Test.YticcoacoepajpaaPK23
import Derived.Test.YticcoacoepajpaaPK22
namespace Go.Proofs.Yticcoacoepajpaa.V
open Go Go.RowKit
set_option linter.unusedVariables false
set_option linter.unusedSimpArgs false

/-- The words of all, as they are handed in. -/
def DtA (W : World) (b off : Nat) (xss : List (List Int)) : Prop := ∀ i, i < xss.length → ∃ X m c, W.cell? ⟨b, off + i, none⟩ = some (.slice X m c) ∧ Ints W X m (xss[i]?.getD []) ∧ m ≤ c
theorem DtA.below {W V : World} {b off : Nat} {xss : List (List Int)} (h : DtA W b off xss) (hb : Below W.heap.size W V) : DtA V b off xss := fun i hi => by
  obtain ⟨X, m, c, h1, h2, h3⟩ := h i hi
  exact ⟨X, m, c, (hb.cell (p := ⟨b, off + i, none⟩) (lt_of_cell h1)).trans h1, h2.below hb, h3⟩
/-- A script as it is handed in. -/
def ScA (W : World) (N b off : Nat) (ps : List Stp) : Prop := ∀ k p, ps[k]? = some p → ∃ X m c, W.cell? ⟨b, off + k * 7, none⟩ = some (.int .i64 p.act) ∧ W.cell? ⟨b, off + k * 7 + 1, none⟩ = some (.int .i64 p.mem) ∧ W.cell? ⟨b, off + k * 7 + 2, none⟩ = some (.int .i64 p.num) ∧ W.cell? ⟨b, off + k * 7 + 3, none⟩ = some (.int .i64 p.nt.fr) ∧ W.cell? ⟨b, off + k * 7 + 4, none⟩ = some (.int .i64 p.nt.to) ∧ W.cell? ⟨b, off + k * 7 + 5, none⟩ = some (.int .i64 p.nt.st) ∧ W.cell? ⟨b, off + k * 7 + 6, none⟩ = some (.slice X m c) ∧ Ints W X m p.nt.data ∧ m ≤ c ∧ m * 8 ≤ 140737488355328 ∧ ∀ b' o, X = some ⟨b', o, none⟩ → 0 < m → b' < N
theorem ScA.below {W V : World} {N b off : Nat} {ps : List Stp} (h : ScA W N b off ps) (hb : Below W.heap.size W V) : ScA V N b off ps := fun k p hk => by
  obtain ⟨X, m, c, h0, h1, h2, h3, h4, h5, h6, h7, h8, h9⟩ := h k p hk
  have kp : ∀ {o : Nat} {v : Value}, W.cell? ⟨b, o, none⟩ = some v → V.cell? ⟨b, o, none⟩ = some v := fun {o v} hc => (hb.cell (p := ⟨b, o, none⟩) (lt_of_cell hc)).trans hc
  exact ⟨X, m, c, kp h0, kp h1, kp h2, kp h3, kp h4, kp h5, kp h6, h7.below hb, h8, h9⟩
theorem wrong16 {d : Int} {n : Nat} {me : Int} {l : Nat} (h : wrongM d (n : Int) me l = 0) : n ≤ 16 := by
  unfold wrongM at h
  by_cases h1 : d < 1 ∨ 4 < d
  · rw [if_pos h1] at h; omega
  · rw [if_neg h1] at h
    by_cases h2 : (n : Int) < 1 ∨ 16 < (n : Int) ∨ me < 0 ∨ (n : Int) ≤ me
    · rw [if_pos h2] at h; omega
    · omega
theorem team_bad {d : Int} {xss : List (List Int)} {k : Nat} (hk : k < xss.length) (h0 : ∀ j, j < k → wrongM d (xss.length : Int) (j : Int) (xss[j]?.getD []).length = 0) (h : wrongM d (xss.length : Int) (k : Int) (xss[k]?.getD []).length ≠ 0) : teamE d xss = wrongM d (xss.length : Int) (k : Int) (xss[k]?.getD []).length := by
  unfold teamE
  rw [firstE_at (wrongL d xss) k (fun j hj => by rw [wrongL_at d xss (by omega)]; exact h0 j hj) (by rw [wrongL_at d xss hk]; exact h), wrongL_at d xss hk]
theorem team_good {d : Int} {xss : List (List Int)} (h0 : ∀ j, j < xss.length → wrongM d (xss.length : Int) (j : Int) (xss[j]?.getD []).length = 0) : teamE d xss = 0 := firstE_none _ fun j hj => by
  have hj' : j < xss.length := by simpa [wrongL] using hj
  rw [wrongL_at d xss hj']
  exact h0 j hj'
/-- The answer of Team. -/
def TeamAns (W : World) (d : Int) (xss : List (List Int)) (ps : List Stp) (e : Ending) (w' : World) : Prop :=
  (teamE d xss ≠ 0 → e = .returned (.tuple #[.slice none 0 0, .int .i64 (teamE d xss)])) ∧
  (teamE d xss = 0 → ∃ v qs Fs, e = .returned (.tuple #[v, .int .i64 0]) ∧ OutAt w' W.heap.size xss.length Fs v qs ∧ qs.map (·.1) = (playM d.toNat xss.length (begP d.toNat xss.length xss) ps).2) ∧ Below W.heap.size W w'
end Go.Proofs.Yticcoacoepajpaa.V
namespace Go.Proofs.Yticcoacoepajpaa.V
open Go Go.RowKit
set_option linter.unusedVariables false
set_option linter.unusedSimpArgs false

/-- A step's cells (its note is none). -/
def stC (p : Stp) : List Value := [.int .i64 p.act, .int .i64 p.mem, .int .i64 p.num, .int .i64 0, .int .i64 0, .int .i64 0, .slice none 0 0]
def scC (l : List Stp) : List Value := l.flatMap stC
theorem stC_len (p : Stp) : (stC p).length = 7 := rfl
def ScR (W : World) (B : Nat) (v : Value) (l : List Stp) : Prop := RowC W B 45 7 v l.length (scC l)
theorem ScR.start (W : World) (B : Nat) : ScR W B (.slice none 0 0) [] := .inl ⟨rfl, .inl ⟨rfl, rfl⟩⟩
theorem ScR.below {W V : World} {B : Nat} {v : Value} {l : List Stp} (h : ScR W B v l) (hb : Below W.heap.size W V) : ScR V B v l := RowC.keep h fun g hg => hb.block g (RowC.lt h g hg).2.1
/-- A script as Team wants it. -/
theorem ScR.parts {W : World} {B : Nat} {v : Value} {l : List Stp} (h : ScR W B v l) (h0 : 0 < l.length) (hnt : ∀ p ∈ l, p.nt = ntZ) (N : Nat) : ∃ g cap, v = .slice (some ⟨g, 0, none⟩) l.length cap ∧ B ≤ g ∧ g < W.heap.size ∧ ScA W N g 0 l := by
  rcases RowC.parts h with ⟨_, e⟩ | ⟨g, cap, cur, rfl, h2, h3, _⟩
  · omega
  · refine ⟨g, cap, rfl, h2, (Array.getElem?_eq_some_iff.1 h3).1, fun k p hk => ?_⟩
    have key : ∀ i u, i < 7 → (stC p)[i]? = some u → W.cell? ⟨g, k * 7 + i, none⟩ = some u := fun i u hi hu => RowC.cell h rfl (by
      unfold scC
      rw [flat_get stC 7 stC_len l k i hi, hk]
      exact hu)
    have hz := hnt p (List.mem_of_getElem? hk)
    rw [hz]
    simp only [Nat.zero_add]
    exact ⟨none, 0, 0, key 0 _ (by decide) rfl, key 1 _ (by decide) rfl, key 2 _ (by decide) rfl, key 3 _ (by decide) rfl, key 4 _ (by decide) rfl, key 5 _ (by decide) rfl, key 6 _ (by decide) rfl, ⟨rfl, by omega, by simp [ntZ], .inl rfl⟩, Nat.le_refl _, by omega, fun _ _ e => by cases e⟩
end Go.Proofs.Yticcoacoepajpaa.V
