/-
  The document's Run: what holds while it works; its Do, of right code.
-/
import Derived.Test.YtoabffmiedbkkaaGreatRJ45
import Derived.Test.YtoabffmiedbkkaaGreatRJ15
import Derived.Test.YtoabffmiedbkkaaGreatRJ44
import Derived.Test.YtoabffmiedbkkaaGreatRJ48
namespace Go.Proofs.YtoabffmiedbkkaaGreat.V
set_option maxRecDepth 20000
open Go Go.RowKit
set_option linter.unusedVariables false
set_option linter.unusedSimpArgs false

theorem sem_info : (Tryz.prog.info? 41).map (·.size) = some 16 := by kernel_rfl
theorem semA_size (S : Int → Int) : (semA S).size = 16 := rfl
theorem semA_ext {S T : Int → Int} (h : ∀ k : Nat, k < 16 → S (k : Int) = T (k : Int)) : semA S = semA T := by
  apply Array.ext
  · rfl
  · intro i h1 h2
    have hi : i < 16 := h1
    have a1 := semA_at S i hi
    have a2 := semA_at T i hi
    rw [Array.getElem?_eq_getElem h1] at a1
    rw [Array.getElem?_eq_getElem h2] at a2
    rw [Option.some.injEq] at a1 a2
    rw [a1, a2, h i hi]
theorem semA_put (S : Int → Int) {a : Nat} (ha : a < 16) (v : Int) : (semA S).setIfInBounds a (.int .i64 v) = semA (fun q => if q = (a : Int) then v else S q) := by
  apply Array.ext
  · simp [semA_size]
  · intro i h1 h2
    have hi : i < 16 := h2
    have a1 := semA_at S i hi
    have a2 := semA_at (fun q => if q = (a : Int) then v else S q) i hi
    have h1' : i < (semA S).size := hi
    rw [Array.getElem?_eq_getElem h1'] at a1
    rw [Array.getElem?_eq_getElem h2] at a2
    rw [Option.some.injEq] at a1 a2
    rw [a2, Array.getElem_setIfInBounds h1']
    by_cases e : a = i
    · subst e; simp
    · rw [if_neg e, a1]
      rw [if_neg (by omega)]
theorem sem_put {W : World} {sg : Nat} {S : Int → Int} (h : W.heap[sg]? = some (.cells (semA S) 41 (0, 0))) {a : Nat} (ha : a < 16) (v : Int) : (W.setCell ⟨sg, a, none⟩ (.int .i64 v)).heap[sg]? = some (.cells (semA (fun q => if q = (a : Int) then v else S q)) 41 (0, 0)) := by
  have : (W.setCell ⟨sg, a, none⟩ (.int .i64 v)).heap[sg]? = some (.cells ((semA S).setIfInBounds a (.int .i64 v)) 41 (0, 0)) := by simp [World.setCell, Array.getElem?_modify, h]
  rw [this, semA_put S ha]
/-- While the document's machine works. -/
structure RrI (N0 : Nat) (W : World) (c : CV) (mv mk : List In) (P GP gm sg : Nat) (Y : Sw1) (ps : List Int) (R : Mac) (t : Nat) (s : Mac) (A : Option Addr) (n cA : Nat) (B : Option Addr) (m cB : Nat) (wr : World) : Prop where
  a : Inss wr A n (mv.drop s.i)
  ac : n ≤ cA
  b : Inss wr B m (mk.drop s.j)
  bc : m ≤ cB
  far : ∀ b off, (A = some ⟨b, off, none⟩ ∧ 0 < n) ∨ (B = some ⟨b, off, none⟩ ∧ 0 < m) → b < N0
  p : WrdAt wr ⟨some ⟨GP, 0, none⟩, P, P⟩ GP 0 s.pad
  y : WrdAt wr Y gm 0 s.mem
  sem : wr.heap[sg]? = some (.cells (semA s.sem) 41 (0, 0))
  i : MacI mv mk s
  r : runM mv mk ps (mv.length + mk.length) t s = R
  tb : t ≤ s.i + s.j
  w : WrB (fun b => b = GP ∨ b = gm ∨ b = sg) W wr
theorem RrI.below {N0 : Nat} {W : World} {c : CV} {mv mk : List In} {P GP gm sg : Nat} {Y : Sw1} {ps : List Int} {R : Mac} {t : Nat} {s : Mac} {A : Option Addr} {n cA : Nat} {B : Option Addr} {m cB : Nat} {wr V : World} (h : RrI N0 W c mv mk P GP gm sg Y ps R t s A n cA B m cB wr) (hb : Below wr.heap.size wr V) : RrI N0 W c mv mk P GP gm sg Y ps R t s A n cA B m cB V :=
  ⟨h.a.below hb, h.ac, h.b.below hb, h.bc, h.far, h.p.below hb, h.y.below hb, (hb.block sg (Array.getElem?_eq_some_iff.1 h.sem).1).trans h.sem, h.i, h.r, h.tb, h.w.trans (WrB.of hb)⟩
theorem drop_next (l : List In) (i : Nat) : (l.drop i).drop 1 = l.drop (i + 1) := by rw [List.drop_drop]
/-- The first instruction is taken off. -/
theorem Inss.next {W : World} {b off n : Nat} {l : List In} (h : Inss W (some ⟨b, off, none⟩) n l) (h0 : 0 < n) {A' : Option Addr} (hA : 0 < n - 1 → A' = some ⟨b, off + 6, none⟩) : Inss W A' (n - 1) (l.drop 1) := by
  obtain ⟨h1, h2, h3⟩ := h
  refine ⟨by simp [h1], by omega, ?_⟩
  by_cases e : n - 1 = 0
  · exact .inl e
  · refine .inr ⟨b, off + 6, hA (by omega), fun j hj => ?_⟩
    obtain ⟨b', o', e', hc⟩ := h3.resolve_left (by omega)
    cases e'
    have := hc (j + 1) (by omega)
    rw [List.getElem?_drop, show off + 6 + j * 6 = off + (j + 1) * 6 by omega, show 1 + j = j + 1 by omega]
    exact this
theorem InB.at {W : World} {ib : Nat} {x : In} (h : InB W ib x.d x.a x.b x.c x.n x.v) : W.heap[ib]? = some (.cells #[.int .i64 x.d, .int .i64 x.a, .int .i64 x.b, .int .i64 x.c, .int .i64 x.n, .int .i64 x.v] 50 (0, 0)) := h
/-- The parts are put together again. -/
theorem RrI.stepA {N0 : Nat} {W : World} {c : CV} {mv mk : List In} {P GP gm sg : Nat} {Y : Sw1} {ps : List Int} {R : Mac} {t t' : Nat} {s : Mac} {A : Option Addr} {n cA : Nat} {B : Option Addr} {m cB : Nat} {wr V : World} (h : RrI N0 W c mv mk P GP gm sg Y ps R t s A n cA B m cB wr) (ho : OneWay mv mk) (ga : goI mv s.i s.sem = true) (hg : (goI mk s.j s.sem = true ∧ pickB ps t = true ∧ t' = t + 1) ∨ (goI mk s.j s.sem = false ∧ t' = t)) {A' : Option Addr} {b off : Nat} (hA0 : A = some ⟨b, off, none⟩) (hA : 0 < n - 1 → A' = some ⟨b, off + 6, none⟩)
    (hw : WrB (fun b => b = GP ∨ b = gm ∨ b = sg) wr V) (hN : N0 ≤ GP ∧ N0 ≤ gm ∧ N0 ≤ sg ∧ N0 ≤ wr.heap.size) (hp : WrdAt V ⟨some ⟨GP, 0, none⟩, P, P⟩ GP 0 (stA mv s).pad) (hy : WrdAt V Y gm 0 (stA mv s).mem) (hs : V.heap[sg]? = some (.cells (semA (stA mv s).sem) 41 (0, 0))) :
    RrI N0 W c mv mk P GP gm sg Y ps R t' (stA mv s) A' (n - 1) (cA - 1) B m cB V := by
  have hn : 0 < n := by have h8 := h.a.1; have h9 := go_lt ga; rw [List.length_drop] at h8; omega
  subst hA0
  have kp : ∀ b' off', ((some ⟨b, off, none⟩ : Option Addr) = some ⟨b', off', none⟩ ∧ 0 < n) ∨ (B = some ⟨b', off', none⟩ ∧ 0 < m) → V.heap[b']? = wr.heap[b']? := fun b' off' e => by
    have h9 := h.far b' off' e
    exact hw.2.2 b' (by omega) (fun e => by omega)
  have a1 : Inss V (some ⟨b, off, none⟩) n (mv.drop s.i) := h.a.keep (fun b' off' e h0 => kp b' off' (.inl ⟨e, h0⟩))
  have b1 : Inss V B m (mk.drop s.j) := h.b.keep (fun b' off' e h0 => kp b' off' (.inr ⟨e, h0⟩))
  refine ⟨?_, by have := h.ac; omega, b1, h.bc, fun b' off' e => ?_, hp, hy, hs, h.i.a ho ga, by rw [← run_a (leftC_le s) ga hg]; exact h.r, ?_, h.w.trans hw⟩
  · have := a1.next hn hA
    rw [drop_next] at this
    exact this
  · rcases e with ⟨e, h0⟩ | e
    · rw [hA h0] at e
      cases e
      exact h.far b off (.inl ⟨rfl, hn⟩)
    · exact h.far b' off' (.inr e)
  · have := h.tb
    show t' ≤ (s.i + 1) + s.j
    rcases hg with ⟨_, _, e⟩ | ⟨_, e⟩ <;> omega
theorem RrI.stepB {N0 : Nat} {W : World} {c : CV} {mv mk : List In} {P GP gm sg : Nat} {Y : Sw1} {ps : List Int} {R : Mac} {t t' : Nat} {s : Mac} {A : Option Addr} {n cA : Nat} {B : Option Addr} {m cB : Nat} {wr V : World} (h : RrI N0 W c mv mk P GP gm sg Y ps R t s A n cA B m cB wr) (ho : OneWay mv mk) (gb : goI mk s.j s.sem = true) (hg : (goI mv s.i s.sem = true ∧ pickB ps t = false ∧ t' = t + 1) ∨ (goI mv s.i s.sem = false ∧ t' = t)) {B' : Option Addr} {b off : Nat} (hB0 : B = some ⟨b, off, none⟩) (hB : 0 < m - 1 → B' = some ⟨b, off + 6, none⟩)
    (hw : WrB (fun b => b = GP ∨ b = gm ∨ b = sg) wr V) (hN : N0 ≤ GP ∧ N0 ≤ gm ∧ N0 ≤ sg ∧ N0 ≤ wr.heap.size) (hp : WrdAt V ⟨some ⟨GP, 0, none⟩, P, P⟩ GP 0 (stB mk s).pad) (hy : WrdAt V Y gm 0 (stB mk s).mem) (hs : V.heap[sg]? = some (.cells (semA (stB mk s).sem) 41 (0, 0))) :
    RrI N0 W c mv mk P GP gm sg Y ps R t' (stB mk s) A n cA B' (m - 1) (cB - 1) V := by
  have hn : 0 < m := by have h8 := h.b.1; have h9 := go_lt gb; rw [List.length_drop] at h8; omega
  subst hB0
  have kp : ∀ b' off', (A = some ⟨b', off', none⟩ ∧ 0 < n) ∨ ((some ⟨b, off, none⟩ : Option Addr) = some ⟨b', off', none⟩ ∧ 0 < m) → V.heap[b']? = wr.heap[b']? := fun b' off' e => by
    have h9 := h.far b' off' e
    exact hw.2.2 b' (by omega) (fun e => by omega)
  have a1 : Inss V A n (mv.drop s.i) := h.a.keep (fun b' off' e h0 => kp b' off' (.inl ⟨e, h0⟩))
  have b1 : Inss V (some ⟨b, off, none⟩) m (mk.drop s.j) := h.b.keep (fun b' off' e h0 => kp b' off' (.inr ⟨e, h0⟩))
  refine ⟨a1, h.ac, ?_, by have := h.bc; omega, fun b' off' e => ?_, hp, hy, hs, h.i.b ho gb, by rw [← run_b (leftC_le s) gb hg]; exact h.r, ?_, h.w.trans hw⟩
  · have := b1.next hn hB
    rw [drop_next] at this
    exact this
  · rcases e with e | ⟨e, h0⟩
    · exact h.far b' off' (.inl e)
    · rw [hB h0] at e
      cases e
      exact h.far b off (.inr ⟨rfl, hn⟩)
  · have := h.tb
    show t' ≤ s.i + (s.j + 1)
    rcases hg with ⟨_, _, e⟩ | ⟨_, e⟩ <;> omega
/-- A post, a wait: only the semaphores are turned. -/
theorem st_quiet {x : In} (hd : x.d = 3 ∨ x.d = 4) (p m : Int → Int) : doP x p m = p ∧ doMm x p m = m := by
  refine ⟨?_, ?_⟩
  · funext w
    exact doP_off (by rw [wr_none (by omega)]; simp)
  · unfold doMm
    rw [if_neg (by omega)]
theorem sem_step {x : In} (hd : x.d = 3 ∨ x.d = 4) (S : Int → Int) {a : Nat} (ha : x.a = (a : Int)) : semA (fun q => S q + dlS x q) = semA (fun q => if q = (a : Int) then (if x.d = 3 then S (a : Int) + 1 else S (a : Int) - 1) else S q) := by
  refine semA_ext fun k _ => ?_
  unfold dlS
  by_cases e : (k : Int) = (a : Int)
  · rw [if_pos e, ← e]
    rcases hd with h | h
    · rw [if_pos ⟨h, by omega⟩, if_pos h]
    · rw [if_neg (by omega), if_pos ⟨h, by omega⟩, if_neg (by omega)]
      omega
  · rw [if_neg e, if_neg (by omega), if_neg (by omega)]
    omega
theorem sem_same {x : In} (hd : x.d ≠ 3 ∧ x.d ≠ 4) (S : Int → Int) : semA (fun q => S q + dlS x q) = semA S := by
  refine semA_ext fun k _ => ?_
  unfold dlS
  rw [if_neg (by omega), if_neg (by omega)]
  omega
theorem rdo13_at (x : In) (GP P GM M mC gm : Nat) (p q : Int → Int) (W : World) (hp : WrdAt W ⟨some ⟨GP, 0, none⟩, P, P⟩ GP 0 p) (hm : WrdAt W ⟨some ⟨GM, 0, none⟩, M, mC⟩ gm 0 q) (hne : GP ≠ gm) (e : Bool) (hx : insE (P : Int) (M : Int) e x = 0) (hd : x.d ≠ 3 ∧ x.d ≠ 4) (hP : P ≤ 4096) (hM : M ≤ 1048576) :
    Calls Tryz.prog 17 #[.agg #[.int .i64 x.d, .int .i64 x.a, .int .i64 x.b, .int .i64 x.c, .int .i64 x.n, .int .i64 x.v], .slice (some ⟨GP, 0, none⟩) P P, .slice (some ⟨GM, 0, none⟩) M mC] W fun e w' => e = .returned (.tuple #[]) ∧ WrdAt w' ⟨some ⟨GP, 0, none⟩, P, P⟩ GP 0 (doP x p q) ∧ WrdAt w' ⟨some ⟨GM, 0, none⟩, M, mC⟩ gm 0 (doMm x p q) ∧ WrB (fun b => b = GP ∨ b = gm) W w' := by
  obtain ⟨Y, hY⟩ : ∃ Y : Sw1, Y = ⟨some ⟨GP, 0, none⟩, P, P⟩ := ⟨_, rfl⟩
  obtain ⟨Z, hZ⟩ : ∃ Z : Sw1, Z = ⟨some ⟨GM, 0, none⟩, M, mC⟩ := ⟨_, rfl⟩
  have y1 : Y.n = P := by rw [hY]
  have z1 : Z.n = M := by rw [hZ]
  have h := rdo13_any x Y Z GP 0 gm 0 p q W (by rw [hY]; exact hp) (by rw [hZ]; exact hm) hne (P : Int) (M : Int) e hx hd (by rw [y1]) (by rw [z1]) (by rw [y1]; exact hP) (by rw [z1]; exact hM)
  subst hY hZ
  exact h
end Go.Proofs.YtoabffmiedbkkaaGreat.V
