/-
  The document's Take: rows of notes; what is used. The document's Take: what is used. Contract: the document's Result, settled.
-/
import Derived.Test.YticcoacoepajpaaPK33
namespace Go.Proofs.Yticcoacoepajpaa.V
open Go Go.RowKit
set_option linter.unusedVariables false
set_option linter.unusedSimpArgs false

/-- Blocks from N on may be changed. -/
def LB (N : Nat) (a b : World) : Prop := b.os = a.os ∧ b.tape = a.tape ∧ b.output = a.output ∧ a.heap.size ≤ b.heap.size ∧ ∀ i, i < N → i < a.heap.size → b.heap[i]? = a.heap[i]?
theorem LB.trans {N : Nat} (a b c : World) (h : LB N a b) (k : LB N b c) : LB N a c := ⟨k.1.trans h.1, k.2.1.trans h.2.1, k.2.2.1.trans h.2.2.1, Nat.le_trans h.2.2.2.1 k.2.2.2.1, fun i h1 h2 => (k.2.2.2.2 i h1 (Nat.lt_of_lt_of_le h2 h.2.2.2.1)).trans (h.2.2.2.2 i h1 h2)⟩
theorem LB.of {N : Nat} (a b : World) (h : Below a.heap.size a b) : LB N a b := ⟨h.os, h.tape, h.output, h.size, fun i _ h2 => h.block i h2⟩
theorem LB.below {a b : World} (h : LB a.heap.size a b) : Below a.heap.size a b := ⟨h.1, h.2.1, h.2.2.1, h.2.2.2.1, fun i hi => h.2.2.2.2 i hi hi⟩
/-- Notes in a row that was made from block N on. -/
structure NtR (W : World) (N g cap len : Nat) (cells : List Value) : Prop where
  blk : ∃ cur, W.heap[g]? = some (.cells cur 39 (0, 0)) ∧ cap ≤ maxLen ∧ cur.size = cap * 4 ∧ cur.toList.take (len * 4) = cells
  low : N ≤ g
  cap : len ≤ cap
  len : cells.length = len * 4
theorem NtR.own {W : World} {N g cap len : Nat} {cells : List Value} (h : NtR W N g cap len cells) : W.ownsRow N 39 4 (.slice (some ⟨g, 0, none⟩) len cap) len cells := by
  obtain ⟨cur, h1, h2, h3, h4⟩ := h.blk
  exact ⟨h.len, .inr ⟨g, cap, cur, rfl, h.low, h1, h.cap, h2, h3, h4⟩⟩
/-- A fact: a copy of notes. -/
def fNts (N len : Nat) (cells : List Value) : Fact := ⟨fun u W => ∃ g cap, u = .slice (some ⟨g, 0, none⟩) len cap ∧ (0 < len → NtR W N g cap len cells) ∧ (len = 0 → cap = 0), false⟩
theorem fNts_good (N len : Nat) (cells : List Value) : (fNts N len cells).Good := ⟨fun _ _ _ ⟨g, cap, h1, h2, h3⟩ hb => ⟨g, cap, h1, fun h0 => by
  obtain ⟨cur, k1, k2⟩ := (h2 h0).blk
  exact ⟨⟨cur, (hb.block g (Array.getElem?_eq_some_iff.1 k1).1).trans k1, k2⟩, (h2 h0).low, (h2 h0).cap, (h2 h0).len⟩, h3⟩, (fun h => by cases h)⟩
def fOneN (vs : Array Value) : Fact := ⟨fun u W => ∃ g : Nat, u = .slice (some ⟨g, 0, none⟩) 1 1 ∧ W.heap[g]? = some (.cells vs 39 (0, 0)), false⟩
theorem fOneN_good (vs : Array Value) : (fOneN vs).Good := ⟨fun _ _ _ ⟨g, h1, h2⟩ hb => ⟨g, h1, (hb.block g (Array.getElem?_eq_some_iff.1 h2).1).trans h2⟩, (fun h => by cases h)⟩
/-- append([]Note{}, notes...). -/
theorem wp_notes_e {w : World} {o : Oper} {a : Act} {K : Act → World → Prop} {Q : Exit → Act → World → Prop} (s x : Operand) (ho : o.op = .call { callee := .builtin .append, args := #[s, x], argTypes := #[51, 51] })
    (N B m c : Nat) (X : Option Addr) (cells : List Value) (hs : a.eval s = .slice (some ⟨B, 0, none⟩) 0 0) (hx : a.eval x = .slice X m c) (hl : cells.length = m * 4) (hX : 0 < m → ∃ b off, X = some ⟨b, off, none⟩ ∧ ∀ j u, cells[j]? = some u → w.cell? ⟨b, off + j, none⟩ = some u) (hm : m * 48 ≤ 140737488355328) (hN : N ≤ w.heap.size)
    (h : ∀ g cap w', (0 < m → NtR w' N g cap m cells) → (m = 0 → cap = 0) → Below w.heap.size w w' → K (a.put o.dst (.slice (some ⟨g, 0, none⟩) m cap)) w') : o.wp Try.prog a w K Q := by
  obtain ⟨i0, hi, hz0, hz1, hz2⟩ := info_parts info_note
  by_cases h0 : 0 < m
  · obtain ⟨b, off, rfl, hc⟩ := hX h0
    obtain ⟨g, cap, w', hr, h1, h2, h3⟩ := run_append_e (t := 51) (ty := o.type) Try.underlying51 hi hz0 hz1 hz2 rfl (by decide) w B (some ⟨b, off, none⟩) m c cells hl (fun _ => ⟨_, rfl, fun j u hj => by rw [Addr.add_lit]; exact hc j u hj⟩) (by unfold maxLen; omega) hm
    unfold Oper.wp
    simp [execOp, ho, resolve, invoke, builtin, hs, hx, hr, Result.andThen]
    obtain ⟨k0, cur, k1, k2, k3, k4⟩ := h3 h0
    exact h g cap w' (fun _ => ⟨⟨cur, k1, k2, k3, k4⟩, Nat.le_trans hN k0, h1, hl⟩) (fun e => by omega) h2
  · have hm0 : m = 0 := by omega
    subst hm0
    have hcl : cells = [] := List.length_eq_zero_iff.1 (by simpa using hl)
    subst hcl
    have hr : (Builtin.append_ #[51, 51] o.type #[.slice (some ⟨B, 0, none⟩) 0 0, .slice X 0 c]).run Try.prog w = .ok (.slice (some ⟨B, 0, none⟩) 0 0) w := by
      cases X with
      | none => simp [Builtin.append_, run_underlying Try.underlying51, sizeOf, typeInfo, hi, Builtin.lenOf, Builtin.firstCells, storeCells]
      | some ad => exact run_append_room_cells (P := Try.prog) w 51 o.type 39 i0 Try.underlying51 hi B 0 0 0 ad 0 c [] (by simp) (by simp) (by simp) (by omega) (by simp) (by simp)
    unfold Oper.wp
    simp [execOp, ho, resolve, invoke, builtin, hs, hx, hr, Result.andThen]
    exact h B 0 w (fun h => (h0 h).elim) (fun _ => rfl) (Below.refl _ _)
/-- append(notes, note), behind a copy. -/
theorem wp_notes_1 {w : World} {o : Oper} {a : Act} {K : Act → World → Prop} {Q : Exit → Act → World → Prop} (s x : Operand) (ho : o.op = .call { callee := .builtin .append, args := #[s, x], argTypes := #[51, 51] })
    (N g cap m g1 : Nat) (cells : List Value) (vs : Array Value) (hs : a.eval s = .slice (some ⟨g, 0, none⟩) m cap) (hx : a.eval x = .slice (some ⟨g1, 0, none⟩) 1 1) (h0 : 0 < m → NtR w N g cap m cells) (h1 : m = 0 → cap = 0 ∧ cells = []) (hg1 : w.heap[g1]? = some (.cells vs 39 (0, 0))) (hvs : vs.size = 4) (hone : ∀ u ∈ vs.toList, u.oneCell' = true) (hm : m ≤ 1000000) (hN : N ≤ w.heap.size)
    (h : ∀ g' cap' w', NtR w' N g' cap' (m + 1) (cells ++ vs.toList) → LB N w w' → K (a.put o.dst (.slice (some ⟨g', 0, none⟩) (m + 1) cap')) w') : o.wp Try.prog a w K Q := by
  obtain ⟨i0, hi, hz0, hz1, hz2⟩ := info_parts info_note
  have hnews : ∀ j u, vs.toList[j]? = some u → w.cell? ((⟨g1, 0, none⟩ : Addr).add j) = some u := fun j u hj => by
    rw [Addr.add_lit]
    simp only [World.cell?, hg1, Nat.zero_add]
    simpa using hj
  by_cases hp : 0 < m
  · have hr0 := h0 hp
    obtain ⟨v', w', r1, r2, r3, _, r5⟩ := run_append_own_at (P := Try.prog) w N 51 o.type 39 i0 _ 4 48 Try.underlying51 hi hz0 hz1 hz2 rfl (by decide) (.slice (some ⟨g, 0, none⟩) m cap) m cells hr0.own ⟨g1, 0, none⟩ 1 1 vs.toList (by simp [hvs]) hnews hone (by unfold maxLen; omega) (by omega) hN
    rcases r2.2 with ⟨_, e2⟩ | ⟨g', cap', cur, e1, e2, e3, e4, e5, e6, e7⟩
    · omega
    · subst e1
      unfold Oper.wp
      simp [execOp, ho, resolve, invoke, builtin, hs, hx, r1, Result.andThen]
      exact h g' cap' w' ⟨⟨cur, e3, e5, e6, e7⟩, e2, e4, r2.1⟩ ⟨r3.os, r3.tape, r3.output, r3.size, fun i hi1 hi2 => r3.block i hi2 (fun e => by
        have h9 : g = i := by simpa [Value.ownBlock] using e.symm
        have := hr0.low
        omega)⟩
  · have hm0 : m = 0 := by omega
    subst hm0
    obtain ⟨rfl, rfl⟩ := h1 rfl
    obtain ⟨g', cap', w', hr, k1, k2, k3⟩ := run_append_e (t := 51) (ty := o.type) Try.underlying51 hi hz0 hz1 hz2 rfl (by decide) w g (some ⟨g1, 0, none⟩) 1 1 vs.toList (by simp [hvs]) (fun _ => ⟨_, rfl, hnews⟩) (by unfold maxLen; omega) (by omega)
    obtain ⟨j0, cur, j1, j2, j3, j4⟩ := k3 (by omega)
    unfold Oper.wp
    simp [execOp, ho, resolve, invoke, builtin, hs, hx, hr, Result.andThen]
    exact h g' cap' w' ⟨⟨cur, j1, j2, j3, j4⟩, Nat.le_trans hN j0, k1, by simp [hvs]⟩ (LB.of _ _ k2)
theorem append_notes_1 {w : World} {ops : Array Oper} {rest : List Oper} {o : Oper} {a : Act} {Q : Exit → Act → World → Prop} (hgd : o.guard = none) (s x : Operand) (ho : o.op = .call { callee := .builtin .append, args := #[s, x], argTypes := #[51, 51] })
    (N g cap m g1 : Nat) (cells : List Value) (vs : Array Value) (hs : a.eval s = .slice (some ⟨g, 0, none⟩) m cap) (hx : a.eval x = .slice (some ⟨g1, 0, none⟩) 1 1) (h0 : 0 < m → NtR w N g cap m cells) (h1 : m = 0 → cap = 0 ∧ cells = []) (hg1 : w.heap[g1]? = some (.cells vs 39 (0, 0))) (hvs : vs.size = 4) (hone : ∀ u ∈ vs.toList, u.oneCell' = true) (hm : m ≤ 1000000) (hN : N ≤ w.heap.size)
    (h : ∀ g' cap' w', NtR w' N g' cap' (m + 1) (cells ++ vs.toList) → LB N w w' → wpList Try.prog ops Q rest (a.put o.dst (.slice (some ⟨g', 0, none⟩) (m + 1) cap')) w') : wpList Try.prog ops Q (o :: rest) a w := by
  refine wpList_plain hgd fun K hK => ?_
  exact wp_notes_1 s x ho N g cap m g1 cells vs hs hx h0 h1 hg1 hvs hone hm hN fun g' cap' w' k1 k2 => hK _ _ (h g' cap' w' k1 k2)
/-- The cells of notes as they lie. -/
theorem nts_cells {W : World} {a : Option Addr} {len : Nat} {l : List (Nat × List Int)} (h : NtsA W a len l) : ∃ cells : List Value, cells.length = len * 4 ∧ (0 < len → ∃ b off, a = some ⟨b, off, none⟩ ∧ (∀ j u, cells[j]? = some u → W.cell? ⟨b, off + j, none⟩ = some u) ∧ ∀ j, j < len * 4 → cells[j]? = W.cell? ⟨b, off + j, none⟩) := by
  by_cases h0 : 0 < len
  · rcases h.2.2 with e | ⟨b, off, rfl, hc⟩
    · omega
    · have hsome : ∀ j, j < len * 4 → ∃ u, W.cell? ⟨b, off + j, none⟩ = some u := fun j hj => by
        have hk : j / 4 < l.length := by have := h.1; omega
        obtain ⟨fr, tt, X, m, c, c0, c1, c2, c3, _⟩ := hc (j / 4) _ (List.getElem?_eq_getElem hk)
        have h4 : j % 4 = 0 ∨ j % 4 = 1 ∨ j % 4 = 2 ∨ j % 4 = 3 := by omega
        rcases h4 with e | e | e | e
        · exact ⟨_, by rw [show off + j = off + j / 4 * 4 by omega]; exact c0⟩
        · exact ⟨_, by rw [show off + j = off + j / 4 * 4 + 1 by omega]; exact c1⟩
        · exact ⟨_, by rw [show off + j = off + j / 4 * 4 + 2 by omega]; exact c2⟩
        · exact ⟨_, by rw [show off + j = off + j / 4 * 4 + 3 by omega]; exact c3⟩
      have hget : ∀ j, j < len * 4 → ((List.range (len * 4)).map fun j => (W.cell? ⟨b, off + j, none⟩).getD undef)[j]? = W.cell? ⟨b, off + j, none⟩ := fun j hj => by
        obtain ⟨u, hu⟩ := hsome j hj
        simp [hj, hu]
      refine ⟨(List.range (len * 4)).map fun j => (W.cell? ⟨b, off + j, none⟩).getD undef, by simp, fun _ => ⟨b, off, rfl, fun j u hj => ?_, hget⟩⟩
      have hjl : j < len * 4 := by have := (List.getElem?_eq_some_iff.1 hj).1; simpa using this
      rw [← hget j hjl]
      exact hj
  · exact ⟨[], by simp; omega, fun h => (h0 h).elim⟩
/-- One note more is kept. -/
theorem nts_more {S : Nat → Prop} {W U : World} {N : Nat} {ea : Option Addr} {en : Nat} {l : List (Nat × List Int)} {cells : List Value} {g cap : Nat} {x : Nt} {y : Sl} (t : Nat) (ht : x.st = (t : Int)) (hh : Stt S W fun V => NtsA V ea en l) (hea : ∀ b off, ea = some ⟨b, off, none⟩ → S b) (hc : 0 < en → ∃ b off, ea = some ⟨b, off, none⟩ ∧ ∀ j, j < en * 4 → cells[j]? = W.cell? ⟨b, off + j, none⟩) (hcl : cells.length = en * 4) (hy : Stt S W fun V => Ints V y.a y.n x.data) (hyc : y.n ≤ y.c)
    (hU : Agr S W U) (hr : NtR U N g cap (en + 1) (cells ++ [.int .i64 x.fr, .int .i64 x.to, .int .i64 x.st, .slice y.a y.n y.c])) (hen : en ≤ 900) {S' : Nat → Prop} (hS : ∀ b, S b → S' b) (hg : S' g) : Stt S' U fun V => NtsA V (some ⟨g, 0, none⟩) (en + 1) (l ++ [(t, x.data)]) := by
  intro V hV
  have hWV : Agr S W V := fun b hb => (hV b (hS b hb)).trans (hU b hb)
  have hn := hh V hWV
  have hll := hn.1
  obtain ⟨cur, k1, k2, k3, k4⟩ := hr.blk
  have hgV := (hV g hg).trans k1
  have hcur : ∀ j u, (cells ++ [.int .i64 x.fr, .int .i64 x.to, .int .i64 x.st, .slice y.a y.n y.c])[j]? = some u → V.cell? ⟨g, 0 + j, none⟩ = some u := fun j u hj => by
    have hjl : j < (en + 1) * 4 := by have := (List.getElem?_eq_some_iff.1 hj).1; rw [hr.len] at this; exact this
    rw [← k4, List.getElem?_take_of_lt hjl, Array.getElem?_toList] at hj
    simp only [World.cell?, hgV, Nat.zero_add]
    exact hj
  refine ⟨by rw [List.length_append, hll]; rfl, by omega, .inr ⟨g, 0, rfl, fun k z hk => ?_⟩⟩
  by_cases hke : k < en
  · obtain ⟨b, off, e, hcc⟩ := hc (by omega)
    rcases hn.2.2 with e0 | ⟨b', off', e', hc'⟩
    · omega
    · rw [e] at e'
      cases e'
      rw [List.getElem?_append_left (by omega)] at hk
      obtain ⟨fr, tt, X, m, c, c0, c1, c2, c3, c4, c5⟩ := hc' k z hk
      have hbV : ∀ o, V.cell? ⟨b, o, none⟩ = W.cell? ⟨b, o, none⟩ := fun o => World.cell?_of_block (hWV b (hea b off e))
      have key : ∀ i u, i < 4 → V.cell? ⟨b, off + k * 4 + i, none⟩ = some u → V.cell? ⟨g, 0 + (k * 4 + i), none⟩ = some u := fun i u hi hu => by
        refine hcur _ _ ?_
        rw [List.getElem?_append_left (by omega), hcc _ (by omega), ← hbV, show off + (k * 4 + i) = off + k * 4 + i by omega]
        exact hu
      have k0' := key 0 _ (by omega) c0
      rw [Nat.add_zero] at k0'
      exact ⟨fr, tt, X, m, c, k0', by have := key 1 _ (by omega) c1; rwa [← Nat.add_assoc] at this, by have := key 2 _ (by omega) c2; rwa [← Nat.add_assoc] at this, by have := key 3 _ (by omega) c3; rwa [← Nat.add_assoc] at this, c4, c5⟩
  · have hk2 : k = en := by
      have := (List.getElem?_eq_some_iff.1 hk).1
      rw [List.length_append, hll] at this
      simp at this
      omega
    subst hk2
    rw [List.getElem?_append_right (by omega), hll, Nat.sub_self] at hk
    have hz : z = (t, x.data) := by simpa using hk.symm
    subst hz
    have key : ∀ i u, i < 4 → [Value.int .i64 x.fr, .int .i64 x.to, .int .i64 x.st, .slice y.a y.n y.c][i]? = some u → V.cell? ⟨g, 0 + k * 4 + i, none⟩ = some u := fun i u hi hu => by
      rw [Nat.add_assoc]
      refine hcur _ _ ?_
      rw [List.getElem?_append_right (by omega), hcl, show k * 4 + i - k * 4 = i by omega]
      exact hu
    have k0' := key 0 _ (by omega) rfl
    rw [Nat.add_zero] at k0'
    exact ⟨x.fr, x.to, y.a, y.n, y.c, k0', key 1 _ (by omega) rfl, by rw [key 2 _ (by omega) rfl, ht], key 3 _ (by omega) rfl, hy V hWV, hyc⟩
end Go.Proofs.Yticcoacoepajpaa.V
namespace Go.Proofs.Yticcoacoepajpaa.V
open Go Go.RowKit
set_option linter.unusedVariables false
set_option linter.unusedSimpArgs false

/-- The answer of Take. -/
def RTkAns (W : World) (S : Nat → Prop) (d n me : Nat) (s : St) (x : Nt) (e : Ending) (w' : World) : Prop := ∃ q' : Rs, e = .returned (.tuple #[.int .i64 (takeE d n me s x), q'.v (takeM d n me s x)]) ∧ Below W.heap.size W w' ∧ (Stt (NwS S W.heap.size w'.heap.size) w' fun V => RsA V q' n (takeM d n me s x)) ∧ Tops (NwS S W.heap.size w'.heap.size) q'
/-- While notes are used. -/
structure TkI (S : Nat → Prop) (W : World) (N b8 b11 d n me : Nat) (s1 : St) (q : Rs) (s : St) (wr : World) : Prop where
  box : wr.heap[b8]? = some (.cells #[.slice q.o.a q.o.n q.o.c, .slice q.p.a q.p.n q.p.c, .int .i64 (s.sent : Int), .int .i64 (s.taken : Int), .slice q.e.a q.e.n q.e.c] 60 (0, 0))
  res : wr.heap[b11]? = some (.cells #[.slice none 0 0, .slice none 0 0, .int .i64 0, .int .i64 0, .slice none 0 0] 60 (0, 0))
  st : Stt (NwS S N wr.heap.size) wr fun V => RsA V q n s
  top : Tops (NwS S N wr.heap.size) q
  ok : StOk d n me s
  dr : drainA d n me s = drainA d n me s1
  bel : Below W.heap.size W wr
theorem nws_mono {S : Nat → Prop} {N A B : Nat} (h : A ≤ B) (b : Nat) (hb : NwS S N A b) : NwS S N B b := hb.imp id fun h1 => ⟨h1.1, by omega⟩
theorem Tops.mono {S S' : Nat → Prop} {q : Rs} (h : Tops S q) (hs : ∀ b, S b → S' b) : Tops S' q := ⟨fun b off e => hs b (h.1 b off e), fun b off e => hs b (h.2 b off e)⟩
theorem TkI.grow {S : Nat → Prop} {W : World} {N b8 b11 d n me : Nat} {s1 : St} {q : Rs} {s : St} {wr V : World} (h : TkI S W N b8 b11 d n me s1 q s wr) (hS : LowS S W.heap.size) (hb : Below wr.heap.size wr V) : TkI S W N b8 b11 d n me s1 q s V := by
  refine ⟨(hb.block b8 (Array.getElem?_eq_some_iff.1 h.box).1).trans h.box, (hb.block b11 (Array.getElem?_eq_some_iff.1 h.res).1).trans h.res, ?_, h.top.mono (nws_mono hb.size), h.ok, h.dr, h.bel.trans (hb.mono h.bel.size)⟩
  refine (h.st.agr fun b hbb => hb.block b ?_).mono (nws_mono hb.size)
  rcases hbb with h1 | h1
  · exact Nat.lt_of_lt_of_le (hS b h1) h.bel.size
  · exact h1.2
def TkO (S : Nat → Prop) (W : World) (N b8 b11 d n me : Nat) (s1 : St) (v : Value) (wr : World) : Prop := ∃ (q : Rs) (s : St) (ag : Bool), v = .bool ag ∧ (ag = false → lookL s.taken s.early = none) ∧ TkI S W N b8 b11 d n me s1 q s wr
def tkO (wr : World) (b8 : Nat) : Nat := (intOf ((wr.cell? ⟨b8, 3, none⟩).getD undef)).toNat
def bN (v : Value) : Nat := match v with | .bool true => 1 | _ => 0
/-- What Take leaves. -/
theorem take_end {S : Nat → Prop} {W U : World} {N b11 n : Nat} {q : Rs} {s : St} (hS : LowS S W.heap.size) (hN : W.heap.size ≤ b11 ∧ b11 < N) (hr : ∃ cur f, U.heap[b11]? = some (.cells cur 60 f)) (hst : Stt (NwS S N U.heap.size) U fun V => RsA V q n s) (htop : Tops (NwS S N U.heap.size) q) (hb : Below W.heap.size W U) (v0 v1 v2 v3 v4 : Value) :
    Below W.heap.size W (rst5 U b11 v0 v1 v2 v3 v4).drew ∧ (Stt (NwS S W.heap.size (rst5 U b11 v0 v1 v2 v3 v4).drew.heap.size) (rst5 U b11 v0 v1 v2 v3 v4).drew fun V => RsA V q n s) ∧ Tops (NwS S W.heap.size (rst5 U b11 v0 v1 v2 v3 v4).drew.heap.size) q := by
  have hsub : ∀ b, NwS S N U.heap.size b → NwS S W.heap.size U.heap.size b := fun b hb => hb.imp id fun h => ⟨by omega, h.2⟩
  have h1 := rst5_below (a := v0) (b := v1) (c := v2) (d := v3) (e := v4) hb hN.1
  have h2 : (rst5 U b11 v0 v1 v2 v3 v4).heap.size = U.heap.size := rst5_size
  have h3 : ∀ b, b ≠ b11 → (rst5 U b11 v0 v1 v2 v3 v4).heap[b]? = U.heap[b]? := fun b hb => rst5_other hb
  obtain ⟨R, hR⟩ : ∃ R, R = rst5 U b11 v0 v1 v2 v3 v4 := ⟨_, rfl⟩
  rw [← hR] at h1 h2 h3 ⊢
  clear hR
  have h4 : R.drew.heap.size = U.heap.size := h2
  rw [h4]
  refine ⟨h1.drew, (hst.agr fun b hbb => ?_).mono hsub, htop.mono hsub⟩
  have hne : b ≠ b11 := by
    rcases hbb with h1 | h1
    · have := hS b h1
      omega
    · omega
  exact h3 b hne
theorem early_at {S : Nat → Prop} {W : World} {N b8 b11 d n me : Nat} {s1 : St} {q : Rs} {s : St} {wr : World} (h : TkI S W N b8 b11 d n me s1 q s wr) {k : Nat} {z : Nat × List Int} (hz : s.early[k]? = some z) :
    ∃ eb eo fr tt X m c, q.e.a = some ⟨eb, eo, none⟩ ∧ wr.cell? ⟨eb, eo + k * 4, none⟩ = some (.int .i64 fr) ∧ wr.cell? ⟨eb, eo + k * 4 + 1, none⟩ = some (.int .i64 tt) ∧ wr.cell? ⟨eb, eo + k * 4 + 2, none⟩ = some (.int .i64 ((z.1 : Nat) : Int)) ∧ wr.cell? ⟨eb, eo + k * 4 + 3, none⟩ = some (.slice X m c) ∧ m ≤ c ∧ eb < wr.heap.size ∧ Stt (NwS S N wr.heap.size) wr fun V => Ints V X m z.2 := by
  have hn := h.st.now.early
  have hkl : k < q.e.n := by have := (List.getElem?_eq_some_iff.1 hz).1; have := hn.1; omega
  rcases hn.2.2 with e0 | ⟨eb, eo, e, hc⟩
  · omega
  · obtain ⟨fr, tt, X, m, c, c0, c1, c2, c3, c4, c5⟩ := hc k z hz
    refine ⟨eb, eo, fr, tt, X, m, c, e, c0, c1, c2, c3, c5, lt_of_cell c0, fun V hV => ?_⟩
    have hnV := (h.st V hV).early
    rcases hnV.2.2 with e0 | ⟨eb', eo', e', hc'⟩
    · omega
    · rw [e] at e'
      cases e'
      obtain ⟨_, _, X', m', c', _, _, _, d3, d4, _⟩ := hc' k z hz
      have hce : V.cell? ⟨eb, eo + k * 4 + 3, none⟩ = wr.cell? ⟨eb, eo + k * 4 + 3, none⟩ := World.cell?_of_block (hV eb (h.top.2 eb eo e))
      rw [hce, c3] at d3
      simp only [Option.some.injEq, Value.slice.injEq] at d3
      obtain ⟨rfl, rfl, rfl⟩ := d3
      exact d4
/-- A note was used. -/
theorem TkI.used {S : Nat → Prop} {W : World} {N b8 b11 d n me : Nat} {s1 : St} {q : Rs} {s : St} {w2 w5 : World} (h : TkI S W N b8 b11 d n me s1 q s w2) (hS : LowS S W.heap.size) (hWN : W.heap.size ≤ b8 ∧ b8 < N ∧ W.heap.size ≤ b11 ∧ b11 < N ∧ b8 ≠ b11) (hN : N ≤ w2.heap.size) (xs : List Int) (hx : lookL s.taken s.early = some xs) (hw : Below w2.heap.size w2 w5) (g cap pb po pc : Nat) (hg : w2.heap.size ≤ g) (cur : Array Value) (hblk : w5.heap[g]? = some (.cells cur 24 (0, 0))) (hcs : cur.size = cap) (hcap : n ≤ cap)
    (hq : q.p = ⟨some ⟨pb, po, none⟩, n, pc⟩) (hcur : ∀ j, j < n → cur[j]? = w2.cell? ⟨pb, po + j, none⟩) (y : Sl) (hyc : y.n ≤ y.c) (hy : ∀ V : World, (∀ b, NwS S N w5.heap.size b → b ≠ g → V.heap[b]? = w5.heap[b]?) → Ints V y.a y.n (if sumsB d n s.taken = true then addW (prt s.parts (takeN d n me s.taken)) xs else xs)) :
    TkI S W N b8 b11 d n me s1 ⟨q.o, ⟨some ⟨g, 0, none⟩, n, cap⟩, q.e⟩ (useM d n me s xs) (((w5.setCell ⟨g, takeN d n me s.taken, none⟩ (.slice y.a y.n y.c)).setCell ⟨b8, 1, none⟩ (.slice (some ⟨g, 0, none⟩) n cap)).setCell ⟨b8, 3, none⟩ (.int .i64 ((s.taken : Int) + 1))) := by
  obtain ⟨val, hval⟩ : ∃ val, val = (if sumsB d n s.taken = true then addW (prt s.parts (takeN d n me s.taken)) xs else xs) := ⟨_, rfl⟩
  rw [← hval] at hy
  obtain ⟨T, hT⟩ : ∃ T, T = takeN d n me s.taken := ⟨_, rfl⟩
  have hTn : T < n := by rw [hT]; exact takeN_lt h.ok.n1
  have huse : useM d n me s xs = { s with parts := s.parts.set T val, taken := s.taken + 1 } := by rw [hT, hval]; rfl
  have hok := h.ok.use xs hx
  have hdr := drainA_some d n me s xs hx (h.ok.early _ _ hx)
  rw [← hT]
  rw [huse] at hok hdr ⊢
  have hb8l : b8 < w2.heap.size := (Array.getElem?_eq_some_iff.1 h.box).1
  have hb11l : b11 < w2.heap.size := (Array.getElem?_eq_some_iff.1 h.res).1
  have hbox := (hw.block b8 hb8l).trans h.box
  have hres := (hw.block b11 hb11l).trans h.res
  obtain ⟨U, hU⟩ : ∃ U, U = ((w5.setCell ⟨g, T, none⟩ (.slice y.a y.n y.c)).setCell ⟨b8, 1, none⟩ (.slice (some ⟨g, 0, none⟩) n cap)).setCell ⟨b8, 3, none⟩ (.int .i64 ((s.taken : Int) + 1)) := ⟨_, rfl⟩
  rw [← hU]
  have hUsz : U.heap.size = w5.heap.size := by rw [hU]; simp [World.setCell]
  have hother : ∀ b, b ≠ g → b ≠ b8 → U.heap[b]? = w5.heap[b]? := fun b h1 h2 => by rw [hU, Below.heap_setCell _ _ _ _ h2, Below.heap_setCell _ _ _ _ h2, Below.heap_setCell _ _ _ _ h1]
  have hgU : U.heap[g]? = some (.cells (cur.setIfInBounds T (.slice y.a y.n y.c)) 24 (0, 0)) := by
    rw [hU, Below.heap_setCell _ _ _ _ (show g ≠ b8 by omega), Below.heap_setCell _ _ _ _ (show g ≠ b8 by omega)]
    simp [World.setCell, Array.getElem?_modify, hblk]
  have hgl : g < w5.heap.size := (Array.getElem?_eq_some_iff.1 hblk).1
  refine ⟨?_, ?_, ?_, ?_, hok, hdr.symm.trans h.dr, ?_⟩
  · have hbox1 : (w5.setCell ⟨g, T, none⟩ (.slice y.a y.n y.c)).heap[b8]? = _ := (Below.heap_setCell _ _ _ _ (show b8 ≠ g by omega)).trans hbox
    rw [hU]
    simp [World.setCell, Array.getElem?_modify] at hbox1 ⊢
    simp [hbox1]
  · exact (hother b11 (by omega) (fun e => hWN.2.2.2.2 e.symm)).trans hres
  · intro V hV
    have hVW : Agr (NwS S N w2.heap.size) w2 V := fun b hbb => by
      have hbl : b < w2.heap.size := by
        rcases hbb with h1 | h1
        · exact Nat.lt_of_lt_of_le (hS b h1) h.bel.size
        · exact h1.2
      have hne8 : b ≠ b8 := by
        rcases hbb with h1 | h1
        · have := hS b h1
          omega
        · omega
      rw [hV b (nws_mono (by rw [hUsz]; exact hw.size) b hbb), hother b (by omega) hne8, hw.block b hbl]
    have hold := h.st V hVW
    have hgV := (hV g (.inr ⟨by omega, by rw [hUsz]; exact hgl⟩)).trans hgU
    refine ⟨hold.own, ?_, hold.early⟩
    have hp := hold.parts
    rw [hq] at hp
    refine ⟨by rw [List.length_set]; exact hp.1, hp.2.1, .inr ⟨g, 0, rfl, fun i hi => ?_⟩⟩
    obtain ⟨b', off', e', hat⟩ := hp.at (by show 0 < n; omega)
    cases e'
    obtain ⟨X, m, c, c1, c2, c3⟩ := hat i hi
    by_cases hiT : i = T
    · subst hiT
      refine ⟨y.a, y.n, y.c, ?_, ?_, hyc⟩
      · have hi2 : i < cur.size := by omega
        simp only [World.cell?, hgV, Nat.zero_add]
        simp [hi2]
      · have hl : i < s.parts.length := by rw [h.ok.lp]; exact hTn
        have e2 : (s.parts.set i val)[i]?.getD [] = val := by simp [hl]
        rw [e2]
        refine hy V fun b hbb hbg => ?_
        have hne8 : b ≠ b8 := by
          rcases hbb with h1 | h1
          · have := hS b h1
            omega
          · omega
        exact (hV b (by rw [hUsz]; exact hbb)).trans (hother b hbg hne8)
    · refine ⟨X, m, c, ?_, ?_, c3⟩
      · have h1 := hcur i hi
        have h2 : V.cell? ⟨pb, po + i, none⟩ = w2.cell? ⟨pb, po + i, none⟩ := World.cell?_of_block (hVW pb (h.top.1 pb po (by rw [hq])))
        rw [← h2, c1] at h1
        simp only [World.cell?, hgV, Nat.zero_add]
        rw [Array.getElem?_setIfInBounds_ne (fun e => hiT e.symm)]
        exact h1
      · have e2 : (s.parts.set T val)[i]?.getD [] = s.parts[i]?.getD [] := by rw [List.getElem?_set_ne (fun e => hiT e.symm)]
        rw [e2]
        exact c2
  · refine ⟨fun b off e => ?_, fun b off e => ?_⟩
    · cases e
      exact .inr ⟨by omega, by rw [hUsz]; exact hgl⟩
    · exact nws_mono (by rw [hUsz]; exact hw.size) b (h.top.2 b off e)
  · rw [hU]
    exact (((h.bel.trans (hw.mono h.bel.size)).setCell (by have := h.bel.size; simp only; omega) _).setCell (by simp only; omega) _).setCell (by simp only; omega) _
end Go.Proofs.Yticcoacoepajpaa.V
namespace Go.Proofs.Yticcoacoepajpaa.V
open Go Go.RowKit
set_option linter.unusedVariables false
set_option linter.unusedSimpArgs false

/-- The answer of Result. -/
def RResA2 (W : World) (S : Nat → Prop) (d n me : Nat) (s : St) (e : Ending) (w' : World) : Prop := (∃ y : Sl, e = .returned (.tuple #[.slice y.a y.n y.c, .int .i64 (resE d n s)]) ∧ (Stt (NwS S W.heap.size w'.heap.size) w' fun V => Ints V y.a y.n (resL d n me s)) ∧ y.n ≤ y.c) ∧ Below W.heap.size W w'
theorem part_at {S : Nat → Prop} {W : World} {q : Rs} {d n me : Nat} {s : St} (h : Stt S W fun V => RsA V q n s) (htop : Tops S q) {b off : Nat} {X : Option Addr} {m c : Nat} (e : q.p.a = some ⟨b, off, none⟩) (hc : W.cell? ⟨b, off + me, none⟩ = some (.slice X m c)) (hok : StOk d n me s) : Stt S W fun V => Ints V X m (prt s.parts me) := fun V hV => by
  have hp := (h V hV).parts
  have hn : q.p.n = n := by rw [← hp.1]; exact hok.lp
  obtain ⟨b', off', e', hat⟩ := hp.at (by rw [hn]; have := hok.n1; omega)
  rw [e] at e'
  cases e'
  obtain ⟨X', m', c', d1, d2, _⟩ := hat me (by rw [hn]; exact hok.mel)
  have hce : V.cell? ⟨b, off + me, none⟩ = W.cell? ⟨b, off + me, none⟩ := World.cell?_of_block (hV b (htop.1 b off e))
  rw [hce, hc] at d1
  simp only [Option.some.injEq, Value.slice.injEq] at d1
  obtain ⟨rfl, rfl, rfl⟩ := d1
  exact d2
set_option maxRecDepth 20000 in
set_option maxHeartbeats 4000000 in
theorem rResult_at (q : Rs) (d n me : Nat) (s : St) (W : World) (S : Nat → Prop) (hS : LowS S W.heap.size) (hst : Stt S W fun V => RsA V q n s) (htop : Tops S q) (hok : StOk d n me s) :
    Calls Try.prog 25 #[.int .i64 (d : Int), .int .i64 (n : Int), .int .i64 (me : Int), q.v s] W fun e w' => RResA2 W S d n me s e w' := by
  have h := hst.now
  have HPS := hide (fun b off X m c e hc => part_at (me := me) hst htop (b := b) (off := off) (X := X) (m := m) (c := c) e hc hok)
  have HSL := hide hS
  have hn1 := hok.n1
  have hn16 := hok.n16
  have hme := hok.mel
  have hpl : q.p.n = n := by rw [← h.parts.1]; exact hok.lp
  have HP := hide h.parts
  have HOK := hide hok
  have htk := hok.taken
  obtain ⟨⟨oa, on, oc⟩, ⟨pa, pn, pc⟩, ⟨ea, en, ec⟩⟩ := q
  simp only at hpl HP HPS
  subst hpl
  unfold Rs.v RResA2
  simp only
  have hnb : notN d pn ≤ 30 := notN_le hn16
  have hB : Below W.heap.size W (W.alloc (.cells #[.slice oa on oc, .slice pa pn pc, .int .i64 s.sent, .int .i64 s.taken, .slice ea en ec] 60)) := bl_new _
  obtain ⟨V, hV⟩ : ∃ V, V = W.alloc (.cells #[.slice oa on oc, .slice pa pn pc, .int .i64 s.sent, .int .i64 s.taken, .slice ea en ec] 60) := ⟨_, rfl⟩
  rw [← hV] at hB
  have hxb : V.heap[W.heap.size]? = some (.cells #[.slice oa on oc, .slice pa pn pc, .int .i64 s.sent, .int .i64 s.taken, .slice ea en ec] 60 (0, 0)) := by rw [hV]; exact World.alloc_heap_new _ _
  have b1 : V.cell? ⟨W.heap.size, 1, none⟩ = some (.slice pa pn pc) := by simp only [World.cell?, hxb]; rfl
  have b3 : V.cell? ⟨W.heap.size, 3, none⟩ = some (.int .i64 s.taken) := by simp only [World.cell?, hxb]; rfl
  have bz := (Array.getElem?_eq_some_iff.1 hxb).1
  have HNO := hide (fun w => rNotes_any (d : Int) pn w hn1 hn16)
  have HB := hide hB
  have HV := hide hV
  obtain ⟨b, off, rfl, hat⟩ := HP.out.at (by omega)
  have HAT := hide hat
  obtain ⟨N, hN⟩ : ∃ N, N = notN d pn := ⟨_, rfl⟩
  have hdN : notN (d : Int).toNat pn = N := by rw [hN]; rfl
  rw [hdN] at HNO
  rw [← hN] at hnb htk
  have HN := hide hN
  clear h hst htop hS hok hB hxb hat hdN hN
  go_enter Try.func25, Try.ntmps25
  go_upto_region 1 with fail
  rw [← hV]
  clear hV
  obtain ⟨bx, hbx⟩ : ∃ bx, bx = W.heap.size := ⟨_, rfl⟩
  rw [← hbx] at b1 b3 bz ⊢
  clear hbx
  by_cases hlt : s.taken < N
  · have hlz : (s.taken : Int) < (N : Int) := by omega
    have e1 : resE d pn s = 13 := by unfold resE; rw [← HN.out, if_pos hlt]
    have e2 : resL d pn me s = [] := by unfold resL; rw [← HN.out, if_pos hlt]
    have E1 := hide e1
    have E2 := hide e2
    clear e1 e2
    refine region_made 6 8 [fIs (.pointer (some ⟨bx, 3, none⟩)), fIs (.int .i64 (s.taken : Int)), fIs (.int .i64 (d : Int)), fIs (.int .i64 (pn : Int)), fIs (.int .i64 (N : Int)), fIs (.bool true)] (by kernel_rfl) (by kernel_rfl) (by kernel_rfl) (fun _ ⟨_, _⟩ ⟨_, _⟩ _ e h => by cases e; exact h) ⟨fIs_good _, fIs_good _, fIs_good _, fIs_good _, fIs_good _, fIs_good _, trivial⟩ ?mka ?resta
    case mka =>
      refine ⟨fun u wz hb hd => ?_, fun u wz hb hd => ?_, fun u wz hb hd => ?_, fun u wz hb hd => ?_, fun u wz hb hd => ?_, fun u wz hb hd => ?_, trivial⟩
      all_goals simp only [Act.put, List.setIfInBounds_toArray, List.set_cons_zero, List.set_cons_succ]
      · go_simp
        exact ⟨rfl, Below.refl _ _, fun h => by cases h⟩
      · have e0 : u 0 = .pointer (some ⟨bx, 3, none⟩) := hd 0 (by omega) (by kernel_rfl)
        rw [e0]
        have b3' := (hb.cell (p := ⟨bx, 3, none⟩) (lt_of_cell b3)).trans b3
        go_simp
        exact ⟨rfl, Below.refl _ _, fun h => by cases h⟩
      · go_simp
        exact ⟨rfl, Below.refl _ _, fun h => by cases h⟩
      · go_simp
        exact ⟨rfl, Below.refl _ _, fun h => by cases h⟩
      · have e2 : u 2 = .int .i64 (d : Int) := hd 2 (by omega) (by kernel_rfl)
        have e3 : u 3 = .int .i64 (pn : Int) := hd 3 (by omega) (by kernel_rfl)
        rw [e2, e3]
        go_simp
        refine (HNO.out wz).mono ?_
        rintro e w2 ⟨rfl, rfl⟩
        exact ⟨rfl, Below.refl _ _, fun h => by cases h⟩
      · have e1 : u 1 = .int .i64 (s.taken : Int) := hd 1 (by omega) (by kernel_rfl)
        have e4 : u 4 = .int .i64 (N : Int) := hd 4 (by omega) (by kernel_rfl)
        rw [e1, e4]
        go_simp
        exact ⟨rfl, Below.refl _ _, fun h => by cases h⟩
    case resta =>
      intro u wz hb hf hp
      have f0 : u 0 = .pointer (some ⟨bx, 3, none⟩) := hf 0 (by omega)
      have f1 : u 1 = .int .i64 (s.taken : Int) := hf 1 (by omega)
      have f2 : u 2 = .int .i64 (d : Int) := hf 2 (by omega)
      have f3 : u 3 = .int .i64 (pn : Int) := hf 3 (by omega)
      have f4 : u 4 = .int .i64 (N : Int) := hf 4 (by omega)
      have f5 : u 5 = .bool true := hf 5 (by omega)
      refine UptoW.rest 0 6 (by rfl) (by kernel_rfl) ?_
      simp only [List.take, List.drop, putOps, Act.put, List.setIfInBounds_toArray, List.set_cons_zero, List.set_cons_succ, Nat.reduceAdd, f0, f1, f2, f3, f4, f5]
      clear f0 f1 f2 f3 f4 f5 hf hp
      have HBZ := hide hb
      clear hb
      go_wp2_with fail
      go_ret2
      exact ⟨⟨slZ, by rw [E1.out]; rfl, by rw [E2.out]; exact fun V _ => (Num.nil V).ints, Nat.le_refl _⟩, bl_on HB.out HBZ.out⟩
  · have hlz : ¬ (s.taken : Int) < (N : Int) := by omega
    have e1 : resE d pn s = 0 := by unfold resE; rw [← HN.out, if_neg hlt]
    have e2 : resL d pn me s = if d = 2 then prt s.parts me else s.parts.flatten := by unfold resL; rw [← HN.out, if_neg hlt]
    have E1 := hide e1
    have E2 := hide e2
    clear e1 e2
    refine region_made 6 8 [fIs (.pointer (some ⟨bx, 3, none⟩)), fIs (.int .i64 (s.taken : Int)), fIs (.int .i64 (d : Int)), fIs (.int .i64 (pn : Int)), fIs (.int .i64 (N : Int)), fIs (.bool false)] (by kernel_rfl) (by kernel_rfl) (by kernel_rfl) (fun _ ⟨_, _⟩ ⟨_, _⟩ _ e h => by cases e; exact h) ⟨fIs_good _, fIs_good _, fIs_good _, fIs_good _, fIs_good _, fIs_good _, trivial⟩ ?mkb ?restb
    case mkb =>
      refine ⟨fun u wz hb hd => ?_, fun u wz hb hd => ?_, fun u wz hb hd => ?_, fun u wz hb hd => ?_, fun u wz hb hd => ?_, fun u wz hb hd => ?_, trivial⟩
      all_goals simp only [Act.put, List.setIfInBounds_toArray, List.set_cons_zero, List.set_cons_succ]
      · go_simp
        exact ⟨rfl, Below.refl _ _, fun h => by cases h⟩
      · have e0 : u 0 = .pointer (some ⟨bx, 3, none⟩) := hd 0 (by omega) (by kernel_rfl)
        rw [e0]
        have b3' := (hb.cell (p := ⟨bx, 3, none⟩) (lt_of_cell b3)).trans b3
        go_simp
        exact ⟨rfl, Below.refl _ _, fun h => by cases h⟩
      · go_simp
        exact ⟨rfl, Below.refl _ _, fun h => by cases h⟩
      · go_simp
        exact ⟨rfl, Below.refl _ _, fun h => by cases h⟩
      · have e2 : u 2 = .int .i64 (d : Int) := hd 2 (by omega) (by kernel_rfl)
        have e3 : u 3 = .int .i64 (pn : Int) := hd 3 (by omega) (by kernel_rfl)
        rw [e2, e3]
        go_simp
        refine (HNO.out wz).mono ?_
        rintro e w2 ⟨rfl, rfl⟩
        exact ⟨rfl, Below.refl _ _, fun h => by cases h⟩
      · have e1 : u 1 = .int .i64 (s.taken : Int) := hd 1 (by omega) (by kernel_rfl)
        have e4 : u 4 = .int .i64 (N : Int) := hd 4 (by omega) (by kernel_rfl)
        rw [e1, e4]
        go_simp
        exact ⟨rfl, Below.refl _ _, fun h => by cases h⟩
    case restb =>
      intro u wz hb hf hp
      have f0 : u 0 = .pointer (some ⟨bx, 3, none⟩) := hf 0 (by omega)
      have f1 : u 1 = .int .i64 (s.taken : Int) := hf 1 (by omega)
      have f2 : u 2 = .int .i64 (d : Int) := hf 2 (by omega)
      have f3 : u 3 = .int .i64 (pn : Int) := hf 3 (by omega)
      have f4 : u 4 = .int .i64 (N : Int) := hf 4 (by omega)
      have f5 : u 5 = .bool false := hf 5 (by omega)
      refine UptoW.rest 0 6 (by rfl) (by kernel_rfl) ?_
      simp only [List.take, List.drop, putOps, Act.put, List.setIfInBounds_toArray, List.set_cons_zero, List.set_cons_succ, Nat.reduceAdd, f0, f1, f2, f3, f4, f5]
      clear f0 f1 f2 f3 f4 f5 hf hp
      have b1 := (hb.cell (p := ⟨bx, 1, none⟩) bz).trans b1
      have bz := Nat.lt_of_lt_of_le bz hb.size
      have HBZ := hide (bl_on HB.out hb)
      clear hb b3
      by_cases d2 : d = 2
      · subst d2
        obtain ⟨X, m, c, c1, c2, c3⟩ := HAT.out me hme
        have HXS := hide (HPS.out b off X m c rfl c1)
        have c1 := (HBZ.out.cell (p := ⟨b, off + me, none⟩) (lt_of_cell c1)).trans c1
        have cz := lt_of_cell c1
        have HX := hide (c2.below HBZ.out)
        have hmz : (me : Int) < (pn : Int) := by omega
        clear c2
        go_wp2_with fail
        go_ret2
        exact ⟨⟨⟨X, m, c⟩, by rw [E1.out]; rfl, by rw [E2.out]; first | (rw [if_pos rfl]; exact HXS.out.nw HSL.out HBZ.out) | (rw [if_pos trivial]; exact HXS.out.nw HSL.out HBZ.out), c3⟩, HBZ.out⟩
      · have d2' : ¬ ((d : Int) = 2) := by omega
        go_wp2_with fail
        go_loopw [10, 29] (fun v10 i wr => ∃ k : Nat, k ≤ pn ∧ i = .int .i64 k ∧ Ow wr wz.heap.size v10 ((s.parts.take k).flatten) ∧ Below wz.heap.size wz wr) (fun _ i _ => pn - (intOf i).toNat)
        case atStart => exact ⟨0, Nat.zero_le _, by first | rfl | trivial, Ow.start _ _, Below.refl _ _⟩
        case round =>
          obtain ⟨k, hk, rfl, ho, hbr⟩ := hrel
          have HO := hide ho
          have HBR := hide hbr
          have hbb := bl_on HBZ.out hbr
          have HBB := hide hbb
          have hlp : s.parts.length = pn := HP.out.1
          have hfl := flat_smallR hlp (fun k => (HOK.out.small k).1) k hk
          by_cases hlt2 : k < pn
          · obtain ⟨X, m, c, c1, c2, c3⟩ := HAT.out k hlt2
            have c1 := (hbb.cell (p := ⟨b, off + k, none⟩) (lt_of_cell c1)).trans c1
            have cz := lt_of_cell c1
            have HX := hide (c2.below hbb)
            have hkz : (k : Int) < (pn : Int) := by omega
            have hm6 : m ≤ 65536 := by
              have h9 := (HOK.out.small k).1
              unfold prt at h9
              rw [c2.1] at h9
              exact h9
            have hfs : (s.parts.take (k + 1)).flatten = (s.parts.take k).flatten ++ s.parts[k]?.getD [] := flat_step s.parts k (by omega)
            have HFS := hide hfs
            have HFL := hide (show ((s.parts.take k).flatten).length + m ≤ 1000000 * 2 from by omega)
            clear c2 hbb ho hbr hlp hfs hfl
            go_wp2_with (at_builtin; refine stp ?_)
            unfold Stp1
            refine append_owB (by rfl) (.tmp 33) (.tmp 34) (by rfl) wz.heap.size _ _ (by rfl) HO.out _ _ _ _ (by rfl) HX.out HFL.out HBR.out.size ?_
            intro v9 w9 ho9 hb9
            have HO9 := hide ho9
            have HB9 := hide (HBR.out.trans hb9)
            clear ho9 hb9
            go_wp2_with fail
            go_roundw
            case rel =>
              refine ⟨k + 1, by omega, by first | rfl | go_num, ?_, HB9.out⟩
              rw [HFS.out]
              exact HO9.out
            case measure => simp [intOf]; omega
          · obtain rfl : pn = k := by omega
            rw [List.take_of_length_le (by omega)] at ho hfl
            obtain ⟨⟨ya, yn, yc⟩, rfl, hy, hyo⟩ := num_of_own ho (by omega) (fun x hx => by
              obtain ⟨l, hl, hxl⟩ := List.mem_flatten.1 hx
              obtain ⟨j, hj, rfl⟩ := List.getElem_of_mem hl
              obtain ⟨X, m, c, _, c2, _⟩ := HAT.out j (by omega)
              have h9 : s.parts[j]?.getD [] = s.parts[j] := by simp [hj]
              rw [h9] at c2
              exact c2.2.2.1 x hxl)
            have HY := hide hy
            have HYO := hide hyo
            clear hbb ho hbr hlp hfl hy hyo
            go_wp2_with fail
            go_ret2
            exact ⟨⟨⟨ya, yn, yc⟩, by rw [E1.out]; rfl, by rw [E2.out, if_neg d2]; exact num_stt HY.out (fun b hO => .inr ⟨Nat.le_trans HBZ.out.size (HYO.out b hO), HY.out.lt hO⟩), HY.out.cap⟩, HBB.out⟩
end Go.Proofs.Yticcoacoepajpaa.V
