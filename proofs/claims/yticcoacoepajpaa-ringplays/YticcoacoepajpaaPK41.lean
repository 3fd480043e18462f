/-
  The document's Play: what its steps need.
-/
import Derived.Test.YticcoacoepajpaaPK38
import Derived.Test.YticcoacoepajpaaPK39
import Derived.Test.YticcoacoepajpaaPK40
import Derived.Test.YticcoacoepajpaaPK26
import Derived.Test.YticcoacoepajpaaPK34
namespace Go.Proofs.Yticcoacoepajpaa.V
open Go Go.RowKit
set_option linter.unusedVariables false
set_option linter.unusedSimpArgs false

theorem rMod_all (x : Int) (n : Nat) (w : World) (hn : 1 ≤ n) (hn3 : n ≤ 4611686018427387904) : Calls Try.prog 23 #[.int .i64 x, .int .i64 (n : Int)] w fun e w' => e = .returned (.int .i64 ((modI x n : Nat) : Int)) ∧ w' = w := by
  have HM := hide (tmod_mod (n := n) hn x)
  have hb9 := tmod_bd (n := n) hn x
  have q0 : ¬ ((n : Int) = 0) := by omega
  have q1 : ((n : Int) == 0) = false := by simp; omega
  have q2 : ¬ (n = 0) := by omega
  have q3 : wrap64 (x.tmod (n : Int)) = x.tmod (n : Int) := by unfold wrap64; omega
  have q4 : wrap64 (x.tmod (n : Int) + (n : Int)) = x.tmod (n : Int) + (n : Int) := by unfold wrap64; omega
  have hb8 := tmod_bd (n := n) hn (x.tmod (n : Int) + (n : Int))
  have q5 : wrap64 ((x.tmod (n : Int) + (n : Int)).tmod (n : Int)) = (x.tmod (n : Int) + (n : Int)).tmod (n : Int) := by unfold wrap64; omega
  clear hb9 hb8
  go_enter Try.func23, Try.ntmps23
  go_wp2_with fail
  go_ret
  exact ⟨by rw [HM.out]; rfl, rfl⟩
theorem updN_id {α : Type} (f : Nat → α) (i : Nat) : updN f i (f i) = f := by
  funext j
  by_cases e : j = i
  · subst e; exact updN_same _ _ _
  · exact updN_other _ _ e
/-- As many notes are on their way as there were steps, at the most. -/
theorem step_ws (d n : Nat) (P : Pl) (p : Stp) : (stepM d n P p).1.ws.length ≤ P.ws.length + 1 := by
  unfold stepM giveM
  split
  · split <;> simp
  · split
    · show (if p.act = 2 then P.ws.eraseIdx (modI p.num P.ws.length) else P.ws).length ≤ _
      split
      · have := List.length_eraseIdx_le P.ws (modI p.num P.ws.length); omega
      · omega
    · split
      · show P.ws.length ≤ _; omega
      · split <;> (show P.ws.length ≤ _; omega)
theorem play_ws (d n : Nat) : ∀ (l : List Stp) (P : Pl), (playM d n P l).1.ws.length ≤ P.ws.length + l.length
  | [], P => by simp [playM]
  | p :: l, P => by
    have h1 := play_ws d n l (stepM d n P p).1
    have h2 := step_ws d n P p
    unfold playM
    simp only [List.length_cons]
    omega
/-- What Take tells, settled. -/
def fTkR (N : Nat) (S : Nat → Prop) (n : Nat) (s : St) (er : Int) : Fact := ⟨fun u W => ∃ q : Rs, u = .tuple #[.int .i64 er, .agg #[.slice q.o.a q.o.n q.o.c, .slice q.p.a q.p.n q.p.c, .int .i64 (s.sent : Int), .int .i64 (s.taken : Int), .slice q.e.a q.e.n q.e.c]] ∧ (Stt (NwS S N W.heap.size) W fun V => RsA V q n s) ∧ Tops (NwS S N W.heap.size) q, false⟩
theorem fTkR_good {N : Nat} {S : Nat → Prop} (hS : LowS S N) (n : Nat) (s : St) (er : Int) : (fLow N (fTkR N S n s er)).Good := ⟨fun _ _ _ ⟨hN, y, h1, h2, h3⟩ hb => ⟨Nat.le_trans hN hb.size, y, h1, stt_on hS hN h2 hb, h3.mono (nws_mono hb.size)⟩, fun h => by cases h⟩
def fTs (N : Nat) (S : Nat → Prop) (n : Nat) (s : St) : Fact := ⟨fun u W => ∃ q : Rs, u = .agg #[.slice q.o.a q.o.n q.o.c, .slice q.p.a q.p.n q.p.c, .int .i64 (s.sent : Int), .int .i64 (s.taken : Int), .slice q.e.a q.e.n q.e.c] ∧ (Stt (NwS S N W.heap.size) W fun V => RsA V q n s) ∧ Tops (NwS S N W.heap.size) q, false⟩
theorem fTs_good {N : Nat} {S : Nat → Prop} (hS : LowS S N) (n : Nat) (s : St) : (fLow N (fTs N S n s)).Good := ⟨fun _ _ _ ⟨hN, y, h1, h2, h3⟩ hb => ⟨Nat.le_trans hN hb.size, y, h1, stt_on hS hN h2 hb, h3.mono (nws_mono hb.size)⟩, fun h => by cases h⟩
/-- What Next tells, settled. -/
def fNx (N : Nat) (S : Nat → Prop) (x : Nt) (c : Bool) (v : Value) : Fact := ⟨fun u W => ∃ y : Sl, u = .tuple #[.agg #[.int .i64 x.fr, .int .i64 x.to, .int .i64 x.st, .slice y.a y.n y.c], .bool c, v] ∧ (Stt (NwS S N W.heap.size) W fun V => Ints V y.a y.n x.data) ∧ y.n ≤ y.c, false⟩
theorem fNx_good {N : Nat} {S : Nat → Prop} (hS : LowS S N) (x : Nt) (c : Bool) (v : Value) : (fLow N (fNx N S x c v)).Good := ⟨fun _ _ _ ⟨hN, y, h1, h2, h3⟩ hb => ⟨Nat.le_trans hN hb.size, y, h1, stt_on hS hN h2 hb, h3⟩, fun h => by cases h⟩
def fNy (N : Nat) (S : Nat → Prop) (x : Nt) : Fact := ⟨fun u W => ∃ y : Sl, u = .agg #[.int .i64 x.fr, .int .i64 x.to, .int .i64 x.st, .slice y.a y.n y.c] ∧ (Stt (NwS S N W.heap.size) W fun V => Ints V y.a y.n x.data) ∧ y.n ≤ y.c, false⟩
theorem fNy_good {N : Nat} {S : Nat → Prop} (hS : LowS S N) (x : Nt) : (fLow N (fNy N S x)).Good := ⟨fun _ _ _ ⟨hN, y, h1, h2, h3⟩ hb => ⟨Nat.le_trans hN hb.size, y, h1, stt_on hS hN h2 hb, h3⟩, fun h => by cases h⟩
def nxN (d n me : Nat) (s : St) : Nt := if canM d n s = true then noteM d n me s else ntZ
theorem rNext_at (q : Rs) (d n me : Nat) (s : St) (W : World) (S : Nat → Prop) (hS : LowS S W.heap.size) (h : Stt S W fun V => RsA V q n s) (hok : StOk d n me s) :
    Calls Try.prog 22 #[.int .i64 (d : Int), .int .i64 (n : Int), .int .i64 (me : Int), q.v s] W fun e w' => (∃ y : Sl, e = .returned (.tuple #[.agg #[.int .i64 (nxN d n me s).fr, .int .i64 (nxN d n me s).to, .int .i64 (nxN d n me s).st, .slice y.a y.n y.c], .bool (canM d n s), q.v (nextM d n s)]) ∧ (Stt (NwS S W.heap.size w'.heap.size) w' fun V => Ints V y.a y.n (nxN d n me s).data) ∧ y.n ≤ y.c) ∧ Below W.heap.size W w' := by
  refine (rNext_any q d n me s W h.now hok).mono ?_
  rintro e w' ⟨h1, h2, h3⟩
  refine ⟨?_, h3⟩
  by_cases hc : canM d n s = true
  · obtain ⟨y, e1, e2, e3⟩ := h2 hc
    refine ⟨y, ?_, ?_, e2.2⟩
    · rw [e1]; unfold nxN ntV; rw [if_pos hc, hc]
    · unfold nxN
      rw [if_pos hc]
      exact num_stt e2 fun b hO => .inr (e3 b hO)
  · have hc' : canM d n s = false := by simpa using hc
    refine ⟨slZ, ?_, ?_, Nat.le_refl _⟩
    · rw [h1 hc']; unfold nxN nextM ntV; rw [if_neg hc, if_neg hc, hc']; rfl
    · unfold nxN
      rw [if_neg hc]
      exact fun V _ => (Num.nil V).ints
theorem RsA.next {V : World} {q : Rs} {n : Nat} {s : St} (h : RsA V q n s) (d m : Nat) : RsA V q n (nextM d m s) := by
  unfold nextM
  split
  · exact ⟨h.own, h.parts, h.early⟩
  · exact h
/-- A fact: an empty literal. -/
def fEmN (N : Nat) : Fact := ⟨fun u W => ∃ B, u = .slice (some ⟨B, 0, none⟩) 0 0 ∧ N ≤ B ∧ W.heap[B]? = some (.cells #[] 39 (0, 0)), false⟩
theorem fEmN_good (N : Nat) : (fEmN N).Good := ⟨fun _ _ _ ⟨B, h1, h2, h3⟩ hb => ⟨B, h1, h2, (hb.block B (Array.getElem?_eq_some_iff.1 h3).1).trans h3⟩, fun h => by cases h⟩
def fNtA (N len : Nat) (cells : List Value) : Fact := ⟨fun u W => ∃ g cap, u = .slice (some ⟨g, 0, none⟩) len cap ∧ NtR W N g cap len cells, false⟩
theorem fNtA_good (N len : Nat) (cells : List Value) : (fNtA N len cells).Good := ⟨fun _ _ _ ⟨g, cap, h1, h2⟩ hb => ⟨g, cap, h1, by
  obtain ⟨cur, k1, k2⟩ := h2.blk
  exact ⟨⟨cur, (hb.block g (Array.getElem?_eq_some_iff.1 k1).1).trans k1, k2⟩, h2.low, h2.cap, h2.len⟩⟩, (fun h => by cases h)⟩
theorem wp_notes_k {w : World} {o : Oper} {a : Act} {K : Act → World → Prop} {Q : Exit → Act → World → Prop} (s x : Operand) (ho : o.op = .call { callee := .builtin .append, args := #[s, x], argTypes := #[51, 51] })
    (N B m c : Nat) (X : Option Addr) (cells : List Value) (hs : a.eval s = .slice (some ⟨B, 0, none⟩) 0 0) (hB : N ≤ B ∧ w.heap[B]? = some (.cells #[] 39 (0, 0))) (hx : a.eval x = .slice X m c) (hl : cells.length = m * 4) (hX : 0 < m → ∃ b off, X = some ⟨b, off, none⟩ ∧ ∀ j u, cells[j]? = some u → w.cell? ⟨b, off + j, none⟩ = some u) (hm : m * 48 ≤ 140737488355328) (hN : N ≤ w.heap.size)
    (h : ∀ g cap w', NtR w' N g cap m cells → Below w.heap.size w w' → K (a.put o.dst (.slice (some ⟨g, 0, none⟩) m cap)) w') : o.wp Try.prog a w K Q := by
  obtain ⟨i0, hi, hz0, hz1, hz2⟩ := info_parts info_note
  by_cases h0 : 0 < m
  · exact wp_notes_e s x ho N B m c X cells hs hx hl hX hm hN fun g cap w' h1 _ h2 => h g cap w' (h1 h0) h2
  · have hm0 : m = 0 := by omega
    subst hm0
    have hcl : cells = [] := List.length_eq_zero_iff.1 (by simpa using hl)
    subst hcl
    have hr : (Builtin.append_ #[51, 51] o.type #[.slice (some ⟨B, 0, none⟩) 0 0, .slice X 0 c]).run Try.prog w = .ok (.slice (some ⟨B, 0, none⟩) 0 0) w := by
      cases X with
      | none => simp [Builtin.append_, run_underlying Try.underlying51, sizeOf, typeInfo, hi, Builtin.lenOf, Builtin.firstCells, storeCells]
      | some ad => exact run_append_room_cells (P := Try.prog) w 51 o.type 39 i0 Try.underlying51 hi B 0 0 0 ad 0 c [] (by simp) (by simp) (by simp) (by omega) (by simp) (by simp)
    unfold Oper.wp
    simp [execOp, ho, resolve, invoke, builtin, hs, hx, hr, Result.andThen]
    exact h B 0 w ⟨⟨#[], hB.2, Nat.zero_le _, rfl, rfl⟩, hB.1, Nat.le_refl _, rfl⟩ (Below.refl _ _)
/-- append(notes, notes...). -/
theorem append_nts {w : World} {ops : Array Oper} {rest : List Oper} {o : Oper} {a : Act} {Q : Exit → Act → World → Prop} (hgd : o.guard = none) (s x : Operand) (ho : o.op = .call { callee := .builtin .append, args := #[s, x], argTypes := #[51, 51] })
    (N g cap k m c : Nat) (X : Option Addr) (cells news : List Value) (hs : a.eval s = .slice (some ⟨g, 0, none⟩) k cap) (h0 : NtR w N g cap k cells) (hx : a.eval x = .slice X m c) (hl : news.length = m * 4) (hA : ∃ ad, X = some ad) (hX : 0 < m → ∃ b off, X = some ⟨b, off, none⟩ ∧ ∀ j u, news[j]? = some u → w.cell? ⟨b, off + j, none⟩ = some u) (hone : ∀ u ∈ news, u.oneCell' = true) (hm : (k + m) * 48 ≤ 140737488355328) (hN : N ≤ w.heap.size)
    (h : ∀ v' w', RowC w' N 39 4 v' (k + m) (cells ++ news) → LB N w w' → wpList Try.prog ops Q rest (a.put o.dst v') w') : wpList Try.prog ops Q (o :: rest) a w := by
  obtain ⟨i0, hi, hz0, hz1, hz2⟩ := info_parts info_note
  by_cases hp : 0 < m
  · obtain ⟨b, off, rfl, hc⟩ := hX hp
    refine append_c hgd s x 51 ho N 39 i0 _ 4 48 Try.underlying51 hi hz0 hz1 hz2 rfl (by decide) _ k cells hs (.inl h0.own) ⟨b, off, none⟩ m c news hx hl (fun j u hj => by rw [add_pl]; exact hc j u hj) hone hp (by unfold maxLen; omega) hm hN ?_
    intro v' w' h1 h2 _
    exact h v' w' h1 ⟨h2.os, h2.tape, h2.output, h2.size, fun i hi1 hi2 => h2.block i hi2 (fun e => by
        have h9 : g = i := by simpa [Value.ownBlock] using e.symm
        have := h0.low
        omega)⟩
  · have hm0 : m = 0 := by omega
    subst hm0
    have hcl : news = [] := List.length_eq_zero_iff.1 (by simpa using hl)
    subst hcl
    obtain ⟨ad, rfl⟩ := hA
    have hr := run_append_room_cells (P := Try.prog) w 51 o.type 39 i0 Try.underlying51 hi g 0 k cap ad 0 c [] (by simp) (by simp) (by simp) (by have := h0.cap; omega) (by simp) (by simp)
    refine wpList_plain hgd fun K hK => ?_
    unfold Oper.wp execOp
    simp only [ho, resolve, invoke, builtin, Sem.run_bind, Sem.run_pure, Result.andThen_ok, List.map_toArray, List.map_cons, List.map_nil, hs, hx, hr]
    refine hK _ _ (h _ _ ?_ (LB.of _ _ (Below.refl _ _)))
    rw [List.append_nil]
    exact .inl h0.own
theorem rowC_low {W : World} {B N : Nat} {e : TypeId} {size : Nat} {v : Value} {n : Nat} {xs : List Value} (h : RowC W N e size v n xs) (hB : B ≤ N) : RowC W B e size v n xs := by
  rcases h with h | ⟨h0, g, cur, h1, h2, h3⟩
  · refine .inl ⟨h.1, ?_⟩
    rcases h.2 with h | ⟨g, cap, cur, h1, h2, h3⟩
    · exact .inl h
    · exact .inr ⟨g, cap, cur, h1, Nat.le_trans hB h2, h3⟩
  · exact .inr ⟨h0, g, cur, h1, Nat.le_trans hB h2, h3⟩
theorem wyC_len (ps : List (Nt × Sl)) : (wyC ps).length = ps.length * 4 := by
  induction ps with
  | nil => rfl
  | cons p ps ih => simp only [wyC, List.flatMap_cons, List.length_append, List.length_cons] at ih ⊢; rw [ih]; simp [ntC]; omega
theorem wyC_erase (ps : List (Nt × Sl)) (k : Nat) : wyC (ps.eraseIdx k) = wyC (ps.take k) ++ wyC (ps.drop (k + 1)) := by rw [List.eraseIdx_eq_take_drop_succ, wyC, List.flatMap_append]; rfl
theorem wyC_at {W : World} {B : Nat} {ps : List (Nt × Sl)} {g cap : Nat} (h : RowC W B 39 4 (.slice (some ⟨g, 0, none⟩) ps.length cap) ps.length (wyC ps)) {k : Nat} {p : Nt × Sl} (hk : ps[k]? = some p) : W.cell? ⟨g, k * 4, none⟩ = some (.int .i64 p.1.fr) ∧ W.cell? ⟨g, k * 4 + 1, none⟩ = some (.int .i64 p.1.to) ∧ W.cell? ⟨g, k * 4 + 2, none⟩ = some (.int .i64 p.1.st) ∧ W.cell? ⟨g, k * 4 + 3, none⟩ = some (.slice p.2.a p.2.n p.2.c) := by
  have key : ∀ j u, j < 4 → (ntC p)[j]? = some u → W.cell? ⟨g, k * 4 + j, none⟩ = some u := fun j u hj hu => by
    refine h.cell rfl ?_
    unfold wyC
    rw [flat_get ntC 4 (fun _ => rfl) ps k j hj, hk]
    exact hu
  have k0 := key 0 _ (by decide) rfl
  rw [Nat.add_zero] at k0
  exact ⟨k0, key 1 _ (by decide) rfl, key 2 _ (by decide) rfl, key 3 _ (by decide) rfl⟩
theorem wyC_take {W : World} {B : Nat} {ps : List (Nt × Sl)} {g cap : Nat} (h : RowC W B 39 4 (.slice (some ⟨g, 0, none⟩) ps.length cap) ps.length (wyC ps)) (k : Nat) : ∀ j u, (wyC (ps.take k))[j]? = some u → W.cell? ⟨g, 0 + j, none⟩ = some u := fun j u hj => by
  rw [Nat.zero_add]
  refine h.cell rfl ?_
  have e : wyC ps = wyC (ps.take k) ++ wyC (ps.drop k) := by conv => lhs; rw [← List.take_append_drop k ps, wyC, List.flatMap_append]
                                                             rfl
  rw [e, List.getElem?_append_left (List.getElem?_eq_some_iff.1 hj).1]
  exact hj
theorem wyC_drop {W : World} {B : Nat} {ps : List (Nt × Sl)} {g cap : Nat} (h : RowC W B 39 4 (.slice (some ⟨g, 0, none⟩) ps.length cap) ps.length (wyC ps)) {k : Nat} (hk : k ≤ ps.length) : ∀ j u, (wyC (ps.drop k))[j]? = some u → W.cell? ⟨g, k * 4 + j, none⟩ = some u := fun j u hj => by
  refine h.cell rfl ?_
  have e : wyC ps = wyC (ps.take k) ++ wyC (ps.drop k) := by conv => lhs; rw [← List.take_append_drop k ps, wyC, List.flatMap_append]
                                                             rfl
  have hl : (wyC (ps.take k)).length = k * 4 := by rw [wyC_len, List.length_take, Nat.min_eq_left hk]
  rw [e, List.getElem?_append_right (by omega), hl, show k * 4 + j - k * 4 = j by omega]
  exact hj
theorem wyC_one (ps : List (Nt × Sl)) : ∀ u ∈ wyC ps, u.oneCell' = true := fun u hu => by
  unfold wyC at hu
  obtain ⟨p, _, hp⟩ := List.mem_flatMap.1 hu
  simp [ntC] at hp
  rcases hp with rfl | rfl | rfl | rfl <;> rfl
/-- As V, but for what lies in x and what is new. -/
def IxI (V : World) (xb : Nat) (C : List (Nat × Value)) (w : World) : Prop :=
  (w.os = V.os ∧ w.tape = V.tape ∧ w.output = V.output) ∧ V.heap.size ≤ w.heap.size ∧ (∀ b, b < V.heap.size → b ≠ xb → w.heap[b]? = V.heap[b]?) ∧ ∃ cur : Array Value, cur.size = 7 ∧ w.heap[xb]? = some (.cells cur 41 (0, 0)) ∧ ∀ p ∈ C, cur[p.1]? = some p.2
def XsR (xb : Nat) (J : List Nat) (w w' : World) : Prop :=
  (w'.os = w.os ∧ w'.tape = w.tape ∧ w'.output = w.output) ∧ w'.heap.size = w.heap.size ∧ (∀ b, b ≠ xb → w'.heap[b]? = w.heap[b]?) ∧ ∀ cur, w.heap[xb]? = some (.cells cur 41 (0, 0)) → ∃ cur', w'.heap[xb]? = some (.cells cur' 41 (0, 0)) ∧ cur'.size = cur.size ∧ ∀ j, j ∉ J → cur'[j]? = cur[j]?
theorem IxI.of {V w : World} {xb : Nat} {C : List (Nat × Value)} {cur : Array Value} (h : V.heap[xb]? = some (.cells cur 41 (0, 0))) (hs : cur.size = 7) (hc : ∀ p ∈ C, cur[p.1]? = some p.2) (hb : Below V.heap.size V w) : IxI V xb C w :=
  ⟨⟨hb.os, hb.tape, hb.output⟩, hb.size, fun b h1 _ => hb.block b h1, cur, hs, (hb.block xb (Array.getElem?_eq_some_iff.1 h).1).trans h, hc⟩
theorem IxI.grow {V w w' : World} {xb : Nat} {C : List (Nat × Value)} (h : IxI V xb C w) (hb : Below w.heap.size w w') : IxI V xb C w' := by
  obtain ⟨⟨h1, h2, h3⟩, h4, h5, cur, h6, h7, h8⟩ := h
  exact ⟨⟨hb.os.trans h1, hb.tape.trans h2, hb.output.trans h3⟩, Nat.le_trans h4 hb.size, fun b k1 k2 => (hb.block b (Nat.lt_of_lt_of_le k1 h4)).trans (h5 b k1 k2), cur, h6, (hb.block xb (Array.getElem?_eq_some_iff.1 h7).1).trans h7, h8⟩
theorem IxI.xs {V w w' : World} {xb : Nat} {C : List (Nat × Value)} {J : List Nat} (h : IxI V xb C w) (hJ : ∀ p ∈ C, p.1 ∉ J) (hx : XsR xb J w w') : IxI V xb C w' := by
  obtain ⟨⟨h1, h2, h3⟩, h4, h5, cur, h6, h7, h8⟩ := h
  obtain ⟨⟨k1, k2, k3⟩, k4, k5, k6⟩ := hx
  obtain ⟨cur', j1, j2, j3⟩ := k6 cur h7
  exact ⟨⟨k1.trans h1, k2.trans h2, k3.trans h3⟩, by rw [k4]; exact h4, fun b l1 l2 => (k5 b l2).trans (h5 b l1 l2), cur', by rw [j2, h6], j1, fun p hp => (j3 p.1 (hJ p hp)).trans (h8 p hp)⟩
theorem IxI.cell {V w : World} {xb : Nat} {C : List (Nat × Value)} (h : IxI V xb C w) {b off : Nat} {v : Value} (hne : b ≠ xb) (hc : V.cell? ⟨b, off, none⟩ = some v) : w.cell? ⟨b, off, none⟩ = some v := by
  rw [World.cell?_of_block (h.2.2.1 b (lt_of_cell hc) hne)]
  exact hc
theorem IxI.agr {V w : World} {xb : Nat} {C : List (Nat × Value)} (h : IxI V xb C w) {S : Nat → Prop} (hS : LowS S V.heap.size) (hx : ¬ S xb) : Agr S V w := fun b hb => h.2.2.1 b (hS b hb) (fun e => hx (e ▸ hb))
theorem IxI.below {V w W : World} {xb : Nat} {C : List (Nat × Value)} (h : IxI V xb C w) (hb : Below W.heap.size W V) (hx : W.heap.size ≤ xb) : Below W.heap.size W w :=
  ⟨h.1.1.trans hb.os, h.1.2.1.trans hb.tape, h.1.2.2.trans hb.output, Nat.le_trans hb.size h.2.1, fun b k => (h.2.2.1 b (Nat.lt_of_lt_of_le k hb.size) (by omega)).trans (hb.block b k)⟩
theorem IxI.x {V w : World} {xb : Nat} {C : List (Nat × Value)} (h : IxI V xb C w) {a0 a1 a2 a3 a4 a5 a6 : Value} (k : ∀ cur : Array Value, w.heap[xb]? = some (.cells cur 41 (0, 0)) → (∀ p ∈ C, cur[p.1]? = some p.2) → cur[0]? = some a0 ∧ cur[1]? = some a1 ∧ cur[2]? = some a2 ∧ cur[3]? = some a3 ∧ cur[4]? = some a4 ∧ cur[5]? = some a5 ∧ cur[6]? = some a6) : w.heap[xb]? = some (.cells #[a0, a1, a2, a3, a4, a5, a6] 41 (0, 0)) := by
  obtain ⟨_, _, _, cur, h6, h7, h8⟩ := h
  obtain ⟨e0, e1, e2, e3, e4, e5, e6⟩ := k cur h7 h8
  obtain ⟨l⟩ := cur
  match l, h6 with
  | [x0, x1, x2, x3, x4, x5, x6], _ =>
    simp at e0 e1 e2 e3 e4 e5 e6
    rw [h7, e0, e1, e2, e3, e4, e5, e6]
theorem cur_cell {w : World} {xb j : Nat} {cur : Array Value} {v : Value} (h : w.heap[xb]? = some (.cells cur 41 (0, 0))) (hc : w.cell? ⟨xb, j, none⟩ = some v) : cur[j]? = some v := by
  simp only [World.cell?, h] at hc
  exact hc
theorem IxI.py {V w : World} {xb : Nat} {C : List (Nat × Value)} (hI : IxI V xb C w) {B d n : Nat} {S : Nat → Prop} {tb : Nat} {Q : Nat → Rs} {ss : Nat → St} {v13 v14 : Value} {ps : List (Nt × Sl)} {qs : List (Sn × Sl × Sl)} (h : PyI B d n S tb Q ss v13 v14 ps qs V) (hxS : ¬ S xb) (hxt : tb ≠ xb) (hxw : v14.ownBlock ≠ some xb) (hxo : v13.ownBlock ≠ some xb) : PyI B d n (NwS S V.heap.size w.heap.size) tb Q ss v13 v14 ps qs w :=
  h.keep hI.2.1 (hI.agr h.low hxS) (fun b h => .inl h) (h.low.new hI.2.1) (fun b h => h.imp id fun h => h.1) (fun h0 => by
    obtain ⟨cur, h1, _⟩ := h.tm h0
    exact hI.2.2.1 tb (Array.getElem?_eq_some_iff.1 h1).1 hxt) (fun b e => hI.2.2.1 b (h.way.lt b e).2.1 (fun e2 => hxw (by rw [e, e2]))) (fun b e => hI.2.2.1 b (h.out.lt b e).2.1 (fun e2 => hxo (by rw [e, e2])))
/-- A cell of x is stored. -/
theorem xs_set (xb k : Nat) (w : World) (v : Value) : XsR xb [k] w (w.setCell ⟨xb, k, none⟩ v) := by
  refine ⟨⟨rfl, rfl, rfl⟩, by simp [World.setCell], fun b hb => Below.heap_setCell _ _ _ _ hb, fun cur h => ⟨cur.setIfInBounds k v, ?_, by simp, fun j hj => ?_⟩⟩
  · simp [World.setCell, Array.getElem?_modify, h]
  · rw [Array.getElem?_setIfInBounds_ne (fun e => hj (by simp [e]))]
theorem XsR.trans {xb : Nat} {J K : List Nat} {a b c : World} (h : XsR xb J a b) (k : XsR xb K b c) : XsR xb (J ++ K) a c := by
  obtain ⟨⟨h1, h2, h3⟩, h4, h5, h6⟩ := h
  obtain ⟨⟨k1, k2, k3⟩, k4, k5, k6⟩ := k
  refine ⟨⟨k1.trans h1, k2.trans h2, k3.trans h3⟩, k4.trans h4, fun b hb => (k5 b hb).trans (h5 b hb), fun cur hc => ?_⟩
  obtain ⟨c1, l1, l2, l3⟩ := h6 cur hc
  obtain ⟨c2, m1, m2, m3⟩ := k6 c1 l1
  exact ⟨c2, m1, m2.trans l2, fun j hj => (m3 j (fun e => hj (by simp [e]))).trans (l3 j (fun e => hj (by simp [e])))⟩
def set4x (w : World) (xb : Nat) (a b c d : Value) : World := (((w.setCell ⟨xb, 1, none⟩ a).setCell ⟨xb, 2, none⟩ b).setCell ⟨xb, 3, none⟩ c).setCell ⟨xb, 4, none⟩ d
theorem xs_set4 (xb : Nat) (w : World) (a b c d : Value) : XsR xb [1, 2, 3, 4] w (set4x w xb a b c d) := (((xs_set xb 1 w a).trans (xs_set xb 2 _ b)).trans (xs_set xb 3 _ c)).trans (xs_set xb 4 _ d)
theorem stt_xs {N xb : Nat} {S : Nat → Prop} {J : List Nat} {w w' : World} {P : World → Prop} (hx : ¬ S xb) (hN : xb < N) (hr : XsR xb J w w') (h : Stt (NwS S N w.heap.size) w P) : Stt (NwS S N w'.heap.size) w' P := by
  rw [hr.2.1]
  refine h.agr fun b hb => hr.2.2.1 b (fun e => ?_)
  subst e
  rcases hb with h1 | h1
  · exact hx h1
  · omega
theorem fTkR_xs {N xb n : Nat} {S : Nat → Prop} {J : List Nat} {s : St} {er : Int} (hx : ¬ S xb) (hN : xb < N) {v : Value} {w w' : World} (hr : XsR xb J w w') (h : (fLow N (fTkR N S n s er)).p v w) : (fLow N (fTkR N S n s er)).p v w' := by
  obtain ⟨h0, q, h1, h2, h3⟩ := h
  exact ⟨by rw [hr.2.1]; exact h0, q, h1, stt_xs hx hN hr h2, by rw [hr.2.1]; exact h3⟩
theorem fTs_xs {N xb n : Nat} {S : Nat → Prop} {J : List Nat} {s : St} (hx : ¬ S xb) (hN : xb < N) {v : Value} {w w' : World} (hr : XsR xb J w w') (h : (fLow N (fTs N S n s)).p v w) : (fLow N (fTs N S n s)).p v w' := by
  obtain ⟨h0, q, h1, h2, h3⟩ := h
  exact ⟨by rw [hr.2.1]; exact h0, q, h1, stt_xs hx hN hr h2, by rw [hr.2.1]; exact h3⟩
theorem fNx_xs {N xb : Nat} {S : Nat → Prop} {J : List Nat} {x : Nt} {c : Bool} {u : Value} (hx : ¬ S xb) (hN : xb < N) {v : Value} {w w' : World} (hr : XsR xb J w w') (h : (fLow N (fNx N S x c u)).p v w) : (fLow N (fNx N S x c u)).p v w' := by
  obtain ⟨h0, q, h1, h2, h3⟩ := h
  exact ⟨by rw [hr.2.1]; exact h0, q, h1, stt_xs hx hN hr h2, h3⟩
theorem fNy_xs {N xb : Nat} {S : Nat → Prop} {J : List Nat} {x : Nt} (hx : ¬ S xb) (hN : xb < N) {v : Value} {w w' : World} (hr : XsR xb J w w') (h : (fLow N (fNy N S x)).p v w) : (fLow N (fNy N S x)).p v w' := by
  obtain ⟨h0, q, h1, h2, h3⟩ := h
  exact ⟨by rw [hr.2.1]; exact h0, q, h1, stt_xs hx hN hr h2, h3⟩
/-- Facts: what has been stored in x. -/
def fXc (xb j : Nat) (v : Value) : Fact := ⟨fun _ w => w.cell? ⟨xb, j, none⟩ = some v, false⟩
theorem fXc_good (xb j : Nat) (v : Value) : ∀ u w w', (fXc xb j v).p u w → Below w.heap.size w w' → (fXc xb j v).p u w' := fun u w w' h hb => (hb.cell (p := ⟨xb, j, none⟩) (lt_of_cell h)).trans h
def fXn (N : Nat) (S : Nat → Prop) (xb : Nat) (x : Nt) : Fact := ⟨fun _ w => N ≤ w.heap.size ∧ ∃ y : Sl, (w.cell? ⟨xb, 1, none⟩ = some (.int .i64 x.fr) ∧ w.cell? ⟨xb, 2, none⟩ = some (.int .i64 x.to) ∧ w.cell? ⟨xb, 3, none⟩ = some (.int .i64 x.st) ∧ w.cell? ⟨xb, 4, none⟩ = some (.slice y.a y.n y.c)) ∧ (Stt (NwS S N w.heap.size) w fun V => Ints V y.a y.n x.data) ∧ y.n ≤ y.c, false⟩
theorem fXn_good {N : Nat} {S : Nat → Prop} (hS : LowS S N) (xb : Nat) (x : Nt) : ∀ u w w', (fXn N S xb x).p u w → Below w.heap.size w w' → (fXn N S xb x).p u w' := fun u w w' ⟨h0, y, ⟨h1, h2, h3, h4⟩, h5, h6⟩ hb => ⟨Nat.le_trans h0 hb.size, y, ⟨(hb.cell (p := ⟨xb, 1, none⟩) (lt_of_cell h1)).trans h1, (hb.cell (p := ⟨xb, 2, none⟩) (lt_of_cell h2)).trans h2, (hb.cell (p := ⟨xb, 3, none⟩) (lt_of_cell h3)).trans h3, (hb.cell (p := ⟨xb, 4, none⟩) (lt_of_cell h4)).trans h4⟩, stt_on hS h0 h5 hb, h6⟩
theorem xs_cell {V w w' : World} {xb : Nat} {C : List (Nat × Value)} {J : List Nat} (hI : IxI V xb C w) (hr : XsR xb J w w') {j : Nat} {v : Value} (hj : j ∉ J) (h : w.cell? ⟨xb, j, none⟩ = some v) : w'.cell? ⟨xb, j, none⟩ = some v := by
  obtain ⟨_, _, _, cur, _, h7, _⟩ := hI
  obtain ⟨cur', k1, _, k3⟩ := hr.2.2.2 cur h7
  simp only [World.cell?, h7] at h
  simp only [World.cell?, k1]
  exact (k3 j hj).trans h
theorem x_store {V w : World} {xb : Nat} {C : List (Nat × Value)} (hI : IxI V xb C w) {k : Nat} (hk : k < 7) : (∃ old, w.cell? ⟨xb, k, none⟩ = some old) ∧ (∀ j, w.frozen? ⟨xb, j, none⟩ = false) ∧ xb < w.heap.size ∧ ∀ v, (w.setCell ⟨xb, k, none⟩ v).cell? ⟨xb, k, none⟩ = some v := by
  obtain ⟨_, _, _, cur, h6, h7, _⟩ := hI
  refine ⟨⟨cur[k]'(by omega), ?_⟩, fun j => by simp [World.frozen?, h7], (Array.getElem?_eq_some_iff.1 h7).1, fun v => ?_⟩
  · simp only [World.cell?, h7]
    simp [h6, hk]
  · have h8 : (w.setCell ⟨xb, k, none⟩ v).heap[xb]? = some (.cells (cur.setIfInBounds k v) 41 (0, 0)) := by simp [World.setCell, Array.getElem?_modify, h7]
    simp only [World.cell?, h8]
    simp [h6, hk]
theorem x_store4 {V w : World} {xb : Nat} {C : List (Nat × Value)} (hI : IxI V xb C w) (a b c d : Value) : (set4x w xb a b c d).cell? ⟨xb, 1, none⟩ = some a ∧ (set4x w xb a b c d).cell? ⟨xb, 2, none⟩ = some b ∧ (set4x w xb a b c d).cell? ⟨xb, 3, none⟩ = some c ∧ (set4x w xb a b c d).cell? ⟨xb, 4, none⟩ = some d := by
  obtain ⟨_, _, _, cur, h6, h7, _⟩ := hI
  have h8 : (set4x w xb a b c d).heap[xb]? = some (.cells ((((cur.setIfInBounds 1 a).setIfInBounds 2 b).setIfInBounds 3 c).setIfInBounds 4 d) 41 (0, 0)) := by simp [set4x, World.setCell, Array.getElem?_modify, h7]
  simp only [World.cell?, h8]
  obtain ⟨l⟩ := cur
  match l, h6 with
  | [x0, x1, x2, x3, x4, x5, x6], _ => simp
theorem fXc_xs {V : World} {xb j : Nat} {C : List (Nat × Value)} {J : List Nat} {v u : Value} {w w' : World} (hj : j ∉ J) (hI : IxI V xb C w) (hr : XsR xb J w w') (h : (fXc xb j v).p u w) : (fXc xb j v).p u w' := xs_cell hI hr hj h
theorem fXn_xs {V : World} {N xb : Nat} {S : Nat → Prop} {C : List (Nat × Value)} {J : List Nat} {x : Nt} {u : Value} {w w' : World} (hx : ¬ S xb) (hN : xb < N) (h1 : 1 ∉ J) (h2 : 2 ∉ J) (h3 : 3 ∉ J) (h4 : 4 ∉ J) (hI : IxI V xb C w) (hr : XsR xb J w w') (h : (fXn N S xb x).p u w) : (fXn N S xb x).p u w' := by
  obtain ⟨h0, y, ⟨k1, k2, k3, k4⟩, h5, h6⟩ := h
  exact ⟨by rw [hr.2.1]; exact h0, y, ⟨xs_cell hI hr h1 k1, xs_cell hI hr h2 k2, xs_cell hI hr h3 k3, xs_cell hI hr h4 k4⟩, stt_xs hx hN hr h5, h6⟩
/-- Behind a step. -/
def SwP (W : World) (d n tb : Nat) (P : Pl) (xb : Nat) (p : Stp) (u13 : Value) (qs : List (Sn × Sl × Sl)) (v14 : Value) (wc : World) : Prop :=
  ∃ (S : Nat → Prop) (Q : Nat → Rs) (ps : List (Nt × Sl)) (q : Sn × Sl × Sl), PyI W.heap.size d n S tb Q (stepM d n P p).1.ss u13 v14 ps qs wc ∧ ps.map (·.1) = (stepM d n P p).1.ws ∧ q.1 = (stepM d n P p).2 ∧ wc.heap[xb]? = some (.cells #[.bool q.1.some, .int .i64 q.1.nt.fr, .int .i64 q.1.nt.to, .int .i64 q.1.nt.st, .slice q.2.1.a q.2.1.n q.2.1.c, .int .i64 q.1.err, .slice q.2.2.a q.2.2.n q.2.2.c] 41 (0, 0)) ∧ ((Stt S wc fun V => Ints V q.2.1.a q.2.1.n q.1.nt.data) ∧ q.2.1.n ≤ q.2.1.c) ∧ ((Stt S wc fun V => Ints V q.2.2.a q.2.2.n q.1.data) ∧ q.2.2.n ≤ q.2.2.c) ∧ (∀ b, b < W.heap.size → S b) ∧ Below W.heap.size W wc
theorem SwP.mk {W : World} {d n tb : Nat} {P : Pl} {xb : Nat} {p : Stp} {u13 : Value} {qs : List (Sn × Sl × Sl)} {v14 : Value} {wc : World} (S : Nat → Prop) (Q : Nat → Rs) (ps : List (Nt × Sl)) (q : Sn × Sl × Sl) {ss : Nat → St} {ws : List Nt} (he : stepM d n P p = (⟨ss, ws⟩, q.1)) (h : PyI W.heap.size d n S tb Q ss u13 v14 ps qs wc) (hps : ps.map (·.1) = ws)
    (hx : wc.heap[xb]? = some (.cells #[.bool q.1.some, .int .i64 q.1.nt.fr, .int .i64 q.1.nt.to, .int .i64 q.1.nt.st, .slice q.2.1.a q.2.1.n q.2.1.c, .int .i64 q.1.err, .slice q.2.2.a q.2.2.n q.2.2.c] 41 (0, 0))) (h1 : (Stt S wc fun V => Ints V q.2.1.a q.2.1.n q.1.nt.data) ∧ q.2.1.n ≤ q.2.1.c) (h2 : (Stt S wc fun V => Ints V q.2.2.a q.2.2.n q.1.data) ∧ q.2.2.n ≤ q.2.2.c) (ho : ∀ b, b < W.heap.size → S b) (hb : Below W.heap.size W wc) : SwP W d n tb P xb p u13 qs v14 wc := by
  unfold SwP
  rw [he]
  exact ⟨S, Q, ps, q, h, hps, rfl, hx, h1, h2, ho, hb⟩
end Go.Proofs.Yticcoacoepajpaa.V
