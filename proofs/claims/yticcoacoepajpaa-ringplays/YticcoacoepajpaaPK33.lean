/-
  Settled blocks; results in cells; copies of lists. Contract: the document's Begin: rows of lists. Contract: the document's Begin.
-/
import Derived.Test.YticcoacoepajpaaPK32
import Derived.Test.YticcoacoepajpaaPK14
import Derived.Test.YticcoacoepajpaaPK11
import Derived.Test.YticcoacoepajpaaPK22
import Derived.Test.YticcoacoepajpaaPK31
namespace Go.Proofs.Yticcoacoepajpaa.V
open Go Go.RowKit
set_option linter.unusedVariables false
set_option linter.unusedSimpArgs false

/-- Worlds alike on settled blocks. -/
def Agr (S : Nat → Prop) (W V : World) : Prop := ∀ b, S b → V.heap[b]? = W.heap[b]?
def Stt (S : Nat → Prop) (W : World) (P : World → Prop) : Prop := ∀ V, Agr S W V → P V
def NwS (S : Nat → Prop) (A B : Nat) (b : Nat) : Prop := S b ∨ (A ≤ b ∧ b < B)
def LowS (S : Nat → Prop) (N : Nat) : Prop := ∀ b, S b → b < N
theorem Stt.now {S : Nat → Prop} {W : World} {P : World → Prop} (h : Stt S W P) : P W := h W fun _ _ => rfl
theorem Stt.agr {S : Nat → Prop} {W V : World} {P : World → Prop} (h : Stt S W P) (ha : Agr S W V) : Stt S V P := fun U hU => h U fun b hb => (hU b hb).trans (ha b hb)
theorem Stt.mono {S S' : Nat → Prop} {W : World} {P : World → Prop} (h : Stt S W P) (hs : ∀ b, S b → S' b) : Stt S' W P := fun U hU => h U fun b hb => hU b (hs b hb)
theorem agr_below {S : Nat → Prop} {W V : World} (hl : LowS S W.heap.size) (hb : Below W.heap.size W V) : Agr S W V := fun b h => hb.block b (hl b h)
theorem LowS.new {S : Nat → Prop} {A B : Nat} (hl : LowS S A) (h : A ≤ B) : LowS (NwS S A B) B := fun b hb => by
  rcases hb with h1 | h1
  · have := hl b h1
    omega
  · exact h1.2
theorem Stt.nw {S : Nat → Prop} {W V : World} {P : World → Prop} (h : Stt S W P) (hl : LowS S W.heap.size) (hb : Below W.heap.size W V) : Stt (NwS S W.heap.size V.heap.size) V P := (h.agr (agr_below hl hb)).mono fun b h => .inl h
theorem num_stt {S : Nat → Prop} {W : World} {y : Sl} {xs : List Int} (h : Num W y xs) (hf : ∀ b, y.On b → S b) : Stt S W fun V => Ints V y.a y.n xs := fun V hV => (h.keep fun b hO => hV b (hf b hO)).ints
/-- Five cells are stored. -/
def rst5 (w : World) (C : Nat) (a b c d e : Value) : World := ((((w.setCell ⟨C, 0, none⟩ a).setCell ⟨C, 1, none⟩ b).setCell ⟨C, 2, none⟩ c).setCell ⟨C, 3, none⟩ d).setCell ⟨C, 4, none⟩ e
theorem rst5_heap {w : World} {C : Nat} {cur : Array Value} {ty : TypeId} {f : Nat × Nat} {a b c d e : Value} (h : w.heap[C]? = some (.cells cur ty f)) (hs : cur.size = 5) : (rst5 w C a b c d e).heap[C]? = some (.cells #[a, b, c, d, e] ty f) := by
  obtain ⟨l⟩ := cur
  match l, hs with
  | [x0, x1, x2, x3, x4], _ => simp [rst5, World.setCell, Array.getElem?_modify, h]
theorem rst5_other {w : World} {C : Nat} {a b c d e : Value} {B : Nat} (hB : B ≠ C) : (rst5 w C a b c d e).heap[B]? = w.heap[B]? := by
  unfold rst5
  rw [Below.heap_setCell _ _ _ _ hB, Below.heap_setCell _ _ _ _ hB, Below.heap_setCell _ _ _ _ hB, Below.heap_setCell _ _ _ _ hB, Below.heap_setCell _ _ _ _ hB]
theorem rst5_size {w : World} {C : Nat} {a b c d e : Value} : (rst5 w C a b c d e).heap.size = w.heap.size := by simp [rst5, World.setCell]
theorem rst5_below {N : Nat} {W w : World} {C : Nat} {a b c d e : Value} (h : Below N W w) (hC : N ≤ C) : Below N W (rst5 w C a b c d e) := by
  have h1 : Below N W ((set4 w C a b c d).setCell ⟨C, 4, none⟩ e) := (set4_below h hC).setCell hC e
  unfold set4 at h1
  exact h1
theorem size_start : (Try.prog.info? 60).map (·.size) = some 5 := by kernel_rfl
theorem results_c3 {fn : Func} {p u r : Tmp} (h : fn.results = #[.cell p 39, .tmp u, .cell r 60]) (tmps : Array Value) (w : World) (g1 g3 : Nat) (x a1 a2 a3 a4 c1 c2 c3 c4 c5 : Value) (f1 f3 : Nat × Nat) (hp : tmps.getD p undef = .pointer (some ⟨g1, 0, none⟩)) (hu : tmps.getD u undef = x) (hr : tmps.getD r undef = .pointer (some ⟨g3, 0, none⟩))
    (h1 : w.heap[g1]? = some (.cells #[a1, a2, a3, a4] 39 f1)) (h3 : w.heap[g3]? = some (.cells #[c1, c2, c3, c4, c5] 60 f3)) : (results fn tmps).run Try.prog w = .ok (.tuple #[.agg #[a1, a2, a3, a4], x, .agg #[c1, c2, c3, c4, c5]]) w := by
  have hp' : tmps[p]?.getD undef = .pointer (some ⟨g1, 0, none⟩) := by simpa using hp
  have hr' : tmps[r]?.getD undef = .pointer (some ⟨g3, 0, none⟩) := by simpa using hr
  have hu' : tmps[u]?.getD undef = x := by simpa using hu
  simp [results, h, hp', hr', hu', asAddr, run_loadVar_row w g1 39 39 _ f1 _ h1 Try.underlying39 rfl size_note, run_loadVar_row w g3 60 60 _ f3 _ h3 Try.underlying60 rfl size_start]
theorem results_c2 {fn : Func} {u r : Tmp} (h : fn.results = #[.tmp u, .cell r 60]) (tmps : Array Value) (w : World) (g3 : Nat) (x c1 c2 c3 c4 c5 : Value) (f3 : Nat × Nat) (hu : tmps.getD u undef = x) (hr : tmps.getD r undef = .pointer (some ⟨g3, 0, none⟩))
    (h3 : w.heap[g3]? = some (.cells #[c1, c2, c3, c4, c5] 60 f3)) : (results fn tmps).run Try.prog w = .ok (.tuple #[x, .agg #[c1, c2, c3, c4, c5]]) w := by
  have hr' : tmps[r]?.getD undef = .pointer (some ⟨g3, 0, none⟩) := by simpa using hr
  have hu' : tmps[u]?.getD undef = x := by simpa using hu
  simp [results, h, hr', hu', asAddr, run_loadVar_row w g3 60 60 _ f3 _ h3 Try.underlying60 rfl size_start]
/-- append(T{}, list...). -/
theorem run_append_e {t ty e : TypeId} {i : TypeInfo} {z : Value} {size bytes : Nat} (ht : Try.prog.underlying t = some (.slice e)) (hi : Try.prog.info? e = some i) (hz : i.zero = some z) (hsize : i.size = size) (hby : i.bytes = bytes) (hzs : z.cells.size = size) (hsz : 0 < size)
    (W : World) (B : Nat) (X : Option Addr) (m c : Nat) (news : List Value) (hl : news.length = m * size) (hX : 0 < m → ∃ ad, X = some ad ∧ ∀ j u, news[j]? = some u → W.cell? (ad.add j) = some u) (h63 : m ≤ maxLen) (hbytes : m * bytes ≤ 140737488355328) :
    ∃ g cap w', (Builtin.append_ #[t, t] ty #[.slice (some ⟨B, 0, none⟩) 0 0, .slice X m c]).run Try.prog W = .ok (.slice (some ⟨g, 0, none⟩) m cap) w' ∧ m ≤ cap ∧ Below W.heap.size W w' ∧ (0 < m → W.heap.size ≤ g ∧ ∃ cur, w'.heap[g]? = some (.cells cur e (0, 0)) ∧ cap ≤ maxLen ∧ cur.size = cap * size ∧ cur.toList.take (m * size) = news) := by
  by_cases h0 : m = 0
  · subst h0
    refine ⟨B, 0, W, ?_, Nat.le_refl _, Below.refl _ _, fun h => by omega⟩
    cases X with
    | none => simp [Builtin.append_, run_underlying ht, sizeOf, typeInfo, hi, Builtin.lenOf, Builtin.firstCells, storeCells]
    | some ad => exact run_append_room_cells (P := Try.prog) W t ty e i ht hi B 0 0 0 ad 0 c [] (by simp) (by simp) (by simp) (by omega) (by simp) (by simp)
  · obtain ⟨ad, rfl, hc⟩ := hX (by omega)
    obtain ⟨v', w', r1, r2, r3⟩ := run_append_arg_grows (P := Try.prog) W t ty e i z size bytes ht hi hz hsize hby hzs hsz ⟨B, 0, none⟩ 0 0 [] (by simp) (fun j u hj => by simp at hj) ad m c news hl hc (by omega) (by omega) (by simpa using hbytes)
    rcases r2.2 with ⟨_, e2⟩ | ⟨g, cap, cur, e1, e2, e3, e4, e5, e6, e7⟩
    · omega
    · subst e1
      simp only [Nat.zero_add, List.nil_append] at r1 e4 e7
      exact ⟨g, cap, w', r1, e4, (Below.refl _ W).grown r3 (Nat.le_refl _) (fun k hk => by cases hk), fun _ => ⟨e2, cur, e3, e5, e6, e7⟩⟩
theorem num_cur {W : World} {g cap : Nat} {cur : Array Value} {ys : List Int} (h : W.heap[g]? = some (.cells cur 2 (0, 0))) (ht : cur.toList.take (ys.length * 1) = ys.map (Value.int .i64)) (hc : ys.length ≤ cap) (hm : ys.length ≤ 9223372036854775807) (hb : ∀ x ∈ ys, -9223372036854775808 ≤ x ∧ x ≤ 9223372036854775807) : Num W ⟨some ⟨g, 0, none⟩, ys.length, cap⟩ ys := by
  refine ⟨⟨rfl, hm, hb, .inr ⟨g, 0, rfl, fun j hj => ?_⟩⟩, hc, fun b hO => ?_⟩
  · have hj' : j < ys.length := hj
    have e : cur[j]? = (ys.map (Value.int .i64))[j]? := by
      rw [← ht, List.getElem?_take_of_lt (by omega), Array.getElem?_toList]
    simp only [World.cell?, h]
    simp [e, hj']
  · obtain ⟨_, off, e⟩ := hO
    simp only [Option.some.injEq, Addr.mk.injEq] at e
    obtain ⟨rfl, _⟩ := e
    exact ⟨cur, h⟩
theorem run_words_e (ty : TypeId) (W : World) (B : Nat) (X : Option Addr) (m c : Nat) (ys : List Int) (hI : Ints W X m ys) (hm : m ≤ 70000) :
    ∃ (y : Sl) (w' : World), (Builtin.append_ #[24, 24] ty #[.slice (some ⟨B, 0, none⟩) 0 0, .slice X m c]).run Try.prog W = .ok (.slice y.a y.n y.c) w' ∧ Num w' y ys ∧ (∀ b, y.On b → W.heap.size ≤ b ∧ b < w'.heap.size) ∧ Below W.heap.size W w' := by
  obtain ⟨i0, hi, hz0, hz1, hz2⟩ := info_parts info_int64
  have hl := hI.1
  obtain ⟨g, cap, w', h1, h2, h3, h4⟩ := run_append_e (t := 24) (ty := ty) Try.underlying24 hi hz0 hz1 hz2 rfl (by decide) W B X m c (ys.map (Value.int .i64)) (by simp [hl]) (fun h0 => by
    obtain ⟨b, off, rfl, _, hc⟩ := hI.at h0
    refine ⟨_, rfl, fun j u hj => ?_⟩
    have hjl : j < m := by have := (List.getElem?_eq_some_iff.1 hj).1; simpa [hl] using this
    have h3 : u = .int .i64 (ys[j]?.getD 0) := by
      have : j < ys.length := by rw [hl]; exact hjl
      simp [this] at hj ⊢
      exact hj.symm
    rw [h3, Addr.add_lit]
    exact hc j hjl) (by unfold maxLen; omega) (by omega)
  refine ⟨⟨some ⟨g, 0, none⟩, m, cap⟩, w', h1, ?_, fun b hO => ?_, h3⟩
  · by_cases h0 : 0 < m
    · obtain ⟨_, cur, k1, _, k2, k3⟩ := h4 h0
      rw [← hl] at h2 k3 ⊢
      exact num_cur k1 k3 h2 (by omega) hI.2.2.1
    · exact ⟨⟨hl, by show m ≤ _; omega, hI.2.2.1, .inl (by show m = 0; omega)⟩, h2, fun b hO => (h0 hO.1).elim⟩
  · obtain ⟨h0, off, e⟩ := hO
    simp only [Option.some.injEq, Addr.mk.injEq] at e
    obtain ⟨rfl, _⟩ := e
    obtain ⟨k0, cur, k1, _⟩ := h4 h0
    exact ⟨k0, (Array.getElem?_eq_some_iff.1 k1).1⟩
theorem wp_words_e {w : World} {o : Oper} {a : Act} {K : Act → World → Prop} {Q : Exit → Act → World → Prop} (s x : Operand) (ho : o.op = .call { callee := .builtin .append, args := #[s, x], argTypes := #[24, 24] })
    (B m c : Nat) (X : Option Addr) (ys : List Int) (hs : a.eval s = .slice (some ⟨B, 0, none⟩) 0 0) (hx : a.eval x = .slice X m c) (hI : Ints w X m ys) (hm : m ≤ 70000)
    (h : ∀ (y : Sl) w', Num w' y ys → (∀ b, y.On b → w.heap.size ≤ b ∧ b < w'.heap.size) → Below w.heap.size w w' → K (a.put o.dst (.slice y.a y.n y.c)) w') : o.wp Try.prog a w K Q := by
  obtain ⟨y, w', hr, h1, h2, h3⟩ := run_words_e o.type w B X m c ys hI hm
  unfold Oper.wp
  simp [execOp, ho, resolve, invoke, builtin, hs, hx, hr, Result.andThen]
  exact h y w' h1 h2 h3
/-- Facts. -/
def fEm : Fact := ⟨fun u W => ∃ B, u = .slice (some ⟨B, 0, none⟩) 0 0, false⟩
theorem fEm_good : fEm.Good := ⟨fun _ _ _ h _ => h, fun h => by cases h⟩
def fNw (N : Nat) (xs : List Int) : Fact := ⟨fun u W => ∃ y : Sl, u = .slice y.a y.n y.c ∧ Num W y xs ∧ ∀ b, y.On b → N ≤ b ∧ b < W.heap.size, false⟩
theorem fNw_good (N : Nat) (xs : List Int) : (fNw N xs).Good := ⟨fun _ _ _ ⟨y, h1, h2, h3⟩ hb => ⟨y, h1, h2.below hb, fun b hO => ⟨(h3 b hO).1, Nat.lt_of_lt_of_le (h3 b hO).2 hb.size⟩⟩, fun h => by cases h⟩
def fNtw (N : Nat) (x : Nt) : Fact := ⟨fun u W => ∃ y : Sl, u = .agg #[.int .i64 x.fr, .int .i64 x.to, .int .i64 x.st, .slice y.a y.n y.c] ∧ Num W y x.data ∧ ∀ b, y.On b → N ≤ b ∧ b < W.heap.size, false⟩
theorem fNtw_good (N : Nat) (x : Nt) : (fNtw N x).Good := ⟨fun _ _ _ ⟨y, h1, h2, h3⟩ hb => ⟨y, h1, h2.below hb, fun b hO => ⟨(h3 b hO).1, Nat.lt_of_lt_of_le (h3 b hO).2 hb.size⟩⟩, fun h => by cases h⟩
end Go.Proofs.Yticcoacoepajpaa.V
namespace Go.Proofs.Yticcoacoepajpaa.V
open Go Go.RowKit
set_option linter.unusedVariables false
set_option linter.unusedSimpArgs false

/-- Lists newly made, in a row of the call's own. -/
def OLf (W : World) (N : Nat) (v : Value) (ys : List (Sl × List Int)) : Prop := W.ownsRow N 24 1 v ys.length (ys.map fun p => p.1.v) ∧ ∀ p ∈ ys, Num W p.1 p.2 ∧ ∀ b, p.1.On b → N ≤ b
theorem OLf.start (W : World) (N : Nat) : OLf W N (.slice none 0 0) [] := ⟨⟨rfl, .inl ⟨rfl, rfl⟩⟩, fun p hp => by simp at hp⟩
theorem OLf.below {W V : World} {N : Nat} {v : Value} {ys : List (Sl × List Int)} (h : OLf W N v ys) (hb : Below W.heap.size W V) : OLf V N v ys := ⟨own_kp h.1 fun g e => hb.block g (h.1.lt g e).2, fun p hp => ⟨(h.2 p hp).1.below hb, (h.2 p hp).2⟩⟩
theorem OLf.type {W : World} {N : Nat} {v : Value} {ys : List (Sl × List Int)} (h : OLf W N v ys) {g : Nat} (e : v.ownBlock = some g) : N ≤ g ∧ g < W.heap.size ∧ ∃ cur, W.heap[g]? = some (.cells cur 24 (0, 0)) := by
  rcases h.1.2 with ⟨e1, _⟩ | ⟨g', cap', cur', e1, h2, h3, _⟩
  · rw [e1] at e; simp [Value.ownBlock] at e
  · rw [e1] at e
    have : g = g' := by simpa [Value.ownBlock] using e.symm
    subst this
    exact ⟨h2, (Array.getElem?_eq_some_iff.1 h3).1, cur', h3⟩
theorem OLf.form {W : World} {N : Nat} {v : Value} {ys : List (Sl × List Int)} (h : OLf W N v ys) : ∃ A C, v = .slice A ys.length C ∧ ys.length ≤ C := by
  rcases h.1.2 with ⟨e1, e2⟩ | ⟨g', cap', cur', e1, h2, h3, h4, _⟩
  · exact ⟨none, 0, by rw [e1, e2], by omega⟩
  · exact ⟨_, _, e1, h4⟩
theorem OLf.stt {W : World} {N : Nat} {A : Option Addr} {len C : Nat} {ys : List (Sl × List Int)} (h : OLf W N (.slice A len C) ys) (hl : ys.length = len) (hm : len ≤ 1000) {S : Nat → Prop} (hS : ∀ b, N ≤ b → b < W.heap.size → S b) : Stt S W fun V => LsA V A len (ys.map (·.2)) := by
  intro V hV
  refine ⟨by rw [List.length_map, hl], by omega, ?_⟩
  rcases h.1.2 with ⟨e1, e2⟩ | ⟨g', cap', cur', e1, h2, h3, h4, h5, h6, h7⟩
  · exact .inl (by omega)
  · cases e1
    refine .inr ⟨g', 0, rfl, fun i hi => ?_⟩
    have hk : V.heap[g']? = some (.cells cur' 24 (0, 0)) := (hV g' (hS g' h2 (Array.getElem?_eq_some_iff.1 h3).1)).trans h3
    have hi' : i < ys.length := by omega
    have e : cur'[i]? = some (ys[i].1.v) := by
      have : (cur'.toList.take (ys.length * 1))[i]? = (ys.map fun p => p.1.v)[i]? := by rw [h7]
      rw [List.getElem?_take_of_lt (by omega), Array.getElem?_toList] at this
      rw [this]
      simp [hi']
    have hp := h.2 ys[i] (List.getElem_mem hi')
    refine ⟨ys[i].1.a, ys[i].1.n, ys[i].1.c, ?_, ?_, hp.1.cap⟩
    · simp only [World.cell?, hk, Nat.zero_add]
      exact e
    · have e2 : (ys.map (·.2))[i]?.getD [] = ys[i].2 := by simp [hi']
      rw [e2]
      exact (hp.1.keep fun b hO => hV b (hS b (hp.2 b hO) (hp.1.lt hO))).ints
/-- A row of lists grows. -/
theorem run_ol (ty : TypeId) (W : World) (N : Nat) (v : Value) (ys : List (Sl × List Int)) (h : OLf W N v ys) (g : Nat) (y : Sl) (xs : List Int) (hc : W.cell? ⟨g, 0, none⟩ = some (.slice y.a y.n y.c)) (hy : Num W y xs) (hyf : ∀ b, y.On b → N ≤ b) (hl : ys.length ≤ 1000) (hB : N ≤ W.heap.size) :
    ∃ v' w', (Builtin.append_ #[22, 22] ty #[v, .slice (some ⟨g, 0, none⟩) 1 1]).run Try.prog W = .ok v' w' ∧ OLf w' N v' (ys ++ [(y, xs)]) ∧ W.grownBy w' v.ownBlock := by
  obtain ⟨i0, hi, hz0, hz1, hz2⟩ := info_parts info_ls
  obtain ⟨v', w', r1, r2, r3, _, r5⟩ := run_append_own_at (P := Try.prog) W N 22 ty 24 i0 (.slice none 0 0) 1 24 Try.underlying22 hi hz0 hz1 hz2 rfl (by decide) v ys.length _ h.1 ⟨g, 0, none⟩ 1 1 [y.v] (by simp) (fun j u hj => by
    have hj0 : j = 0 := by have := (List.getElem?_eq_some_iff.1 hj).1; simpa using this
    subst hj0
    have hu : u = y.v := by simpa using hj.symm
    rw [hu, add_pl]
    exact hc) (fun u hu => by
    have : u = y.v := by simpa using hu
    rw [this]; rfl) (by unfold maxLen; omega) (by omega) hB
  refine ⟨v', w', r1, ⟨?_, fun p hp => ?_⟩, r3⟩
  · rw [List.length_append, List.map_append]
    exact r2
  · have keep : ∀ (q : Sl) (zs : List Int), Num W q zs → Num w' q zs := fun q zs hq => hq.keep fun b hO => r3.block b (hq.lt hO) (fun e => by
      obtain ⟨_, _, cur', h3⟩ := h.type e.symm
      obtain ⟨cur, hcur⟩ := hq.blk b hO
      rw [hcur] at h3
      simp at h3)
    rcases List.mem_append.1 hp with h' | h'
    · exact ⟨keep _ _ (h.2 p h').1, (h.2 p h').2⟩
    · have : p = (y, xs) := by simpa using h'
      rw [this]
      exact ⟨keep _ _ hy, hyf⟩
theorem wp_ol {w : World} {o : Oper} {a : Act} {K : Act → World → Prop} {Q : Exit → Act → World → Prop} (s x : Operand) (ho : o.op = .call { callee := .builtin .append, args := #[s, x], argTypes := #[22, 22] })
    (N : Nat) (v : Value) (ys : List (Sl × List Int)) (hs : a.eval s = v) (h : OLf w N v ys) (g : Nat) (y : Sl) (xs : List Int) (hx : a.eval x = .slice (some ⟨g, 0, none⟩) 1 1) (hc : w.cell? ⟨g, 0, none⟩ = some (.slice y.a y.n y.c)) (hy : Num w y xs) (hyf : ∀ b, y.On b → N ≤ b) (hl : ys.length ≤ 1000) (hB : N ≤ w.heap.size)
    (hQ : ∀ v' w', OLf w' N v' (ys ++ [(y, xs)]) → w.grownBy w' v.ownBlock → K (a.put o.dst v') w') : o.wp Try.prog a w K Q := by
  obtain ⟨v', w', hr, h1, h2⟩ := run_ol o.type w N v ys h g y xs hc hy hyf hl hB
  unfold Oper.wp
  simp [execOp, ho, resolve, invoke, builtin, hs, hx, hr, Result.andThen]
  exact hQ v' w' h1 h2
theorem append_olf {w : World} {ops : Array Oper} {rest : List Oper} {o : Oper} {a : Act} {Q : Exit → Act → World → Prop} (hgd : o.guard = none) (s x : Operand) (ho : o.op = .call { callee := .builtin .append, args := #[s, x], argTypes := #[22, 22] })
    (N : Nat) (v : Value) (ys : List (Sl × List Int)) (hs : a.eval s = v) (h : OLf w N v ys) (g : Nat) (y : Sl) (xs : List Int) (hx : a.eval x = .slice (some ⟨g, 0, none⟩) 1 1) (hc : w.cell? ⟨g, 0, none⟩ = some (.slice y.a y.n y.c)) (hy : Num w y xs) (hyf : ∀ b, y.On b → N ≤ b) (hl : ys.length ≤ 1000) (hB : N ≤ w.heap.size)
    (hQ : ∀ v' w', OLf w' N v' (ys ++ [(y, xs)]) → w.grownBy w' v.ownBlock → wpList Try.prog ops Q rest (a.put o.dst v') w') : wpList Try.prog ops Q (o :: rest) a w := by
  refine wpList_plain hgd fun K hK => ?_
  exact wp_ol s x ho N v ys hs h g y xs hx hc hy hyf hl hB fun v' w' h1 h2 => hK _ _ (hQ v' w' h1 h2)
/-- Copies of rows of lists. -/
theorem run_rows_e (ty : TypeId) (W : World) (B : Nat) (X : Option Addr) (m c : Nat) (ls : List (List Int)) (hI : LsA W X m ls) (hm : m ≤ 1000) :
    ∃ g cap w', (Builtin.append_ #[22, 22] ty #[.slice (some ⟨B, 0, none⟩) 0 0, .slice X m c]).run Try.prog W = .ok (.slice (some ⟨g, 0, none⟩) m cap) w' ∧ m ≤ cap ∧ Below W.heap.size W w' ∧ (0 < m → W.heap.size ≤ g ∧ ∃ cur b off, X = some ⟨b, off, none⟩ ∧ w'.heap[g]? = some (.cells cur 24 (0, 0)) ∧ cur.size = cap ∧ ∀ j, j < m → cur[j]? = W.cell? ⟨b, off + j, none⟩) := by
  obtain ⟨i0, hi, hz0, hz1, hz2⟩ := info_parts info_ls
  by_cases h0 : 0 < m
  · obtain ⟨b, off, rfl, hat⟩ := hI.at h0
    have hex : ∃ news : List Value, news.length = m ∧ ∀ j, j < m → news[j]? = W.cell? ⟨b, off + j, none⟩ := ⟨(List.range m).map fun j => (W.cell? ⟨b, off + j, none⟩).getD undef, by simp, fun j hj => by
      obtain ⟨X1, m1, c1, h1, _⟩ := hat j hj
      simp [hj, h1]⟩
    obtain ⟨news, hn1, hn2⟩ := hex
    obtain ⟨g, cap, w', h1, h2, h3, h4⟩ := run_append_e (t := 22) (ty := ty) Try.underlying22 hi hz0 hz1 hz2 rfl (by decide) W B (some ⟨b, off, none⟩) m c news (by omega) (fun _ => ⟨_, rfl, fun j u hj => by
      have hjl : j < m := by have := (List.getElem?_eq_some_iff.1 hj).1; omega
      rw [Addr.add_lit, ← hn2 j hjl]
      exact hj⟩) (by unfold maxLen; omega) (by omega)
    refine ⟨g, cap, w', h1, h2, h3, fun _ => ?_⟩
    obtain ⟨k0, cur, k1, _, k2, k3⟩ := h4 h0
    refine ⟨k0, cur, b, off, rfl, k1, by omega, fun j hj => ?_⟩
    rw [← hn2 j hj, ← k3, List.getElem?_take_of_lt (by omega), Array.getElem?_toList]
  · obtain ⟨g, cap, w', h1, h2, h3, h4⟩ := run_append_e (t := 22) (ty := ty) Try.underlying22 hi hz0 hz1 hz2 rfl (by decide) W B X m c [] (by simp; omega) (fun h => (h0 h).elim) (by unfold maxLen; omega) (by omega)
    exact ⟨g, cap, w', h1, h2, h3, fun h => (h0 h).elim⟩
theorem append_rows_e {w : World} {ops : Array Oper} {rest : List Oper} {o : Oper} {a : Act} {Q : Exit → Act → World → Prop} (hgd : o.guard = none) (s x : Operand) (ho : o.op = .call { callee := .builtin .append, args := #[s, x], argTypes := #[22, 22] })
    (B : Nat) (hs : a.eval s = .slice (some ⟨B, 0, none⟩) 0 0) (X : Option Addr) (m c : Nat) (hx : a.eval x = .slice X m c) (ls : List (List Int)) (hI : LsA w X m ls) (hm : m ≤ 1000)
    (hQ : ∀ g cap w', m ≤ cap → Below w.heap.size w w' → (0 < m → w.heap.size ≤ g ∧ ∃ cur b off, X = some ⟨b, off, none⟩ ∧ w'.heap[g]? = some (.cells cur 24 (0, 0)) ∧ cur.size = cap ∧ ∀ j, j < m → cur[j]? = w.cell? ⟨b, off + j, none⟩) → wpList Try.prog ops Q rest (a.put o.dst (.slice (some ⟨g, 0, none⟩) m cap)) w') : wpList Try.prog ops Q (o :: rest) a w := by
  refine wpList_plain hgd fun K hK => ?_
  obtain ⟨g, cap, w', hr, h1, h2, h3⟩ := run_rows_e o.type w B X m c ls hI hm
  unfold Oper.wp
  simp [execOp, ho, resolve, invoke, builtin, hs, hx, hr, Result.andThen]
  exact hK _ _ (hQ g cap w' h1 h2 h3)
/-- Facts of a region in which a row of lists grows. -/
theorem gr_trans {row : Option Nat} (w w' w'' : World) (h : w.grownBy w' row) (k : w'.grownBy w'' row) : w.grownBy w'' row :=
  ⟨k.os.trans h.os, k.tape.trans h.tape, k.output.trans h.output, Nat.le_trans h.size k.size, fun i hi hne => (k.block i (Nat.lt_of_lt_of_le hi h.size) hne).trans (h.block i hi hne)⟩
theorem gr_of {row : Option Nat} (w w' : World) (h : Below w.heap.size w w') : w.grownBy w' row := ⟨h.os, h.tape, h.output, h.size, fun i hi _ => h.block i hi⟩
theorem q_is_good (c : Value) (R : World → World → Prop) (b : Bool) : (fIs c).GoodR R b := ⟨fun _ _ _ h _ => h, fun _ _ _ _ h _ => h, fun h => by cases h⟩
theorem fEm_goodR (R : World → World → Prop) (b : Bool) : fEm.GoodR R b := ⟨fun _ _ _ h _ => h, fun _ _ _ _ h _ => h, fun h => by cases h⟩
def fNwR (row : Option Nat) (N : Nat) (xs : List Int) : Fact := ⟨fun u W => ∃ y : Sl, u = .slice y.a y.n y.c ∧ Num W y xs ∧ ∀ b, y.On b → N ≤ b ∧ some b ≠ row, false⟩
theorem fNwR_good (row : Option Nat) (N : Nat) (xs : List Int) : (fNwR row N xs).GoodR (fun a b => a.grownBy b row) false := ⟨fun _ _ _ ⟨y, h1, h2, h3⟩ hb => ⟨y, h1, h2.below hb, h3⟩, fun _ _ _ _ ⟨y, h1, h2, h3⟩ hg => ⟨y, h1, h2.keep fun b hO => hg.block b (h2.lt hO) (h3 b hO).2, h3⟩, fun h => by cases h⟩
def fOneR (row : Option Nat) (N : Nat) (xs : List Int) : Fact := ⟨fun u W => ∃ (g : Nat) (y : Sl), u = .slice (some ⟨g, 0, none⟩) 1 1 ∧ W.cell? ⟨g, 0, none⟩ = some (.slice y.a y.n y.c) ∧ some g ≠ row ∧ Num W y xs ∧ ∀ b, y.On b → N ≤ b ∧ some b ≠ row, false⟩
theorem fOneR_good (row : Option Nat) (N : Nat) (xs : List Int) : (fOneR row N xs).GoodR (fun a b => a.grownBy b row) false := ⟨fun _ _ _ ⟨g, y, h1, h2, h3, h4, h5⟩ hb => ⟨g, y, h1, (hb.cell (p := ⟨g, 0, none⟩) (lt_of_cell h2)).trans h2, h3, h4.below hb, h5⟩, fun _ _ _ _ ⟨g, y, h1, h2, h3, h4, h5⟩ hg => ⟨g, y, h1, (World.cell?_of_block (hg.block g (lt_of_cell h2) h3)).trans h2, h3, h4.keep fun b hO => hg.block b (h4.lt hO) (h5 b hO).2, h5⟩, fun h => by cases h⟩
def fOLs (N : Nat) (ys : List (Sl × List Int)) (xs : List Int) : Fact := ⟨fun u W => ∃ y : Sl, OLf W N u (ys ++ [(y, xs)]), false⟩
theorem fOLs_good (N : Nat) (ys : List (Sl × List Int)) (xs : List Int) (R : World → World → Prop) : (fOLs N ys xs).GoodR R true := ⟨fun _ _ _ ⟨y, h⟩ hb => ⟨y, h.below hb⟩, (fun h => by cases h), (fun h => by cases h)⟩
end Go.Proofs.Yticcoacoepajpaa.V
namespace Go.Proofs.Yticcoacoepajpaa.V
open Go Go.RowKit
set_option linter.unusedVariables false
set_option linter.unusedSimpArgs false

theorem cell_new1 (w : World) (v : Value) (ty : TypeId) : (w.alloc (.cells #[v] ty)).cell? ⟨w.heap.size, 0, none⟩ = some v := by
  simp only [World.cell?, World.alloc_heap_new]
  rfl
theorem OLf.set {W : World} {N : Nat} {v : Value} {ys : List (Sl × List Int)} (h : OLf W N v ys) {a : Addr} (ha : a.block < N) (u : Value) : OLf (W.setCell a u) N v ys :=
  ⟨own_kp h.1 fun g e => Below.heap_setCell _ _ _ _ (by have := (h.type e).1; omega), fun p hp => ⟨(h.2 p hp).1.keep fun b hO => Below.heap_setCell _ _ _ _ (by have := (h.2 p hp).2 b hO; omega), (h.2 p hp).2⟩⟩
/-- What a member has of each piece at the beginning. -/
def pcF (d n me : Nat) (xs : List Int) (p : Nat) : List Int := if d = 3 then (if p = me then xs else []) else pieceL xs p n
/-- While a member is made. -/
def BegI (d n me : Nat) (xs : List Int) (W : World) (b8 b9 k : Nat) (wr : World) : Prop := ∃ A C ys, wr.heap[b8]? = some (.cells #[.slice none 0 0, .slice none 0 0, .int .i64 0, .int .i64 0, .slice none 0 0] 60 (0, 0)) ∧ wr.heap[b9]? = some (.cells #[.slice none 0 0, .slice A k C, .int .i64 0, .int .i64 0, .slice none 0 0] 60 (0, 0)) ∧ OLf wr (W.heap.size + 2) (.slice A k C) ys ∧ ys.map (·.2) = (List.range k).map (pcF d n me xs) ∧ Below W.heap.size W wr
/-- The rows of a member are settled. -/
def Tops (S : Nat → Prop) (q : Rs) : Prop := (∀ b off, q.p.a = some ⟨b, off, none⟩ → S b) ∧ ∀ b off, q.e.a = some ⟨b, off, none⟩ → S b
/-- The answer of Begin. -/
def RBgAns (W : World) (d n me : Nat) (xs : List Int) (e : Ending) (w' : World) : Prop := ∃ q : Rs, e = .returned (q.v (begM d n me xs)) ∧ Below W.heap.size W w' ∧ (Stt (fun b => W.heap.size ≤ b ∧ b < w'.heap.size) w' fun V => RsA V q n (begM d n me xs)) ∧ Tops (fun b => W.heap.size ≤ b ∧ b < w'.heap.size) q
set_option maxRecDepth 20000 in
set_option maxHeartbeats 8000000 in
theorem rBegin_any (d n me : Nat) (y : Sl) (xs : List Int) (W : World) (hy : Ints W y.a y.n xs) (hyc : y.n ≤ y.c) (hn1 : 1 ≤ n) (hn16 : n ≤ 16) (hme : me < n) (hl6 : y.n ≤ 65536) :
    Calls Try.prog 21 #[.int .i64 (d : Int), .int .i64 (n : Int), .int .i64 (me : Int), .slice y.a y.n y.c] W fun e w' => RBgAns W d n me xs e w' := by
  obtain ⟨ya, yn, yc⟩ := y
  simp only at hy hyc hl6 ⊢
  have HY := hide hy
  have hyb : ∀ b off, ya = some ⟨b, off, none⟩ → 0 < yn → b < W.heap.size := fun b off e h0 => by
    obtain ⟨b', off', e', hl, _⟩ := hy.at h0
    rw [e] at e'
    cases e'
    exact hl
  have HYB := hide hyb
  unfold RBgAns
  clear hy hyb
  go_enter Try.func21, Try.ntmps21
  go_upto_region 2 with fail
  obtain ⟨V, hV⟩ : ∃ V, V = (W.alloc (.cells #[.slice none 0 0, .slice none 0 0, .int .i64 0, .int .i64 0, .slice none 0 0] 60)).alloc (.cells #[.slice none 0 0, .slice none 0 0, .int .i64 0, .int .i64 0, .slice none 0 0] 60) := ⟨_, rfl⟩
  rw [← hV]
  obtain ⟨b8, hb8⟩ : ∃ b, b = W.heap.size := ⟨_, rfl⟩
  obtain ⟨b9, hb9⟩ : ∃ b, b = W.heap.size + 1 := ⟨_, rfl⟩
  rw [← hb9, ← hb8]
  have HST : Hid (BegI d n me xs W b8 b9 0 V) := by
    show BegI d n me xs W b8 b9 0 V
    refine ⟨none, 0, [], ?_, ?_, OLf.start _ _, rfl, ?_⟩
    · rw [hV, hb8]; exact ((bl_new (w := W.alloc _) _).block _ (by simp)).trans (World.alloc_heap_new _ _)
    · rw [hV, hb9]; exact World.alloc_heap_new' _ _ (by simp)
    · rw [hV]; exact (bl_new _).alloc (by simp) _
  have HBE : Hid (b8 = W.heap.size ∧ b9 = W.heap.size + 1) := ⟨hb8, hb9⟩
  clear hV hb8 hb9
  go_wp2_with fail
  go_loopw [10] (fun i wr => ∃ k : Nat, k ≤ n ∧ i = .int .i64 k ∧ BegI d n me xs W b8 b9 k wr) (fun i _ => n - (intOf i).toNat)
  case atStart => exact ⟨0, Nat.zero_le _, by first | rfl | trivial, HST.out⟩
  case round =>
    obtain ⟨k, hk, rfl, A, C, ys, h8, h9, ho, hys, hbw⟩ := hrel
    have H8 := hide h8
    have H9 := hide h9
    have HO := hide ho
    have HYS := hide hys
    have HB := hide hbw
    have c1 : wr.cell? ⟨b9, 1, none⟩ = some (.slice A k C) := by simp only [World.cell?, h9]; rfl
    have bz := (Array.getElem?_eq_some_iff.1 h9).1
    have hf9 : wr.frozen? ⟨b9, 1, none⟩ = false := by simp [World.frozen?, h9]
    have HLY : Hid (ys.length = k) := by
      show ys.length = k
      have h1 := congrArg List.length hys
      simpa using h1
    clear h8 h9 ho hys hbw
    by_cases hlt : k < n
    · have hkz : (k : Int) < (n : Int) := by omega
      obtain ⟨N, hN⟩ : ∃ N, N = W.heap.size + 2 := ⟨_, rfl⟩
      rw [← hN] at HO
      have HNN := hide hN
      obtain ⟨row, hrow⟩ : ∃ row, row = (Value.slice A k C).ownBlock := ⟨_, rfl⟩
      have hrb : ∀ j, row = some j → W.heap.size + 2 ≤ j ∧ j < wr.heap.size := fun j e => by
        have h1 := HO.out.type (g := j) (by rw [← hrow]; exact e)
        exact ⟨by omega, h1.2.1⟩
      have hnw : N ≤ wr.heap.size := by have := HBE.out; omega
      have HNW := hide hnw
      have HRB : Hid (∀ j, row = some j → W.heap.size ≤ j) := fun j e => by have := (hrb j e).1; omega
      have HRW : Hid (∀ b, wr.heap.size ≤ b → some b ≠ row) := fun b hb e => by have := (hrb b e.symm).2; omega
      have HNE : Hid (some b9 ≠ row) := fun e => by have := (hrb b9 e.symm).1; have := HBE.out; omega
      have HN8 : Hid (some b8 ≠ row) := fun e => by have := (hrb b8 e.symm).1; have := HBE.out; omega
      have HROW := hide hrow
      have HYK : Hid (∀ wz, wr.grownBy wz row → Ints wz ya yn xs) := fun wz hg => ints_keep (HY.out.below HB.out) fun b off e h0 => by
        have h1 := HYB.out b off e h0
        exact hg.block b (Nat.lt_of_lt_of_le h1 HB.out.size) (fun e2 => by have := (hrb b e2.symm).1; omega)
      obtain ⟨XS, hXS⟩ : ∃ XS, XS = pcF d n me xs k := ⟨_, rfl⟩
      have HPC := hide hXS
      clear hN hrow hrb hnw
      by_cases d3 : d = 3
      · have hx3 : ∀ x, pcF d n me xs x = if x = me then xs else [] := fun x => by unfold pcF; rw [if_pos d3]
        have q3 : ((d : Int) != 3) = false := by simp; omega
        clear d3
        by_cases hkm : k = me
        · have hkmz : ((k : Int) == (me : Int)) = true := by simp; omega
          have hx : XS = xs := by rw [hXS, hx3, if_pos hkm]
          clear hx3 hkm
          rw [← hx] at HYK
          clear hXS hx
          go_upto_region 8 with fail
          refine region_madeR (fun a_ b_ => a_.grownBy b_ row) (fun _ _ _ h k => gr_trans _ _ _ h k) (fun _ _ h => gr_of _ _ h) 6 8 10 [fIs (.pointer (some ⟨b9, 1, none⟩)), fIs (.slice A k C), fEm, fIs (.slice ya yn yc), fNwR row N (XS), fOneR row N (XS), fOLs N ys (XS), fIs (.pointer (some ⟨b9, 1, none⟩))] (by kernel_rfl) (by kernel_rfl) (by kernel_rfl) (fun ch p q w3 e h => by obtain ⟨t1, d1⟩ := p; obtain ⟨t2, d2⟩ := q; cases e; exact h) ⟨q_is_good _ _ _, q_is_good _ _ _, fEm_goodR _ _, q_is_good _ _ _, fNwR_good _ _ _, fOneR_good _ _ _, fOLs_good _ _ _ _, q_is_good _ _ _, trivial⟩ ?mkB ?restB
          case mkB =>
            refine ⟨fun u wz hb hs hd => ?_, fun u wz hb hs hd => ?_, fun u wz hb hs hd => ?_, fun u wz hb hs hd => ?_, fun u wz hb hs hd => ?_, fun u wz hb hs hd => ?_, fun u wz hb hs hd => ?_, fun u wz hb hs hd => ?_, trivial⟩
            all_goals simp only [Act.put, List.setIfInBounds_toArray, List.set_cons_zero, List.set_cons_succ]
            · go_simp
              exact ⟨rfl, StR.of (Below.refl _ _) (by decide), fun h => by cases h⟩
            · have e0 : u 0 = .pointer (some ⟨b9, 1, none⟩) := hd 0 (by omega) (by kernel_rfl)
              rw [e0]
              have c1' : wz.cell? ⟨b9, 1, none⟩ = some (.slice A k C) := (World.cell?_of_block (hb.block b9 bz HNE.out)).trans c1
              go_simp
              exact ⟨rfl, StR.of (Below.refl _ _) (by decide), fun h => by cases h⟩
            · go_simp
              exact ⟨⟨_, rfl⟩, StR.of (bl_new _) (by decide), fun h => by cases h⟩
            · go_simp
              exact ⟨rfl, StR.of (Below.refl _ _) (by decide), fun h => by cases h⟩
            · obtain ⟨B2, e2⟩ := hd 2 (by omega) (by kernel_rfl)
              have e3 : u 3 = .slice ya yn yc := hd 3 (by omega) (by kernel_rfl)
              rw [e2, e3]
              exact wp_words_e (.tmp 34) (.tmp 35) rfl B2 yn yc ya (XS) rfl rfl (HYK.out wz hb) (by omega) (fun y w2 k1 k2 k3 => ⟨_, rfl, ⟨y, rfl, k1, fun b hO => ⟨by have := (k2 b hO).1; have := hb.size; have := HNW.out; omega, HRW.out b (by have := (k2 b hO).1; have := hb.size; omega)⟩⟩, StR.of k3 (by decide), fun h => by cases h⟩)
            · obtain ⟨y4, e4, n4, l4⟩ := hd 4 (by omega) (by kernel_rfl)
              rw [e4]
              go_simp
              exact ⟨⟨_, y4, rfl, cell_new1 _ _ _, HRW.out _ (by have := hb.size; omega), n4.below (bl_new _), l4⟩, StR.of (bl_new _) (by decide), fun h => by cases h⟩
            · have e1 : u 1 = .slice A k C := hd 1 (by omega) (by kernel_rfl)
              obtain ⟨g5, y5, e5, q5, _, n5, l5⟩ := hd 5 (by omega) (by kernel_rfl)
              rw [e1, e5]
              exact wp_ol (.tmp 33) (.tmp 37) rfl N (.slice A k C) ys rfl (HO.out.below (hs rfl)) g5 y5 (XS) rfl q5 n5 (fun b hO => (l5 b hO).1) (by have := HLY.out; omega) (by have := hb.size; have := HNW.out; omega) (fun v2 w2 k1 k2 => ⟨_, rfl, ⟨y5, k1⟩, StR.at (by rw [HROW.out]; exact k2), fun h => by cases h⟩)
            · go_simp
              exact ⟨rfl, StR.of (Below.refl _ _) (by decide), fun h => by cases h⟩
          case restB =>
            intro u wz hb hf hp
            have f0 : u 0 = .pointer (some ⟨b9, 1, none⟩) := hf 0 (by omega)
            have f1 : u 1 = .slice A k C := hf 1 (by omega)
            obtain ⟨B2, f2⟩ := hf 2 (by omega)
            have f3 : u 3 = .slice ya yn yc := hf 3 (by omega)
            obtain ⟨y4, f4, n4, l4⟩ := hf 4 (by omega)
            obtain ⟨g5, y5, f5, _, _, _, _⟩ := hf 5 (by omega)
            obtain ⟨y6, h6⟩ := hf 6 (by omega)
            have f7 : u 7 = .pointer (some ⟨b9, 1, none⟩) := hf 7 (by omega)
            obtain ⟨A2, C2, f6, hAC⟩ := h6.form
            have hlen2 : (ys ++ [(y6, XS)]).length = k + 1 := by rw [List.length_append, HLY.out]; rfl
            rw [hlen2] at f6 hAC
            rw [f6] at h6
            have HO2 := hide h6
            refine UptoW.rest 1 8 (by rfl) (by kernel_rfl) ?_
            simp only [List.take, List.drop, putOps, Act.put, List.setIfInBounds_toArray, List.set_cons_zero, List.set_cons_succ, Nat.reduceAdd, f0, f1, f2, f3, f4, f5, f6, f7]
            clear f0 f1 f2 f3 f4 f5 f6 f7 hf hp
            have cz2 := (World.cell?_of_block (hb.block b9 bz HNE.out)).trans c1
            have z2 : b9 < wz.heap.size := Nat.lt_of_lt_of_le bz hb.size
            have hk9 := (hb.block b9 bz HNE.out).trans H9.out
            have zf2 : wz.frozen? ⟨b9, 1, none⟩ = false := by simp [World.frozen?, hk9]
            have hk8 := (hb.block b8 (by have := HBE.out; omega) HN8.out).trans H8.out
            have HK9 := hide hk9
            have HK8 := hide hk8
            have HBZ : Hid (Below W.heap.size W wz) := HB.out.grown hb HB.out.size (fun j e => by
              have h9 := HRB.out j e
              omega)
            clear hb hk9 hk8
            go_upto_region 4 with fail
            obtain ⟨U, hU⟩ : ∃ U, U = wz.setCell ⟨b9, 1, none⟩ (.slice A2 (k + 1) C2) := ⟨_, rfl⟩
            rw [← hU]
            have HU : Hid (BegI d n me xs W b8 b9 (k + 1) U) := by
              show BegI d n me xs W b8 b9 (k + 1) U
              refine ⟨A2, C2, (ys ++ [(y6, XS)]), ?_, ?_, ?_, ?_, ?_⟩
              · rw [hU]
                exact (Below.heap_setCell _ _ _ _ (by have := HBE.out; first | omega | (simp only; omega))).trans HK8.out
              · rw [hU]
                simp [World.setCell, Array.getElem?_modify, HK9.out]
              · rw [hU]
                have h9 := HO2.out
                rw [HNN.out] at h9
                exact h9.set (by have := HBE.out; first | omega | (simp only; omega)) _
              · rw [List.map_append, HYS.out, List.range_succ, List.map_append]
                simp only [List.map_cons, List.map_nil]
                rw [HPC.out]
              · rw [hU]
                exact HBZ.out.setCell (by have := HBE.out; first | omega | (simp only; omega)) _
            clear hU
            go_wp2_with fail
            go_roundw
            case rel => exact ⟨k + 1, by omega, by first | rfl | go_num, HU.out⟩
            case measure => simp [intOf]; omega
        · have hkmz : ¬ ((k : Int) = (me : Int)) := by omega
          have hx : XS = [] := by rw [hXS, hx3, if_neg hkm]
          clear hx3
          have HX := hide hx
          clear hXS hx
          go_wp2_with (at_builtin; refine stp ?_)
          unfold Stp1
          refine append_olf (by rfl) (.tmp 41) (.tmp 42) (by rfl) N (.slice A k C) ys (by rfl) (HO.out.below (bl_new _)) wr.heap.size slZ [] (by rfl) (cell_new1 _ _ _) (Num.nil _) (fun b hO => by obtain ⟨h1, _⟩ := hO; simp [slZ] at h1) (by have := HLY.out; omega) (by have := HNW.out; simp; omega) ?_
          intro v2 w2 ho2 hg2
          obtain ⟨A2, C2, rfl, hAC⟩ := ho2.form
          have hlen2 : (ys ++ [(slZ, ([] : List Int))]).length = k + 1 := by rw [List.length_append, HLY.out]; rfl
          rw [hlen2] at ho2 hAC ⊢
          have hg3 : wr.grownBy w2 row := by rw [HROW.out]; exact gr_trans _ _ _ (gr_of _ _ (bl_new _)) hg2
          rw [← HX.out] at ho2
          have HO2 := hide ho2
          have cz2 := (World.cell?_of_block (hg3.block b9 bz HNE.out)).trans c1
          have z2 : b9 < w2.heap.size := Nat.lt_of_lt_of_le bz hg3.size
          have hk9 := (hg3.block b9 bz HNE.out).trans H9.out
          have zf2 : w2.frozen? ⟨b9, 1, none⟩ = false := by simp [World.frozen?, hk9]
          have hk8 := (hg3.block b8 (by have := HBE.out; omega) HN8.out).trans H8.out
          have HK9 := hide hk9
          have HK8 := hide hk8
          have HBZ : Hid (Below W.heap.size W w2) := HB.out.grown hg3 HB.out.size (fun j e => by
            have h9 := HRB.out j e
            omega)
          clear hg2 hg3 hk9 hk8 ho2
          go_upto_region 4 with fail
          obtain ⟨U, hU⟩ : ∃ U, U = w2.setCell ⟨b9, 1, none⟩ (.slice A2 (k + 1) C2) := ⟨_, rfl⟩
          rw [← hU]
          have HU : Hid (BegI d n me xs W b8 b9 (k + 1) U) := by
            show BegI d n me xs W b8 b9 (k + 1) U
            refine ⟨A2, C2, (ys ++ [(slZ, XS)]), ?_, ?_, ?_, ?_, ?_⟩
            · rw [hU]
              exact (Below.heap_setCell _ _ _ _ (by have := HBE.out; first | omega | (simp only; omega))).trans HK8.out
            · rw [hU]
              simp [World.setCell, Array.getElem?_modify, HK9.out]
            · rw [hU]
              have h9 := HO2.out
              rw [HNN.out] at h9
              exact h9.set (by have := HBE.out; first | omega | (simp only; omega)) _
            · rw [List.map_append, HYS.out, List.range_succ, List.map_append]
              simp only [List.map_cons, List.map_nil]
              rw [HPC.out]
            · rw [hU]
              exact HBZ.out.setCell (by have := HBE.out; first | omega | (simp only; omega)) _
          clear hU
          go_wp2_with fail
          go_roundw
          case rel => exact ⟨k + 1, by omega, by first | rfl | go_num, HU.out⟩
          case measure => simp [intOf]; omega
      · have d3z : ¬ ((d : Int) = 3) := by omega
        have hx : XS = pieceL xs k n := by rw [hXS]; unfold pcF; rw [if_neg d3]
        obtain ⟨PA, hPA⟩ : ∃ P, P = pcA ya yc (k * yn / n) := ⟨_, rfl⟩
        obtain ⟨PM, hPM⟩ : ∃ P, P = (k + 1) * yn / n - k * yn / n := ⟨_, rfl⟩
        obtain ⟨PK, hPK⟩ : ∃ P, P = yc - k * yn / n := ⟨_, rfl⟩
        have hpm : PM ≤ 65536 := by
          have h1 : (k + 1) * yn / n ≤ yn := Nat.div_le_of_le_mul (Nat.mul_le_mul_right _ hlt)
          have h2 := Nat.sub_le ((k + 1) * yn / n) (k * yn / n)
          omega
        have HPI : Hid (∀ wz, wr.grownBy wz row → Ints wz PA PM XS) := fun wz hg => by rw [hPA, hPM, hx]; exact piece_ints (HYK.out wz hg) hyc hlt
        have HPCE : Hid (∀ wz, Ints wz ya yn xs → Calls Try.prog 15 #[.slice ya yn yc, .int .i64 (k : Int), .int .i64 (n : Int)] wz fun e w' => e = .returned (.slice PA PM PK) ∧ Below wz.heap.size wz w') := fun wz hI => by
          rw [hPA, hPM, hPK]
          exact rPiece_at ya yn yc xs k n wz hI hyc (by omega) hlt hn16
        clear hXS hx hPA hPM hPK
        go_upto_region 6 with fail
        refine region_madeR (fun a_ b_ => a_.grownBy b_ row) (fun _ _ _ h k => gr_trans _ _ _ h k) (fun _ _ h => gr_of _ _ h) 9 11 13 [fIs (.pointer (some ⟨b9, 1, none⟩)), fIs (.slice A k C), fEm, fIs (.slice ya yn yc), fIs (.int .i64 (k : Int)), fIs (.int .i64 (n : Int)), fIs (.slice PA PM PK), fNwR row N (XS), fOneR row N (XS), fOLs N ys (XS), fIs (.pointer (some ⟨b9, 1, none⟩))] (by kernel_rfl) (by kernel_rfl) (by kernel_rfl) (fun ch p q w3 e h => by obtain ⟨t1, d1⟩ := p; obtain ⟨t2, d2⟩ := q; cases e; exact h) ⟨q_is_good _ _ _, q_is_good _ _ _, fEm_goodR _ _, q_is_good _ _ _, q_is_good _ _ _, q_is_good _ _ _, q_is_good _ _ _, fNwR_good _ _ _, fOneR_good _ _ _, fOLs_good _ _ _ _, q_is_good _ _ _, trivial⟩ ?mkA ?restA
        case mkA =>
          refine ⟨fun u wz hb hs hd => ?_, fun u wz hb hs hd => ?_, fun u wz hb hs hd => ?_, fun u wz hb hs hd => ?_, fun u wz hb hs hd => ?_, fun u wz hb hs hd => ?_, fun u wz hb hs hd => ?_, fun u wz hb hs hd => ?_, fun u wz hb hs hd => ?_, fun u wz hb hs hd => ?_, fun u wz hb hs hd => ?_, trivial⟩
          all_goals simp only [Act.put, List.setIfInBounds_toArray, List.set_cons_zero, List.set_cons_succ]
          · go_simp
            exact ⟨rfl, StR.of (Below.refl _ _) (by decide), fun h => by cases h⟩
          · have e0 : u 0 = .pointer (some ⟨b9, 1, none⟩) := hd 0 (by omega) (by kernel_rfl)
            rw [e0]
            have c1' : wz.cell? ⟨b9, 1, none⟩ = some (.slice A k C) := (World.cell?_of_block (hb.block b9 bz HNE.out)).trans c1
            go_simp
            exact ⟨rfl, StR.of (Below.refl _ _) (by decide), fun h => by cases h⟩
          · go_simp
            exact ⟨⟨_, rfl⟩, StR.of (bl_new _) (by decide), fun h => by cases h⟩
          · go_simp
            exact ⟨rfl, StR.of (Below.refl _ _) (by decide), fun h => by cases h⟩
          · go_simp
            exact ⟨rfl, StR.of (Below.refl _ _) (by decide), fun h => by cases h⟩
          · go_simp
            exact ⟨rfl, StR.of (Below.refl _ _) (by decide), fun h => by cases h⟩
          · have e3 : u 3 = .slice ya yn yc := hd 3 (by omega) (by kernel_rfl)
            have e4 : u 4 = .int .i64 (k : Int) := hd 4 (by omega) (by kernel_rfl)
            have e5 : u 5 = .int .i64 (n : Int) := hd 5 (by omega) (by kernel_rfl)
            rw [e3, e4, e5]
            go_simp
            refine (HPCE.out wz (HYK.out wz hb)).mono ?_
            rintro e w2 ⟨rfl, hb2⟩
            exact ⟨rfl, StR.of hb2 (by decide), fun h => by cases h⟩
          · obtain ⟨B2, e2⟩ := hd 2 (by omega) (by kernel_rfl)
            have e6 : u 6 = .slice PA PM PK := hd 6 (by omega) (by kernel_rfl)
            rw [e2, e6]
            exact wp_words_e (.tmp 20) (.tmp 24) rfl B2 PM PK PA (XS) rfl rfl (HPI.out wz hb) (by omega) (fun y w2 k1 k2 k3 => ⟨_, rfl, ⟨y, rfl, k1, fun b hO => ⟨by have := (k2 b hO).1; have := hb.size; have := HNW.out; omega, HRW.out b (by have := (k2 b hO).1; have := hb.size; omega)⟩⟩, StR.of k3 (by decide), fun h => by cases h⟩)
          · obtain ⟨y7, e7, n7, l7⟩ := hd 7 (by omega) (by kernel_rfl)
            rw [e7]
            go_simp
            exact ⟨⟨_, y7, rfl, cell_new1 _ _ _, HRW.out _ (by have := hb.size; omega), n7.below (bl_new _), l7⟩, StR.of (bl_new _) (by decide), fun h => by cases h⟩
          · have e1 : u 1 = .slice A k C := hd 1 (by omega) (by kernel_rfl)
            obtain ⟨g8, y8, e8, q8, _, n8, l8⟩ := hd 8 (by omega) (by kernel_rfl)
            rw [e1, e8]
            exact wp_ol (.tmp 19) (.tmp 26) rfl N (.slice A k C) ys rfl (HO.out.below (hs rfl)) g8 y8 (XS) rfl q8 n8 (fun b hO => (l8 b hO).1) (by have := HLY.out; omega) (by have := hb.size; have := HNW.out; omega) (fun v2 w2 k1 k2 => ⟨_, rfl, ⟨y8, k1⟩, StR.at (by rw [HROW.out]; exact k2), fun h => by cases h⟩)
          · go_simp
            exact ⟨rfl, StR.of (Below.refl _ _) (by decide), fun h => by cases h⟩
        case restA =>
          intro u wz hb hf hp
          have f0 : u 0 = .pointer (some ⟨b9, 1, none⟩) := hf 0 (by omega)
          have f1 : u 1 = .slice A k C := hf 1 (by omega)
          obtain ⟨B2, f2⟩ := hf 2 (by omega)
          have f3 : u 3 = .slice ya yn yc := hf 3 (by omega)
          have f4 : u 4 = .int .i64 (k : Int) := hf 4 (by omega)
          have f5 : u 5 = .int .i64 (n : Int) := hf 5 (by omega)
          have f6 : u 6 = .slice PA PM PK := hf 6 (by omega)
          obtain ⟨y7, f7, n7, l7⟩ := hf 7 (by omega)
          obtain ⟨g8, y8, f8, _, _, _, _⟩ := hf 8 (by omega)
          obtain ⟨y9, h9⟩ := hf 9 (by omega)
          have f10 : u 10 = .pointer (some ⟨b9, 1, none⟩) := hf 10 (by omega)
          obtain ⟨A2, C2, f9, hAC⟩ := h9.form
          have hlen2 : (ys ++ [(y9, XS)]).length = k + 1 := by rw [List.length_append, HLY.out]; rfl
          rw [hlen2] at f9 hAC
          rw [f9] at h9
          have HO2 := hide h9
          refine UptoW.rest 1 11 (by rfl) (by kernel_rfl) ?_
          simp only [List.take, List.drop, putOps, Act.put, List.setIfInBounds_toArray, List.set_cons_zero, List.set_cons_succ, Nat.reduceAdd, f0, f1, f2, f3, f4, f5, f6, f7, f8, f9, f10]
          clear f0 f1 f2 f3 f4 f5 f6 f7 f8 f9 f10 hf hp
          have cz2 := (World.cell?_of_block (hb.block b9 bz HNE.out)).trans c1
          have z2 : b9 < wz.heap.size := Nat.lt_of_lt_of_le bz hb.size
          have hk9 := (hb.block b9 bz HNE.out).trans H9.out
          have zf2 : wz.frozen? ⟨b9, 1, none⟩ = false := by simp [World.frozen?, hk9]
          have hk8 := (hb.block b8 (by have := HBE.out; omega) HN8.out).trans H8.out
          have HK9 := hide hk9
          have HK8 := hide hk8
          have HBZ : Hid (Below W.heap.size W wz) := HB.out.grown hb HB.out.size (fun j e => by
            have h9 := HRB.out j e
            omega)
          clear hb hk9 hk8
          go_upto_region 4 with fail
          obtain ⟨U, hU⟩ : ∃ U, U = wz.setCell ⟨b9, 1, none⟩ (.slice A2 (k + 1) C2) := ⟨_, rfl⟩
          rw [← hU]
          have HU : Hid (BegI d n me xs W b8 b9 (k + 1) U) := by
            show BegI d n me xs W b8 b9 (k + 1) U
            refine ⟨A2, C2, (ys ++ [(y9, XS)]), ?_, ?_, ?_, ?_, ?_⟩
            · rw [hU]
              exact (Below.heap_setCell _ _ _ _ (by have := HBE.out; first | omega | (simp only; omega))).trans HK8.out
            · rw [hU]
              simp [World.setCell, Array.getElem?_modify, HK9.out]
            · rw [hU]
              have h9 := HO2.out
              rw [HNN.out] at h9
              exact h9.set (by have := HBE.out; first | omega | (simp only; omega)) _
            · rw [List.map_append, HYS.out, List.range_succ, List.map_append]
              simp only [List.map_cons, List.map_nil]
              rw [HPC.out]
            · rw [hU]
              exact HBZ.out.setCell (by have := HBE.out; first | omega | (simp only; omega)) _
          clear hU
          go_wp2_with fail
          go_roundw
          case rel => exact ⟨k + 1, by omega, by first | rfl | go_num, HU.out⟩
          case measure => simp [intOf]; omega
    · obtain rfl : n = k := by omega
      have hst := HO.out.stt HLY.out (by omega) (S := fun b => W.heap.size + 2 ≤ b ∧ b < wr.heap.size) (fun b h1 h2 => ⟨h1, h2⟩)
      rw [HYS.out] at hst
      have HLP := hide hst
      have hls := hst.now
      clear hst
      go_wp2_with (at_builtin; refine stp ?_)
      unfold Stp1
      refine append_rows_e (by rfl) (.tmp 45) (.tmp 47) (by rfl) wr.heap.size (by rfl) A n C (by rfl) _ (hls.below (bl_new _)) (by omega) ?_
      intro g2 cap2 w2 hcap2 hb2 hrow2
      obtain ⟨hg2, cur2, pb, po, rfl, hblk2, hcs2, hcur2⟩ := hrow2 (by omega)
      have hb3 : Below wr.heap.size wr w2 := bl_on (bl_new _) hb2
      have hk9 := (hb3.block b9 bz).trans H9.out
      have hk8 := (hb3.block b8 (by have := HBE.out; omega)).trans H8.out
      have cz0 : w2.cell? ⟨b9, 0, none⟩ = some (.slice none 0 0) := by simp only [World.cell?, hk9]; rfl
      have zf0 : w2.frozen? ⟨b9, 0, none⟩ = false := by simp [World.frozen?, hk9]
      have z2 : b9 < w2.heap.size := Nat.lt_of_lt_of_le bz hb3.size
      have HK9 := hide hk9
      have HK8 := hide hk8
      have HB3 := hide hb3
      have HG2 : Hid (wr.heap.size < g2) := by show wr.heap.size < g2; simp at hg2; omega
      have HBLK := hide hblk2
      have HCUR : Hid (∀ j, j < n → cur2[j]? = wr.cell? ⟨pb, po + j, none⟩) := fun j hj => (hcur2 j hj).trans ((bl_new _).cell (p := ⟨pb, po + j, none⟩) (by
        obtain ⟨b', off', e', hat⟩ := hls.at (by omega)
        cases e'
        obtain ⟨X1, m1, c1', q1, _⟩ := hat j hj
        exact lt_of_cell q1))
      have HLS := hide hls
      clear hb2 hrow2 hg2 hblk2 hcur2 hb3 hk9 hk8 hls
      go_upto_region 11 with fail
      obtain ⟨U, hU⟩ : ∃ U, U = w2.setCell ⟨b9, 0, none⟩ (.slice (some ⟨g2, 0, none⟩) n cap2) := ⟨_, rfl⟩
      rw [← hU]
      have u9 : U.heap[b9]? = some (.cells #[.slice (some ⟨g2, 0, none⟩) n cap2, .slice (some ⟨pb, po, none⟩) n C, .int .i64 0, .int .i64 0, .slice none 0 0] 60 (0, 0)) := by
        rw [hU]
        simp [World.setCell, Array.getElem?_modify, HK9.out]
      have u8 : U.heap[b8]? = some (.cells #[.slice none 0 0, .slice none 0 0, .int .i64 0, .int .i64 0, .slice none 0 0] 60 (0, 0)) := by
        rw [hU]
        exact (Below.heap_setCell _ _ _ _ (by have := HBE.out; first | omega | (simp only; omega))).trans HK8.out
      have HU9 := hide hU
      have x0 : U.cell? ⟨b9, 0, none⟩ = some (.slice (some ⟨g2, 0, none⟩) n cap2) := by simp only [World.cell?, u9]; rfl
      have x1 : U.cell? ⟨b9, 1, none⟩ = some (.slice (some ⟨pb, po, none⟩) n C) := by simp only [World.cell?, u9]; rfl
      have x2 : U.cell? ⟨b9, 2, none⟩ = some (.int .i64 0) := by simp only [World.cell?, u9]; rfl
      have x3 : U.cell? ⟨b9, 3, none⟩ = some (.int .i64 0) := by simp only [World.cell?, u9]; rfl
      have x4 : U.cell? ⟨b9, 4, none⟩ = some (.slice none 0 0) := by simp only [World.cell?, u9]; rfl
      have y0 : U.cell? ⟨b8, 0, none⟩ = some (.slice none 0 0) := by simp only [World.cell?, u8]; rfl
      have y1 : U.cell? ⟨b8, 1, none⟩ = some (.slice none 0 0) := by simp only [World.cell?, u8]; rfl
      have y2 : U.cell? ⟨b8, 2, none⟩ = some (.int .i64 0) := by simp only [World.cell?, u8]; rfl
      have y3 : U.cell? ⟨b8, 3, none⟩ = some (.int .i64 0) := by simp only [World.cell?, u8]; rfl
      have y4 : U.cell? ⟨b8, 4, none⟩ = some (.slice none 0 0) := by simp only [World.cell?, u8]; rfl
      have yf : ∀ k, U.frozen? ⟨b8, k, none⟩ = false := fun k => by simp [World.frozen?, u8]
      have z9 := (Array.getElem?_eq_some_iff.1 u9).1
      have z8 := (Array.getElem?_eq_some_iff.1 u8).1
      obtain ⟨Z, hZ⟩ : ∃ Z, Z = rst5 U b8 (.slice (some ⟨g2, 0, none⟩) n cap2) (.slice (some ⟨pb, po, none⟩) n C) (.int .i64 0) (.int .i64 0) (.slice none 0 0) := ⟨_, rfl⟩
      have HZ := hide hZ
      have HU8 := hide u8
      clear hU u9 u8 hZ c1 bz hf9 cz0 zf0 z2
      go_wp2_with fail
      have hz := HZ.out
      unfold rst5 at hz
      rw [← hz]
      clear hz
      have hZ8 : Z.heap[b8]? = some (.cells #[.slice (some ⟨g2, 0, none⟩) n cap2, .slice (some ⟨pb, po, none⟩) n C, .int .i64 0, .int .i64 0, .slice none 0 0] 60 (0, 0)) := by rw [HZ.out]; exact rst5_heap HU8.out rfl
      have hkeep : ∀ b, b ≠ b8 → b ≠ b9 → Z.heap[b]? = w2.heap[b]? := fun b h1 h2 => by rw [HZ.out, rst5_other h1, HU9.out, Below.heap_setCell _ _ _ _ h2]
      have hsz : Z.heap.size = w2.heap.size := by rw [HZ.out, rst5_size, HU9.out]; simp [World.setCell]
      have hbe := HBE.out
      refine bodyPost_ret (results_cell_row Try.results21 _ Z b8 60 _ (0, 0) _ rfl hZ8 Try.underlying60 rfl size_start) rfl ?_
      refine ⟨⟨⟨some ⟨g2, 0, none⟩, n, cap2⟩, ⟨some ⟨pb, po, none⟩, n, C⟩, slZ⟩, rfl, ?_, ?_, ?_⟩
      rotate_left 2
      · have hty := HO.out.type (g := pb) rfl
        exact ⟨fun b off e => by cases e; exact ⟨by omega, by rw [hsz]; exact Nat.lt_of_lt_of_le hty.2.1 HB3.out.size⟩, fun b off e => by cases e⟩
      · rw [HZ.out]
        refine rst5_below ?_ (by omega)
        rw [HU9.out]
        exact (HB.out.trans (HB3.out.mono HB.out.size)).setCell (by simp only; omega) _
      · have hag : Agr (fun b => W.heap.size + 2 ≤ b ∧ b < wr.heap.size) wr Z := fun b hb => (hkeep b (by omega) (by omega)).trans (HB3.out.block b hb.2)
        intro X hX
        have hsub : ∀ b, W.heap.size + 2 ≤ b ∧ b < wr.heap.size → X.heap[b]? = wr.heap[b]? := fun b hb => (hX b ⟨by omega, by rw [hsz]; exact Nat.lt_of_lt_of_le hb.2 HB3.out.size⟩).trans (hag b hb)
        have hlp : LsA X (some ⟨pb, po, none⟩) n ((List.range n).map (pcF d n me xs)) := HLP.out X hsub
        have hty := HO.out.type (g := pb) rfl
        have hg2x : X.heap[g2]? = some (.cells cur2 24 (0, 0)) := by
          have h1 := HG2.out
          have h2 := (Array.getElem?_eq_some_iff.1 HBLK.out).1
          have h3 := HB.out.size
          have h4 : wr.heap.size > b9 := by
            have h5 := (Array.getElem?_eq_some_iff.1 H9.out).1
            omega
          exact (hX g2 ⟨by omega, by rw [hsz]; exact h2⟩).trans ((hkeep g2 (by omega) (by omega)).trans HBLK.out)
        refine ⟨?_, hlp, ⟨rfl, by simp [slZ], .inl rfl⟩⟩
        refine ⟨hlp.1, hlp.2.1, .inr ⟨g2, 0, rfl, fun i hi => ?_⟩⟩
        obtain ⟨b', off', e', hat⟩ := hlp.at (by omega)
        cases e'
        obtain ⟨X1, m1, c1, q1, q2, q3⟩ := hat i hi
        refine ⟨X1, m1, c1, ?_, q2, q3⟩
        have h1 := HCUR.out i hi
        have h2 : X.cell? ⟨pb, po + i, none⟩ = wr.cell? ⟨pb, po + i, none⟩ := World.cell?_of_block (hsub pb ⟨hty.1, hty.2.1⟩)
        rw [← h2, q1] at h1
        simp only [World.cell?, hg2x, Nat.zero_add]
        exact h1
end Go.Proofs.Yticcoacoepajpaa.V
