/-
  Contract: adjointref2.Do, where it tells an error; and where it does not, over what entry tells. Contract: adjointref2.Do, where it tells no error, over what entry tells. Contract: adjointref2.Do, of Take. ArrayRows: where the document's Do tells an error.
-/
import Derived.Test.YteoobeldmicjhaaGreatPAKArrayAdjoint34
import Derived.Test.YteoobeldmicjhaaGreatPAKArrayAdjoint30
import Derived.Test.YteoobeldmicjhaaGreatPAKArrayAdjoint46
import Derived.Test.YteoobeldmicjhaaGreatPAKArrayAdjoint16
import Derived.Test.YteoobeldmicjhaaGreatPAKArrayAdjoint44
import Derived.Test.YteoobeldmicjhaaGreatPAKArrayAdjoint41
import Derived.Test.YteoobeldmicjhaaGreatPAKArrayAdjoint7
import Derived.Test.YteoobeldmicjhaaGreatPAKArrayAdjoint39
import Derived.Test.YteoobeldmicjhaaGreatPAKArrayAdjoint42
namespace Go.Proofs.YteoobeldmicjhaaGreat.V
set_option maxRecDepth 20000
open Go.RowKit

/-- What an own row of lists is. -/
theorem own_row {w : World} {B : Nat} {t : TypeId} {n : Nat} {v : Value} {vs : List Value} (h : w.ownsRow B t 1 v n vs) : ∃ A c, v = .slice A n c ∧ n ≤ c ∧ (n = 0 ∨ ∃ g, A = some ⟨g, 0, none⟩ ∧ B ≤ g ∧ ∀ i, i < n → w.cell? ⟨g, i, none⟩ = vs[i]?) := by
  have h' := h
  rcases h.2 with ⟨rfl, h2⟩ | ⟨g, cap, cur, rfl, h3, h5, h4, h6⟩
  · subst h2
    exact ⟨none, 0, rfl, Nat.le_refl _, .inl rfl⟩
  · exact ⟨_, _, rfl, h4, .inr ⟨g, rfl, h3, fun i hi => h'.cellAt i (by omega)⟩⟩
theorem OpAt.grown {w w' : World} {b : Nat} {k : Int} {vd va vl vh vs : Value} {x : Int} {row : Option Nat} (h : OpAt w b k vd va vl vh vs x) (hg : w.grownBy w' row) (hne : some b ≠ row) : OpAt w' b k vd va vl vh vs x := (hg.block b h.lt hne).trans h
theorem ArrAt.grown {w w' : World} {b : Nat} {c0 c1 : Value} {row : Option Nat} (h : ArrAt w b c0 c1) (hg : w.grownBy w' row) (hne : some b ≠ row) : ArrAt w' b c0 c1 := (hg.block b h.lt hne).trans h
theorem own_ne {w : World} {B b : Nat} {t : TypeId} {n : Nat} {v : Value} {vs : List Value} (h : w.ownsRow B t 1 v n vs) (hb : b < B) : some b ≠ v.ownBlock := fun e => by
  have := (h.lt b e.symm).1
  omega
def dimRow (v : Nat → ArrV) (j : Nat) : List Value := (List.range j).map fun t => (v t).d
theorem dimRow_succ (v : Nat → ArrV) (j : Nat) : dimRow v (j + 1) = dimRow v j ++ [(v j).d] := by simp [dimRow, List.range_succ]

end Go.Proofs.YteoobeldmicjhaaGreat.V
namespace Go.Proofs.YteoobeldmicjhaaGreat.V
set_option maxRecDepth 20000
open Go.RowKit

theorem ints_grown' {w w' : World} {g n : Nat} {xs : List Int} {row : Option Nat} (h : Ints w (some ⟨g, 0, none⟩) n xs) (hg : w.grownBy w' row) (hne : 0 < n → some g ≠ row) : Ints w' (some ⟨g, 0, none⟩) n xs := by
  obtain ⟨h1, h2, h3, h4⟩ := h
  refine ⟨h1, h2, h3, ?_⟩
  rcases h4 with h4 | ⟨b, off, e, hc⟩
  · exact .inl h4
  by_cases h0 : n = 0
  · exact .inl h0
  refine .inr ⟨b, off, e, fun j hj => ?_⟩
  cases e
  have c := hc j hj
  exact (World.cell?_of_block (hg.block g (lt_of_cell c) (hne (by omega)))).trans c
theorem ints_save' {w w' : World} {g n O : Nat} {xs : List Int} (h : Ints w (some ⟨g, 0, none⟩) n xs) (hs : Save O w w') (hne : g ≠ O) : Ints w' (some ⟨g, 0, none⟩) n xs := by
  obtain ⟨h1, h2, h3, h4⟩ := h
  refine ⟨h1, h2, h3, ?_⟩
  rcases h4 with h4 | ⟨b, off, e, hc⟩
  · exact .inl h4
  refine .inr ⟨b, off, e, fun j hj => ?_⟩
  cases e
  have c := hc j hj
  exact (World.cell?_of_block (hs.1 g (lt_of_cell c) hne)).trans c
theorem grown_trans {row : Option Nat} (w w' w'' : World) (h : w.grownBy w' row) (k : w'.grownBy w'' row) : w.grownBy w'' row :=
  ⟨k.os.trans h.os, k.tape.trans h.tape, k.output.trans h.output, Nat.le_trans h.size k.size, fun i hi hne => (k.block i (Nat.lt_of_lt_of_le hi h.size) hne).trans (h.block i hi hne)⟩
theorem grown_of {row : Option Nat} (w w' : World) (h : Below w.heap.size w w') : w.grownBy w' row := ⟨h.os, h.tape, h.output, h.size, fun i hi _ => h.block i hi⟩
theorem wp_append_own {P : Program} {w : World} {o : Oper} {a : Act} {K : Act → World → Prop} {Q : Exit → Act → World → Prop} (s x : Operand) (t e : TypeId) (ho : o.op = .call { callee := .builtin .append, args := #[s, x], argTypes := #[t, t] })
    (ht : P.underlying t = some (.slice e)) (hi : (P.info? e).map (fun i => (i.zero, i.size, i.bytes)) = some (some (.int .i64 0), 1, 8)) (base : Nat) (v : Value) (n : Nat) (xs : List Value) (hs : a.eval s = v) (hown : w.ownsRow base e 1 v n xs)
    (B : Nat) (y : Int) (hx : a.eval x = .slice (some ⟨B, 0, none⟩) 1 1) (hy : w.cell? ⟨B, 0, none⟩ = some (.int .i64 y)) (h63 : n ≤ 65536) (hbase : base ≤ w.heap.size)
    (h : ∀ v' w', w'.ownsRow base e 1 v' (n + 1) (xs ++ [.int .i64 y]) → w.grownBy w' v.ownBlock → K (a.put o.dst v') w') : o.wp P a w K Q := by
  obtain ⟨i, hi1, hz, hsz, hby⟩ : ∃ i, P.info? e = some i ∧ i.zero = some (.int .i64 0) ∧ i.size = 1 ∧ i.bytes = 8 := by
    cases hh : P.info? e with
    | none => rw [hh] at hi; cases hi
    | some i =>
      rw [hh] at hi
      simp only [Option.map_some, Option.some.injEq, Prod.mk.injEq] at hi
      exact ⟨i, rfl, hi.1, hi.2.1, hi.2.2⟩
  obtain ⟨v', w', hr, h2, h3, h4, h5⟩ := run_append_own_at (P := P) w base t o.type e i (.int .i64 0) 1 8 ht hi1 hz hsz hby rfl (by decide) v n xs hown ⟨B, 0, none⟩ 1 1 [.int .i64 y] rfl (fun j u hj => by
    match j, hj with
    | 0, hj =>
      simp at hj
      subst hj
      rw [Go.WideShapes.add_plain]
      exact hy) (by simp [Value.oneCell']) (by unfold maxLen; omega) (by omega) hbase
  unfold Oper.wp execOp
  simp only [ho, resolve, invoke, builtin, Sem.run_bind, Sem.run_pure, Result.andThen_ok, List.map_toArray, List.map_cons, List.map_nil, hs, hx, hr]
  exact h v' w' h2 h3
/-- A new cell, out of the row. -/
def fCell (row : Option Nat) (y : Int) : Fact := ⟨fun u W => ∃ B, u = .slice (some ⟨B, 0, none⟩) 1 1 ∧ W.cell? ⟨B, 0, none⟩ = some (.int .i64 y) ∧ some B ≠ row, false⟩
theorem fCell_good (row : Option Nat) (y : Int) : (fCell row y).GoodR (fun a b => a.grownBy b row) false := ⟨fun _ _ _ ⟨B, h1, h2, h3⟩ hb => ⟨B, h1, (hb.cell (p := ⟨B, 0, none⟩) (lt_of_cell h2)).trans h2, h3⟩, fun _ _ _ _ ⟨B, h1, h2, h3⟩ hg => ⟨B, h1, (World.cell?_of_block (hg.block B (lt_of_cell h2) h3)).trans h2, h3⟩, fun h => by cases h⟩
/-- The row that has grown. -/
def fOwn (base : Nat) (t : TypeId) (n : Nat) (xs : List Value) : Fact := ⟨fun u W => W.ownsRow base t 1 u n xs, false⟩
theorem fOwn_good (base : Nat) (t : TypeId) (n : Nat) (xs : List Value) (R : World → World → Prop) : (fOwn base t n xs).GoodR R true := ⟨fun _ _ _ h hb => own_below h hb, (fun h => by cases h), (fun h => by cases h)⟩
theorem fIs_goodR (c : Value) (R : World → World → Prop) (b : Bool) : (fIs c).GoodR R b := ⟨fun _ _ _ h _ => h, fun _ _ _ _ h _ => h, fun h => by cases h⟩
def entRow (f : Nat → Int) (j : Nat) : List Value := ((List.range j).map f).map (Value.int .i64)
theorem entRow_succ (f : Nat → Int) (j : Nat) : entRow f (j + 1) = entRow f j ++ [.int .i64 (f j)] := by simp [entRow, List.range_succ]
theorem ArrAt.set1 {w : World} {b : Nat} {c0 c1 : Value} (h : ArrAt w b c0 c1) (d : Value) : ArrAt (w.setCell ⟨b, 1, none⟩ d) b c0 d := by
  unfold ArrAt at *
  simp [World.setCell, Array.getElem?_modify, h]
theorem Save.set {O : Nat} {w w' : World} (h : Save O w w') (i : Nat) (u : Value) : Save O w (w'.setCell ⟨O, i, none⟩ u) :=
  ⟨fun c hc hne => (Below.heap_setCell _ _ _ _ hne).trans (h.1 c hc hne), h.2.setCell (p := ⟨O, i, none⟩) (Nat.zero_le _) u⟩
theorem Save.grown {O : Nat} {w w' w'' : World} {row : Option Nat} (h : Save O w w') (hg : w'.grownBy w'' row) (hr : ∀ i, row = some i → w.heap.size ≤ i) : Save O w w'' :=
  ⟨fun c hc hne => (hg.block c (Nat.lt_of_lt_of_le hc h.2.size) (fun e => by have := hr c e.symm; omega)).trans (h.1 c hc hne), h.2.grown hg (Nat.zero_le _) (fun _ _ => Nat.zero_le _)⟩

theorem arrE_of' {L : List Int} (h : sizeE L = 0) : arrE L (prod L).toNat = 0 := by
  have hn : 0 ≤ prod L := by
    by_cases p : ∀ x ∈ L, 1 ≤ x
    · have := prod_pos L p; omega
    · have hz : (0 : Int) ∈ L := by
        simp only [Classical.not_forall] at p
        obtain ⟨x, hx, hn⟩ := p
        have := (sizeE_ok h).2.1 x hx
        obtain rfl : x = 0 := by omega
        exact hx
      have e := (sizeE_ok h).2.2.2 hz
      rw [size_prod h] at e
      omega
  unfold arrE
  rw [if_neg (by rw [h]; simp), if_neg (by rw [size_prod h]; simp; omega)]

end Go.Proofs.YteoobeldmicjhaaGreat.V
namespace Go.Proofs.YteoobeldmicjhaaGreat.V
set_option maxRecDepth 20000
open Go.RowKit

end Go.Proofs.YteoobeldmicjhaaGreat.V
namespace Go.Proofs.YteoobeldmicjhaaGreat.V
set_option maxRecDepth 20000
open Go.RowKit

end Go.Proofs.YteoobeldmicjhaaGreat.V
