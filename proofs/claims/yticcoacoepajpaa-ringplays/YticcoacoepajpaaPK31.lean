/-
  Contract: the law's ends. How many words are sent: the law's counting. Contract: the document's Wanted. The document's member as a value; its Result.
-/
import Derived.Test.YticcoacoepajpaaPK28
import Derived.Test.YticcoacoepajpaaPK26
import Derived.Test.YticcoacoepajpaaPK30
import Derived.Deep.CutBlock
import Derived.Test.YticcoacoepajpaaPK22
namespace Go.Proofs.Yticcoacoepajpaa.V
open Go Go.RowKit
set_option linter.unusedVariables false
set_option linter.unusedSimpArgs false

end Go.Proofs.Yticcoacoepajpaa.V
namespace Go.Proofs.Yticcoacoepajpaa.V
open Go Go.RowKit
set_option linter.unusedVariables false
set_option linter.unusedSimpArgs false

theorem OutAt.cells {W : World} {B n : Nat} {Fs : Nat → Nat → Prop} {g cap k : Nat} {qs : List (Sn × Sl × Sl)} {l : Nat} (hl : qs.length = l) (h : OutAt W B n Fs (.slice (some ⟨g, 0, none⟩) l cap) qs) {q : Sn × Sl × Sl} (hq : qs[k]? = some q) : ∀ i u, i < 7 → (snC q)[i]? = some u → W.cell? ⟨g, k * 7 + i, none⟩ = some u := by
  subst hl
  exact fun i u hi hu => h.row.cell rfl (by
    unfold seC
    rw [flat_get snC 7 snC_len qs k i hi, hq]
    exact hu)
end Go.Proofs.Yticcoacoepajpaa.V
namespace Go.Proofs.Yticcoacoepajpaa.V
open Go Go.RowKit
set_option linter.unusedVariables false
set_option linter.unusedSimpArgs false

/-- Words in a row of the call's own. -/
def Ow (W : World) (B : Nat) (v : Value) (xs : List Int) : Prop := W.ownsRow B 2 1 v xs.length (xs.map (Value.int .i64))
theorem Ow.start (W : World) (B : Nat) : Ow W B (.slice none 0 0) [] := ⟨rfl, .inl ⟨rfl, rfl⟩⟩
theorem Ow.below {W V : World} {B : Nat} {v : Value} {xs : List Int} (h : Ow W B v xs) (hb : Below W.heap.size W V) : Ow V B v xs := own_kp h fun g e => hb.block g (h.lt g e).2
theorem append_ow {w : World} {ops : Array Oper} {rest : List Oper} {o : Oper} {a : Act} {Q : Exit → Act → World → Prop} (hgd : o.guard = none) (s x : Operand)
    (ho : o.op = .call { callee := .builtin .append, args := #[s, x], argTypes := #[24, 24] }) (B : Nat) (v : Value) (xs : List Int) (hs : a.eval s = v) (h : Ow w B v xs)
    (X : Option Addr) (m c : Nat) (ys : List Int) (hx : a.eval x = .slice X m c) (hI : Ints w X m ys) (hl : xs.length + m ≤ 1000000) (hB : B ≤ w.heap.size)
    (hQ : ∀ v' w', Ow w' B v' (xs ++ ys) → Below B w w' → wpList Try.prog ops Q rest (a.put o.dst v') w') : wpList Try.prog ops Q (o :: rest) a w := by
  refine append_i64s hgd s x ho B v xs.length _ hs h X m c ys hx hI (by omega) hB fun v' w' h1 h2 => hQ v' w' ?_ ((Below.refl B w).grown h2 hB (fun j e => (h.lt j e).1))
  unfold Ow
  rw [List.length_append, hI.1, List.map_append]
  exact h1
theorem wrap_in2 (x : Int) : -9223372036854775808 ≤ wrap64 x ∧ wrap64 x ≤ 9223372036854775807 := by unfold wrap64; omega
/-- Lists that were made, in a row of the call's own. -/
def OL (W : World) (B : Nat) (v : Value) (ys : List (Sl × List Int)) : Prop := W.ownsRow B 24 1 v ys.length (ys.map fun p => p.1.v) ∧ ∀ p ∈ ys, Num W p.1 p.2
theorem OL.start (W : World) (B : Nat) : OL W B (.slice none 0 0) [] := ⟨⟨rfl, .inl ⟨rfl, rfl⟩⟩, fun p hp => by simp at hp⟩
theorem OL.below {W V : World} {B : Nat} {v : Value} {ys : List (Sl × List Int)} (h : OL W B v ys) (hb : Below W.heap.size W V) : OL V B v ys := ⟨own_kp h.1 fun g e => hb.block g (h.1.lt g e).2, fun p hp => (h.2 p hp).below hb⟩
theorem info_ls : (Try.prog.info? 24).map (fun i => (i.zero, i.size, i.bytes)) = some (some (.slice none 0 0), 1, 24) := by kernel_rfl
end Go.Proofs.Yticcoacoepajpaa.V
namespace Go.Proofs.Yticcoacoepajpaa.V
open Go Go.RowKit
set_option linter.unusedVariables false
set_option linter.unusedSimpArgs false

/-- Notes that were kept, as a value. -/
def NtsA (W : World) (a : Option Addr) (len : Nat) (l : List (Nat × List Int)) : Prop := l.length = len ∧ len ≤ 1000 ∧ (len = 0 ∨ ∃ b off, a = some ⟨b, off, none⟩ ∧ ∀ k x, l[k]? = some x → ∃ fr tt X m c, W.cell? ⟨b, off + k * 4, none⟩ = some (.int .i64 fr) ∧ W.cell? ⟨b, off + k * 4 + 1, none⟩ = some (.int .i64 tt) ∧ W.cell? ⟨b, off + k * 4 + 2, none⟩ = some (.int .i64 ((x.1 : Nat) : Int)) ∧ W.cell? ⟨b, off + k * 4 + 3, none⟩ = some (.slice X m c) ∧ Ints W X m x.2 ∧ m ≤ c)
theorem NtsA.below {W V : World} {a : Option Addr} {len : Nat} {l : List (Nat × List Int)} (h : NtsA W a len l) (hb : Below W.heap.size W V) : NtsA V a len l := by
  refine ⟨h.1, h.2.1, h.2.2.imp id fun ⟨b, off, e, hc⟩ => ⟨b, off, e, fun k x hk => ?_⟩⟩
  obtain ⟨fr, tt, X, m, c, h1, h2, h3, h4, h5, h6⟩ := hc k x hk
  have kp : ∀ {o : Nat} {v : Value}, W.cell? ⟨b, o, none⟩ = some v → V.cell? ⟨b, o, none⟩ = some v := fun {o v} hc => (hb.cell (p := ⟨b, o, none⟩) (lt_of_cell hc)).trans hc
  exact ⟨fr, tt, X, m, c, kp h1, kp h2, kp h3, kp h4, h5.below hb, h6⟩
/-- A member's words, as a value. -/
structure Rs where
  o : Sl
  p : Sl
  e : Sl
def Rs.v (q : Rs) (s : St) : Value := .agg #[.slice q.o.a q.o.n q.o.c, .slice q.p.a q.p.n q.p.c, .int .i64 s.sent, .int .i64 s.taken, .slice q.e.a q.e.n q.e.c]
structure RsA (W : World) (q : Rs) (n : Nat) (s : St) : Prop where
  own : LsA W q.o.a q.o.n s.own
  parts : LsA W q.p.a q.p.n s.parts
  early : NtsA W q.e.a q.e.n s.early
theorem RsA.below {W V : World} {q : Rs} {n : Nat} {s : St} (h : RsA W q n s) (hb : Below W.heap.size W V) : RsA V q n s := ⟨h.own.below hb, h.parts.below hb, h.early.below hb⟩
theorem append_owB {w : World} {ops : Array Oper} {rest : List Oper} {o : Oper} {a : Act} {Q : Exit → Act → World → Prop} (hgd : o.guard = none) (s x : Operand)
    (ho : o.op = .call { callee := .builtin .append, args := #[s, x], argTypes := #[24, 24] }) (B : Nat) (v : Value) (xs : List Int) (hs : a.eval s = v) (h : Ow w B v xs)
    (X : Option Addr) (m c : Nat) (ys : List Int) (hx : a.eval x = .slice X m c) (hI : Ints w X m ys) (hl : xs.length + m ≤ 1000000 * 2) (hB : B ≤ w.heap.size)
    (hQ : ∀ v' w', Ow w' B v' (xs ++ ys) → Below B w w' → wpList Try.prog ops Q rest (a.put o.dst v') w') : wpList Try.prog ops Q (o :: rest) a w := by
  refine append_i64s hgd s x ho B v xs.length _ hs h X m c ys hx hI (by omega) hB fun v' w' h1 h2 => hQ v' w' ?_ ((Below.refl B w).grown h2 hB (fun j e => (h.lt j e).1))
  unfold Ow
  rw [List.length_append, hI.1, List.map_append]
  exact h1
theorem flat_smallR {ls : List (List Int)} {n : Nat} (hl : ls.length = n) (h : ∀ k, (prt ls k).length ≤ 65536) : ∀ j, j ≤ n → ((ls.take j).flatten).length ≤ j * 65536
  | 0, _ => by simp
  | j + 1, hj => by
    have h1 := flat_smallR hl h j (by omega)
    rw [flat_step ls j (by omega), List.length_append, Nat.succ_mul]
    have h2 := h j
    unfold prt at h2
    omega
end Go.Proofs.Yticcoacoepajpaa.V
