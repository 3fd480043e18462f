/-
  The document's side: how a tree is answered. The document's side: product and sum: where a chain stands. The document's side: bound.
-/
import Derived.Test.YtadhlnlcdljamaaGreatDoorM1
import Derived.Test.YtadhlnlcdljamaaGreatDoorTxLe
import Derived.Deep.Cut
namespace Go.Proofs.YtadhlnlcdljamaaGreatDoor.V
set_option maxRecDepth 20000
open Go.RowKit
set_option linter.unusedVariables false

theorem tx_is {s : ByteArray} {l : List UInt8} (h : (s.toList == l) = true) : s = ⟨⟨l⟩⟩ := by
  have h1 : s.toList = l := eq_of_beq h
  subst h1
  simp [ByteArray.toList_eq]
theorem Bt.grown {X : Tks} {A : Option Addr} {c b Dt Df : Nat} {w W W' : World} {row : Option Nat} (h : Bt X A c b Dt Df w W) (hg : W.grownBy W' row) (h1 : some b ≠ row) (h2 : some Dt ≠ row) (h3 : some Df ≠ row) (hr : ∀ g, row = some g → w.heap.size ≤ g) : Bt X A c b Dt Df w W' := ⟨h.l0, h.t.grown hg h1, h.z.grown hg h2, h.d.grown hg h3, below_grown h.bw hg hr⟩
theorem Bt.drew {X : Tks} {A : Option Addr} {c b Dt Df : Nat} {w W : World} (h : Bt X A c b Dt Df w W) : Bt X A c b Dt Df w W.drew := h.below (Below.refl _ _).drew
theorem keep_drew (S : Nat → Prop) (w : World) : Keep S w w.drew := ⟨Nat.le_refl _, fun _ _ _ => rfl⟩
theorem TwoAt.drew {t : TypeId} {w : World} {b : Nat} {c0 c1 : Value} (h : TwoAt t w b c0 c1) : TwoAt t w.drew b c0 c1 := h
theorem RefP.any {r : Res Tr} {W w1 : World} {e : Ending} (h : RefP isTr (repT W) r W e w1) : Below W.heap.size W w1 ∧ ∃ (k : Int) (nm : ByteArray) (nu : Int) (sh : Bool) (A1 : Option Addr) (n1 m1 : Nat) (A2 : Option Addr) (n2 m2 : Nat) (A3 : Option Addr) (n3 m3 : Nat) (E : Int) (K : Nat) (J : Int),
    e = .returned (.tuple #[.agg #[.int .i64 k, .string nm, .int .i64 nu, .bool sh, .slice A1 n1 m1, .slice A2 n2 m2, .slice A3 n3 m3], .int .i64 J, .agg #[.int .i64 E, .int .i64 (K : Int)]]) ∧ ((∃ t j, r = .ok t j ∧ J = ((j : Nat) : Int) ∧ E = 0 ∧ K = 0 ∧ TreeV w1 (from_ W) t [.int .i64 k, .string nm, .int .i64 nu, .bool sh, .slice A1 n1 m1, .slice A2 n2 m2, .slice A3 n3 m3]) ∨ (r = .bad E K ∧ E ≠ 0)) := by
  obtain ⟨h1, h2⟩ := h
  refine ⟨h1, ?_⟩
  cases r with
  | bad T k =>
    obtain ⟨h3, v, J, rfl, x1, x2, x3, x4, x5, x6, x7, x8, x9, x10, x11, x12, x13, rfl⟩ := h2
    exact ⟨x1, x2, x3, x4, x5, x6, x7, x8, x9, x10, x11, x12, x13, T, k, J, rfl, .inr ⟨rfl, h3⟩⟩
  | ok t j =>
    obtain ⟨v, rfl, x1, x2, x3, x4, x5, x6, x7, x8, x9, x10, x11, x12, x13, rfl, h3⟩ := h2
    exact ⟨x1, x2, x3, x4, x5, x6, x7, x8, x9, x10, x11, x12, x13, 0, 0, j, rfl, .inl ⟨t, j, rfl, rfl, rfl, rfl, h3⟩⟩
theorem RefP.ofJ {r : Res Tr} {w W2 : World} (k : Int) (nm : ByteArray) (nu : Int) (sh : Bool) (A1 : Option Addr) (n1 m1 : Nat) (A2 : Option Addr) (n2 m2 : Nat) (A3 : Option Addr) (n3 m3 : Nat) (E : Int) (K : Nat) (J : Int) (hb : Below w.heap.size w W2)
    (h : (∃ t j, r = .ok t j ∧ J = ((j : Nat) : Int) ∧ E = 0 ∧ K = 0 ∧ TreeV W2 (from_ w) t [.int .i64 k, .string nm, .int .i64 nu, .bool sh, .slice A1 n1 m1, .slice A2 n2 m2, .slice A3 n3 m3]) ∨ (r = .bad E K ∧ E ≠ 0)) :
    RefP isTr (repT w) r w (.returned (.tuple #[.agg #[.int .i64 k, .string nm, .int .i64 nu, .bool sh, .slice A1 n1 m1, .slice A2 n2 m2, .slice A3 n3 m3], .int .i64 J, .agg #[.int .i64 E, .int .i64 (K : Int)]])) W2 := by
  rcases h with ⟨t, j, rfl, rfl, rfl, rfl, h⟩ | ⟨rfl, h⟩
  · exact ⟨hb, _, rfl, _, _, _, _, _, _, _, _, _, _, _, _, _, rfl, h⟩
  · exact ⟨hb, h, _, J, rfl, _, _, _, _, _, _, _, _, _, _, _, _, _, rfl⟩
theorem RefP.of {r : Res Tr} {w W2 : World} (k : Int) (nm : ByteArray) (nu : Int) (sh : Bool) (A1 : Option Addr) (n1 m1 : Nat) (A2 : Option Addr) (n2 m2 : Nat) (A3 : Option Addr) (n3 m3 : Nat) (E : Int) (K j : Nat) (hb : Below w.heap.size w W2)
    (h : (∃ t, r = .ok t j ∧ E = 0 ∧ K = 0 ∧ TreeV W2 (from_ w) t [.int .i64 k, .string nm, .int .i64 nu, .bool sh, .slice A1 n1 m1, .slice A2 n2 m2, .slice A3 n3 m3]) ∨ (r = .bad E K ∧ E ≠ 0)) :
    RefP isTr (repT w) r w (.returned (.tuple #[.agg #[.int .i64 k, .string nm, .int .i64 nu, .bool sh, .slice A1 n1 m1, .slice A2 n2 m2, .slice A3 n3 m3], .int .i64 (j : Int), .agg #[.int .i64 E, .int .i64 (K : Int)]])) W2 :=
  RefP.ofJ _ _ _ _ _ _ _ _ _ _ _ _ _ E K j hb (h.imp (fun ⟨t, h1, h2, h3, h4⟩ => ⟨t, j, h1, rfl, h2, h3, h4⟩) id)
/-- What holds when the tree and the fault that are answered have been stored. -/
structure FinP (w W W2 : World) (N Dt Df : Nat) (c0 c1 c2 c3 c4 c5 c6 x y : Value) : Prop where
  b : Below w.heap.size w W2
  k : Keep (far (w.heap.size + N)) W W2
  u0 : W2.cell? ⟨Dt, 0, none⟩ = some c0
  u1 : W2.cell? ⟨Dt, 1, none⟩ = some c1
  u2 : W2.cell? ⟨Dt, 2, none⟩ = some c2
  u3 : W2.cell? ⟨Dt, 3, none⟩ = some c3
  u4 : W2.cell? ⟨Dt, 4, none⟩ = some c4
  u5 : W2.cell? ⟨Dt, 5, none⟩ = some c5
  u6 : W2.cell? ⟨Dt, 6, none⟩ = some c6
  v0 : W2.cell? ⟨Df, 0, none⟩ = some x
  v1 : W2.cell? ⟨Df, 1, none⟩ = some y
theorem FinP.drew {w W W2 : World} {N Dt Df : Nat} {c0 c1 c2 c3 c4 c5 c6 x y : Value} (h : FinP w W W2 N Dt Df c0 c1 c2 c3 c4 c5 c6 x y) : FinP w W W2.drew N Dt Df c0 c1 c2 c3 c4 c5 c6 x y :=
  ⟨h.b.drew, h.k.trans (keep_drew _ _), h.u0, h.u1, h.u2, h.u3, h.u4, h.u5, h.u6, h.v0, h.v1⟩
theorem Bt.fin {X : Tks} {A : Option Addr} {c b Dt Df : Nat} {w W : World} (N : Nat) (h : Bt X A c b Dt Df w W) (c0 c1 c2 c3 c4 c5 c6 x y : Value) (h1 : w.heap.size ≤ Dt) (h2 : w.heap.size ≤ Df) (h3 : Dt < w.heap.size + N) (h4 : Df < w.heap.size + N) (h5 : Dt ≠ Df) :
    ∃ W2, W2 = (((((((((W.setCell ⟨Dt, 0, none⟩ c0).setCell ⟨Dt, 1, none⟩ c1).setCell ⟨Dt, 2, none⟩ c2).setCell ⟨Dt, 3, none⟩ c3).setCell ⟨Dt, 4, none⟩ c4).setCell ⟨Dt, 5, none⟩ c5).setCell ⟨Dt, 6, none⟩ c6).setCell ⟨Df, 0, none⟩ x).setCell ⟨Df, 1, none⟩ y) ∧ FinP w W W2 N Dt Df c0 c1 c2 c3 c4 c5 c6 x y := by
  refine ⟨_, rfl, ?_⟩
  have HO1 := SevAt.out W Dt c0 c1 c2 c3 c4 c5 c6
  have HJ1 := h.z.put c0 c1 c2 c3 c4 c5 c6
  have HJ2 := h.d.grown HO1 (by simp; omega)
  have HO2 := TwoAt.out (w := (((((((W.setCell ⟨Dt, 0, none⟩ c0).setCell ⟨Dt, 1, none⟩ c1).setCell ⟨Dt, 2, none⟩ c2).setCell ⟨Dt, 3, none⟩ c3).setCell ⟨Dt, 4, none⟩ c4).setCell ⟨Dt, 5, none⟩ c5).setCell ⟨Dt, 6, none⟩ c6)) (b := Df) x y
  have HJ3 := HJ1.grown HO2 (by simp; omega)
  have HJ4 := HJ2.put x y
  have HBF := below_grown (below_grown h.bw HO1 (fun g e => by cases e; omega)) HO2 (fun g e => by cases e; omega)
  have HKF := (far_keep (n := w.heap.size + N) HO1 (by omega)).trans (far_keep HO2 (by omega))
  obtain ⟨u0, u1, u2, u3, u4, u5, u6⟩ := HJ3.cells
  obtain ⟨⟨v0, v1⟩, _, _⟩ := HJ4.cells
  exact ⟨HBF, HKF, u0, u1, u2, u3, u4, u5, u6, v0, v1⟩
/-- A tree that lies beyond is still there. -/
theorem tree_fin {w W W2 W0 : World} {N : Nat} {t : Tr} {cs : List Value} (h : TreeV W (from_ W0) t cs) (h0 : w.heap.size + N ≤ W0.heap.size) (k : Keep (far (w.heap.size + N)) W W2) : TreeV W2 (from_ w) t cs :=
  TreeV.stays.weaken (TreeV.stays.keep (TreeV.stays.weaken (S' := far (w.heap.size + N)) h (fun b _ hb => by have h9 : W0.heap.size ≤ b := hb; unfold far; omega)) k) (fun b _ hb => by have h9 : w.heap.size + N ≤ b := hb; unfold from_; omega)
theorem tree_keep {S S0 : Nat → Prop} {w W1 W2 W3 : World} {N : Nat} {t : Tr} {cs : List Value} (h : TreeV W1 S0 t cs) (h1 : ∀ b, b < W1.heap.size → S0 b → S b) (k1 : Keep S W1 W2) (k2 : Keep (far (w.heap.size + N)) W2 W3) (h2 : ∀ b, S b → far (w.heap.size + N) b) : TreeV W3 (from_ w) t cs :=
  TreeV.stays.weaken (TreeV.stays.keep (TreeV.stays.weaken (TreeV.stays.keep (TreeV.stays.weaken h h1) k1) (fun b _ hb => h2 b hb)) k2) (fun b _ hb => by have h9 : w.heap.size + N ≤ b := hb; unfold from_; omega)
end Go.Proofs.YtadhlnlcdljamaaGreatDoor.V
namespace Go.Proofs.YtadhlnlcdljamaaGreatDoor.V
set_option maxRecDepth 20000
open Go.RowKit
set_option linter.unusedVariables false

/-- What a chain's trees may lie in: behind n, but for two blocks. -/
def but (n T F : Nat) : Nat → Prop := fun b => n ≤ b ∧ b ≠ T ∧ b ≠ F
/-- Where a chain stands: a tree and how far, or a fault. -/
def ChainSt (X : Tks) (P : Nat → Res Tr) (sg : ByteArray → Bool) (r0 : Res Tr) (T F n : Nat) (wr : World) (v1 v11 : Value) : Prop :=
  ∃ (f : Nat) (J E : Int) (K : Nat) (k : Int) (nm : ByteArray) (nu : Int) (sh : Bool) (A1 : Option Addr) (n1 m1 : Nat) (A2 : Option Addr) (n2 m2 : Nat) (A3 : Option Addr) (n3 m3 : Nat), v1 = .int .i64 J ∧ v11 = .int .i64 ((65 - f : Nat) : Int) ∧ f ≤ 64 ∧ SevAt wr T (.int .i64 k) (.string nm) (.int .i64 nu) (.bool sh) (.slice A1 n1 m1) (.slice A2 n2 m2) (.slice A3 n3 m3) ∧ TwoAt 25 wr F (.int .i64 E) (.int .i64 (K : Int)) ∧
    ((∃ t j, J = ((j : Nat) : Int) ∧ E = 0 ∧ K = 0 ∧ j ≤ X.ts.length ∧ r0 = chainL X P sg f j t ∧ TreeV wr (but n T F) t [.int .i64 k, .string nm, .int .i64 nu, .bool sh, .slice A1 n1 m1, .slice A2 n2 m2, .slice A3 n3 m3]) ∨ (E ≠ 0 ∧ r0 = .bad E K))
theorem ChainSt.of {X : Tks} {P : Nat → Res Tr} {sg : ByteArray → Bool} {r0 : Res Tr} {T F n : Nat} {wr : World} (f : Nat) (J E : Int) (K : Nat) (k : Int) (nm : ByteArray) (nu : Int) (sh : Bool) (A1 : Option Addr) (n1 m1 : Nat) (A2 : Option Addr) (n2 m2 : Nat) (A3 : Option Addr) (n3 m3 : Nat) (hf : f ≤ 64) (hS : SevAt wr T (.int .i64 k) (.string nm) (.int .i64 nu) (.bool sh) (.slice A1 n1 m1) (.slice A2 n2 m2) (.slice A3 n3 m3)) (hF : TwoAt 25 wr F (.int .i64 E) (.int .i64 (K : Int)))
    (h : (∃ t j, J = ((j : Nat) : Int) ∧ E = 0 ∧ K = 0 ∧ j ≤ X.ts.length ∧ r0 = chainL X P sg f j t ∧ TreeV wr (but n T F) t [.int .i64 k, .string nm, .int .i64 nu, .bool sh, .slice A1 n1 m1, .slice A2 n2 m2, .slice A3 n3 m3]) ∨ (E ≠ 0 ∧ r0 = .bad E K)) : ChainSt X P sg r0 T F n wr (.int .i64 J) (.int .i64 ((65 - f : Nat) : Int)) :=
  ⟨f, J, E, K, k, nm, nu, sh, A1, n1, m1, A2, n2, m2, A3, n3, m3, rfl, rfl, hf, hS, hF, h⟩
/-- What is read behind a sign, be it read or not. -/
theorem chain_on {X : Tks} {P : Nat → Res Tr} {sg : ByteArray → Bool} {r0 : Res Tr} {f i : Nat} {t : Tr} {J E : Int} {K : Nat} {n T F : Nat} {wr W : World} {B : Nat} {cs0 cs : List Value} {nm : ByteArray}
    (hr : r0 = (P i).bind fun b j' => chainL X P sg f j' (.two nm t b)) (hPl : ∀ j a j', P j = .ok a j' → j' ≤ X.ts.length)
    (ht : TreeV W (but n T F) t cs0) (hst : (∃ u j, P i = .ok u j ∧ J = ((j : Nat) : Int) ∧ E = 0 ∧ K = 0 ∧ TreeV W (but n T F) u cs) ∨ (P i = .bad E K ∧ E ≠ 0)) (hB : but n T F B) (hk : Keep (but n T F) W wr) (hb : wr.heap[B]? = some (.cells (cs0 ++ cs).toArray 47 (0, 0))) :
    (∃ t j, J = ((j : Nat) : Int) ∧ E = 0 ∧ K = 0 ∧ j ≤ X.ts.length ∧ r0 = chainL X P sg f j t ∧ TreeV wr (but n T F) t [.int .i64 4, .string nm, .int .i64 0, .bool false, .slice none 0 0, .slice none 0 0, .slice (some ⟨B, 0, none⟩) 2 2]) ∨ (E ≠ 0 ∧ r0 = .bad E K) := by
  rcases hst with ⟨u, j, hu, hJ, hE, hK, hv⟩ | ⟨hu, hE⟩
  · refine .inl ⟨.two nm t u, j, hJ, hE, hK, hPl _ _ _ hu, by rw [hr, hu]; rfl, ?_⟩
    exact TreeV.twoKids (TreeV.stays.keep ht hk) (TreeV.stays.keep hv hk) hB hb
  · exact .inr ⟨hE, by rw [hr, hu]; rfl⟩
end Go.Proofs.YtadhlnlcdljamaaGreatDoor.V
namespace Go.Proofs.YtadhlnlcdljamaaGreatDoor.V
set_option maxRecDepth 20000
open Go.RowKit
set_option linter.unusedVariables false

/-- The blocks of bound at its beginning. -/
theorem bound_new {X : Tks} {A : Option Addr} {c : Nat} {w : World} (h : LsAt X A c w) (k nu : Int) : Bt X A c w.heap.size (w.heap.size + 2) (w.heap.size + 3) w ((((w.alloc (.cells #[.slice A X.ts.length c, .int .i64 (X.n : Int)] 41)).alloc (.cells #[.int .i64 k, .string ⟨#[]⟩, .int .i64 nu, .bool false, .slice none 0 0, .slice none 0 0, .slice none 0 0] 47)).alloc (.cells z7 47)).alloc (.cells #[.int .i64 0, .int .i64 0] 25)) ∧ SevAt ((((w.alloc (.cells #[.slice A X.ts.length c, .int .i64 (X.n : Int)] 41)).alloc (.cells #[.int .i64 k, .string ⟨#[]⟩, .int .i64 nu, .bool false, .slice none 0 0, .slice none 0 0, .slice none 0 0] 47)).alloc (.cells z7 47)).alloc (.cells #[.int .i64 0, .int .i64 0] 25)) (w.heap.size + 1) (.int .i64 k) (.string ⟨#[]⟩) (.int .i64 nu) (.bool false) (.slice none 0 0) (.slice none 0 0) (.slice none 0 0) := by
  refine ⟨⟨h, (((TwoAt.new _ _ _ _).alloc _).alloc _).alloc _, ?_, ?_, ((((Below.refl _ w).alloc (Nat.le_refl _) _).alloc (by simp) _).alloc (by simp; omega) _).alloc (by simp; omega) _⟩, ?_⟩
  · have := (SevAt.new ((w.alloc (.cells #[.slice A X.ts.length c, .int .i64 (X.n : Int)] 41)).alloc (.cells #[.int .i64 k, .string ⟨#[]⟩, .int .i64 nu, .bool false, .slice none 0 0, .slice none 0 0, .slice none 0 0] 47)) (.int .i64 0) (.string ⟨#[]⟩) (.int .i64 0) (.bool false) (.slice none 0 0) (.slice none 0 0) (.slice none 0 0)).alloc (.cells #[.int .i64 0, .int .i64 0] 25)
    simpa using this
  · have := TwoAt.new 25 (((w.alloc (.cells #[.slice A X.ts.length c, .int .i64 (X.n : Int)] 41)).alloc (.cells #[.int .i64 k, .string ⟨#[]⟩, .int .i64 nu, .bool false, .slice none 0 0, .slice none 0 0, .slice none 0 0] 47)).alloc (.cells z7 47)) (.int .i64 0) (.int .i64 0)
    simpa using this
  · have := ((SevAt.new (w.alloc (.cells #[.slice A X.ts.length c, .int .i64 (X.n : Int)] 41)) (.int .i64 k) (.string ⟨#[]⟩) (.int .i64 nu) (.bool false) (.slice none 0 0) (.slice none 0 0) (.slice none 0 0)).alloc (.cells z7 47)).alloc (.cells #[.int .i64 0, .int .i64 0] 25)
    simpa using this

set_option maxRecDepth 100000 in
set_option maxHeartbeats 8000000 in
theorem rBound {X : Tks} {A : Option Addr} {c L : Nat} {w : World} (ok : X.Ok) (E : Nat → Res Tr) (h : LsAt X A c w) (i : Nat) (hi : i ≤ X.ts.length) (hEl : ∀ j a j', E j = .ok a j' → j' ≤ X.ts.length) (kind num : Int) (wd : ByteArray) (hwd : wd.toList ≠ [])
    (hE : ∀ (W : World) (j : Nat), LsAt X A c W → j ≤ X.ts.length → Calls Tryz.prog 28 #[lsV X A c, .int .i64 (j : Int), .int .i64 ((L : Int) + 1)] W (RefP isTr (repT W) (E j) W)) (hL : L ≤ 64) :
    Calls Tryz.prog 46 #[lsV X A c, .agg #[.int .i64 kind, .string ⟨#[]⟩, .int .i64 num, .bool false, .slice none 0 0, .slice none 0 0, .slice none 0 0], .int .i64 (i : Int), .string wd, .int .i64 (L : Int)] w (RefP isTr (repT w) (boundS X E kind num wd.toList i) w) := by
  obtain ⟨hX0, hT0⟩ := bound_new h kind num
  have HX0 := hide hX0
  have HT0 := hide hT0
  have HE := hide hE
  have HEL := hide hEl
  have HSM : Hid (∀ j, (X.tx j).size ≤ 65536) := ok.small
  have hxl := h.len
  unfold lsV at *
  obtain ⟨⟨q0, q1⟩, fq0, fq1⟩ := HX0.out.t.cells; obtain ⟨⟨d0, d1⟩, fd0, fd1⟩ := HX0.out.d.cells; obtain ⟨z0, z1, z2, z3, z4, z5, z6⟩ := HX0.out.z.cells; obtain ⟨y0, y1, y2, y3, y4, y5, y6⟩ := HX0.out.z.frozen; obtain ⟨a0, a1, a2, a3, a4, a5, a6⟩ := HT0.out.cells; obtain ⟨fa0, fa1, fa2, fa3, fa4, fa5, fa6⟩ := HT0.out.frozen
  clear h ok hE hEl hX0 hT0
  unfold boundS nameS mustS
  cases h1 : isNameB (X.tx i) with
  | false =>
    rw [if_neg (by simp), Res.bind_bad]
    go_enter Tryz.func46, Tryz.ntmps46
    go_wp2_with (first
      | (go_at_call 24; refine (rText HX0.out.l (i)).mono ?_; rintro e w1 ⟨rfl, hb⟩; have HX1 := hide (HX0.out.below hb); have HT1 := hide (HT0.out.below hb); clear q0 q1 fq0 fq1 d0 d1 fd0 fd1 z0 z1 z2 z3 z4 z5 z6 y0 y1 y2 y3 y4 y5 y6; clear a0 a1 a2 a3 a4 a5 a6 fa0 fa1 fa2 fa3 fa4 fa5 fa6; clear HX0 HT0; obtain ⟨⟨q0, q1⟩, fq0, fq1⟩ := HX1.out.t.cells; obtain ⟨⟨d0, d1⟩, fd0, fd1⟩ := HX1.out.d.cells; obtain ⟨z0, z1, z2, z3, z4, z5, z6⟩ := HX1.out.z.cells; obtain ⟨y0, y1, y2, y3, y4, y5, y6⟩ := HX1.out.z.frozen; obtain ⟨a0, a1, a2, a3, a4, a5, a6⟩ := HT1.out.cells; obtain ⟨fa0, fa1, fa2, fa3, fa4, fa5, fa6⟩ := HT1.out.frozen; clear hb)
      | (go_at_call 26; refine (rIsName (X.tx (i)) _ (HSM.out _)).mono ?_; rw [h1]; rintro e w' ⟨rfl, hw'⟩; obtain rfl := hw'.symm; clear hw')
      )
    obtain ⟨p, hp⟩ : ∃ p, p = X.ps (i) := ⟨_, rfl⟩
    have HBA := hide (rBad (X := X) (A := A) (c := c) (w := w1.drew) HX1.out.drew.l (i))
    rw [← hp] at HBA 
    have HPP := hide hp
    clear hp
    go_region_with (go_at_call 25; refine HBA.out.mono ?_; rintro e w2 ⟨rfl, hb⟩; have HX2 := hide (HX1.out.drew.below hb); have HT2 := hide (HT1.out.drew.below hb); clear q0 q1 fq0 fq1 d0 d1 fd0 fd1 z0 z1 z2 z3 z4 z5 z6 y0 y1 y2 y3 y4 y5 y6; clear a0 a1 a2 a3 a4 a5 a6 fa0 fa1 fa2 fa3 fa4 fa5 fa6; obtain ⟨⟨q0, q1⟩, fq0, fq1⟩ := HX2.out.t.cells; obtain ⟨⟨d0, d1⟩, fd0, fd1⟩ := HX2.out.d.cells; obtain ⟨z0, z1, z2, z3, z4, z5, z6⟩ := HX2.out.z.cells; obtain ⟨y0, y1, y2, y3, y4, y5, y6⟩ := HX2.out.z.frozen; obtain ⟨a0, a1, a2, a3, a4, a5, a6⟩ := HT2.out.cells; obtain ⟨fa0, fa1, fa2, fa3, fa4, fa5, fa6⟩ := HT2.out.frozen; clear hb)
    all_goals
      obtain ⟨wg, hwg, hfin⟩ := HX2.out.fin 4 (.int .i64 kind) (.string ⟨#[]⟩) (.int .i64 num) (.bool false) (.slice none 0 0) (.slice none 0 0) (.slice none 0 0) (.int .i64 7) (.int .i64 (p : Int)) (by omega) (by omega) (by omega) (by omega) (by omega)
      rw [← hwg]
      clear hwg
      obtain ⟨hbf, hkf, u0, u1, u2, u3, u4, u5, u6, v0, v1⟩ := hfin
      have HBF := hide hbf
      have HKF := hide hkf
      clear hbf hkf
      go_wp2
      refine bodyPost_ret (v := .tuple #[.agg #[.int .i64 kind, .string ⟨#[]⟩, .int .i64 num, .bool false, .slice none 0 0, .slice none 0 0, .slice none 0 0], .int .i64 ((i : Int)), .agg #[.int .i64 7, .int .i64 (p : Int)]]) (by simp [results, Tryz.results46, go_sem, u0, u1, u2, u3, u4, u5, u6, v0, v1]) rfl ?_
      exact RefP.of _ _ _ _ _ _ _ _ _ _ _ _ _ 7 p (i) HBF.out (.inr ⟨by rw [HPP.out], by decide⟩)
  | true =>
    have hil := isNameB_lt h1
    rw [if_pos rfl, Res.bind_ok]
    cases h2 : ((X.tx (i + 1)).toList == [61]) with
    | false =>
      rw [if_neg (by simp), Res.bind_bad]
      go_enter Tryz.func46, Tryz.ntmps46
      go_upto_region 4 with (first
        | (go_at_call 24; refine (rText HX0.out.l (i)).mono ?_; rintro e w1 ⟨rfl, hb⟩; have HX1 := hide (HX0.out.below hb); have HT1 := hide (HT0.out.below hb); clear q0 q1 fq0 fq1 d0 d1 fd0 fd1 z0 z1 z2 z3 z4 z5 z6 y0 y1 y2 y3 y4 y5 y6; clear a0 a1 a2 a3 a4 a5 a6 fa0 fa1 fa2 fa3 fa4 fa5 fa6; clear HX0 HT0; obtain ⟨⟨q0, q1⟩, fq0, fq1⟩ := HX1.out.t.cells; obtain ⟨⟨d0, d1⟩, fd0, fd1⟩ := HX1.out.d.cells; obtain ⟨z0, z1, z2, z3, z4, z5, z6⟩ := HX1.out.z.cells; obtain ⟨y0, y1, y2, y3, y4, y5, y6⟩ := HX1.out.z.frozen; obtain ⟨a0, a1, a2, a3, a4, a5, a6⟩ := HT1.out.cells; obtain ⟨fa0, fa1, fa2, fa3, fa4, fa5, fa6⟩ := HT1.out.frozen; clear hb)
        | (go_at_call 26; refine (rIsName (X.tx (i)) _ (HSM.out _)).mono ?_; rw [h1]; rintro e w' ⟨rfl, hw'⟩; obtain rfl := hw'.symm; clear hw')
        | (go_at_call 24; refine (rText HX1.out.l (i)).mono ?_; rintro e w2 ⟨rfl, hb⟩; have HX2 := hide (HX1.out.below hb); have HT2 := hide (HT1.out.below hb); clear q0 q1 fq0 fq1 d0 d1 fd0 fd1 z0 z1 z2 z3 z4 z5 z6 y0 y1 y2 y3 y4 y5 y6; clear a0 a1 a2 a3 a4 a5 a6 fa0 fa1 fa2 fa3 fa4 fa5 fa6; clear HX1 HT1; obtain ⟨⟨q0, q1⟩, fq0, fq1⟩ := HX2.out.t.cells; obtain ⟨⟨d0, d1⟩, fd0, fd1⟩ := HX2.out.d.cells; obtain ⟨z0, z1, z2, z3, z4, z5, z6⟩ := HX2.out.z.cells; obtain ⟨y0, y1, y2, y3, y4, y5, y6⟩ := HX2.out.z.frozen; obtain ⟨a0, a1, a2, a3, a4, a5, a6⟩ := HT2.out.cells; obtain ⟨fa0, fa1, fa2, fa3, fa4, fa5, fa6⟩ := HT2.out.frozen; clear hb)
        )
      obtain ⟨w3, hw3⟩ : ∃ w3, w3 = w2.setCell ⟨w.heap.size + 1, 1, none⟩ (.string (X.tx i)) := ⟨_, rfl⟩
      have hoT := set_out w2 (w.heap.size + 1) 1 (.string (X.tx i))
      have HX3 := hide (HX2.out.grown hoT (by simp) (by simp) (by simp) (fun g e => by cases e; omega))
      have HT3 := hide (HT2.out.set1 (.string (X.tx i)))
      rw [← hw3] at HX3 HT3 ⊢
      clear hw3 hoT HX2 HT2
      clear q0 q1 fq0 fq1 d0 d1 fd0 fd1 z0 z1 z2 z3 z4 z5 z6 y0 y1 y2 y3 y4 y5 y6
      clear a0 a1 a2 a3 a4 a5 a6 fa0 fa1 fa2 fa3 fa4 fa5 fa6
      obtain ⟨⟨q0, q1⟩, fq0, fq1⟩ := HX3.out.t.cells
      obtain ⟨⟨d0, d1⟩, fd0, fd1⟩ := HX3.out.d.cells
      obtain ⟨z0, z1, z2, z3, z4, z5, z6⟩ := HX3.out.z.cells
      obtain ⟨y0, y1, y2, y3, y4, y5, y6⟩ := HX3.out.z.frozen
      obtain ⟨a0, a1, a2, a3, a4, a5, a6⟩ := HT3.out.cells
      obtain ⟨fa0, fa1, fa2, fa3, fa4, fa5, fa6⟩ := HT3.out.frozen
      go_wp2_with (first
        | (go_at_call 24; refine (rText HX3.out.l (i + 1)).mono ?_; rintro e w4 ⟨rfl, hb⟩; have HX4 := hide (HX3.out.below hb); have HT4 := hide (HT3.out.below hb); clear q0 q1 fq0 fq1 d0 d1 fd0 fd1 z0 z1 z2 z3 z4 z5 z6 y0 y1 y2 y3 y4 y5 y6; clear a0 a1 a2 a3 a4 a5 a6 fa0 fa1 fa2 fa3 fa4 fa5 fa6; clear HX3 HT3; obtain ⟨⟨q0, q1⟩, fq0, fq1⟩ := HX4.out.t.cells; obtain ⟨⟨d0, d1⟩, fd0, fd1⟩ := HX4.out.d.cells; obtain ⟨z0, z1, z2, z3, z4, z5, z6⟩ := HX4.out.z.cells; obtain ⟨y0, y1, y2, y3, y4, y5, y6⟩ := HX4.out.z.frozen; obtain ⟨a0, a1, a2, a3, a4, a5, a6⟩ := HT4.out.cells; obtain ⟨fa0, fa1, fa2, fa3, fa4, fa5, fa6⟩ := HT4.out.frozen; clear hb)
        )
      obtain ⟨p, hp⟩ : ∃ p, p = X.ps (i + 1) := ⟨_, rfl⟩
      have HBA := hide (rBad (X := X) (A := A) (c := c) (w := w4.drew) HX4.out.drew.l (i + 1))
      rw [← hp] at HBA 
      have HPP := hide hp
      clear hp
      rw [show ((i + 1 : Nat) : Int) = IntKind.i64.wrap ((i : Int) + 1) from by rw [wrap_in _ (by omega) (by omega)]; omega] at HBA
      go_region_with (go_at_call 25; refine HBA.out.mono ?_; rintro e w5 ⟨rfl, hb⟩; have HX5 := hide (HX4.out.drew.below hb); have HT5 := hide (HT4.out.drew.below hb); clear q0 q1 fq0 fq1 d0 d1 fd0 fd1 z0 z1 z2 z3 z4 z5 z6 y0 y1 y2 y3 y4 y5 y6; clear a0 a1 a2 a3 a4 a5 a6 fa0 fa1 fa2 fa3 fa4 fa5 fa6; obtain ⟨⟨q0, q1⟩, fq0, fq1⟩ := HX5.out.t.cells; obtain ⟨⟨d0, d1⟩, fd0, fd1⟩ := HX5.out.d.cells; obtain ⟨z0, z1, z2, z3, z4, z5, z6⟩ := HX5.out.z.cells; obtain ⟨y0, y1, y2, y3, y4, y5, y6⟩ := HX5.out.z.frozen; obtain ⟨a0, a1, a2, a3, a4, a5, a6⟩ := HT5.out.cells; obtain ⟨fa0, fa1, fa2, fa3, fa4, fa5, fa6⟩ := HT5.out.frozen; clear hb)
      all_goals
        obtain ⟨wg, hwg, hfin⟩ := HX5.out.fin 4 (.int .i64 kind) (.string (X.tx i)) (.int .i64 num) (.bool false) (.slice none 0 0) (.slice none 0 0) (.slice none 0 0) (.int .i64 7) (.int .i64 (p : Int)) (by omega) (by omega) (by omega) (by omega) (by omega)
        rw [← hwg]
        clear hwg
        obtain ⟨hbf, hkf, u0, u1, u2, u3, u4, u5, u6, v0, v1⟩ := hfin
        have HBF := hide hbf
        have HKF := hide hkf
        clear hbf hkf
        go_wp2
        refine bodyPost_ret (v := .tuple #[.agg #[.int .i64 kind, .string (X.tx i), .int .i64 num, .bool false, .slice none 0 0, .slice none 0 0, .slice none 0 0], .int .i64 ((i : Int)), .agg #[.int .i64 7, .int .i64 (p : Int)]]) (by simp [results, Tryz.results46, go_sem, u0, u1, u2, u3, u4, u5, u6, v0, v1]) rfl ?_
        exact RefP.of _ _ _ _ _ _ _ _ _ _ _ _ _ 7 p (i) HBF.out (.inr ⟨by rw [HPP.out], by decide⟩)
    | true =>
      have hil2 := Tks.lt_of h2 (by simp)
      rw [if_pos rfl, Res.bind_ok]
      cases h3 : E (i + 1 + 1) with
      | bad Te ke =>
        rw [Res.bind_bad]
        go_enter Tryz.func46, Tryz.ntmps46
        go_upto_region 4 with (first
          | (go_at_call 24; refine (rText HX0.out.l (i)).mono ?_; rintro e w1 ⟨rfl, hb⟩; have HX1 := hide (HX0.out.below hb); have HT1 := hide (HT0.out.below hb); clear q0 q1 fq0 fq1 d0 d1 fd0 fd1 z0 z1 z2 z3 z4 z5 z6 y0 y1 y2 y3 y4 y5 y6; clear a0 a1 a2 a3 a4 a5 a6 fa0 fa1 fa2 fa3 fa4 fa5 fa6; clear HX0 HT0; obtain ⟨⟨q0, q1⟩, fq0, fq1⟩ := HX1.out.t.cells; obtain ⟨⟨d0, d1⟩, fd0, fd1⟩ := HX1.out.d.cells; obtain ⟨z0, z1, z2, z3, z4, z5, z6⟩ := HX1.out.z.cells; obtain ⟨y0, y1, y2, y3, y4, y5, y6⟩ := HX1.out.z.frozen; obtain ⟨a0, a1, a2, a3, a4, a5, a6⟩ := HT1.out.cells; obtain ⟨fa0, fa1, fa2, fa3, fa4, fa5, fa6⟩ := HT1.out.frozen; clear hb)
          | (go_at_call 26; refine (rIsName (X.tx (i)) _ (HSM.out _)).mono ?_; rw [h1]; rintro e w' ⟨rfl, hw'⟩; obtain rfl := hw'.symm; clear hw')
          | (go_at_call 24; refine (rText HX1.out.l (i)).mono ?_; rintro e w2 ⟨rfl, hb⟩; have HX2 := hide (HX1.out.below hb); have HT2 := hide (HT1.out.below hb); clear q0 q1 fq0 fq1 d0 d1 fd0 fd1 z0 z1 z2 z3 z4 z5 z6 y0 y1 y2 y3 y4 y5 y6; clear a0 a1 a2 a3 a4 a5 a6 fa0 fa1 fa2 fa3 fa4 fa5 fa6; clear HX1 HT1; obtain ⟨⟨q0, q1⟩, fq0, fq1⟩ := HX2.out.t.cells; obtain ⟨⟨d0, d1⟩, fd0, fd1⟩ := HX2.out.d.cells; obtain ⟨z0, z1, z2, z3, z4, z5, z6⟩ := HX2.out.z.cells; obtain ⟨y0, y1, y2, y3, y4, y5, y6⟩ := HX2.out.z.frozen; obtain ⟨a0, a1, a2, a3, a4, a5, a6⟩ := HT2.out.cells; obtain ⟨fa0, fa1, fa2, fa3, fa4, fa5, fa6⟩ := HT2.out.frozen; clear hb)
          )
        obtain ⟨w3, hw3⟩ : ∃ w3, w3 = w2.setCell ⟨w.heap.size + 1, 1, none⟩ (.string (X.tx i)) := ⟨_, rfl⟩
        have hoT := set_out w2 (w.heap.size + 1) 1 (.string (X.tx i))
        have HX3 := hide (HX2.out.grown hoT (by simp) (by simp) (by simp) (fun g e => by cases e; omega))
        have HT3 := hide (HT2.out.set1 (.string (X.tx i)))
        rw [← hw3] at HX3 HT3 ⊢
        clear hw3 hoT HX2 HT2
        clear q0 q1 fq0 fq1 d0 d1 fd0 fd1 z0 z1 z2 z3 z4 z5 z6 y0 y1 y2 y3 y4 y5 y6
        clear a0 a1 a2 a3 a4 a5 a6 fa0 fa1 fa2 fa3 fa4 fa5 fa6
        obtain ⟨⟨q0, q1⟩, fq0, fq1⟩ := HX3.out.t.cells
        obtain ⟨⟨d0, d1⟩, fd0, fd1⟩ := HX3.out.d.cells
        obtain ⟨z0, z1, z2, z3, z4, z5, z6⟩ := HX3.out.z.cells
        obtain ⟨y0, y1, y2, y3, y4, y5, y6⟩ := HX3.out.z.frozen
        obtain ⟨a0, a1, a2, a3, a4, a5, a6⟩ := HT3.out.cells
        obtain ⟨fa0, fa1, fa2, fa3, fa4, fa5, fa6⟩ := HT3.out.frozen
        go_upto_region 7 with (first
          | (go_at_call 24; refine (rText HX3.out.l (i + 1)).mono ?_; rintro e w4 ⟨rfl, hb⟩; have HX4 := hide (HX3.out.below hb); have HT4 := hide (HT3.out.below hb); clear q0 q1 fq0 fq1 d0 d1 fd0 fd1 z0 z1 z2 z3 z4 z5 z6 y0 y1 y2 y3 y4 y5 y6; clear a0 a1 a2 a3 a4 a5 a6 fa0 fa1 fa2 fa3 fa4 fa5 fa6; clear HX3 HT3; obtain ⟨⟨q0, q1⟩, fq0, fq1⟩ := HX4.out.t.cells; obtain ⟨⟨d0, d1⟩, fd0, fd1⟩ := HX4.out.d.cells; obtain ⟨z0, z1, z2, z3, z4, z5, z6⟩ := HX4.out.z.cells; obtain ⟨y0, y1, y2, y3, y4, y5, y6⟩ := HX4.out.z.frozen; obtain ⟨a0, a1, a2, a3, a4, a5, a6⟩ := HT4.out.cells; obtain ⟨fa0, fa1, fa2, fa3, fa4, fa5, fa6⟩ := HT4.out.frozen; clear hb)
          | (go_at_call 28; refine (HE.out w4 (i + 2) HX4.out.l (by omega)).mono ?_; rw [h3]; rintro e w5 ⟨hb, hT, v, J1, rfl, kx, nmx, nux, shx, Ax, nx, mx, Bx, px, qx, Cx, rx, sx, rfl⟩; have HNE := hide hT; have HX5 := hide (HX4.out.below hb); have HT5 := hide (HT4.out.below hb); clear q0 q1 fq0 fq1 d0 d1 fd0 fd1 z0 z1 z2 z3 z4 z5 z6 y0 y1 y2 y3 y4 y5 y6; clear a0 a1 a2 a3 a4 a5 a6 fa0 fa1 fa2 fa3 fa4 fa5 fa6; clear HX4 HT4; clear hb hT)
          )
        have hz5 : w.heap.size + 4 ≤ w5.heap.size := by have := HX5.out.d.lt; omega
        have hF6 : TwoAt 25 ((w5.alloc (.cells #[.int .i64 kx, .string nmx, .int .i64 nux, .bool shx, .slice Ax nx mx, .slice Bx px qx, .slice Cx rx sx] 47)).alloc (.cells #[.int .i64 Te, .int .i64 (ke : Int)] 25)) (w5.heap.size + 1) (.int .i64 Te) (.int .i64 (ke : Int)) := by have := TwoAt.new 25 (w5.alloc (.cells #[.int .i64 kx, .string nmx, .int .i64 nux, .bool shx, .slice Ax nx mx, .slice Bx px qx, .slice Cx rx sx] 47)) (.int .i64 Te) (.int .i64 (ke : Int)); simpa using this
        have HA6 := hide ((SevAt.new w5 (.int .i64 kx) (.string nmx) (.int .i64 nux) (.bool shx) (.slice Ax nx mx) (.slice Bx px qx) (.slice Cx rx sx)).alloc (.cells #[.int .i64 Te, .int .i64 (ke : Int)] 25))
        have HF6 := hide hF6
        have HX6 := hide ((HX5.out.alloc (.cells #[.int .i64 kx, .string nmx, .int .i64 nux, .bool shx, .slice Ax nx mx, .slice Bx px qx, .slice Cx rx sx] 47)).alloc (.cells #[.int .i64 Te, .int .i64 (ke : Int)] 25))
        have HT6 := hide ((HT5.out.alloc (.cells #[.int .i64 kx, .string nmx, .int .i64 nux, .bool shx, .slice Ax nx mx, .slice Bx px qx, .slice Cx rx sx] 47)).alloc (.cells #[.int .i64 Te, .int .i64 (ke : Int)] 25))
        have hz6 : ((w5.alloc (.cells #[.int .i64 kx, .string nmx, .int .i64 nux, .bool shx, .slice Ax nx mx, .slice Bx px qx, .slice Cx rx sx] 47)).alloc (.cells #[.int .i64 Te, .int .i64 (ke : Int)] 25)).heap.size = w5.heap.size + 2 := by simp
        have HV6 : Hid (∀ S t cs, TreeV w5 S t cs → TreeV ((w5.alloc (.cells #[.int .i64 kx, .string nmx, .int .i64 nux, .bool shx, .slice Ax nx mx, .slice Bx px qx, .slice Cx rx sx] 47)).alloc (.cells #[.int .i64 Te, .int .i64 (ke : Int)] 25)) S t cs) := fun S t cs h => TreeV.stays.keep (TreeV.stays.keep h (Keep.alloc _ _)) (Keep.alloc _ _)
        obtain ⟨w6, hw6⟩ : ∃ w6, w6 = ((w5.alloc (.cells #[.int .i64 kx, .string nmx, .int .i64 nux, .bool shx, .slice Ax nx mx, .slice Bx px qx, .slice Cx rx sx] 47)).alloc (.cells #[.int .i64 Te, .int .i64 (ke : Int)] 25)) := ⟨_, rfl⟩
        rw [← hw6] at HX6 HT6 HA6 HF6 HV6 hz6 ⊢
        clear hw6 hF6 HX5 HT5
        obtain ⟨⟨q0, q1⟩, fq0, fq1⟩ := HX6.out.t.cells
        obtain ⟨⟨d0, d1⟩, fd0, fd1⟩ := HX6.out.d.cells
        obtain ⟨z0, z1, z2, z3, z4, z5, z6⟩ := HX6.out.z.cells
        obtain ⟨y0, y1, y2, y3, y4, y5, y6⟩ := HX6.out.z.frozen
        obtain ⟨a0, a1, a2, a3, a4, a5, a6⟩ := HT6.out.cells
        obtain ⟨fa0, fa1, fa2, fa3, fa4, fa5, fa6⟩ := HT6.out.frozen
        obtain ⟨c0, c1, c2, c3, c4, c5, c6⟩ := HA6.out.cells
        obtain ⟨fc0, fc1, fc2, fc3, fc4, fc5, fc6⟩ := HA6.out.frozen
        obtain ⟨⟨g0, g1⟩, fg0, fg1⟩ := HF6.out.cells
        have hne0 : (Te == 0) = false := by have := HNE.out; simpa using this
        go_wp2
        go_region
        obtain ⟨wg, hwg, hfin⟩ := HX6.out.fin 4 (.int .i64 kind) (.string (X.tx i)) (.int .i64 num) (.bool false) (.slice none 0 0) (.slice none 0 0) (.slice none 0 0) (.int .i64 Te) (.int .i64 (ke : Int)) (by omega) (by omega) (by omega) (by omega) (by omega)
        rw [← hwg]
        replace hfin := hfin.drew
        clear hwg
        obtain ⟨wf, hwf⟩ : ∃ wf, wf = wg.drew := ⟨_, rfl⟩
        rw [← hwf] at hfin ⊢
        clear hwf
        obtain ⟨hbf, hkf, u0, u1, u2, u3, u4, u5, u6, v0, v1⟩ := hfin
        have HBF := hide hbf
        have HKF := hide hkf
        clear hbf hkf
        go_wp2
        refine bodyPost_ret (v := .tuple #[.agg #[.int .i64 kind, .string (X.tx i), .int .i64 num, .bool false, .slice none 0 0, .slice none 0 0, .slice none 0 0], .int .i64 (J1), .agg #[.int .i64 Te, .int .i64 (ke : Int)]]) (by simp [results, Tryz.results46, go_sem, u0, u1, u2, u3, u4, u5, u6, v0, v1]) rfl ?_
        exact RefP.ofJ _ _ _ _ _ _ _ _ _ _ _ _ _ Te ke J1 HBF.out (.inr ⟨rfl, HNE.out⟩)
      | ok ta j1 =>
        rw [Res.bind_ok]
        have hj1 := HEL.out _ _ _ h3
        cases h4 : ((X.tx j1).toList == wd.toList) with
        | false =>
          rw [if_neg (by simp), Res.bind_bad]
          go_enter Tryz.func46, Tryz.ntmps46
          go_upto_region 4 with (first
            | (go_at_call 24; refine (rText HX0.out.l (i)).mono ?_; rintro e w1 ⟨rfl, hb⟩; have HX1 := hide (HX0.out.below hb); have HT1 := hide (HT0.out.below hb); clear q0 q1 fq0 fq1 d0 d1 fd0 fd1 z0 z1 z2 z3 z4 z5 z6 y0 y1 y2 y3 y4 y5 y6; clear a0 a1 a2 a3 a4 a5 a6 fa0 fa1 fa2 fa3 fa4 fa5 fa6; clear HX0 HT0; obtain ⟨⟨q0, q1⟩, fq0, fq1⟩ := HX1.out.t.cells; obtain ⟨⟨d0, d1⟩, fd0, fd1⟩ := HX1.out.d.cells; obtain ⟨z0, z1, z2, z3, z4, z5, z6⟩ := HX1.out.z.cells; obtain ⟨y0, y1, y2, y3, y4, y5, y6⟩ := HX1.out.z.frozen; obtain ⟨a0, a1, a2, a3, a4, a5, a6⟩ := HT1.out.cells; obtain ⟨fa0, fa1, fa2, fa3, fa4, fa5, fa6⟩ := HT1.out.frozen; clear hb)
            | (go_at_call 26; refine (rIsName (X.tx (i)) _ (HSM.out _)).mono ?_; rw [h1]; rintro e w' ⟨rfl, hw'⟩; obtain rfl := hw'.symm; clear hw')
            | (go_at_call 24; refine (rText HX1.out.l (i)).mono ?_; rintro e w2 ⟨rfl, hb⟩; have HX2 := hide (HX1.out.below hb); have HT2 := hide (HT1.out.below hb); clear q0 q1 fq0 fq1 d0 d1 fd0 fd1 z0 z1 z2 z3 z4 z5 z6 y0 y1 y2 y3 y4 y5 y6; clear a0 a1 a2 a3 a4 a5 a6 fa0 fa1 fa2 fa3 fa4 fa5 fa6; clear HX1 HT1; obtain ⟨⟨q0, q1⟩, fq0, fq1⟩ := HX2.out.t.cells; obtain ⟨⟨d0, d1⟩, fd0, fd1⟩ := HX2.out.d.cells; obtain ⟨z0, z1, z2, z3, z4, z5, z6⟩ := HX2.out.z.cells; obtain ⟨y0, y1, y2, y3, y4, y5, y6⟩ := HX2.out.z.frozen; obtain ⟨a0, a1, a2, a3, a4, a5, a6⟩ := HT2.out.cells; obtain ⟨fa0, fa1, fa2, fa3, fa4, fa5, fa6⟩ := HT2.out.frozen; clear hb)
            )
          obtain ⟨w3, hw3⟩ : ∃ w3, w3 = w2.setCell ⟨w.heap.size + 1, 1, none⟩ (.string (X.tx i)) := ⟨_, rfl⟩
          have hoT := set_out w2 (w.heap.size + 1) 1 (.string (X.tx i))
          have HX3 := hide (HX2.out.grown hoT (by simp) (by simp) (by simp) (fun g e => by cases e; omega))
          have HT3 := hide (HT2.out.set1 (.string (X.tx i)))
          rw [← hw3] at HX3 HT3 ⊢
          clear hw3 hoT HX2 HT2
          clear q0 q1 fq0 fq1 d0 d1 fd0 fd1 z0 z1 z2 z3 z4 z5 z6 y0 y1 y2 y3 y4 y5 y6
          clear a0 a1 a2 a3 a4 a5 a6 fa0 fa1 fa2 fa3 fa4 fa5 fa6
          obtain ⟨⟨q0, q1⟩, fq0, fq1⟩ := HX3.out.t.cells
          obtain ⟨⟨d0, d1⟩, fd0, fd1⟩ := HX3.out.d.cells
          obtain ⟨z0, z1, z2, z3, z4, z5, z6⟩ := HX3.out.z.cells
          obtain ⟨y0, y1, y2, y3, y4, y5, y6⟩ := HX3.out.z.frozen
          obtain ⟨a0, a1, a2, a3, a4, a5, a6⟩ := HT3.out.cells
          obtain ⟨fa0, fa1, fa2, fa3, fa4, fa5, fa6⟩ := HT3.out.frozen
          go_upto_region 7 with (first
            | (go_at_call 24; refine (rText HX3.out.l (i + 1)).mono ?_; rintro e w4 ⟨rfl, hb⟩; have HX4 := hide (HX3.out.below hb); have HT4 := hide (HT3.out.below hb); clear q0 q1 fq0 fq1 d0 d1 fd0 fd1 z0 z1 z2 z3 z4 z5 z6 y0 y1 y2 y3 y4 y5 y6; clear a0 a1 a2 a3 a4 a5 a6 fa0 fa1 fa2 fa3 fa4 fa5 fa6; clear HX3 HT3; obtain ⟨⟨q0, q1⟩, fq0, fq1⟩ := HX4.out.t.cells; obtain ⟨⟨d0, d1⟩, fd0, fd1⟩ := HX4.out.d.cells; obtain ⟨z0, z1, z2, z3, z4, z5, z6⟩ := HX4.out.z.cells; obtain ⟨y0, y1, y2, y3, y4, y5, y6⟩ := HX4.out.z.frozen; obtain ⟨a0, a1, a2, a3, a4, a5, a6⟩ := HT4.out.cells; obtain ⟨fa0, fa1, fa2, fa3, fa4, fa5, fa6⟩ := HT4.out.frozen; clear hb)
            | (go_at_call 28; refine (HE.out w4 (i + 2) HX4.out.l (by omega)).mono ?_; rw [h3]; rintro e w5 ⟨hb, v, rfl, kx, nmx, nux, shx, Ax, nx, mx, Bx, px, qx, Cx, rx, sx, rfl, htr⟩; have HV5 := hide htr; have hz4 : w.heap.size + 4 ≤ w4.heap.size := (by have := HX4.out.d.lt; omega); have HX5 := hide (HX4.out.below hb); have HT5 := hide (HT4.out.below hb); clear q0 q1 fq0 fq1 d0 d1 fd0 fd1 z0 z1 z2 z3 z4 z5 z6 y0 y1 y2 y3 y4 y5 y6; clear a0 a1 a2 a3 a4 a5 a6 fa0 fa1 fa2 fa3 fa4 fa5 fa6; clear HX4 HT4; clear hb htr)
            )
          have hz5 : w.heap.size + 4 ≤ w5.heap.size := by have := HX5.out.d.lt; omega
          have hF6 : TwoAt 25 ((w5.alloc (.cells #[.int .i64 kx, .string nmx, .int .i64 nux, .bool shx, .slice Ax nx mx, .slice Bx px qx, .slice Cx rx sx] 47)).alloc (.cells #[.int .i64 0, .int .i64 0] 25)) (w5.heap.size + 1) (.int .i64 0) (.int .i64 0) := by have := TwoAt.new 25 (w5.alloc (.cells #[.int .i64 kx, .string nmx, .int .i64 nux, .bool shx, .slice Ax nx mx, .slice Bx px qx, .slice Cx rx sx] 47)) (.int .i64 0) (.int .i64 0); simpa using this
          have HA6 := hide ((SevAt.new w5 (.int .i64 kx) (.string nmx) (.int .i64 nux) (.bool shx) (.slice Ax nx mx) (.slice Bx px qx) (.slice Cx rx sx)).alloc (.cells #[.int .i64 0, .int .i64 0] 25))
          have HF6 := hide hF6
          have HX6 := hide ((HX5.out.alloc (.cells #[.int .i64 kx, .string nmx, .int .i64 nux, .bool shx, .slice Ax nx mx, .slice Bx px qx, .slice Cx rx sx] 47)).alloc (.cells #[.int .i64 0, .int .i64 0] 25))
          have HT6 := hide ((HT5.out.alloc (.cells #[.int .i64 kx, .string nmx, .int .i64 nux, .bool shx, .slice Ax nx mx, .slice Bx px qx, .slice Cx rx sx] 47)).alloc (.cells #[.int .i64 0, .int .i64 0] 25))
          have hz6 : ((w5.alloc (.cells #[.int .i64 kx, .string nmx, .int .i64 nux, .bool shx, .slice Ax nx mx, .slice Bx px qx, .slice Cx rx sx] 47)).alloc (.cells #[.int .i64 0, .int .i64 0] 25)).heap.size = w5.heap.size + 2 := by simp
          have HV6 : Hid (∀ S t cs, TreeV w5 S t cs → TreeV ((w5.alloc (.cells #[.int .i64 kx, .string nmx, .int .i64 nux, .bool shx, .slice Ax nx mx, .slice Bx px qx, .slice Cx rx sx] 47)).alloc (.cells #[.int .i64 0, .int .i64 0] 25)) S t cs) := fun S t cs h => TreeV.stays.keep (TreeV.stays.keep h (Keep.alloc _ _)) (Keep.alloc _ _)
          obtain ⟨w6, hw6⟩ : ∃ w6, w6 = ((w5.alloc (.cells #[.int .i64 kx, .string nmx, .int .i64 nux, .bool shx, .slice Ax nx mx, .slice Bx px qx, .slice Cx rx sx] 47)).alloc (.cells #[.int .i64 0, .int .i64 0] 25)) := ⟨_, rfl⟩
          rw [← hw6] at HX6 HT6 HA6 HF6 HV6 hz6 ⊢
          clear hw6 hF6 HX5 HT5
          obtain ⟨⟨q0, q1⟩, fq0, fq1⟩ := HX6.out.t.cells
          obtain ⟨⟨d0, d1⟩, fd0, fd1⟩ := HX6.out.d.cells
          obtain ⟨z0, z1, z2, z3, z4, z5, z6⟩ := HX6.out.z.cells
          obtain ⟨y0, y1, y2, y3, y4, y5, y6⟩ := HX6.out.z.frozen
          obtain ⟨a0, a1, a2, a3, a4, a5, a6⟩ := HT6.out.cells
          obtain ⟨fa0, fa1, fa2, fa3, fa4, fa5, fa6⟩ := HT6.out.frozen
          obtain ⟨c0, c1, c2, c3, c4, c5, c6⟩ := HA6.out.cells
          obtain ⟨fc0, fc1, fc2, fc3, fc4, fc5, fc6⟩ := HA6.out.frozen
          obtain ⟨⟨g0, g1⟩, fg0, fg1⟩ := HF6.out.cells
          go_wp2_with (first
            | (go_at_call 24; refine (rText HX6.out.l (j1)).mono ?_; rintro e w7 ⟨rfl, hb⟩; have HX7 := hide (HX6.out.below hb); have HT7 := hide (HT6.out.below hb); have HA7 := hide (HA6.out.below hb); have HF7 := hide (HF6.out.below hb); clear q0 q1 fq0 fq1 d0 d1 fd0 fd1 z0 z1 z2 z3 z4 z5 z6 y0 y1 y2 y3 y4 y5 y6; clear a0 a1 a2 a3 a4 a5 a6 fa0 fa1 fa2 fa3 fa4 fa5 fa6; clear c0 c1 c2 c3 c4 c5 c6 fc0 fc1 fc2 fc3 fc4 fc5 fc6; clear g0 g1 fg0 fg1; clear HX6 HT6 HA6 HF6; obtain ⟨⟨q0, q1⟩, fq0, fq1⟩ := HX7.out.t.cells; obtain ⟨⟨d0, d1⟩, fd0, fd1⟩ := HX7.out.d.cells; obtain ⟨z0, z1, z2, z3, z4, z5, z6⟩ := HX7.out.z.cells; obtain ⟨y0, y1, y2, y3, y4, y5, y6⟩ := HX7.out.z.frozen; obtain ⟨a0, a1, a2, a3, a4, a5, a6⟩ := HT7.out.cells; obtain ⟨fa0, fa1, fa2, fa3, fa4, fa5, fa6⟩ := HT7.out.frozen; obtain ⟨c0, c1, c2, c3, c4, c5, c6⟩ := HA7.out.cells; obtain ⟨fc0, fc1, fc2, fc3, fc4, fc5, fc6⟩ := HA7.out.frozen; obtain ⟨⟨g0, g1⟩, fg0, fg1⟩ := HF7.out.cells; clear hb)
            )
          obtain ⟨p, hp⟩ : ∃ p, p = X.ps (j1) := ⟨_, rfl⟩
          have HBA := hide (rBad (X := X) (A := A) (c := c) (w := w7.drew) HX7.out.drew.l (j1))
          rw [← hp] at HBA 
          have HPP := hide hp
          clear hp
          go_region_with (go_at_call 25; refine HBA.out.mono ?_; rintro e w8 ⟨rfl, hb⟩; have HX8 := hide (HX7.out.drew.below hb); have HT8 := hide (HT7.out.drew.below hb); have HA8 := hide (HA7.out.drew.below hb); have HF8 := hide (HF7.out.drew.below hb); clear q0 q1 fq0 fq1 d0 d1 fd0 fd1 z0 z1 z2 z3 z4 z5 z6 y0 y1 y2 y3 y4 y5 y6; clear a0 a1 a2 a3 a4 a5 a6 fa0 fa1 fa2 fa3 fa4 fa5 fa6; clear c0 c1 c2 c3 c4 c5 c6 fc0 fc1 fc2 fc3 fc4 fc5 fc6; clear g0 g1 fg0 fg1; obtain ⟨⟨q0, q1⟩, fq0, fq1⟩ := HX8.out.t.cells; obtain ⟨⟨d0, d1⟩, fd0, fd1⟩ := HX8.out.d.cells; obtain ⟨z0, z1, z2, z3, z4, z5, z6⟩ := HX8.out.z.cells; obtain ⟨y0, y1, y2, y3, y4, y5, y6⟩ := HX8.out.z.frozen; obtain ⟨a0, a1, a2, a3, a4, a5, a6⟩ := HT8.out.cells; obtain ⟨fa0, fa1, fa2, fa3, fa4, fa5, fa6⟩ := HT8.out.frozen; obtain ⟨c0, c1, c2, c3, c4, c5, c6⟩ := HA8.out.cells; obtain ⟨fc0, fc1, fc2, fc3, fc4, fc5, fc6⟩ := HA8.out.frozen; obtain ⟨⟨g0, g1⟩, fg0, fg1⟩ := HF8.out.cells; clear hb)
          all_goals
            obtain ⟨wg, hwg, hfin⟩ := HX8.out.fin 4 (.int .i64 kind) (.string (X.tx i)) (.int .i64 num) (.bool false) (.slice none 0 0) (.slice none 0 0) (.slice none 0 0) (.int .i64 7) (.int .i64 (p : Int)) (by omega) (by omega) (by omega) (by omega) (by omega)
            rw [← hwg]
            clear hwg
            obtain ⟨hbf, hkf, u0, u1, u2, u3, u4, u5, u6, v0, v1⟩ := hfin
            have HBF := hide hbf
            have HKF := hide hkf
            clear hbf hkf
            go_wp2
            refine bodyPost_ret (v := .tuple #[.agg #[.int .i64 kind, .string (X.tx i), .int .i64 num, .bool false, .slice none 0 0, .slice none 0 0, .slice none 0 0], .int .i64 ((j1 : Int)), .agg #[.int .i64 7, .int .i64 (p : Int)]]) (by simp [results, Tryz.results46, go_sem, u0, u1, u2, u3, u4, u5, u6, v0, v1]) rfl ?_
            exact RefP.of _ _ _ _ _ _ _ _ _ _ _ _ _ 7 p (j1) HBF.out (.inr ⟨by rw [HPP.out], by decide⟩)
        | true =>
          have hj1l := Tks.lt_of h4 hwd
          rw [if_pos rfl, Res.bind_ok]
          go_enter Tryz.func46, Tryz.ntmps46
          go_upto_region 4 with (first
            | (go_at_call 24; refine (rText HX0.out.l (i)).mono ?_; rintro e w1 ⟨rfl, hb⟩; have HX1 := hide (HX0.out.below hb); have HT1 := hide (HT0.out.below hb); clear q0 q1 fq0 fq1 d0 d1 fd0 fd1 z0 z1 z2 z3 z4 z5 z6 y0 y1 y2 y3 y4 y5 y6; clear a0 a1 a2 a3 a4 a5 a6 fa0 fa1 fa2 fa3 fa4 fa5 fa6; clear HX0 HT0; obtain ⟨⟨q0, q1⟩, fq0, fq1⟩ := HX1.out.t.cells; obtain ⟨⟨d0, d1⟩, fd0, fd1⟩ := HX1.out.d.cells; obtain ⟨z0, z1, z2, z3, z4, z5, z6⟩ := HX1.out.z.cells; obtain ⟨y0, y1, y2, y3, y4, y5, y6⟩ := HX1.out.z.frozen; obtain ⟨a0, a1, a2, a3, a4, a5, a6⟩ := HT1.out.cells; obtain ⟨fa0, fa1, fa2, fa3, fa4, fa5, fa6⟩ := HT1.out.frozen; clear hb)
            | (go_at_call 26; refine (rIsName (X.tx (i)) _ (HSM.out _)).mono ?_; rw [h1]; rintro e w' ⟨rfl, hw'⟩; obtain rfl := hw'.symm; clear hw')
            | (go_at_call 24; refine (rText HX1.out.l (i)).mono ?_; rintro e w2 ⟨rfl, hb⟩; have HX2 := hide (HX1.out.below hb); have HT2 := hide (HT1.out.below hb); clear q0 q1 fq0 fq1 d0 d1 fd0 fd1 z0 z1 z2 z3 z4 z5 z6 y0 y1 y2 y3 y4 y5 y6; clear a0 a1 a2 a3 a4 a5 a6 fa0 fa1 fa2 fa3 fa4 fa5 fa6; clear HX1 HT1; obtain ⟨⟨q0, q1⟩, fq0, fq1⟩ := HX2.out.t.cells; obtain ⟨⟨d0, d1⟩, fd0, fd1⟩ := HX2.out.d.cells; obtain ⟨z0, z1, z2, z3, z4, z5, z6⟩ := HX2.out.z.cells; obtain ⟨y0, y1, y2, y3, y4, y5, y6⟩ := HX2.out.z.frozen; obtain ⟨a0, a1, a2, a3, a4, a5, a6⟩ := HT2.out.cells; obtain ⟨fa0, fa1, fa2, fa3, fa4, fa5, fa6⟩ := HT2.out.frozen; clear hb)
            )
          obtain ⟨w3, hw3⟩ : ∃ w3, w3 = w2.setCell ⟨w.heap.size + 1, 1, none⟩ (.string (X.tx i)) := ⟨_, rfl⟩
          have hoT := set_out w2 (w.heap.size + 1) 1 (.string (X.tx i))
          have HX3 := hide (HX2.out.grown hoT (by simp) (by simp) (by simp) (fun g e => by cases e; omega))
          have HT3 := hide (HT2.out.set1 (.string (X.tx i)))
          rw [← hw3] at HX3 HT3 ⊢
          clear hw3 hoT HX2 HT2
          clear q0 q1 fq0 fq1 d0 d1 fd0 fd1 z0 z1 z2 z3 z4 z5 z6 y0 y1 y2 y3 y4 y5 y6
          clear a0 a1 a2 a3 a4 a5 a6 fa0 fa1 fa2 fa3 fa4 fa5 fa6
          obtain ⟨⟨q0, q1⟩, fq0, fq1⟩ := HX3.out.t.cells
          obtain ⟨⟨d0, d1⟩, fd0, fd1⟩ := HX3.out.d.cells
          obtain ⟨z0, z1, z2, z3, z4, z5, z6⟩ := HX3.out.z.cells
          obtain ⟨y0, y1, y2, y3, y4, y5, y6⟩ := HX3.out.z.frozen
          obtain ⟨a0, a1, a2, a3, a4, a5, a6⟩ := HT3.out.cells
          obtain ⟨fa0, fa1, fa2, fa3, fa4, fa5, fa6⟩ := HT3.out.frozen
          go_upto_region 7 with (first
            | (go_at_call 24; refine (rText HX3.out.l (i + 1)).mono ?_; rintro e w4 ⟨rfl, hb⟩; have HX4 := hide (HX3.out.below hb); have HT4 := hide (HT3.out.below hb); clear q0 q1 fq0 fq1 d0 d1 fd0 fd1 z0 z1 z2 z3 z4 z5 z6 y0 y1 y2 y3 y4 y5 y6; clear a0 a1 a2 a3 a4 a5 a6 fa0 fa1 fa2 fa3 fa4 fa5 fa6; clear HX3 HT3; obtain ⟨⟨q0, q1⟩, fq0, fq1⟩ := HX4.out.t.cells; obtain ⟨⟨d0, d1⟩, fd0, fd1⟩ := HX4.out.d.cells; obtain ⟨z0, z1, z2, z3, z4, z5, z6⟩ := HX4.out.z.cells; obtain ⟨y0, y1, y2, y3, y4, y5, y6⟩ := HX4.out.z.frozen; obtain ⟨a0, a1, a2, a3, a4, a5, a6⟩ := HT4.out.cells; obtain ⟨fa0, fa1, fa2, fa3, fa4, fa5, fa6⟩ := HT4.out.frozen; clear hb)
            | (go_at_call 28; refine (HE.out w4 (i + 2) HX4.out.l (by omega)).mono ?_; rw [h3]; rintro e w5 ⟨hb, v, rfl, kx, nmx, nux, shx, Ax, nx, mx, Bx, px, qx, Cx, rx, sx, rfl, htr⟩; have HV5 := hide htr; have hz4 : w.heap.size + 4 ≤ w4.heap.size := (by have := HX4.out.d.lt; omega); have HX5 := hide (HX4.out.below hb); have HT5 := hide (HT4.out.below hb); clear q0 q1 fq0 fq1 d0 d1 fd0 fd1 z0 z1 z2 z3 z4 z5 z6 y0 y1 y2 y3 y4 y5 y6; clear a0 a1 a2 a3 a4 a5 a6 fa0 fa1 fa2 fa3 fa4 fa5 fa6; clear HX4 HT4; clear hb htr)
            )
          have hz5 : w.heap.size + 4 ≤ w5.heap.size := by have := HX5.out.d.lt; omega
          have hF6 : TwoAt 25 ((w5.alloc (.cells #[.int .i64 kx, .string nmx, .int .i64 nux, .bool shx, .slice Ax nx mx, .slice Bx px qx, .slice Cx rx sx] 47)).alloc (.cells #[.int .i64 0, .int .i64 0] 25)) (w5.heap.size + 1) (.int .i64 0) (.int .i64 0) := by have := TwoAt.new 25 (w5.alloc (.cells #[.int .i64 kx, .string nmx, .int .i64 nux, .bool shx, .slice Ax nx mx, .slice Bx px qx, .slice Cx rx sx] 47)) (.int .i64 0) (.int .i64 0); simpa using this
          have HA6 := hide ((SevAt.new w5 (.int .i64 kx) (.string nmx) (.int .i64 nux) (.bool shx) (.slice Ax nx mx) (.slice Bx px qx) (.slice Cx rx sx)).alloc (.cells #[.int .i64 0, .int .i64 0] 25))
          have HF6 := hide hF6
          have HX6 := hide ((HX5.out.alloc (.cells #[.int .i64 kx, .string nmx, .int .i64 nux, .bool shx, .slice Ax nx mx, .slice Bx px qx, .slice Cx rx sx] 47)).alloc (.cells #[.int .i64 0, .int .i64 0] 25))
          have HT6 := hide ((HT5.out.alloc (.cells #[.int .i64 kx, .string nmx, .int .i64 nux, .bool shx, .slice Ax nx mx, .slice Bx px qx, .slice Cx rx sx] 47)).alloc (.cells #[.int .i64 0, .int .i64 0] 25))
          have hz6 : ((w5.alloc (.cells #[.int .i64 kx, .string nmx, .int .i64 nux, .bool shx, .slice Ax nx mx, .slice Bx px qx, .slice Cx rx sx] 47)).alloc (.cells #[.int .i64 0, .int .i64 0] 25)).heap.size = w5.heap.size + 2 := by simp
          have HV6 : Hid (∀ S t cs, TreeV w5 S t cs → TreeV ((w5.alloc (.cells #[.int .i64 kx, .string nmx, .int .i64 nux, .bool shx, .slice Ax nx mx, .slice Bx px qx, .slice Cx rx sx] 47)).alloc (.cells #[.int .i64 0, .int .i64 0] 25)) S t cs) := fun S t cs h => TreeV.stays.keep (TreeV.stays.keep h (Keep.alloc _ _)) (Keep.alloc _ _)
          obtain ⟨w6, hw6⟩ : ∃ w6, w6 = ((w5.alloc (.cells #[.int .i64 kx, .string nmx, .int .i64 nux, .bool shx, .slice Ax nx mx, .slice Bx px qx, .slice Cx rx sx] 47)).alloc (.cells #[.int .i64 0, .int .i64 0] 25)) := ⟨_, rfl⟩
          rw [← hw6] at HX6 HT6 HA6 HF6 HV6 hz6 ⊢
          clear hw6 hF6 HX5 HT5
          obtain ⟨⟨q0, q1⟩, fq0, fq1⟩ := HX6.out.t.cells
          obtain ⟨⟨d0, d1⟩, fd0, fd1⟩ := HX6.out.d.cells
          obtain ⟨z0, z1, z2, z3, z4, z5, z6⟩ := HX6.out.z.cells
          obtain ⟨y0, y1, y2, y3, y4, y5, y6⟩ := HX6.out.z.frozen
          obtain ⟨a0, a1, a2, a3, a4, a5, a6⟩ := HT6.out.cells
          obtain ⟨fa0, fa1, fa2, fa3, fa4, fa5, fa6⟩ := HT6.out.frozen
          obtain ⟨c0, c1, c2, c3, c4, c5, c6⟩ := HA6.out.cells
          obtain ⟨fc0, fc1, fc2, fc3, fc4, fc5, fc6⟩ := HA6.out.frozen
          obtain ⟨⟨g0, g1⟩, fg0, fg1⟩ := HF6.out.cells
          go_upto_region 12 with (first
            | (go_at_call 24; refine (rText HX6.out.l (j1)).mono ?_; rintro e w7 ⟨rfl, hb⟩; have HX7 := hide (HX6.out.below hb); have HT7 := hide (HT6.out.below hb); have HA7 := hide (HA6.out.below hb); have HF7 := hide (HF6.out.below hb); clear q0 q1 fq0 fq1 d0 d1 fd0 fd1 z0 z1 z2 z3 z4 z5 z6 y0 y1 y2 y3 y4 y5 y6; clear a0 a1 a2 a3 a4 a5 a6 fa0 fa1 fa2 fa3 fa4 fa5 fa6; clear c0 c1 c2 c3 c4 c5 c6 fc0 fc1 fc2 fc3 fc4 fc5 fc6; clear g0 g1 fg0 fg1; clear HX6 HT6 HA6 HF6; obtain ⟨⟨q0, q1⟩, fq0, fq1⟩ := HX7.out.t.cells; obtain ⟨⟨d0, d1⟩, fd0, fd1⟩ := HX7.out.d.cells; obtain ⟨z0, z1, z2, z3, z4, z5, z6⟩ := HX7.out.z.cells; obtain ⟨y0, y1, y2, y3, y4, y5, y6⟩ := HX7.out.z.frozen; obtain ⟨a0, a1, a2, a3, a4, a5, a6⟩ := HT7.out.cells; obtain ⟨fa0, fa1, fa2, fa3, fa4, fa5, fa6⟩ := HT7.out.frozen; obtain ⟨c0, c1, c2, c3, c4, c5, c6⟩ := HA7.out.cells; obtain ⟨fc0, fc1, fc2, fc3, fc4, fc5, fc6⟩ := HA7.out.frozen; obtain ⟨⟨g0, g1⟩, fg0, fg1⟩ := HF7.out.cells; have HB7 := hide hb; clear hb)
            | (go_at_call 28; refine (HE.out w7 (j1 + 1) HX7.out.l (by omega)).mono ?_; intro e w8 hr; obtain ⟨hb, ky, nmy, nuy, shy, Ay, ny, my, By, py, qy, Cy, ry, sy, E2, K2, J2, rfl, hst⟩ := hr.any; have HST := hide hst; have HV8 := hide (TreeV.stays.keep (TreeV.stays.keep (HV6.out _ _ _ (TreeV.stays.weaken HV5.out (S' := fun b => w.heap.size + 4 ≤ b ∧ b ≠ w5.heap.size + 1) (fun b hl hf => ⟨by have h9 : w4.heap.size ≤ b := hf; omega, by omega⟩))) (Keep.of_below HB7.out)) (Keep.of_below hb)); have HX8 := hide (HX7.out.below hb); have HT8 := hide (HT7.out.below hb); have HA8 := hide (HA7.out.below hb); have HF8 := hide (HF7.out.below hb); clear q0 q1 fq0 fq1 d0 d1 fd0 fd1 z0 z1 z2 z3 z4 z5 z6 y0 y1 y2 y3 y4 y5 y6; clear a0 a1 a2 a3 a4 a5 a6 fa0 fa1 fa2 fa3 fa4 fa5 fa6; clear c0 c1 c2 c3 c4 c5 c6 fc0 fc1 fc2 fc3 fc4 fc5 fc6; clear g0 g1 fg0 fg1; clear HX7 HT7 HA7 HF7; obtain ⟨⟨q0, q1⟩, fq0, fq1⟩ := HX8.out.t.cells; obtain ⟨⟨d0, d1⟩, fd0, fd1⟩ := HX8.out.d.cells; obtain ⟨z0, z1, z2, z3, z4, z5, z6⟩ := HX8.out.z.cells; obtain ⟨y0, y1, y2, y3, y4, y5, y6⟩ := HX8.out.z.frozen; obtain ⟨a0, a1, a2, a3, a4, a5, a6⟩ := HT8.out.cells; obtain ⟨fa0, fa1, fa2, fa3, fa4, fa5, fa6⟩ := HT8.out.frozen; obtain ⟨c0, c1, c2, c3, c4, c5, c6⟩ := HA8.out.cells; obtain ⟨fc0, fc1, fc2, fc3, fc4, fc5, fc6⟩ := HA8.out.frozen; obtain ⟨⟨g0, g1⟩, fg0, fg1⟩ := HF8.out.cells; obtain ⟨⟨h0, h1⟩, fh0, fh1⟩ := (HF8.out.alloc (.cells #[.int .i64 ky, .string nmy, .int .i64 nuy, .bool shy, .slice Ay ny my, .slice By py qy, .slice Cy ry sy] 47)).cells; clear hb hr hst)
            )
          have hoF := TwoAt.out (w := w8.alloc (.cells #[.int .i64 ky, .string nmy, .int .i64 nuy, .bool shy, .slice Ay ny my, .slice By py qy, .slice Cy ry sy] 47)) (b := w5.heap.size + 1) (.int .i64 E2) (.int .i64 (K2 : Int))
          have hz8 : w5.heap.size + 2 ≤ w8.heap.size := by have := HF8.out.lt; have := HA8.out.lt; omega
          skip
          have HX9 := hide ((HX8.out.alloc (.cells #[.int .i64 ky, .string nmy, .int .i64 nuy, .bool shy, .slice Ay ny my, .slice By py qy, .slice Cy ry sy] 47)).grown hoF (by simp; omega) (by simp; omega) (by simp; omega) (fun g e => by cases e; omega))
          have HT9 := hide ((HT8.out.alloc (.cells #[.int .i64 ky, .string nmy, .int .i64 nuy, .bool shy, .slice Ay ny my, .slice By py qy, .slice Cy ry sy] 47)).grown hoF (by simp; omega))
          have HA9 := hide ((HA8.out.alloc (.cells #[.int .i64 ky, .string nmy, .int .i64 nuy, .bool shy, .slice Ay ny my, .slice By py qy, .slice Cy ry sy] 47)).grown hoF (by simp))
          have HF9 := hide ((HF8.out.alloc (.cells #[.int .i64 ky, .string nmy, .int .i64 nuy, .bool shy, .slice Ay ny my, .slice By py qy, .slice Cy ry sy] 47)).put (.int .i64 E2) (.int .i64 (K2 : Int)))
          have HB9 := hide ((SevAt.new w8 (.int .i64 ky) (.string nmy) (.int .i64 nuy) (.bool shy) (.slice Ay ny my) (.slice By py qy) (.slice Cy ry sy)).grown hoF (by simp; omega))
          have HK9 : Hid (Keep (fun b => w.heap.size + 4 ≤ b ∧ b ≠ w5.heap.size + 1) w8 (((w8.alloc (.cells #[.int .i64 ky, .string nmy, .int .i64 nuy, .bool shy, .slice Ay ny my, .slice By py qy, .slice Cy ry sy] 47)).setCell ⟨w5.heap.size + 1, 0, none⟩ (.int .i64 E2)).setCell ⟨w5.heap.size + 1, 1, none⟩ (.int .i64 (K2 : Int)))) := (Keep.alloc _ _).trans (Keep.of_grown hoF (fun b hb _ => by have := hb.2; simp; omega))
          have hz9 : w8.heap.size < (((w8.alloc (.cells #[.int .i64 ky, .string nmy, .int .i64 nuy, .bool shy, .slice Ay ny my, .slice By py qy, .slice Cy ry sy] 47)).setCell ⟨w5.heap.size + 1, 0, none⟩ (.int .i64 E2)).setCell ⟨w5.heap.size + 1, 1, none⟩ (.int .i64 (K2 : Int))).heap.size := by simp [World.setCell]
          obtain ⟨w9, hw9⟩ : ∃ w9, w9 = ((w8.alloc (.cells #[.int .i64 ky, .string nmy, .int .i64 nuy, .bool shy, .slice Ay ny my, .slice By py qy, .slice Cy ry sy] 47)).setCell ⟨w5.heap.size + 1, 0, none⟩ (.int .i64 E2)).setCell ⟨w5.heap.size + 1, 1, none⟩ (.int .i64 (K2 : Int)) := ⟨_, rfl⟩
          rw [← hw9] at HX9 HT9 HA9 HF9 HB9 HK9 hz9 ⊢
          clear hw9 hoF HX8 HT8 HA8 HF8
          clear q0 q1 fq0 fq1 d0 d1 fd0 fd1 z0 z1 z2 z3 z4 z5 z6 y0 y1 y2 y3 y4 y5 y6; clear a0 a1 a2 a3 a4 a5 a6 fa0 fa1 fa2 fa3 fa4 fa5 fa6; clear c0 c1 c2 c3 c4 c5 c6 fc0 fc1 fc2 fc3 fc4 fc5 fc6; clear g0 g1 fg0 fg1; clear h0 h1 fh0 fh1
          obtain ⟨c0, c1, c2, c3, c4, c5, c6⟩ := HA9.out.cells
          obtain ⟨e0, e1, e2, e3, e4, e5, e6⟩ := HB9.out.cells
          obtain ⟨a0, a1, a2, a3, a4, a5, a6⟩ := (HT9.out.alloc (.cells #[.int .i64 kx, .string nmx, .int .i64 nux, .bool shx, .slice Ax nx mx, .slice Bx px qx, .slice Cx rx sx, .int .i64 ky, .string nmy, .int .i64 nuy, .bool shy, .slice Ay ny my, .slice By py qy, .slice Cy ry sy] 47)).cells; obtain ⟨fa0, fa1, fa2, fa3, fa4, fa5, fa6⟩ := (HT9.out.alloc (.cells #[.int .i64 kx, .string nmx, .int .i64 nux, .bool shx, .slice Ax nx mx, .slice Bx px qx, .slice Cx rx sx, .int .i64 ky, .string nmy, .int .i64 nuy, .bool shy, .slice Ay ny my, .slice By py qy, .slice Cy ry sy] 47)).frozen
          go_upto_region 13 with fail
          have hoE := set_out (w9.alloc (.cells #[.int .i64 kx, .string nmx, .int .i64 nux, .bool shx, .slice Ax nx mx, .slice Bx px qx, .slice Cx rx sx, .int .i64 ky, .string nmy, .int .i64 nuy, .bool shy, .slice Ay ny my, .slice By py qy, .slice Cy ry sy] 47)) (w.heap.size + 1) 6 (.slice (some ⟨w9.heap.size, 0, none⟩) 2 2)
          have HXE := hide ((HX9.out.alloc (.cells #[.int .i64 kx, .string nmx, .int .i64 nux, .bool shx, .slice Ax nx mx, .slice Bx px qx, .slice Cx rx sx, .int .i64 ky, .string nmy, .int .i64 nuy, .bool shy, .slice Ay ny my, .slice By py qy, .slice Cy ry sy] 47)).grown hoE (by simp) (by simp) (by simp) (fun g e => by cases e; omega))
          have HTE := hide ((HT9.out.alloc (.cells #[.int .i64 kx, .string nmx, .int .i64 nux, .bool shx, .slice Ax nx mx, .slice Bx px qx, .slice Cx rx sx, .int .i64 ky, .string nmy, .int .i64 nuy, .bool shy, .slice Ay ny my, .slice By py qy, .slice Cy ry sy] 47)).set6 (.slice (some ⟨w9.heap.size, 0, none⟩) 2 2))
          have HFE := hide ((HF9.out.alloc (.cells #[.int .i64 kx, .string nmx, .int .i64 nux, .bool shx, .slice Ax nx mx, .slice Bx px qx, .slice Cx rx sx, .int .i64 ky, .string nmy, .int .i64 nuy, .bool shy, .slice Ay ny my, .slice By py qy, .slice Cy ry sy] 47)).grown hoE (by simp; omega))
          have HBE : Hid (((w9.alloc (.cells #[.int .i64 kx, .string nmx, .int .i64 nux, .bool shx, .slice Ax nx mx, .slice Bx px qx, .slice Cx rx sx, .int .i64 ky, .string nmy, .int .i64 nuy, .bool shy, .slice Ay ny my, .slice By py qy, .slice Cy ry sy] 47)).setCell ⟨w.heap.size + 1, 6, none⟩ (.slice (some ⟨w9.heap.size, 0, none⟩) 2 2)).heap[w9.heap.size]? = some (.cells #[.int .i64 kx, .string nmx, .int .i64 nux, .bool shx, .slice Ax nx mx, .slice Bx px qx, .slice Cx rx sx, .int .i64 ky, .string nmy, .int .i64 nuy, .bool shy, .slice Ay ny my, .slice By py qy, .slice Cy ry sy] 47 (0, 0))) := (hoE.block w9.heap.size (by simp) (by simp; omega)).trans (World.alloc_heap_new w9 _)
          have HKE : Hid (Keep (fun b => w.heap.size + 4 ≤ b ∧ b ≠ w5.heap.size + 1) w8 ((w9.alloc (.cells #[.int .i64 kx, .string nmx, .int .i64 nux, .bool shx, .slice Ax nx mx, .slice Bx px qx, .slice Cx rx sx, .int .i64 ky, .string nmy, .int .i64 nuy, .bool shy, .slice Ay ny my, .slice By py qy, .slice Cy ry sy] 47)).setCell ⟨w.heap.size + 1, 6, none⟩ (.slice (some ⟨w9.heap.size, 0, none⟩) 2 2))) := HK9.out.trans ((Keep.alloc _ _).trans (Keep.of_grown hoE (fun b hb _ => by have := hb.1; simp; omega)))
          obtain ⟨we, hwe⟩ : ∃ we, we = ((w9.alloc (.cells #[.int .i64 kx, .string nmx, .int .i64 nux, .bool shx, .slice Ax nx mx, .slice Bx px qx, .slice Cx rx sx, .int .i64 ky, .string nmy, .int .i64 nuy, .bool shy, .slice Ay ny my, .slice By py qy, .slice Cy ry sy] 47)).setCell ⟨w.heap.size + 1, 6, none⟩ (.slice (some ⟨w9.heap.size, 0, none⟩) 2 2)) := ⟨_, rfl⟩
          rw [← hwe] at HXE HTE HFE HBE HKE ⊢
          clear hwe hoE HX9 HT9 HA9 HF9 HB9 c0 c1 c2 c3 c4 c5 c6 e0 e1 e2 e3 e4 e5 e6 a0 a1 a2 a3 a4 a5 a6 fa0 fa1 fa2 fa3 fa4 fa5 fa6
          obtain ⟨⟨q0, q1⟩, fq0, fq1⟩ := HXE.out.t.cells; obtain ⟨⟨d0, d1⟩, fd0, fd1⟩ := HXE.out.d.cells; obtain ⟨z0, z1, z2, z3, z4, z5, z6⟩ := HXE.out.z.cells; obtain ⟨y0, y1, y2, y3, y4, y5, y6⟩ := HXE.out.z.frozen
          obtain ⟨a0, a1, a2, a3, a4, a5, a6⟩ := HTE.out.cells
          obtain ⟨⟨g0, g1⟩, fg0, fg1⟩ := HFE.out.cells
          go_region
          obtain ⟨wg, hwg, hfin⟩ := HXE.out.fin 4 (.int .i64 kind) (.string (X.tx i)) (.int .i64 num) (.bool false) (.slice none 0 0) (.slice none 0 0) (.slice (some ⟨w9.heap.size, 0, none⟩) 2 2) (.int .i64 E2) (.int .i64 (K2 : Int)) (by omega) (by omega) (by omega) (by omega) (by omega)
          rw [← hwg]
          replace hfin := hfin.drew
          clear hwg
          obtain ⟨wf, hwf⟩ : ∃ wf, wf = wg.drew := ⟨_, rfl⟩
          rw [← hwf] at hfin ⊢
          clear hwf
          obtain ⟨hbf, hkf, u0, u1, u2, u3, u4, u5, u6, v0, v1⟩ := hfin
          have HBF := hide hbf
          have HKF := hide hkf
          clear hbf hkf
          go_wp2
          refine bodyPost_ret (v := .tuple #[.agg #[.int .i64 kind, .string (X.tx i), .int .i64 num, .bool false, .slice none 0 0, .slice none 0 0, .slice (some ⟨w9.heap.size, 0, none⟩) 2 2], .int .i64 (J2), .agg #[.int .i64 E2, .int .i64 (K2 : Int)]]) (by simp [results, Tryz.results46, go_sem, u0, u1, u2, u3, u4, u5, u6, v0, v1]) rfl ?_
          refine RefP.ofJ _ _ _ _ _ _ _ _ _ _ _ _ _ E2 K2 J2 HBF.out ?_
          rcases HST.out with ⟨u, j2, hu, hJ2, hE2, hK2, hv⟩ | ⟨hu, hE2⟩
          · refine .inl ⟨.mk kind (X.tx i) num false [] [] [ta, u], j2, by rw [hu]; rfl, hJ2, hE2, hK2, ?_⟩
            have hsz5 := hz4
            have hz7 := HB7.out.size
            have hk9 : we.heap[w9.heap.size]? = wf.heap[w9.heap.size]? := (HKF.out.2 w9.heap.size (by unfold far; omega) (Array.getElem?_eq_some_iff.1 HBE.out).1).symm
            refine TreeV.twoKids (tree_keep HV8.out (fun b _ hb => hb) HKE.out HKF.out (fun b hb => hb.1)) (tree_keep hv (S := fun b => w.heap.size + 4 ≤ b ∧ b ≠ w5.heap.size + 1) (fun b hl hb => by have h9 : w7.heap.size ≤ b := hb; exact ⟨by omega, by omega⟩) HKE.out HKF.out (fun b hb => hb.1)) (by unfold from_; omega) (hk9.symm.trans HBE.out)
          · exact .inr ⟨by rw [hu]; rfl, hE2⟩
end Go.Proofs.YtadhlnlcdljamaaGreatDoor.V
