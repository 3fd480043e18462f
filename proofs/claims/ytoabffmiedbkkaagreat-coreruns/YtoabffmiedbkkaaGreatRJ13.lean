/-
  A machine in memory; whose turn it is; whether an engine can go on. A machine in memory: whether an engine can go on; whether both are at their end. A machine in memory: words are moved.
-/
import Derived.Test.YtoabffmiedbkkaaGreatRJ0
import Derived.Test.YtoabffmiedbkkaaGreatRJ12
import Derived.Test.YtoabffmiedbkkaaGreatRJ3
import Derived.ChangeKeysEq
import Derived.Test.YtoabffmiedbkkaaGreatRJ9
namespace Go.Proofs.YtoabffmiedbkkaaGreat.V
set_option maxRecDepth 20000
open Go Go.RowKit
set_option linter.unusedVariables false
set_option linter.unusedSimpArgs false

/-- A slice's words. -/
structure Sw1 where
  a : Option Addr
  n : Nat
  c : Nat
/-- Where the machine's words lie. -/
structure MbK where
  p : Sw1
  m : Sw1
  gp : Nat
  op : Nat
  gm : Nat
  om : Nat
/-- Words in a block of their own. -/
def WrdAt (W : World) (y : Sw1) (b off : Nat) (f : Int → Int) : Prop := (0 < y.n → y.a = some ⟨b, off, none⟩) ∧ (0 < y.n → ∃ cur, W.heap[b]? = some (.cells cur 2 (0, 0)) ∧ ∀ k, k < y.n → cur[off + k]? = some (.int .i64 (f (k : Int)))) ∧ y.n ≤ y.c
/-- The machine's words. -/
def mchV (c : CV) (B : MbK) (s : Mac) (k : Nat) : Value :=
  if k = 0 then .int .i64 c.pad else if k = 1 then .int .i64 c.mem else if k = 2 then .slice c.ma c.ml c.mc else if k = 3 then .slice c.ka c.kl c.kc
  else if k = 4 then .slice B.p.a B.p.n B.p.c else if k = 5 then .slice B.m.a B.m.n B.m.c
  else if k < 22 then .int .i64 (s.sem ((k : Int) - 6)) else if k = 22 then .int .i64 (s.i : Int) else .int .i64 (s.j : Int)
structure MchAt (W : World) (g : Nat) (c : CV) (mv mk : List In) (B : MbK) (s : Mac) : Prop where
  blk : ∃ cur, W.heap[g]? = some (.cells cur 44 (0, 0)) ∧ cur.size = 24 ∧ ∀ k, k < 24 → cur[k]? = some (mchV c B s k)
  mvs : Inss W c.ma c.ml mv
  mks : Inss W c.ka c.kl mk
  pad : WrdAt W B.p B.gp B.op s.pad
  mem : WrdAt W B.m B.gm B.om s.mem
  ne : B.gp ≠ B.gm ∧ g ≠ B.gp ∧ g ≠ B.gm
  far : ∀ b off, (c.ma = some ⟨b, off, none⟩ ∧ 0 < c.ml) ∨ (c.ka = some ⟨b, off, none⟩ ∧ 0 < c.kl) → b ≠ B.gp ∧ b ≠ B.gm ∧ b ≠ g
theorem MchAt.cell {W : World} {g : Nat} {c : CV} {mv mk : List In} {B : MbK} {s : Mac} (h : MchAt W g c mv mk B s) {k : Nat} (hk : k < 24) : W.cell? ⟨g, k, none⟩ = some (mchV c B s k) := by
  obtain ⟨cur, h1, _, h3⟩ := h.blk
  simp only [World.cell?, h1]
  exact h3 k hk
theorem MchAt.lt {W : World} {g : Nat} {c : CV} {mv mk : List In} {B : MbK} {s : Mac} (h : MchAt W g c mv mk B s) : g < W.heap.size := by
  obtain ⟨cur, h1, _⟩ := h.blk
  exact (Array.getElem?_eq_some_iff.1 h1).1
theorem MchAt.frozen {W : World} {g : Nat} {c : CV} {mv mk : List In} {B : MbK} {s : Mac} (h : MchAt W g c mv mk B s) (k : Nat) : W.frozen? ⟨g, k, none⟩ = false := by
  obtain ⟨cur, h1, _⟩ := h.blk
  simp [World.frozen?, h1]
theorem WrdAt.keep {W V : World} {y : Sw1} {b off : Nat} {f : Int → Int} (h : WrdAt W y b off f) (hb : 0 < y.n → V.heap[b]? = W.heap[b]?) : WrdAt V y b off f := by
  obtain ⟨h1, h2, h4⟩ := h
  refine ⟨h1, fun h0 => ?_, h4⟩
  obtain ⟨cur, k1, k2⟩ := h2 h0
  exact ⟨cur, (hb h0).trans k1, k2⟩
theorem WrdAt.lt {W : World} {y : Sw1} {b off : Nat} {f : Int → Int} (h : WrdAt W y b off f) (h0 : 0 < y.n) : b < W.heap.size := by
  obtain ⟨cur, k1, _⟩ := h.2.1 h0
  exact (Array.getElem?_eq_some_iff.1 k1).1
theorem WrdAt.below {W V : World} {y : Sw1} {b off : Nat} {f : Int → Int} (h : WrdAt W y b off f) (hb : Below W.heap.size W V) : WrdAt V y b off f := h.keep fun h0 => hb.block b (h.lt h0)
theorem WrdAt.cell {W : World} {y : Sw1} {b off : Nat} {f : Int → Int} (h : WrdAt W y b off f) {k : Nat} (hk : k < y.n) : W.cell? ⟨b, off + k, none⟩ = some (.int .i64 (f (k : Int))) := by
  obtain ⟨cur, k1, k2⟩ := h.2.1 (by omega)
  simp only [World.cell?, k1]
  exact k2 k hk
theorem WrdAt.frozen {W : World} {y : Sw1} {b off : Nat} {f : Int → Int} (h : WrdAt W y b off f) (h0 : 0 < y.n) (k : Nat) : W.frozen? ⟨b, k, none⟩ = false := by
  obtain ⟨cur, k1, _⟩ := h.2.1 h0
  simp [World.frozen?, k1]
theorem WrdAt.put {W : World} {y : Sw1} {b off : Nat} {f : Int → Int} (h : WrdAt W y b off f) {k : Nat} (hk : k < y.n) (v : Int) : WrdAt (W.setCell ⟨b, off + k, none⟩ (.int .i64 v)) y b off (fun w => if w = (k : Int) then v else f w) := by
  obtain ⟨h1, h2, h4⟩ := h
  refine ⟨h1, fun h0 => ?_, h4⟩
  obtain ⟨cur, k1, k2⟩ := h2 h0
  refine ⟨cur.setIfInBounds (off + k) (.int .i64 v), by simp [World.setCell, Array.getElem?_modify, k1], fun j hj => ?_⟩
  have hc := (Array.getElem?_eq_some_iff.1 (k2 k hk)).1
  by_cases e : j = k
  · subst e
    simp [hc]
  · rw [Array.getElem?_setIfInBounds_ne (by omega), k2 j hj]
    simp only
    rw [if_neg (by omega)]
theorem WrdAt.congr {W : World} {y : Sw1} {b off : Nat} {f f' : Int → Int} (h : WrdAt W y b off f) (he : ∀ k : Nat, k < y.n → f (k : Int) = f' (k : Int)) : WrdAt W y b off f' := by
  obtain ⟨h1, h2, h4⟩ := h
  refine ⟨h1, fun h0 => ?_, h4⟩
  obtain ⟨cur, k1, k2⟩ := h2 h0
  exact ⟨cur, k1, fun j hj => by rw [k2 j hj, he j hj]⟩
theorem MchAt.below {W V : World} {g : Nat} {c : CV} {mv mk : List In} {B : MbK} {s : Mac} (h : MchAt W g c mv mk B s) (hb : Below W.heap.size W V) : MchAt V g c mv mk B s := by
  obtain ⟨cur, h1, h2, h3⟩ := h.blk
  exact ⟨⟨cur, (hb.block g (Array.getElem?_eq_some_iff.1 h1).1).trans h1, h2, h3⟩, h.mvs.below hb, h.mks.below hb, h.pad.below hb, h.mem.below hb, h.ne, h.far⟩
theorem Inss.keep {W V : World} {a : Option Addr} {len : Nat} {l : List In} (h : Inss W a len l) (hb : ∀ b off, a = some ⟨b, off, none⟩ → 0 < len → V.heap[b]? = W.heap[b]?) : Inss V a len l := by
  obtain ⟨h1, h2, h3⟩ := h
  refine ⟨h1, h2, h3.imp id fun ⟨b, off, e, hc⟩ => ⟨b, off, e, fun j hj => ?_⟩⟩
  obtain ⟨x0, x1, x2, x3, x4, x5⟩ := hc j hj
  have k := fun o => World.cell?_of_block (a := ⟨b, o, none⟩) (hb b off e (by omega))
  exact ⟨(k _).trans x0, (k _).trans x1, (k _).trans x2, (k _).trans x3, (k _).trans x4, (k _).trans x5⟩
theorem MchAt.putPad {W : World} {g : Nat} {c : CV} {mv mk : List In} {B : MbK} {s : Mac} (h : MchAt W g c mv mk B s) {k : Nat} (hk : k < B.p.n) (v : Int) : MchAt (W.setCell ⟨B.gp, B.op + k, none⟩ (.int .i64 v)) g c mv mk B { s with pad := fun w => if w = (k : Int) then v else s.pad w } := by
  obtain ⟨cur, h1, h2, h3⟩ := h.blk
  have hn := fun {b : Nat} (hb : b ≠ B.gp) => Below.heap_setCell W ⟨B.gp, B.op + k, none⟩ (.int .i64 v) b hb
  exact ⟨⟨cur, (hn h.ne.2.1).trans h1, h2, h3⟩, h.mvs.keep (fun b off e h0 => hn (h.far b off (.inl ⟨e, h0⟩)).1), h.mks.keep (fun b off e h0 => hn (h.far b off (.inr ⟨e, h0⟩)).1), h.pad.put hk v, h.mem.keep (fun _ => hn h.ne.1.symm), h.ne, h.far⟩
theorem MchAt.putMem {W : World} {g : Nat} {c : CV} {mv mk : List In} {B : MbK} {s : Mac} (h : MchAt W g c mv mk B s) {k : Nat} (hk : k < B.m.n) (v : Int) : MchAt (W.setCell ⟨B.gm, B.om + k, none⟩ (.int .i64 v)) g c mv mk B { s with mem := fun w => if w = (k : Int) then v else s.mem w } := by
  obtain ⟨cur, h1, h2, h3⟩ := h.blk
  have hn := fun {b : Nat} (hb : b ≠ B.gm) => Below.heap_setCell W ⟨B.gm, B.om + k, none⟩ (.int .i64 v) b hb
  exact ⟨⟨cur, (hn h.ne.2.2).trans h1, h2, h3⟩, h.mvs.keep (fun b off e h0 => hn (h.far b off (.inl ⟨e, h0⟩)).2.1), h.mks.keep (fun b off e h0 => hn (h.far b off (.inr ⟨e, h0⟩)).2.1), h.pad.keep (fun _ => hn h.ne.1), h.mem.put hk v, h.ne, h.far⟩
/-- A word of the machine itself is stored. -/
theorem MchAt.putG {W : World} {g : Nat} {c : CV} {mv mk : List In} {B : MbK} {s s' : Mac} (h : MchAt W g c mv mk B s) {k : Nat} (hk : k < 24) (v : Value) (hv : mchV c B s' k = v) (ho : ∀ j, j < 24 → j ≠ k → mchV c B s' j = mchV c B s j) (hp : s'.pad = s.pad) (hm : s'.mem = s.mem) : MchAt (W.setCell ⟨g, k, none⟩ v) g c mv mk B s' := by
  obtain ⟨cur, h1, h2, h3⟩ := h.blk
  have hn := fun {b : Nat} (hb : b ≠ g) => Below.heap_setCell W ⟨g, k, none⟩ v b hb
  refine ⟨⟨cur.setIfInBounds k v, by simp [World.setCell, Array.getElem?_modify, h1], by simp [h2], fun j hj => ?_⟩, h.mvs.keep (fun b off e h0 => hn (h.far b off (.inl ⟨e, h0⟩)).2.2), h.mks.keep (fun b off e h0 => hn (h.far b off (.inr ⟨e, h0⟩)).2.2), by rw [hp]; exact h.pad.keep (fun _ => hn h.ne.2.1.symm), by rw [hm]; exact h.mem.keep (fun _ => hn h.ne.2.2.symm), h.ne, h.far⟩
  by_cases e : j = k
  · subst e
    simp [h2, hj, hv]
  · rw [Array.getElem?_setIfInBounds_ne (by omega), h3 j hj, ho j hj e]
theorem MchAt.congr {W : World} {g : Nat} {c : CV} {mv mk : List In} {B : MbK} {s : Mac} (h : MchAt W g c mv mk B s) {p m : Int → Int} (hp : ∀ k : Nat, k < B.p.n → s.pad k = p k) (hm : ∀ k : Nat, k < B.m.n → s.mem k = m k) : MchAt W g c mv mk B { s with pad := p, mem := m } := ⟨h.blk, h.mvs, h.mks, h.pad.congr hp, h.mem.congr hm, h.ne, h.far⟩
/-- Whose turn it is: the picks and the place among them. -/
def TurnAt (W : World) (b1 b2 : Nat) (xa : Option Addr) (xl xc : Nat) (ps : List Int) (t : Nat) : Prop :=
  W.heap[b1]? = some (.cells #[.slice xa xl xc] 26 (0, 0)) ∧ W.heap[b2]? = some (.cells #[.int .i64 ((if ps = [] then 0 else t % ps.length : Nat) : Int)] 3 (0, 0)) ∧ Ints W xa xl ps ∧ xl * 8 ≤ 140737488355328
theorem turns_any (xa : Option Addr) (xl xc : Nat) (ps : List Int) (W : World) (hx : Ints W xa xl ps) (hb : xl * 8 ≤ 140737488355328) :
    Calls Tryz.prog 14 #[.slice xa xl xc] W fun e w' => ∃ b1 b2, e = .returned (.func (.func 27) #[] #[.pointer (some ⟨b1, 0, none⟩), .pointer (some ⟨b2, 0, none⟩)]) ∧ TurnAt w' b1 b2 xa xl xc ps 0 ∧ b1 ≠ b2 ∧ W.heap.size ≤ b1 ∧ W.heap.size ≤ b2 ∧ Below W.heap.size W w' := by
  have HX := hide hx
  clear hx
  go_enter Tryz.func14, Tryz.ntmps14
  go_wp2_with fail
  go_ret
  have hb1 : Below W.heap.size W ((W.alloc (.cells #[.slice xa xl xc] 26)).alloc (.cells #[.int .i64 0] 3)) := (bl_new _).alloc (by simp) _
  refine ⟨W.heap.size, W.heap.size + 1, rfl, ⟨?_, ?_, HX.out.below hb1, hb⟩, by omega, Nat.le_refl _, by omega, hb1⟩
  · exact ((bl_new (w := W.alloc _) _).block _ (by simp)).trans (World.alloc_heap_new _ _)
  · have h9 := World.alloc_heap_new (W.alloc (.cells #[.slice xa xl xc] 26)) (.cells #[.int .i64 0] 3)
    rw [show (W.alloc (.cells #[.slice xa xl xc] 26)).heap.size = W.heap.size + 1 by simp] at h9
    rw [h9]
    by_cases h : ps = []
    · simp [h]
    · simp [h]
/-- Only these blocks are written. -/
def WrB (F : Nat → Prop) (W V : World) : Prop := (V.os = W.os ∧ V.tape = W.tape ∧ V.output = W.output) ∧ W.heap.size ≤ V.heap.size ∧ ∀ i, i < W.heap.size → ¬ F i → V.heap[i]? = W.heap[i]?
theorem WrB.refl (F : Nat → Prop) (W : World) : WrB F W W := ⟨⟨rfl, rfl, rfl⟩, Nat.le_refl _, fun _ _ _ => rfl⟩
theorem WrB.of {F : Nat → Prop} {W V : World} (h : Below W.heap.size W V) : WrB F W V := ⟨⟨h.os, h.tape, h.output⟩, h.size, fun i hi _ => h.block i hi⟩
theorem WrB.trans {F : Nat → Prop} {W V U : World} (h : WrB F W V) (k : WrB F V U) : WrB F W U := ⟨⟨k.1.1.trans h.1.1, k.1.2.1.trans h.1.2.1, k.1.2.2.trans h.1.2.2⟩, Nat.le_trans h.2.1 k.2.1, fun i h1 h2 => (k.2.2 i (Nat.lt_of_lt_of_le h1 h.2.1) h2).trans (h.2.2 i h1 h2)⟩
theorem WrB.set {F : Nat → Prop} {W V : World} (h : WrB F W V) {a : Addr} (ha : F a.block) (v : Value) : WrB F W (V.setCell a v) := ⟨h.1, by simp [World.setCell]; exact h.2.1, fun i h1 h2 => (Below.heap_setCell _ _ _ _ (fun e => h2 (by rw [e]; exact ha))).trans (h.2.2 i h1 h2)⟩
theorem WrB.mono {F G : Nat → Prop} {W V : World} (h : WrB F W V) (hs : ∀ i, F i → G i) : WrB G W V := ⟨h.1, h.2.1, fun i h1 h2 => h.2.2 i h1 (fun e => h2 (hs i e))⟩
theorem Ints.keep_ne {W : World} {X : Option Addr} {m : Nat} {xs : List Int} (h : Ints W X m xs) {a : Addr} (hn : ∀ b off, X = some ⟨b, off, none⟩ → b ≠ a.block) (v : Value) : Ints (W.setCell a v) X m xs := by
  obtain ⟨h1, h2, h3, h4⟩ := h
  refine ⟨h1, h2, h3, h4.imp id fun ⟨b, off, e, hc⟩ => ⟨b, off, e, fun j hj => ?_⟩⟩
  rw [World.cell?_of_block (Below.heap_setCell _ _ _ _ (hn b off e))]
  exact hc j hj
/-- The engine whose turn it is. -/
def pkV (ps : List Int) (t : Nat) : Int := engV (pickB ps t)
/-- The next pick. -/
theorem mturn_any (b1 b2 : Nat) (xa : Option Addr) (xl xc : Nat) (ps : List Int) (t : Nat) (W : World) (h : TurnAt W b1 b2 xa xl xc ps t) (hne : b1 ≠ b2) (hx2 : ∀ b off, xa = some ⟨b, off, none⟩ → 0 < xl → b ≠ b2) :
    Calls Tryz.prog 27 #[.pointer (some ⟨b1, 0, none⟩), .pointer (some ⟨b2, 0, none⟩)] W fun e w' => e = .returned (.int .i64 (pkV ps t)) ∧ TurnAt w' b1 b2 xa xl xc ps (t + 1) ∧ WrB (fun b => b = b2) W w' := by
  obtain ⟨h1, h2, hx, hl⟩ := h
  have c1 : W.cell? ⟨b1, 0, none⟩ = some (.slice xa xl xc) := by simp only [World.cell?, h1]; rfl
  have z1 := (Array.getElem?_eq_some_iff.1 h1).1
  have z2 := (Array.getElem?_eq_some_iff.1 h2).1
  have hlen := hx.1
  by_cases hps : ps = []
  · have hx0 : xl = 0 := by rw [← hlen, hps]; rfl
    subst hps
    have HX := hide hx
    have H1 := hide h1
    have H2 := hide h2
    subst hx0
    clear hx h1 h2 hlen
    go_enter Tryz.func27, Tryz.ntmps27
    go_wp2_with fail
    go_ret
    exact ⟨rfl, ⟨H1.out, H2.out, HX.out, hl⟩, WrB.refl _ _⟩
  · have hp0 : 0 < ps.length := List.length_pos_iff.2 hps
    obtain ⟨k, hk⟩ : ∃ k, k = t % ps.length := ⟨_, rfl⟩
    have hkl : k < xl := by rw [hk, ← hlen]; exact Nat.mod_lt _ hp0
    rw [if_neg hps, ← hk] at h2
    have c2 : W.cell? ⟨b2, 0, none⟩ = some (.int .i64 (k : Int)) := by simp only [World.cell?, h2]; rfl
    have f2 : W.frozen? ⟨b2, 0, none⟩ = false := by simp [World.frozen?, h2]
    obtain ⟨xb, xo, rfl, hbd, hc⟩ := hx.at (by omega)
    have c3 := hc k hkl
    have z3 := lt_of_cell c3
    have hxb := hx2 xb xo rfl (by omega)
    obtain ⟨v, hv⟩ : ∃ v, v = ps[k]?.getD 0 := ⟨_, rfl⟩
    rw [← hv] at c3
    have q1 : (0 : Int) ≤ (k : Int) := by omega
    have q2 : (k : Int) < (xl : Int) := by omega
    have q3 : ¬ ((xl : Int) = 0) := by omega
    have q4 : ((xl : Int) == 0) = false := by simp; omega
    have q5 : ¬ (xl = 0) := by omega
    have HX := hide hx
    have H1 := hide h1
    have H2 := hide h2
    have HK := hide hk
    have HV := hide hv
    clear hx h1 h2 hk hv hc hlen hbd
    go_enter Tryz.func27, Tryz.ntmps27
    go_upto_region 5 with fail
    obtain ⟨V, hV⟩ : ∃ V, V = W.setCell ⟨b2, 0, none⟩ (.int .i64 (((k : Int) + 1) % (xl : Int))) := ⟨_, rfl⟩
    rw [← hV]
    have hlen : ps.length = xl := HX.out.1
    have hmod : (((t + 1) % ps.length : Nat) : Int) = ((k : Int) + 1) % (xl : Int) := by
      rw [HK.out, hlen, ← Nat.mod_add_mod]
      simp
    have hT : TurnAt V b1 b2 (some ⟨xb, xo, none⟩) xl xc ps (t + 1) := by
      rw [hV]
      refine ⟨?_, ?_, HX.out.keep_ne (fun b off e => by cases e; exact hxb) _, hl⟩
      · rw [Below.heap_setCell _ _ _ _ hne]; exact H1.out
      · rw [if_neg hps, hmod]
        simp [World.setCell, Array.getElem?_modify, H2.out]
    have hW : WrB (fun b => b = b2) W V := by rw [hV]; exact (WrB.refl (fun b => b = b2) W).set (a := ⟨b2, 0, none⟩) rfl _
    have HT := hide hT
    have HW := hide hW
    have hpk : pickB ps t = decide (v.tmod 2 = 0) := by
      unfold pickB
      rw [if_neg hps, ← HK.out, ← HV.out]
    have HP := hide hpk
    clear hV hT hW hpk hlen hmod c1 c2 c3
    by_cases hev : v.tmod 2 = 0
    · have e1 : (v.tmod 2 == 0) = true := by simp [hev]
      go_wp2_with fail
      go_ret
      exact ⟨by unfold pkV; rw [HP.out]; simp [hev, engV], HT.out, HW.out⟩
    · have e1 : (v.tmod 2 == 0) = false := by simp [hev]
      go_wp2_with fail
      go_ret
      exact ⟨by unfold pkV; rw [HP.out]; simp [hev, engV], HT.out, HW.out⟩
end Go.Proofs.YtoabffmiedbkkaaGreat.V
namespace Go.Proofs.YtoabffmiedbkkaaGreat.V
set_option maxRecDepth 20000
open Go Go.RowKit
set_option linter.unusedVariables false
set_option linter.unusedSimpArgs false

def SemOk (l : List In) : Prop := ∀ k, k < l.length → (getI l k).d = 3 ∨ (getI l k).d = 4 → 0 ≤ (getI l k).a ∧ (getI l k).a < 16
theorem bl_drewN {B : Nat} {W V : World} (h : Below B W V) (k : Nat) : Below B W (V.drewN k) := ⟨h.os, h.tape, h.output, h.size, h.block⟩
theorem eqI2 (a b c d : Int) (w : World) : (Op.equalIn 10000 42 (.agg #[.int .i64 a, .int .i64 b]) (.agg #[.int .i64 c, .int .i64 d])).run Tryz.prog w = .ok ((a == c) && (b == d)) w := by
  have hu : Tryz.prog.underlying 42 = some (.array 2 3) := by kernel_rfl
  have hs : (Tryz.prog.info? 3).isSome = true := by kernel_rfl
  obtain ⟨i, hi⟩ := Option.isSome_iff_exists.1 hs
  have e1 : ∀ (x y : Int) (w : World), (Op.equalIn 9999 3 (.int .i64 x) (.int .i64 y)).run Tryz.prog w = .ok (x == y) w := fun x y w => by kernel_rfl
  have p0 : ∀ (x y : Int) (w : World), (part 3 #[.int .i64 x, .int .i64 y] (0 * Tryz.prog.cellsOf 3)).run Tryz.prog w = .ok (.int .i64 x) w := fun x y w => by kernel_rfl
  have p1 : ∀ (x y : Int) (w : World), (part 3 #[.int .i64 x, .int .i64 y] (1 * Tryz.prog.cellsOf 3)).run Tryz.prog w = .ok (.int .i64 y) w := fun x y w => by kernel_rfl
  rw [show (10000 : Nat) = 9999 + 1 from rfl, run_equalIn_array (w := w) 9999 _ _ hu hi, show List.range 2 = [0, 1] from rfl]
  simp only [Op.eqItems, Sem.run_bind, p0, p1, e1, Result.andThen_ok]
  have p1' : ∀ (x y : Int) (w : World), (part 3 #[.int .i64 x, .int .i64 y] (Tryz.prog.cellsOf 3)).run Tryz.prog w = .ok (.int .i64 y) w := fun x y w => by kernel_rfl
  obtain ⟨x, hx⟩ : ∃ x, x = (a == c) := ⟨_, rfl⟩
  obtain ⟨y, hy⟩ : ∃ y, y = (b == d) := ⟨_, rfl⟩
  rw [← hx, ← hy]
  cases x
  · simp
  · cases y
    · simp [p1', e1, ← hy]
    · simp [p1', e1, ← hy]
theorem mch_sem {W : World} {g : Nat} {c : CV} {mv mk : List In} {B : MbK} {s : Mac} (h : MchAt W g c mv mk B s) {a : Int} (h0 : 0 ≤ a) (h1 : a < 16) : W.cell? ⟨g, 6 + a.toNat, none⟩ = some (.int .i64 (s.sem a)) := by
  rw [h.cell (by omega)]
  unfold mchV
  rw [if_neg (by omega), if_neg (by omega), if_neg (by omega), if_neg (by omega), if_neg (by omega), if_neg (by omega), if_pos (by omega)]
  rw [show ((6 + a.toNat : Nat) : Int) - 6 = a by omega]
set_option maxRecDepth 20000 in
set_option maxHeartbeats 4000000 in
theorem goesOn_A (g : Nat) (c : CV) (mv mk : List In) (B : MbK) (s : Mac) (W : World) (h : MchAt W g c mv mk B s) (hsem : SemOk mv) (hi : s.i ≤ 262144) :
    Calls Tryz.prog 25 #[.pointer (some ⟨g, 0, none⟩), .int .i64 0] W fun e w' => e = .returned (.bool (goI mv s.i s.sem)) ∧ Below W.heap.size W w' := by
  have hz := h.lt
  have d0 := h.cell (k := 0) (by decide)
  have d1 := h.cell (k := 1) (by decide)
  have d2 := h.cell (k := 2) (by decide)
  have d3 := h.cell (k := 3) (by decide)
  have d22 := h.cell (k := 22) (by decide)
  simp [mchV] at d0 d1 d2 d3 d22
  have b0 : ∀ p, (gw W p).cell? ⟨g, 0, none⟩ = some (.int .i64 c.pad) := fun p => gw_cell d0 p
  have b1 : ∀ p, (gw W p).cell? ⟨g, 1, none⟩ = some (.int .i64 c.mem) := fun p => gw_cell d1 p
  have b2 : ∀ p, (gw W p).cell? ⟨g, 2, none⟩ = some (.slice c.ma c.ml c.mc) := fun p => gw_cell d2 p
  have b3 : ∀ p, (gw W p).cell? ⟨g, 3, none⟩ = some (.slice c.ka c.kl c.kc) := fun p => gw_cell d3 p
  have b22 : ∀ p, (gw W p).cell? ⟨g, 22, none⟩ = some (.int .i64 (s.i : Int)) := fun p => gw_cell d22 p
  have bz : ∀ p : GwP, g < (gw W p).heap.size := fun p => Nat.lt_of_lt_of_le hz (gw_below W p).size
  have HE : Hid (∀ p, Calls Tryz.prog 19 #[.agg #[.int .i64 c.pad, .int .i64 c.mem, .slice c.ma c.ml c.mc, .slice c.ka c.kl c.kc]] (gw W p) _) := fun p => engines_any c (gw W p)
  have hix := idx2_0 (.slice c.ma c.ml c.mc) (.slice c.ka c.kl c.kc)
  have H := hide h
  have ine : Nonempty GwP := ⟨⟨#[], 0⟩⟩
  obtain ⟨G, hG⟩ : ∃ G, G = goI mv s.i s.sem := ⟨_, rfl⟩
  rw [← hG]
  have HG := hide hG
  clear h d0 d1 d2 d3 d22 hG
  go_enter Tryz.func25, Tryz.ntmps25
  go_upto_region 1 with fail
  refine wp_region_gw (by kernel_rfl) (by kernel_rfl) ?_
  repeat (quiet_step (first | (go_at_call 19; exact Calls.gw_of (HE.out _))))
  refine wpQuiet_nil ?_
  intro _ hw'
  obtain ⟨pq, hw''⟩ := hw'
  subst hw''
  clear b0 b1 b2 b3 b22 bz hix ine
  go_upto_region 2 with fail
  obtain ⟨V, hV⟩ : ∃ V, V = gw W pq := ⟨_, rfl⟩
  rw [← hV]
  have hb : Below W.heap.size W V := by rw [hV]; exact gw_below _ _
  have H2 := hide (H.out.below hb)
  have HB := hide hb
  have hz2 := H2.out.lt
  have hll : mv.length = c.ml := H2.out.mvs.1
  clear hV hb hz
  by_cases hlt : s.i < c.ml
  · have hlz : (s.i : Int) < (c.ml : Int) := by omega
    have hl0 : (0 : Int) ≤ (s.i : Int) := by omega
    obtain ⟨ib, ioff, hia, hat⟩ : ∃ b off, c.ma = some ⟨b, off, none⟩ ∧ ∀ j, j < c.ml → InAt V b (off + j * 6) (mv[j]?.getD inD) := by
      rcases H2.out.mvs.2.2 with h0 | h0
      · omega
      · exact h0
    obtain ⟨x0, x1, _⟩ := hat s.i hlt
    rw [show mv[s.i]?.getD inD = getI mv s.i from rfl] at x0 x1
    obtain ⟨x, hx⟩ : ∃ x, x = getI mv s.i := ⟨_, rfl⟩
    rw [← hx] at x0 x1
    have xz := lt_of_cell x0
    have HX := hide hx
    rw [hia]
    clear hat hx
    by_cases h4 : x.d = 4
    · have hs := hsem s.i (by omega) (.inr (by rw [← HX.out]; exact h4))
      rw [← HX.out] at hs
      have y := mch_sem H2.out hs.1 hs.2
      obtain ⟨av, hav⟩ : ∃ av, av = x.a := ⟨_, rfl⟩
      obtain ⟨sv, hsv⟩ : ∃ sv, sv = s.sem x.a := ⟨_, rfl⟩
      rw [← hsv] at y
      rw [h4] at x0
      obtain ⟨an, han⟩ : ∃ an : Nat, x.a = (an : Int) := ⟨x.a.toNat, by omega⟩
      rw [han] at x1 y
      simp only [Int.toNat_natCast] at y
      have a16 : (an : Int) < 16 := by omega
      have a0 : (0 : Int) ≤ (an : Int) := by omega
      have a17 : an < 16 := by omega
      have HS := hide hsv
      have H4 := hide h4
      clear hs hav hsv han h4
      by_cases hp : 0 < sv
      · go_quiet (fail)
        go_wp2_with fail
        go_ret
        refine ⟨?_, bl_drewN HB.out _⟩
        rw [HG.out]
        unfold goI
        rw [← HX.out, ← HS.out]
        simp [hp]
        omega
      · go_quiet (fail)
        go_wp2_with fail
        go_ret
        refine ⟨?_, bl_drewN HB.out _⟩
        rw [HG.out]
        unfold goI
        rw [← HX.out, ← HS.out, H4.out]
        simp [hp]
    · have h4' : (x.d != 4) = true := by simp [h4]
      go_quiet (fail)
      go_wp2_with fail
      go_ret
      refine ⟨?_, bl_drewN HB.out _⟩
      rw [HG.out]
      unfold goI
      rw [← HX.out]
      simp [h4]
      omega
  · have hlz : ¬ (s.i : Int) < (c.ml : Int) := by omega
    go_quiet (fail)
    go_wp2_with fail
    go_ret
    refine ⟨?_, bl_drewN HB.out _⟩
    rw [HG.out]
    unfold goI
    simp [show ¬ s.i < mv.length by omega]
set_option maxRecDepth 20000 in
set_option maxHeartbeats 4000000 in
theorem goesOn_B (g : Nat) (c : CV) (mv mk : List In) (B : MbK) (s : Mac) (W : World) (h : MchAt W g c mv mk B s) (hsem : SemOk mk) (hi : s.j ≤ 262144) :
    Calls Tryz.prog 25 #[.pointer (some ⟨g, 0, none⟩), .int .i64 1] W fun e w' => e = .returned (.bool (goI mk s.j s.sem)) ∧ Below W.heap.size W w' := by
  have hz := h.lt
  have d0 := h.cell (k := 0) (by decide)
  have d1 := h.cell (k := 1) (by decide)
  have d2 := h.cell (k := 2) (by decide)
  have d3 := h.cell (k := 3) (by decide)
  have d22 := h.cell (k := 23) (by decide)
  simp [mchV] at d0 d1 d2 d3 d22
  have b0 : ∀ p, (gw W p).cell? ⟨g, 0, none⟩ = some (.int .i64 c.pad) := fun p => gw_cell d0 p
  have b1 : ∀ p, (gw W p).cell? ⟨g, 1, none⟩ = some (.int .i64 c.mem) := fun p => gw_cell d1 p
  have b2 : ∀ p, (gw W p).cell? ⟨g, 2, none⟩ = some (.slice c.ma c.ml c.mc) := fun p => gw_cell d2 p
  have b3 : ∀ p, (gw W p).cell? ⟨g, 3, none⟩ = some (.slice c.ka c.kl c.kc) := fun p => gw_cell d3 p
  have b22 : ∀ p, (gw W p).cell? ⟨g, 23, none⟩ = some (.int .i64 (s.j : Int)) := fun p => gw_cell d22 p
  have bz : ∀ p : GwP, g < (gw W p).heap.size := fun p => Nat.lt_of_lt_of_le hz (gw_below W p).size
  have HE : Hid (∀ p, Calls Tryz.prog 19 #[.agg #[.int .i64 c.pad, .int .i64 c.mem, .slice c.ma c.ml c.mc, .slice c.ka c.kl c.kc]] (gw W p) _) := fun p => engines_any c (gw W p)
  have hix := idx2_1 (.slice c.ma c.ml c.mc) (.slice c.ka c.kl c.kc)
  have H := hide h
  have ine : Nonempty GwP := ⟨⟨#[], 0⟩⟩
  obtain ⟨G, hG⟩ : ∃ G, G = goI mk s.j s.sem := ⟨_, rfl⟩
  rw [← hG]
  have HG := hide hG
  clear h d0 d1 d2 d3 d22 hG
  go_enter Tryz.func25, Tryz.ntmps25
  go_upto_region 1 with fail
  refine wp_region_gw (by kernel_rfl) (by kernel_rfl) ?_
  repeat (quiet_step (first | (go_at_call 19; exact Calls.gw_of (HE.out _))))
  refine wpQuiet_nil ?_
  intro _ hw'
  obtain ⟨pq, hw''⟩ := hw'
  subst hw''
  clear b0 b1 b2 b3 b22 bz hix ine
  go_upto_region 2 with fail
  obtain ⟨V, hV⟩ : ∃ V, V = gw W pq := ⟨_, rfl⟩
  rw [← hV]
  have hb : Below W.heap.size W V := by rw [hV]; exact gw_below _ _
  have H2 := hide (H.out.below hb)
  have HB := hide hb
  have hz2 := H2.out.lt
  have hll : mk.length = c.kl := H2.out.mks.1
  clear hV hb hz
  by_cases hlt : s.j < c.kl
  · have hlz : (s.j : Int) < (c.kl : Int) := by omega
    have hl0 : (0 : Int) ≤ (s.j : Int) := by omega
    obtain ⟨ib, ioff, hia, hat⟩ : ∃ b off, c.ka = some ⟨b, off, none⟩ ∧ ∀ j, j < c.kl → InAt V b (off + j * 6) (mk[j]?.getD inD) := by
      rcases H2.out.mks.2.2 with h0 | h0
      · omega
      · exact h0
    obtain ⟨x0, x1, _⟩ := hat s.j hlt
    rw [show mk[s.j]?.getD inD = getI mk s.j from rfl] at x0 x1
    obtain ⟨x, hx⟩ : ∃ x, x = getI mk s.j := ⟨_, rfl⟩
    rw [← hx] at x0 x1
    have xz := lt_of_cell x0
    have HX := hide hx
    rw [hia]
    clear hat hx
    by_cases h4 : x.d = 4
    · have hs := hsem s.j (by omega) (.inr (by rw [← HX.out]; exact h4))
      rw [← HX.out] at hs
      have y := mch_sem H2.out hs.1 hs.2
      obtain ⟨av, hav⟩ : ∃ av, av = x.a := ⟨_, rfl⟩
      obtain ⟨sv, hsv⟩ : ∃ sv, sv = s.sem x.a := ⟨_, rfl⟩
      rw [← hsv] at y
      rw [h4] at x0
      obtain ⟨an, han⟩ : ∃ an : Nat, x.a = (an : Int) := ⟨x.a.toNat, by omega⟩
      rw [han] at x1 y
      simp only [Int.toNat_natCast] at y
      have a16 : (an : Int) < 16 := by omega
      have a0 : (0 : Int) ≤ (an : Int) := by omega
      have a17 : an < 16 := by omega
      have HS := hide hsv
      have H4 := hide h4
      clear hs hav hsv han h4
      by_cases hp : 0 < sv
      · go_quiet (fail)
        go_wp2_with fail
        go_ret
        refine ⟨?_, bl_drewN HB.out _⟩
        rw [HG.out]
        unfold goI
        rw [← HX.out, ← HS.out]
        simp [hp]
        omega
      · go_quiet (fail)
        go_wp2_with fail
        go_ret
        refine ⟨?_, bl_drewN HB.out _⟩
        rw [HG.out]
        unfold goI
        rw [← HX.out, ← HS.out, H4.out]
        simp [hp]
    · have h4' : (x.d != 4) = true := by simp [h4]
      go_quiet (fail)
      go_wp2_with fail
      go_ret
      refine ⟨?_, bl_drewN HB.out _⟩
      rw [HG.out]
      unfold goI
      rw [← HX.out]
      simp [h4]
      omega
  · have hlz : ¬ (s.j : Int) < (c.kl : Int) := by omega
    go_quiet (fail)
    go_wp2_with fail
    go_ret
    refine ⟨?_, bl_drewN HB.out _⟩
    rw [HG.out]
    unfold goI
    simp [show ¬ s.j < mk.length by omega]
theorem ended_any (g : Nat) (c : CV) (mv mk : List In) (B : MbK) (s : Mac) (W : World) (h : MchAt W g c mv mk B s) :
    Calls Tryz.prog 15 #[.pointer (some ⟨g, 0, none⟩)] W fun e w' => e = .returned (.bool (decide (s.i = mv.length ∧ s.j = mk.length))) ∧ Below W.heap.size W w' := by
  have hz := h.lt
  have d2 := h.cell (k := 2) (by decide)
  have d3 := h.cell (k := 3) (by decide)
  have d22 := h.cell (k := 22) (by decide)
  have d23 := h.cell (k := 23) (by decide)
  simp [mchV] at d2 d3 d22 d23
  have h1 := h.mvs.1
  have h2 := h.mks.1
  obtain ⟨G, hG⟩ : ∃ G, G = decide (s.i = mv.length ∧ s.j = mk.length) := ⟨_, rfl⟩
  rw [← hG]
  rw [h1, h2] at hG
  have HG := hide hG
  have heq := eqI2 (s.i : Int) (s.j : Int) (c.ml : Int) (c.kl : Int)
  clear h hG h1 h2
  go_enter Tryz.func15, Tryz.ntmps15
  go_upto_region 1 with fail
  go_quiet (fail)
  go_wp2_with fail
  go_ret
  refine ⟨?_, bl_drewN (Below.refl _ _) _⟩
  rw [HG.out]
  show Ending.returned (.bool (((s.i : Int) == (c.ml : Int)) && ((s.j : Int) == (c.kl : Int)))) = _
  congr 2
  rw [Bool.eq_iff_iff]
  simp
  omega
end Go.Proofs.YtoabffmiedbkkaaGreat.V
namespace Go.Proofs.YtoabffmiedbkkaaGreat.V
set_option maxRecDepth 20000
open Go Go.RowKit
set_option linter.unusedVariables false
set_option linter.unusedSimpArgs false

theorem wrapk_sm {x : Int} (h : -9223372036854775808 ≤ x) (h' : x ≤ 9223372036854775807) : IntKind.i64.wrap x = x := by rw [IntKind.wrap_i64]; omega
theorem load1_any (a b : Addr) (u : Value) (v : Int) (W : World) (ha : W.cell? a = some u) (hf : W.frozen? a = false) (hb : W.cell? b = some (.int .i64 v)) (hal : a.block < W.heap.size) (hbl : b.block < W.heap.size) :
    Calls Tryz.prog 43 #[.pointer (some a), .pointer (some b)] W fun e w' => e = .returned (.tuple #[]) ∧ w' = W.setCell a (.int .i64 v) := by
  go_enter Tryz.func43, Tryz.ntmps43
  go_wp2_with fail
  go_end0
  exact ⟨rfl, rfl⟩
theorem store1_any (a b : Addr) (u : Value) (v : Int) (W : World) (ha : W.cell? a = some (.int .i64 v)) (hf : W.frozen? b = false) (hb : W.cell? b = some u) (hal : a.block < W.heap.size) (hbl : b.block < W.heap.size) :
    Calls Tryz.prog 44 #[.pointer (some a), .pointer (some b)] W fun e w' => e = .returned (.tuple #[]) ∧ w' = W.setCell b (.int .i64 v) := by
  go_enter Tryz.func44, Tryz.ntmps44
  go_wp2_with fail
  go_end0
  exact ⟨rfl, rfl⟩
def In.w (x : In) : Value := .agg #[.int .i64 x.d, .int .i64 x.a, .int .i64 x.b, .int .i64 x.c, .int .i64 x.n, .int .i64 x.v]
/-- So far words have been taken. -/
def ldP (x : In) (p m : Int → Int) (k : Nat) : Int → Int := fun w => if x.a ≤ w ∧ w < x.a + k then m (x.b + (w - x.a) * x.c) else p w
theorem ldP_all {x : In} (hd : x.d = 1) (hn : 0 ≤ x.n) (p m : Int → Int) : ldP x p m x.n.toNat = doP x p m := by
  funext w
  unfold ldP doP newW
  rw [if_pos hd]
  have : inS (tchV x).wr w = decide (x.a ≤ w ∧ w < x.a + x.n) := by
    unfold tchV
    rw [if_neg (by omega), if_pos (.inl hd)]
    unfold inS
    simp
  rw [this, show ((x.n.toNat : Nat) : Int) = x.n by omega]
  simp
/-- What an instruction that moves words must find. -/
structure MvOk (x : In) (B : MbK) : Prop where
  n : 0 ≤ x.n ∧ x.n ≤ 4096
  a : 0 < x.n → 0 ≤ x.a ∧ x.a + x.n ≤ (B.p.n : Int)
  m : ∀ k : Nat, (k : Int) < x.n → 0 ≤ x.b + k * x.c ∧ x.b + k * x.c < (B.m.n : Int)
  sa : -1048576 ≤ x.a ∧ x.a ≤ 1048576
  sb : -1048576 ≤ x.b ∧ x.b ≤ 1048576
  sc : -1048576 ≤ x.c ∧ x.c ≤ 1048576
  pn : B.p.n ≤ 4096
  mn : B.m.n ≤ 1048576
set_option maxRecDepth 20000 in
set_option maxHeartbeats 8000000 in
theorem move_load (g : Nat) (c : CV) (mv mk : List In) (B : MbK) (s : Mac) (x : In) (W : World) (h : MchAt W g c mv mk B s) (hd : x.d = 1) (hx : MvOk x B) :
    Calls Tryz.prog 42 #[.pointer (some ⟨g, 0, none⟩), x.w, .func (.func 43) #[] #[]] W fun e w' => e = .returned (.tuple #[]) ∧ MchAt w' g c mv mk B { s with pad := doP x s.pad s.mem } ∧ WrB (fun b => b = B.gp) W w' := by
  have H := hide h
  have HX := hide hx
  have HD := hide hd
  obtain ⟨V, hV⟩ : ∃ V, V = W.alloc (.cells #[.int .i64 x.d, .int .i64 x.a, .int .i64 x.b, .int .i64 x.c, .int .i64 x.n, .int .i64 x.v] 50) := ⟨_, rfl⟩
  obtain ⟨ib, hib⟩ : ∃ b, b = W.heap.size := ⟨_, rfl⟩
  have hbV : Below W.heap.size W V := by rw [hV]; exact bl_new _
  have hIB : V.heap[ib]? = some (.cells #[.int .i64 x.d, .int .i64 x.a, .int .i64 x.b, .int .i64 x.c, .int .i64 x.n, .int .i64 x.v] 50 (0, 0)) := by rw [hV, hib]; exact World.alloc_heap_new _ _
  obtain ⟨N, hN⟩ : ∃ N : Nat, x.n = (N : Int) := ⟨x.n.toNat, by have := hx.n; omega⟩
  have HV := hide hV
  have HIBE := hide hib
  have HBV := hide hbV
  have HIB := hide hIB
  have hn4 : N ≤ 4096 := by have := hx.n; omega
  have HN := hide hN
  have c4 : V.cell? ⟨ib, 4, none⟩ = some (.int .i64 (N : Int)) := by simp only [World.cell?, hIB]; rw [← hN]; rfl
  have zi := (Array.getElem?_eq_some_iff.1 hIB).1
  clear h hx hd hV hib hbV hIB hN
  unfold In.w
  go_enter Tryz.func42, Tryz.ntmps42
  go_upto_region 1 with fail
  rw [← HV.out, ← HIBE.out]
  go_wp2_with fail
  go_loopw [9] (fun i wr => ∃ k : Nat, k ≤ N ∧ i = .int .i64 k ∧ MchAt wr g c mv mk B { s with pad := ldP x s.pad s.mem k } ∧ wr.heap[ib]? = some (.cells #[.int .i64 x.d, .int .i64 x.a, .int .i64 x.b, .int .i64 x.c, .int .i64 x.n, .int .i64 x.v] 50 (0, 0)) ∧ WrB (fun b => b = B.gp) W wr) (fun i _ => N - (intOf i).toNat)
  case atStart =>
    refine ⟨0, Nat.zero_le _, by first | rfl | trivial, ?_, HIB.out, WrB.of HBV.out⟩
    exact (H.out.below HBV.out).congr (fun k _ => by simp [ldP]; omega) (fun k _ => rfl)
  case round =>
    obtain ⟨k, hk, rfl, hm, hi, hw⟩ := hrel
    have HM := hide hm
    have HI := hide hi
    have HW := hide hw
    clear hm hi hw c4 zi
    by_cases hlt : k < N
    · have hkz : (k : Int) < (N : Int) := by omega
      have hnx := HN.out
      have ha := HX.out.a (by omega)
      have hmm := HX.out.m k (by omega)
      have hsa := HX.out.sa
      have hsb := HX.out.sb
      have hsc := HX.out.sc
      have hpn := HX.out.pn
      have hmn := HX.out.mn
      obtain ⟨ka, hka⟩ : ∃ ka : Nat, x.a + (k : Int) = (ka : Int) := ⟨(x.a + k).toNat, by omega⟩
      obtain ⟨km, hkm⟩ : ∃ km : Nat, x.b + (k : Int) * x.c = (km : Int) := ⟨(x.b + k * x.c).toNat, by omega⟩
      have hkal : ka < B.p.n := by omega
      have hkml : km < B.m.n := by omega
      have hpa : B.p.a = some ⟨B.gp, B.op, none⟩ := HM.out.pad.1 (by omega)
      have hma : B.m.a = some ⟨B.gm, B.om, none⟩ := HM.out.mem.1 (by omega)
      have m4 := HM.out.cell (k := 4) (by decide)
      have m5 := HM.out.cell (k := 5) (by decide)
      simp [mchV] at m4 m5
      have i1 : wr.cell? ⟨ib, 1, none⟩ = some (.int .i64 x.a) := by simp only [World.cell?, HI.out]; rfl
      have i2 : wr.cell? ⟨ib, 2, none⟩ = some (.int .i64 x.b) := by simp only [World.cell?, HI.out]; rfl
      have i3 : wr.cell? ⟨ib, 3, none⟩ = some (.int .i64 x.c) := by simp only [World.cell?, HI.out]; rfl
      have gz := HM.out.lt
      have iz := (Array.getElem?_eq_some_iff.1 HI.out).1
      have hkc : -4294967296 ≤ (k : Int) * x.c ∧ (k : Int) * x.c ≤ 4294967296 := by omega
      have HW1 : Hid (IntKind.i64.wrap (ka : Int) = (ka : Int)) := wrapk_sm (by omega) (by omega)
      have HW2 : Hid (IntKind.i64.wrap ((k : Int) * x.c) = (k : Int) * x.c) := wrapk_sm (by omega) (by omega)
      have HW3 : Hid (IntKind.i64.wrap (km : Int) = (km : Int)) := wrapk_sm (by omega) (by omega)
      clear ha hmm hsa hsb hsc hpn hmn hnx hkc
      go_upto_region 4 with fail
      refine region_made 22 24 [fIs (.func (.func 43) #[] #[]), fIs (.pointer (some ⟨g, 0, none⟩)), fIs (.pointer (some ⟨g, 0, none⟩)), fIs (.pointer (some ⟨g, 4, none⟩)), fIs (.slice B.p.a B.p.n B.p.c), fIs (.pointer (some ⟨ib, 1, none⟩)), fIs (.int .i64 x.a), fIs (.int .i64 (k : Int)), fIs (.int .i64 (x.a + (k : Int))), fIs (.pointer (some ⟨B.gp, B.op + ka, none⟩)), fIs (.pointer (some ⟨g, 0, none⟩)), fIs (.pointer (some ⟨g, 0, none⟩)), fIs (.pointer (some ⟨g, 5, none⟩)), fIs (.slice B.m.a B.m.n B.m.c), fIs (.pointer (some ⟨ib, 2, none⟩)), fIs (.int .i64 x.b), fIs (.int .i64 (k : Int)), fIs (.pointer (some ⟨ib, 3, none⟩)), fIs (.int .i64 x.c), fIs (.int .i64 ((k : Int) * x.c)), fIs (.int .i64 (x.b + (k : Int) * x.c)), fIs (.pointer (some ⟨B.gm, B.om + km, none⟩))] (by kernel_rfl) (by kernel_rfl) (by kernel_rfl) (fun _ ⟨_, _⟩ ⟨_, _⟩ _ e h => by cases e; exact h) ⟨fIs_good _, fIs_good _, fIs_good _, fIs_good _, fIs_good _, fIs_good _, fIs_good _, fIs_good _, fIs_good _, fIs_good _, fIs_good _, fIs_good _, fIs_good _, fIs_good _, fIs_good _, fIs_good _, fIs_good _, fIs_good _, fIs_good _, fIs_good _, fIs_good _, fIs_good _, trivial⟩ ?mk ?rest
      case mk =>
        refine ⟨fun u wz hb hd => ?_, fun u wz hb hd => ?_, fun u wz hb hd => ?_, fun u wz hb hd => ?_, fun u wz hb hd => ?_, fun u wz hb hd => ?_, fun u wz hb hd => ?_, fun u wz hb hd => ?_, fun u wz hb hd => ?_, fun u wz hb hd => ?_, fun u wz hb hd => ?_, fun u wz hb hd => ?_, fun u wz hb hd => ?_, fun u wz hb hd => ?_, fun u wz hb hd => ?_, fun u wz hb hd => ?_, fun u wz hb hd => ?_, fun u wz hb hd => ?_, fun u wz hb hd => ?_, fun u wz hb hd => ?_, fun u wz hb hd => ?_, fun u wz hb hd => ?_, trivial⟩
        all_goals simp only [Act.put, List.setIfInBounds_toArray, List.set_cons_zero, List.set_cons_succ]
        · go_simp
          exact ⟨rfl, Below.refl _ _, fun h => by cases h⟩
        · go_simp
          exact ⟨rfl, Below.refl _ _, fun h => by cases h⟩
        · have e1 : u 1 = .pointer (some ⟨g, 0, none⟩) := hd 1 (by omega) (by kernel_rfl)
          rw [e1]
          have gz' : g < wz.heap.size := Nat.lt_of_lt_of_le gz hb.size
          go_simp
          exact ⟨rfl, Below.refl _ _, fun h => by cases h⟩
        · have e2 : u 2 = .pointer (some ⟨g, 0, none⟩) := hd 2 (by omega) (by kernel_rfl)
          rw [e2]
          go_simp
          exact ⟨rfl, Below.refl _ _, fun h => by cases h⟩
        · have e3 : u 3 = .pointer (some ⟨g, 4, none⟩) := hd 3 (by omega) (by kernel_rfl)
          rw [e3]
          have m4' := (hb.cell (p := ⟨g, 4, none⟩) (lt_of_cell m4)).trans m4
          go_simp
          exact ⟨rfl, Below.refl _ _, fun h => by cases h⟩
        · go_simp
          exact ⟨rfl, Below.refl _ _, fun h => by cases h⟩
        · have e5 : u 5 = .pointer (some ⟨ib, 1, none⟩) := hd 5 (by omega) (by kernel_rfl)
          rw [e5]
          have i1' := (hb.cell (p := ⟨ib, 1, none⟩) (lt_of_cell i1)).trans i1
          go_simp
          exact ⟨rfl, Below.refl _ _, fun h => by cases h⟩
        · go_simp
          exact ⟨rfl, Below.refl _ _, fun h => by cases h⟩
        · have e6 : u 6 = .int .i64 x.a := hd 6 (by omega) (by kernel_rfl)
          have e7 : u 7 = .int .i64 (k : Int) := hd 7 (by omega) (by kernel_rfl)
          rw [e6, e7]
          go_simp
          rw [HW1.out]
          exact ⟨rfl, Below.refl _ _, fun h => by cases h⟩
        · have e4 : u 4 = .slice B.p.a B.p.n B.p.c := hd 4 (by omega) (by kernel_rfl)
          have e8 : u 8 = .int .i64 (x.a + (k : Int)) := hd 8 (by omega) (by kernel_rfl)
          rw [e4, e8]
          rw [hpa]
          go_simp
          exact ⟨rfl, Below.refl _ _, fun h => by cases h⟩
        · go_simp
          exact ⟨rfl, Below.refl _ _, fun h => by cases h⟩
        · have e10 : u 10 = .pointer (some ⟨g, 0, none⟩) := hd 10 (by omega) (by kernel_rfl)
          rw [e10]
          have gz' : g < wz.heap.size := Nat.lt_of_lt_of_le gz hb.size
          go_simp
          exact ⟨rfl, Below.refl _ _, fun h => by cases h⟩
        · have e11 : u 11 = .pointer (some ⟨g, 0, none⟩) := hd 11 (by omega) (by kernel_rfl)
          rw [e11]
          go_simp
          exact ⟨rfl, Below.refl _ _, fun h => by cases h⟩
        · have e12 : u 12 = .pointer (some ⟨g, 5, none⟩) := hd 12 (by omega) (by kernel_rfl)
          rw [e12]
          have m5' := (hb.cell (p := ⟨g, 5, none⟩) (lt_of_cell m5)).trans m5
          go_simp
          exact ⟨rfl, Below.refl _ _, fun h => by cases h⟩
        · go_simp
          exact ⟨rfl, Below.refl _ _, fun h => by cases h⟩
        · have e14 : u 14 = .pointer (some ⟨ib, 2, none⟩) := hd 14 (by omega) (by kernel_rfl)
          rw [e14]
          have i2' := (hb.cell (p := ⟨ib, 2, none⟩) (lt_of_cell i2)).trans i2
          go_simp
          exact ⟨rfl, Below.refl _ _, fun h => by cases h⟩
        · go_simp
          exact ⟨rfl, Below.refl _ _, fun h => by cases h⟩
        · go_simp
          exact ⟨rfl, Below.refl _ _, fun h => by cases h⟩
        · have e17 : u 17 = .pointer (some ⟨ib, 3, none⟩) := hd 17 (by omega) (by kernel_rfl)
          rw [e17]
          have i3' := (hb.cell (p := ⟨ib, 3, none⟩) (lt_of_cell i3)).trans i3
          go_simp
          exact ⟨rfl, Below.refl _ _, fun h => by cases h⟩
        · have e16 : u 16 = .int .i64 (k : Int) := hd 16 (by omega) (by kernel_rfl)
          have e18 : u 18 = .int .i64 x.c := hd 18 (by omega) (by kernel_rfl)
          rw [e16, e18]
          go_simp
          rw [HW2.out]
          exact ⟨rfl, Below.refl _ _, fun h => by cases h⟩
        · have e15 : u 15 = .int .i64 x.b := hd 15 (by omega) (by kernel_rfl)
          have e19 : u 19 = .int .i64 ((k : Int) * x.c) := hd 19 (by omega) (by kernel_rfl)
          rw [e15, e19]
          go_simp
          rw [HW3.out]
          exact ⟨rfl, Below.refl _ _, fun h => by cases h⟩
        · have e13 : u 13 = .slice B.m.a B.m.n B.m.c := hd 13 (by omega) (by kernel_rfl)
          have e20 : u 20 = .int .i64 (x.b + (k : Int) * x.c) := hd 20 (by omega) (by kernel_rfl)
          rw [e13, e20]
          rw [hma]
          go_simp
          exact ⟨rfl, Below.refl _ _, fun h => by cases h⟩
      case rest =>
        intro u wz hb hf hp
        have f0 : u 0 = .func (.func 43) #[] #[] := hf 0 (by omega)
        have f1 : u 1 = .pointer (some ⟨g, 0, none⟩) := hf 1 (by omega)
        have f2 : u 2 = .pointer (some ⟨g, 0, none⟩) := hf 2 (by omega)
        have f3 : u 3 = .pointer (some ⟨g, 4, none⟩) := hf 3 (by omega)
        have f4 : u 4 = .slice B.p.a B.p.n B.p.c := hf 4 (by omega)
        have f5 : u 5 = .pointer (some ⟨ib, 1, none⟩) := hf 5 (by omega)
        have f6 : u 6 = .int .i64 x.a := hf 6 (by omega)
        have f7 : u 7 = .int .i64 (k : Int) := hf 7 (by omega)
        have f8 : u 8 = .int .i64 (x.a + (k : Int)) := hf 8 (by omega)
        have f9 : u 9 = .pointer (some ⟨B.gp, B.op + ka, none⟩) := hf 9 (by omega)
        have f10 : u 10 = .pointer (some ⟨g, 0, none⟩) := hf 10 (by omega)
        have f11 : u 11 = .pointer (some ⟨g, 0, none⟩) := hf 11 (by omega)
        have f12 : u 12 = .pointer (some ⟨g, 5, none⟩) := hf 12 (by omega)
        have f13 : u 13 = .slice B.m.a B.m.n B.m.c := hf 13 (by omega)
        have f14 : u 14 = .pointer (some ⟨ib, 2, none⟩) := hf 14 (by omega)
        have f15 : u 15 = .int .i64 x.b := hf 15 (by omega)
        have f16 : u 16 = .int .i64 (k : Int) := hf 16 (by omega)
        have f17 : u 17 = .pointer (some ⟨ib, 3, none⟩) := hf 17 (by omega)
        have f18 : u 18 = .int .i64 x.c := hf 18 (by omega)
        have f19 : u 19 = .int .i64 ((k : Int) * x.c) := hf 19 (by omega)
        have f20 : u 20 = .int .i64 (x.b + (k : Int) * x.c) := hf 20 (by omega)
        have f21 : u 21 = .pointer (some ⟨B.gm, B.om + km, none⟩) := hf 21 (by omega)
        refine UptoW.rest 1 22 (by rfl) (by kernel_rfl) ?_
        simp only [List.take, List.drop, putOps, Act.put, List.setIfInBounds_toArray, List.set_cons_zero, List.set_cons_succ, Nat.reduceAdd, f0, f1, f2, f3, f4, f5, f6, f7, f8, f9, f10, f11, f12, f13, f14, f15, f16, f17, f18, f19, f20, f21]
        clear f0 f1 f2 f3 f4 f5 f6 f7 f8 f9 f10 f11 f12 f13 f14 f15 f16 f17 f18 f19 f20 f21 hf hp
        have HBZ := hide hb
        have hmz := HM.out.below hb
        have hiz := (hb.block ib iz).trans HI.out
        have pc := hmz.pad.cell hkal
        have mc := hmz.mem.cell hkml
        have pf := hmz.pad.frozen (by omega) (B.op + ka)
        have mf := hmz.mem.frozen (by omega) (B.om + km)
        have pz := hmz.pad.lt (by omega)
        have mz := hmz.mem.lt (by omega)
        simp only at pc mc
        have HMZ := hide hmz
        have HIZ := hide hiz
        have HWZ := hide (HW.out.trans (WrB.of hb))
        clear hb hmz hiz
        go_wp2_with (go_at_call 43; refine (load1_any _ _ _ _ _ pc pf mc pz mz).mono ?_; rintro e w9 ⟨rfl, h9⟩; obtain rfl := h9.symm)
        go_roundw
        case rel =>
          refine ⟨k + 1, by omega, by first | rfl | go_num, ?_, ?_, HWZ.out.set rfl _⟩
          · refine ((HMZ.out.putPad hkal _).congr (p := ldP x s.pad s.mem (k + 1)) (m := s.mem) (fun q hq => ?_) (fun q hq => rfl))
            simp only [ldP]
            by_cases e : (q : Int) = (ka : Int)
            · rw [if_pos e, if_pos (by omega), e, ← hkm, show (ka : Int) - x.a = (k : Int) by omega]
            · rw [if_neg e]
              by_cases e2 : x.a ≤ (q : Int) ∧ (q : Int) < x.a + (k : Int)
              · rw [if_pos e2, if_pos (by omega)]
              · rw [if_neg e2, if_neg (by omega)]
          · rw [Below.heap_setCell _ _ _ _ (fun e => by have h8 := HIZ.out; obtain ⟨cur, h9, _⟩ := HMZ.out.pad.2.1 (by omega); simp only at e; rw [← e, h8] at h9; simp at h9)]
            exact HIZ.out
        case measure => simp [intOf]; omega
    · obtain rfl : N = k := by omega
      go_wp2_with fail
      go_end0
      refine ⟨rfl, ?_, HW.out⟩
      have hm := HM.out
      have e : ldP x s.pad s.mem N = doP x s.pad s.mem := by
        have := ldP_all HD.out HX.out.n.1 s.pad s.mem
        rw [HN.out] at this
        simpa using this
      rw [e] at hm
      exact hm
set_option maxRecDepth 20000 in
set_option maxHeartbeats 8000000 in
theorem move_store (g : Nat) (c : CV) (mv mk : List In) (B : MbK) (s : Mac) (x : In) (W : World) (h : MchAt W g c mv mk B s) (hd : x.d = 2) (hx : MvOk x B) :
    Calls Tryz.prog 42 #[.pointer (some ⟨g, 0, none⟩), x.w, .func (.func 44) #[] #[]] W fun e w' => e = .returned (.tuple #[]) ∧ MchAt w' g c mv mk B { s with mem := doMm x s.pad s.mem } ∧ WrB (fun b => b = B.gm) W w' := by
  have H := hide h
  have HX := hide hx
  have HD := hide hd
  obtain ⟨V, hV⟩ : ∃ V, V = W.alloc (.cells #[.int .i64 x.d, .int .i64 x.a, .int .i64 x.b, .int .i64 x.c, .int .i64 x.n, .int .i64 x.v] 50) := ⟨_, rfl⟩
  obtain ⟨ib, hib⟩ : ∃ b, b = W.heap.size := ⟨_, rfl⟩
  have hbV : Below W.heap.size W V := by rw [hV]; exact bl_new _
  have hIB : V.heap[ib]? = some (.cells #[.int .i64 x.d, .int .i64 x.a, .int .i64 x.b, .int .i64 x.c, .int .i64 x.n, .int .i64 x.v] 50 (0, 0)) := by rw [hV, hib]; exact World.alloc_heap_new _ _
  obtain ⟨N, hN⟩ : ∃ N : Nat, x.n = (N : Int) := ⟨x.n.toNat, by have := hx.n; omega⟩
  have HV := hide hV
  have HIBE := hide hib
  have HBV := hide hbV
  have HIB := hide hIB
  have hn4 : N ≤ 4096 := by have := hx.n; omega
  have HN := hide hN
  have c4 : V.cell? ⟨ib, 4, none⟩ = some (.int .i64 (N : Int)) := by simp only [World.cell?, hIB]; rw [← hN]; rfl
  have zi := (Array.getElem?_eq_some_iff.1 hIB).1
  clear h hx hd hV hib hbV hIB hN
  unfold In.w
  go_enter Tryz.func42, Tryz.ntmps42
  go_upto_region 1 with fail
  rw [← HV.out, ← HIBE.out]
  go_wp2_with fail
  go_loopw [9] (fun i wr => ∃ k : Nat, k ≤ N ∧ i = .int .i64 k ∧ MchAt wr g c mv mk B { s with mem := stoM x s.pad k s.mem } ∧ wr.heap[ib]? = some (.cells #[.int .i64 x.d, .int .i64 x.a, .int .i64 x.b, .int .i64 x.c, .int .i64 x.n, .int .i64 x.v] 50 (0, 0)) ∧ WrB (fun b => b = B.gm) W wr) (fun i _ => N - (intOf i).toNat)
  case atStart =>
    refine ⟨0, Nat.zero_le _, by first | rfl | trivial, ?_, HIB.out, WrB.of HBV.out⟩
    exact (H.out.below HBV.out).congr (fun k _ => rfl) (fun k _ => rfl)
  case round =>
    obtain ⟨k, hk, rfl, hm, hi, hw⟩ := hrel
    have HM := hide hm
    have HI := hide hi
    have HW := hide hw
    clear hm hi hw c4 zi
    by_cases hlt : k < N
    · have hkz : (k : Int) < (N : Int) := by omega
      have hnx := HN.out
      have ha := HX.out.a (by omega)
      have hmm := HX.out.m k (by omega)
      have hsa := HX.out.sa
      have hsb := HX.out.sb
      have hsc := HX.out.sc
      have hpn := HX.out.pn
      have hmn := HX.out.mn
      obtain ⟨ka, hka⟩ : ∃ ka : Nat, x.a + (k : Int) = (ka : Int) := ⟨(x.a + k).toNat, by omega⟩
      obtain ⟨km, hkm⟩ : ∃ km : Nat, x.b + (k : Int) * x.c = (km : Int) := ⟨(x.b + k * x.c).toNat, by omega⟩
      have hkal : ka < B.p.n := by omega
      have hkml : km < B.m.n := by omega
      have hpa : B.p.a = some ⟨B.gp, B.op, none⟩ := HM.out.pad.1 (by omega)
      have hma : B.m.a = some ⟨B.gm, B.om, none⟩ := HM.out.mem.1 (by omega)
      have m4 := HM.out.cell (k := 4) (by decide)
      have m5 := HM.out.cell (k := 5) (by decide)
      simp [mchV] at m4 m5
      have i1 : wr.cell? ⟨ib, 1, none⟩ = some (.int .i64 x.a) := by simp only [World.cell?, HI.out]; rfl
      have i2 : wr.cell? ⟨ib, 2, none⟩ = some (.int .i64 x.b) := by simp only [World.cell?, HI.out]; rfl
      have i3 : wr.cell? ⟨ib, 3, none⟩ = some (.int .i64 x.c) := by simp only [World.cell?, HI.out]; rfl
      have gz := HM.out.lt
      have iz := (Array.getElem?_eq_some_iff.1 HI.out).1
      have hkc : -4294967296 ≤ (k : Int) * x.c ∧ (k : Int) * x.c ≤ 4294967296 := by omega
      have HW1 : Hid (IntKind.i64.wrap (ka : Int) = (ka : Int)) := wrapk_sm (by omega) (by omega)
      have HW2 : Hid (IntKind.i64.wrap ((k : Int) * x.c) = (k : Int) * x.c) := wrapk_sm (by omega) (by omega)
      have HW3 : Hid (IntKind.i64.wrap (km : Int) = (km : Int)) := wrapk_sm (by omega) (by omega)
      clear ha hmm hsa hsb hsc hpn hmn hnx hkc
      go_upto_region 4 with fail
      refine region_made 22 24 [fIs (.func (.func 44) #[] #[]), fIs (.pointer (some ⟨g, 0, none⟩)), fIs (.pointer (some ⟨g, 0, none⟩)), fIs (.pointer (some ⟨g, 4, none⟩)), fIs (.slice B.p.a B.p.n B.p.c), fIs (.pointer (some ⟨ib, 1, none⟩)), fIs (.int .i64 x.a), fIs (.int .i64 (k : Int)), fIs (.int .i64 (x.a + (k : Int))), fIs (.pointer (some ⟨B.gp, B.op + ka, none⟩)), fIs (.pointer (some ⟨g, 0, none⟩)), fIs (.pointer (some ⟨g, 0, none⟩)), fIs (.pointer (some ⟨g, 5, none⟩)), fIs (.slice B.m.a B.m.n B.m.c), fIs (.pointer (some ⟨ib, 2, none⟩)), fIs (.int .i64 x.b), fIs (.int .i64 (k : Int)), fIs (.pointer (some ⟨ib, 3, none⟩)), fIs (.int .i64 x.c), fIs (.int .i64 ((k : Int) * x.c)), fIs (.int .i64 (x.b + (k : Int) * x.c)), fIs (.pointer (some ⟨B.gm, B.om + km, none⟩))] (by kernel_rfl) (by kernel_rfl) (by kernel_rfl) (fun _ ⟨_, _⟩ ⟨_, _⟩ _ e h => by cases e; exact h) ⟨fIs_good _, fIs_good _, fIs_good _, fIs_good _, fIs_good _, fIs_good _, fIs_good _, fIs_good _, fIs_good _, fIs_good _, fIs_good _, fIs_good _, fIs_good _, fIs_good _, fIs_good _, fIs_good _, fIs_good _, fIs_good _, fIs_good _, fIs_good _, fIs_good _, fIs_good _, trivial⟩ ?mk ?rest
      case mk =>
        refine ⟨fun u wz hb hd => ?_, fun u wz hb hd => ?_, fun u wz hb hd => ?_, fun u wz hb hd => ?_, fun u wz hb hd => ?_, fun u wz hb hd => ?_, fun u wz hb hd => ?_, fun u wz hb hd => ?_, fun u wz hb hd => ?_, fun u wz hb hd => ?_, fun u wz hb hd => ?_, fun u wz hb hd => ?_, fun u wz hb hd => ?_, fun u wz hb hd => ?_, fun u wz hb hd => ?_, fun u wz hb hd => ?_, fun u wz hb hd => ?_, fun u wz hb hd => ?_, fun u wz hb hd => ?_, fun u wz hb hd => ?_, fun u wz hb hd => ?_, fun u wz hb hd => ?_, trivial⟩
        all_goals simp only [Act.put, List.setIfInBounds_toArray, List.set_cons_zero, List.set_cons_succ]
        · go_simp
          exact ⟨rfl, Below.refl _ _, fun h => by cases h⟩
        · go_simp
          exact ⟨rfl, Below.refl _ _, fun h => by cases h⟩
        · have e1 : u 1 = .pointer (some ⟨g, 0, none⟩) := hd 1 (by omega) (by kernel_rfl)
          rw [e1]
          have gz' : g < wz.heap.size := Nat.lt_of_lt_of_le gz hb.size
          go_simp
          exact ⟨rfl, Below.refl _ _, fun h => by cases h⟩
        · have e2 : u 2 = .pointer (some ⟨g, 0, none⟩) := hd 2 (by omega) (by kernel_rfl)
          rw [e2]
          go_simp
          exact ⟨rfl, Below.refl _ _, fun h => by cases h⟩
        · have e3 : u 3 = .pointer (some ⟨g, 4, none⟩) := hd 3 (by omega) (by kernel_rfl)
          rw [e3]
          have m4' := (hb.cell (p := ⟨g, 4, none⟩) (lt_of_cell m4)).trans m4
          go_simp
          exact ⟨rfl, Below.refl _ _, fun h => by cases h⟩
        · go_simp
          exact ⟨rfl, Below.refl _ _, fun h => by cases h⟩
        · have e5 : u 5 = .pointer (some ⟨ib, 1, none⟩) := hd 5 (by omega) (by kernel_rfl)
          rw [e5]
          have i1' := (hb.cell (p := ⟨ib, 1, none⟩) (lt_of_cell i1)).trans i1
          go_simp
          exact ⟨rfl, Below.refl _ _, fun h => by cases h⟩
        · go_simp
          exact ⟨rfl, Below.refl _ _, fun h => by cases h⟩
        · have e6 : u 6 = .int .i64 x.a := hd 6 (by omega) (by kernel_rfl)
          have e7 : u 7 = .int .i64 (k : Int) := hd 7 (by omega) (by kernel_rfl)
          rw [e6, e7]
          go_simp
          rw [HW1.out]
          exact ⟨rfl, Below.refl _ _, fun h => by cases h⟩
        · have e4 : u 4 = .slice B.p.a B.p.n B.p.c := hd 4 (by omega) (by kernel_rfl)
          have e8 : u 8 = .int .i64 (x.a + (k : Int)) := hd 8 (by omega) (by kernel_rfl)
          rw [e4, e8]
          rw [hpa]
          go_simp
          exact ⟨rfl, Below.refl _ _, fun h => by cases h⟩
        · go_simp
          exact ⟨rfl, Below.refl _ _, fun h => by cases h⟩
        · have e10 : u 10 = .pointer (some ⟨g, 0, none⟩) := hd 10 (by omega) (by kernel_rfl)
          rw [e10]
          have gz' : g < wz.heap.size := Nat.lt_of_lt_of_le gz hb.size
          go_simp
          exact ⟨rfl, Below.refl _ _, fun h => by cases h⟩
        · have e11 : u 11 = .pointer (some ⟨g, 0, none⟩) := hd 11 (by omega) (by kernel_rfl)
          rw [e11]
          go_simp
          exact ⟨rfl, Below.refl _ _, fun h => by cases h⟩
        · have e12 : u 12 = .pointer (some ⟨g, 5, none⟩) := hd 12 (by omega) (by kernel_rfl)
          rw [e12]
          have m5' := (hb.cell (p := ⟨g, 5, none⟩) (lt_of_cell m5)).trans m5
          go_simp
          exact ⟨rfl, Below.refl _ _, fun h => by cases h⟩
        · go_simp
          exact ⟨rfl, Below.refl _ _, fun h => by cases h⟩
        · have e14 : u 14 = .pointer (some ⟨ib, 2, none⟩) := hd 14 (by omega) (by kernel_rfl)
          rw [e14]
          have i2' := (hb.cell (p := ⟨ib, 2, none⟩) (lt_of_cell i2)).trans i2
          go_simp
          exact ⟨rfl, Below.refl _ _, fun h => by cases h⟩
        · go_simp
          exact ⟨rfl, Below.refl _ _, fun h => by cases h⟩
        · go_simp
          exact ⟨rfl, Below.refl _ _, fun h => by cases h⟩
        · have e17 : u 17 = .pointer (some ⟨ib, 3, none⟩) := hd 17 (by omega) (by kernel_rfl)
          rw [e17]
          have i3' := (hb.cell (p := ⟨ib, 3, none⟩) (lt_of_cell i3)).trans i3
          go_simp
          exact ⟨rfl, Below.refl _ _, fun h => by cases h⟩
        · have e16 : u 16 = .int .i64 (k : Int) := hd 16 (by omega) (by kernel_rfl)
          have e18 : u 18 = .int .i64 x.c := hd 18 (by omega) (by kernel_rfl)
          rw [e16, e18]
          go_simp
          rw [HW2.out]
          exact ⟨rfl, Below.refl _ _, fun h => by cases h⟩
        · have e15 : u 15 = .int .i64 x.b := hd 15 (by omega) (by kernel_rfl)
          have e19 : u 19 = .int .i64 ((k : Int) * x.c) := hd 19 (by omega) (by kernel_rfl)
          rw [e15, e19]
          go_simp
          rw [HW3.out]
          exact ⟨rfl, Below.refl _ _, fun h => by cases h⟩
        · have e13 : u 13 = .slice B.m.a B.m.n B.m.c := hd 13 (by omega) (by kernel_rfl)
          have e20 : u 20 = .int .i64 (x.b + (k : Int) * x.c) := hd 20 (by omega) (by kernel_rfl)
          rw [e13, e20]
          rw [hma]
          go_simp
          exact ⟨rfl, Below.refl _ _, fun h => by cases h⟩
      case rest =>
        intro u wz hb hf hp
        have f0 : u 0 = .func (.func 44) #[] #[] := hf 0 (by omega)
        have f1 : u 1 = .pointer (some ⟨g, 0, none⟩) := hf 1 (by omega)
        have f2 : u 2 = .pointer (some ⟨g, 0, none⟩) := hf 2 (by omega)
        have f3 : u 3 = .pointer (some ⟨g, 4, none⟩) := hf 3 (by omega)
        have f4 : u 4 = .slice B.p.a B.p.n B.p.c := hf 4 (by omega)
        have f5 : u 5 = .pointer (some ⟨ib, 1, none⟩) := hf 5 (by omega)
        have f6 : u 6 = .int .i64 x.a := hf 6 (by omega)
        have f7 : u 7 = .int .i64 (k : Int) := hf 7 (by omega)
        have f8 : u 8 = .int .i64 (x.a + (k : Int)) := hf 8 (by omega)
        have f9 : u 9 = .pointer (some ⟨B.gp, B.op + ka, none⟩) := hf 9 (by omega)
        have f10 : u 10 = .pointer (some ⟨g, 0, none⟩) := hf 10 (by omega)
        have f11 : u 11 = .pointer (some ⟨g, 0, none⟩) := hf 11 (by omega)
        have f12 : u 12 = .pointer (some ⟨g, 5, none⟩) := hf 12 (by omega)
        have f13 : u 13 = .slice B.m.a B.m.n B.m.c := hf 13 (by omega)
        have f14 : u 14 = .pointer (some ⟨ib, 2, none⟩) := hf 14 (by omega)
        have f15 : u 15 = .int .i64 x.b := hf 15 (by omega)
        have f16 : u 16 = .int .i64 (k : Int) := hf 16 (by omega)
        have f17 : u 17 = .pointer (some ⟨ib, 3, none⟩) := hf 17 (by omega)
        have f18 : u 18 = .int .i64 x.c := hf 18 (by omega)
        have f19 : u 19 = .int .i64 ((k : Int) * x.c) := hf 19 (by omega)
        have f20 : u 20 = .int .i64 (x.b + (k : Int) * x.c) := hf 20 (by omega)
        have f21 : u 21 = .pointer (some ⟨B.gm, B.om + km, none⟩) := hf 21 (by omega)
        refine UptoW.rest 1 22 (by rfl) (by kernel_rfl) ?_
        simp only [List.take, List.drop, putOps, Act.put, List.setIfInBounds_toArray, List.set_cons_zero, List.set_cons_succ, Nat.reduceAdd, f0, f1, f2, f3, f4, f5, f6, f7, f8, f9, f10, f11, f12, f13, f14, f15, f16, f17, f18, f19, f20, f21]
        clear f0 f1 f2 f3 f4 f5 f6 f7 f8 f9 f10 f11 f12 f13 f14 f15 f16 f17 f18 f19 f20 f21 hf hp
        have HBZ := hide hb
        have hmz := HM.out.below hb
        have hiz := (hb.block ib iz).trans HI.out
        have pc := hmz.pad.cell hkal
        have mc := hmz.mem.cell hkml
        have pf := hmz.pad.frozen (by omega) (B.op + ka)
        have mf := hmz.mem.frozen (by omega) (B.om + km)
        have pz := hmz.pad.lt (by omega)
        have mz := hmz.mem.lt (by omega)
        simp only at pc mc
        have HMZ := hide hmz
        have HIZ := hide hiz
        have HWZ := hide (HW.out.trans (WrB.of hb))
        clear hb hmz hiz
        go_wp2_with (go_at_call 44; refine (store1_any _ _ _ _ _ pc mf mc pz mz).mono ?_; rintro e w9 ⟨rfl, h9⟩; obtain rfl := h9.symm)
        go_roundw
        case rel =>
          refine ⟨k + 1, by omega, by first | rfl | go_num, ?_, ?_, HWZ.out.set rfl _⟩
          · refine ((HMZ.out.putMem hkml _).congr (p := s.pad) (m := stoM x s.pad (k + 1) s.mem) (fun q hq => rfl) (fun q hq => ?_))
            simp only [stoM]
            rw [← hkm, ← hka]
          · rw [Below.heap_setCell _ _ _ _ (fun e => by have h8 := HIZ.out; obtain ⟨cur, h9, _⟩ := HMZ.out.mem.2.1 (by omega); simp only at e; rw [← e, h8] at h9; simp at h9)]
            exact HIZ.out
        case measure => simp [intOf]; omega
    · obtain rfl : N = k := by omega
      go_wp2_with fail
      go_end0
      refine ⟨rfl, ?_, HW.out⟩
      have hm := HM.out
      have e : stoM x s.pad N s.mem = doMm x s.pad s.mem := by
        unfold doMm
        rw [if_pos HD.out, HN.out]
        simp
      rw [e] at hm
      exact hm
end Go.Proofs.YtoabffmiedbkkaaGreat.V
