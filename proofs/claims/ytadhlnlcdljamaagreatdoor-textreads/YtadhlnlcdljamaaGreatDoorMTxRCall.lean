/-
  The document's side: call.
-/
import Derived.Test.YtadhlnlcdljamaaGreatDoorM2
import Derived.Test.YtadhlnlcdljamaaGreatDoorTxCall
import Derived.Deep.DeepCutAuto
namespace Go.Proofs.YtadhlnlcdljamaaGreatDoor.V
set_option maxRecDepth 20000
open Go.RowKit
set_option linter.unusedVariables false

/-- The blocks of call at its beginning. -/
theorem call_new {X : Tks} {A : Option Addr} {c : Nat} {w : World} (h : LsAt X A c w) (nm : ByteArray) : Bt X A c w.heap.size (w.heap.size + 1 + 1) (w.heap.size + 1 + 1 + 1) w (((((w.alloc (.cells #[.slice A X.ts.length c, .int .i64 (X.n : Int)] 41)).alloc (.cells #[.int .i64 3, .string nm, .int .i64 0, .bool false, .slice none 0 0, .slice none 0 0, .slice none 0 0] 47)).alloc (.cells z7 47)).alloc (.cells #[.int .i64 0, .int .i64 0] 25)).alloc (.cells #[.int .i64 0, .int .i64 0] 25)) ∧ SevAt (((((w.alloc (.cells #[.slice A X.ts.length c, .int .i64 (X.n : Int)] 41)).alloc (.cells #[.int .i64 3, .string nm, .int .i64 0, .bool false, .slice none 0 0, .slice none 0 0, .slice none 0 0] 47)).alloc (.cells z7 47)).alloc (.cells #[.int .i64 0, .int .i64 0] 25)).alloc (.cells #[.int .i64 0, .int .i64 0] 25)) (w.heap.size + 1) (.int .i64 3) (.string nm) (.int .i64 0) (.bool false) (.slice none 0 0) (.slice none 0 0) (.slice none 0 0) ∧ TwoAt 25 (((((w.alloc (.cells #[.slice A X.ts.length c, .int .i64 (X.n : Int)] 41)).alloc (.cells #[.int .i64 3, .string nm, .int .i64 0, .bool false, .slice none 0 0, .slice none 0 0, .slice none 0 0] 47)).alloc (.cells z7 47)).alloc (.cells #[.int .i64 0, .int .i64 0] 25)).alloc (.cells #[.int .i64 0, .int .i64 0] 25)) (w.heap.size + 1 + 1 + 1 + 1) (.int .i64 0) (.int .i64 0) := by
  refine ⟨⟨h, ((((TwoAt.new _ _ _ _).alloc _).alloc _).alloc _).alloc _, ?_, ?_, (((((Below.refl _ w).alloc (Nat.le_refl _) _).alloc (by simp) _).alloc (by simp; omega) _).alloc (by simp; omega) _).alloc (by simp; omega) _⟩, ?_, ?_⟩
  · have := ((SevAt.new ((w.alloc (.cells #[.slice A X.ts.length c, .int .i64 (X.n : Int)] 41)).alloc (.cells #[.int .i64 3, .string nm, .int .i64 0, .bool false, .slice none 0 0, .slice none 0 0, .slice none 0 0] 47)) (.int .i64 0) (.string ⟨#[]⟩) (.int .i64 0) (.bool false) (.slice none 0 0) (.slice none 0 0) (.slice none 0 0)).alloc (.cells #[.int .i64 0, .int .i64 0] 25)).alloc (.cells #[.int .i64 0, .int .i64 0] 25)
    simpa using this
  · have := (TwoAt.new 25 (((w.alloc (.cells #[.slice A X.ts.length c, .int .i64 (X.n : Int)] 41)).alloc (.cells #[.int .i64 3, .string nm, .int .i64 0, .bool false, .slice none 0 0, .slice none 0 0, .slice none 0 0] 47)).alloc (.cells z7 47)) (.int .i64 0) (.int .i64 0)).alloc (.cells #[.int .i64 0, .int .i64 0] 25)
    simpa using this
  · have := (((SevAt.new (w.alloc (.cells #[.slice A X.ts.length c, .int .i64 (X.n : Int)] 41)) (.int .i64 3) (.string nm) (.int .i64 0) (.bool false) (.slice none 0 0) (.slice none 0 0) (.slice none 0 0)).alloc (.cells z7 47)).alloc (.cells #[.int .i64 0, .int .i64 0] 25)).alloc (.cells #[.int .i64 0, .int .i64 0] 25)
    simpa using this
  · have := TwoAt.new 25 ((((w.alloc (.cells #[.slice A X.ts.length c, .int .i64 (X.n : Int)] 41)).alloc (.cells #[.int .i64 3, .string nm, .int .i64 0, .bool false, .slice none 0 0, .slice none 0 0, .slice none 0 0] 47)).alloc (.cells z7 47)).alloc (.cells #[.int .i64 0, .int .i64 0] 25)) (.int .i64 0) (.int .i64 0)
    simpa using this
def callR (X : Tks) (E : Nat → Res Tr) (nm : ByteArray) (sh : Bool × List (ByteArray × Int)) (f j : Nat) (ls : List (List Int)) : Res Tr := (listsL X f j ls).bind fun ls i => (brackS X E i).bind fun ks i => .ok (.mk 3 nm 0 sh.1 sh.2 ls ks) i
/-- What is read of kids from here on. -/
def kidS (X : Tks) (E : Nat → Res Tr) (f j : Nat) : List Tr → Res (List Tr)
  | [] => if ((X.tx j).toList == tC 41) = true then .ok [] (j + 1) else (E j).bind fun a j => argsL X E (X.ts.length + 1) j [a]
  | u :: us => argsL X E f j (u :: us)
theorem RefP.anyL {r : Res (List Int)} {W w1 : World} {e : Ending} (h : RefP isSl (repL W) r W e w1) : Below W.heap.size W w1 ∧ ∃ (A : Option Addr) (n m : Nat) (E : Int) (K : Nat) (J : Int),
    e = .returned (.tuple #[.slice A n m, .int .i64 J, .agg #[.int .i64 E, .int .i64 (K : Int)]]) ∧ ((∃ l j, r = .ok l j ∧ J = ((j : Nat) : Int) ∧ E = 0 ∧ K = 0 ∧ SliceV IntV w1 (from_ W) l (.slice A n m)) ∨ (r = .bad E K ∧ E ≠ 0)) := by
  obtain ⟨h1, h2⟩ := h
  refine ⟨h1, ?_⟩
  cases r with
  | bad T k =>
    obtain ⟨h3, v, J, rfl, A, n, m, rfl⟩ := h2
    exact ⟨A, n, m, T, k, J, rfl, .inr ⟨rfl, h3⟩⟩
  | ok l j =>
    obtain ⟨v, rfl, h3⟩ := h2
    have h4 : SliceV IntV w1 (from_ W) l v := h3
    obtain ⟨A, m, rfl⟩ := h4.form
    exact ⟨A, _, m, 0, 0, j, rfl, .inl ⟨l, j, rfl, rfl, rfl, rfl, h4⟩⟩
theorem RefP.anyD {r : Res (List (ByteArray × Int))} {W w1 : World} {e : Ending} (h : RefP isSl (repD W) r W e w1) : Below W.heap.size W w1 ∧ ∃ (A : Option Addr) (n m : Nat) (E : Int) (K : Nat) (J : Int),
    e = .returned (.tuple #[.slice A n m, .int .i64 J, .agg #[.int .i64 E, .int .i64 (K : Int)]]) ∧ ((∃ l j, r = .ok l j ∧ J = ((j : Nat) : Int) ∧ E = 0 ∧ K = 0 ∧ SliceV DimV w1 (from_ W) l (.slice A n m)) ∨ (r = .bad E K ∧ E ≠ 0)) := by
  obtain ⟨h1, h2⟩ := h
  refine ⟨h1, ?_⟩
  cases r with
  | bad T k =>
    obtain ⟨h3, v, J, rfl, A, n, m, rfl⟩ := h2
    exact ⟨A, n, m, T, k, J, rfl, .inr ⟨rfl, h3⟩⟩
  | ok l j =>
    obtain ⟨v, rfl, h3⟩ := h2
    have h4 : SliceV DimV w1 (from_ W) l v := h3
    obtain ⟨A, m, rfl⟩ := h4.form
    exact ⟨A, _, m, 0, 0, j, rfl, .inl ⟨l, j, rfl, rfl, rfl, rfl, h4⟩⟩
theorem own_form {w : World} {B : Nat} {t : TypeId} {k n : Nat} {v : Value} {xs : List Value} (h : w.ownsRow B t k v (n + 1) xs) : ∃ g cap, v = .slice (some ⟨g, 0, none⟩) (n + 1) cap := by
  rcases h.2 with ⟨_, h1⟩ | ⟨g, cap, _, h1, _⟩
  · omega
  · exact ⟨g, cap, h1⟩
/-- Where a call stands whose kids are being read. -/
structure KidAt (X : Tks) (A : Option Addr) (c : Nat) (w : World) (nm : ByteArray) (sh : Bool) (ds : List (ByteArray × Int)) (ls : List (List Int)) (M : Nat) (As : Option Addr) (ns cs : Nat) (Al : Option Addr) (nl cl : Nat) (Ak : Option Addr) (nk ck : Nat) (us : List Tr) (W : World) : Prop where
  x : Bt X A c w.heap.size (w.heap.size + 1 + 1) (w.heap.size + 1 + 1 + 1) w W
  s : M ≤ W.heap.size
  t : SevAt W (w.heap.size + 1) (.int .i64 3) (.string nm) (.int .i64 0) (.bool sh) (.slice As ns cs) (.slice Al nl cl) (.slice Ak nk ck)
  f : TwoAt 25 W (w.heap.size + 1 + 1 + 1 + 1) (.int .i64 0) (.int .i64 0)
  d : SliceV DimV W (amid (w.heap.size + 4) M) ds (.slice As ns cs)
  l : SliceV ListV W (amid (w.heap.size + 4) M) ls (.slice Al nl cl)
  k : GrowV TreeV 47 7 W M (far M) us (.slice Ak nk ck)
theorem KidAt.below {X : Tks} {A : Option Addr} {c : Nat} {w W W' : World} {nm : ByteArray} {sh : Bool} {ds : List (ByteArray × Int)} {ls : List (List Int)} {M : Nat} {As : Option Addr} {ns cs : Nat} {Al : Option Addr} {nl cl : Nat} {Ak : Option Addr} {nk ck : Nat} {us : List Tr}
    (h : KidAt X A c w nm sh ds ls M As ns cs Al nl cl Ak nk ck us W) (hb : Below W.heap.size W W') : KidAt X A c w nm sh ds ls M As ns cs Al nl cl Ak nk ck us W' :=
  ⟨h.x.below hb, Nat.le_trans h.s hb.size, h.t.below hb, h.f.below hb, DimV.stays.slice h.d (Keep.of_below hb), ListV.stays.slice h.l (Keep.of_below hb), h.k.far TreeV.stays hb⟩
theorem argsL_succ {α : Type} (X : Tks) (E : Nat → Res α) (f i : Nat) (us : List α) : argsL X E (f + 1) i us = if ((X.tx i).toList == tC 44) = true then (E (i + 1)).bind fun a j => argsL X E f j (us ++ [a]) else if ((X.tx i).toList == tC 41) = true then .ok us (i + 1) else .bad 7 (X.ps i) := rfl
theorem kidS_cons {X : Tks} {E : Nat → Res Tr} {f j : Nat} {u : Tr} {us : List Tr} : kidS X E f j (u :: us) = argsL X E f j (u :: us) := rfl
theorem kidS_end {X : Tks} {E : Nat → Res Tr} {f j : Nat} {us : List Tr} (hc : ((X.tx j).toList == tC 41) = true) (hf : us = [] ∨ X.ts.length - j < f) : kidS X E f j us = .ok us (j + 1) := by
  cases us with
  | nil => unfold kidS; rw [if_pos hc]
  | cons u us =>
    obtain ⟨f, rfl⟩ : ∃ g, f = g + 1 := by
      rcases hf with h | h
      · cases h
      · exact ⟨f - 1, by omega⟩
    rw [kidS_cons, argsL_succ, if_neg (by rw [tx_is hc]; decide +kernel), if_pos hc]
theorem KidAt.fin {X : Tks} {A : Option Addr} {c : Nat} {w W W2 : World} {nm : ByteArray} {sh : Bool} {ds : List (ByteArray × Int)} {ls : List (List Int)} {M : Nat} {As : Option Addr} {ns cs : Nat} {Al : Option Addr} {nl cl : Nat} {Ak : Option Addr} {nk ck : Nat} {us : List Tr}
    (h : KidAt X A c w nm sh ds ls M As ns cs Al nl cl Ak nk ck us W) (hM : w.heap.size + 5 ≤ M) (k : Keep (V.far (w.heap.size + 5)) W W2) : TreeV W2 (from_ w) (.mk 3 nm 0 sh ds ls us) [.int .i64 3, .string nm, .int .i64 0, .bool sh, .slice As ns cs, .slice Al nl cl, .slice Ak nk ck] := by
  rw [TreeV.iff]
  have e1 : ∀ b, amid (w.heap.size + 4) M b → V.far (w.heap.size + 5) b := fun b hb => by have := hb.1; unfold V.far; omega
  have e2 : ∀ b, V.far M b → V.far (w.heap.size + 5) b := fun b hb => by have h9 : M ≤ b := hb; unfold V.far; omega
  have e3 : ∀ b, V.far (w.heap.size + 5) b → from_ w b := fun b hb => by have h9 : w.heap.size + 5 ≤ b := hb; unfold from_; omega
  refine ⟨_, _, _, rfl, ?_, ?_, ?_⟩
  · exact DimV.stays.slice_weaken (DimV.stays.slice (DimV.stays.slice_weaken h.d (fun b _ hb => e1 b hb)) k) (fun b _ hb => e3 b hb)
  · exact ListV.stays.slice_weaken (ListV.stays.slice (ListV.stays.slice_weaken h.l (fun b _ hb => e1 b hb)) k) (fun b _ hb => e3 b hb)
  · exact TreeV.stays.slice_weaken (TreeV.stays.slice (TreeV.stays.slice_weaken (h.k.slice TreeV.stays (fun _ h => h)) (fun b _ hb => e2 b hb)) k) (fun b _ hb => e3 b hb)
theorem kid_kept {us : List Tr} {v : Value} {M b1 : Nat} {w0 w6 w7 w8 : World} (h : GrowV TreeV 47 7 w0 M (V.far M) us v) (hb : Below w0.heap.size w0 w6) (h1 : w6.grownBy w7 (some w0.heap.size)) (h2 : w7.grownBy w8 (some b1)) (hb1 : b1 < M) : GrowV TreeV 47 7 w8 M (V.far M) us v := by
  obtain ⟨cs, ho, hv⟩ := h
  have o6 := ho.kept (hb.by none) (by cases v.ownBlock <;> simp)
  have o7 := o6.kept h1 (.inr (fun e => by have := (ho.lt _ e).2; omega))
  have o8 := o7.kept h2 (.inr (fun e => by have := (ho.lt _ e).1; omega))
  refine ⟨cs, o8, hv.mono fun a c h => ?_⟩
  have k : Keep (fun b => (V.far M b ∧ some b ≠ v.ownBlock) ∧ b < w0.heap.size) w0 w8 := ((Keep.of_below hb).trans (Keep.of_grown h1 (fun b hb _ => by have := hb.2; simp; omega))).trans (Keep.of_grown h2 (fun b hb _ => by have h9 : M ≤ b := hb.1.1; simp; omega))
  exact TreeV.stays.weaken (TreeV.stays.keep (TreeV.stays.weaken h (fun b hl hb => ⟨hb, hl⟩)) k) (fun b _ hb => hb.1)
/-- One more entry in a row of its own. -/
theorem grow_more {α : Type} {p : World → (Nat → Prop) → α → List Value → Prop} (H : Stays p) {B : Nat} {t : TypeId} {k : Nat} {w w' : World} {us : List α} {a : α} {v v' : Value} {cs cs' : List Value} {o : Obj}
    (h2 : RowsV (p w fun b => far B b ∧ some b ≠ v.ownBlock) us cs) (ha : p w (fun b => far B b ∧ some b ≠ v.ownBlock) a cs')
    (hg : (w.alloc o).grownBy w' v.ownBlock) (hn : v'.ownBlock = v.ownBlock ∨ v'.ownBlock = some (w.heap.size + 1)) (h' : w'.ownsRow B t k v' (us.length + 1) (cs ++ cs')) : GrowV p t k w' B (far B) (us ++ [a]) v' :=
  GrowV.snoc H (h2.mono fun _ _ h => H.keep h (Keep.alloc _ _)) (H.keep ha (Keep.alloc _ _)) hg (by rw [show (w.alloc o).heap.size = w.heap.size + 1 by simp]; exact hn) h'
/-- Where a call stands whose lists are being read. -/
def CallSt (X : Tks) (A : Option Addr) (c : Nat) (w : World) (E : Nat → Res Tr) (nm : ByteArray) (r0 : Res Tr) (v2 : Value) (wr : World) : Prop :=
  ∃ (M : Nat) (J Er : Int) (K : Nat) (sh : Bool) (As : Option Addr) (ns cs : Nat) (Al : Option Addr) (nl cl : Nat), v2 = .int .i64 J ∧ Bt X A c w.heap.size (w.heap.size + 1 + 1) (w.heap.size + 1 + 1 + 1) w wr ∧ w.heap.size + 5 ≤ M ∧ M ≤ wr.heap.size ∧ SevAt wr (w.heap.size + 1) (.int .i64 3) (.string nm) (.int .i64 0) (.bool sh) (.slice As ns cs) (.slice Al nl cl) (.slice none 0 0) ∧ TwoAt 25 wr (w.heap.size + 1 + 1 + 1 + 1) (.int .i64 Er) (.int .i64 (K : Int)) ∧ ((∃ f j ds ls, J = ((j : Nat) : Int) ∧ Er = 0 ∧ K = 0 ∧ j ≤ X.ts.length ∧ r0 = callR X E nm (sh, ds) f j ls ∧ X.ts.length - j < f ∧ ls.length ≤ j ∧ SliceV DimV wr (amid (w.heap.size + 4) M) ds (.slice As ns cs) ∧ GrowV ListV 85 1 wr M (far M) ls (.slice Al nl cl)) ∨ (Er ≠ 0 ∧ r0 = .bad Er K))

set_option maxRecDepth 100000 in
set_option maxHeartbeats 8000000 in
theorem rCall {X : Tks} {A : Option Addr} {c L : Nat} {w : World} (ok : X.Ok) (E : Nat → Res Tr) (h : LsAt X A c w) (nm : ByteArray) (i : Nat) (hi : i ≤ X.ts.length) (hEp : ∀ j a j', E j = .ok a j' → j < j') (hEl : ∀ j a j', E j = .ok a j' → j' ≤ X.ts.length) (hL : L ≤ 64)
    (hE : ∀ (W : World) (j : Nat), LsAt X A c W → j ≤ X.ts.length → Calls Tryz.prog 28 #[lsV X A c, .int .i64 (j : Int), .int .i64 ((L : Int) + 1)] W (RefP isTr (repT W) (E j) W)) :
    Calls Tryz.prog 80 #[lsV X A c, .agg #[.int .i64 2, .string nm, .int .i64 0, .bool false, .slice none 0 0, .slice none 0 0, .slice none 0 0], .int .i64 (i : Int), .int .i64 (L : Int)] w (RefP isTr (repT w) (callS X E nm i) w) := by
  obtain ⟨i0, hi0, hz0, hz1, hz2⟩ := info_parts listInfo
  obtain ⟨k0, hk0, kz0, kz1, kz2⟩ := info_parts treeInfo
  have HI := hide hi0
  have HI0 := hide hz0
  have HI1 := hide hz1
  have HI2 := hide hz2
  have HK := hide hk0
  have HK0 := hide kz0
  have HK1 := hide kz1
  have HK2 := hide kz2
  have HOK := hide ok
  have HE := hide hE
  have HEP := hide hEp
  have HEL := hide hEl
  have hxl := h.len
  obtain ⟨hX0, hT0, hF0⟩ := call_new h nm
  have HX0 := hide hX0
  have HT0 := hide hT0
  have HF0 := hide hF0
  unfold lsV at *
  obtain ⟨⟨q0, q1⟩, fq0, fq1⟩ := HX0.out.t.cells; obtain ⟨⟨d0, d1⟩, fd0, fd1⟩ := HX0.out.d.cells; obtain ⟨z0, z1, z2, z3, z4, z5, z6⟩ := HX0.out.z.cells; obtain ⟨y0, y1, y2, y3, y4, y5, y6⟩ := HX0.out.z.frozen; obtain ⟨a0, a1, a2, a3, a4, a5, a6⟩ := HT0.out.cells; obtain ⟨fa0, fa1, fa2, fa3, fa4, fa5, fa6⟩ := HT0.out.frozen; obtain ⟨⟨g0, g1⟩, fg0, fg1⟩ := HF0.out.cells
  clear h ok hE hEp hEl hi0 hz0 hz1 hz2 hk0 kz0 kz1 kz2 hX0 hT0 hF0
  obtain ⟨r0, hr0⟩ : ∃ r0, r0 = callS X E nm i := ⟨_, rfl⟩
  rw [← hr0]
  have HR0 := hide hr0
  clear hr0
  go_enter Tryz.func80, Tryz.ntmps80
  go_upto_if 18 with (first
    | (go_at_call 24; refine (rText HX0.out.l (i)).mono ?_; rintro e w1 ⟨rfl, hb⟩; have HX1 := hide (HX0.out.below hb); have HT1 := hide (HT0.out.below hb); have HF1 := hide (HF0.out.below hb); clear q0 q1 fq0 fq1 d0 d1 fd0 fd1 z0 z1 z2 z3 z4 z5 z6 y0 y1 y2 y3 y4 y5 y6; clear a0 a1 a2 a3 a4 a5 a6 fa0 fa1 fa2 fa3 fa4 fa5 fa6; clear g0 g1 fg0 fg1; clear HX0 HT0 HF0; obtain ⟨⟨q0, q1⟩, fq0, fq1⟩ := HX1.out.t.cells; obtain ⟨⟨d0, d1⟩, fd0, fd1⟩ := HX1.out.d.cells; obtain ⟨z0, z1, z2, z3, z4, z5, z6⟩ := HX1.out.z.cells; obtain ⟨y0, y1, y2, y3, y4, y5, y6⟩ := HX1.out.z.frozen; obtain ⟨a0, a1, a2, a3, a4, a5, a6⟩ := HT1.out.cells; obtain ⟨fa0, fa1, fa2, fa3, fa4, fa5, fa6⟩ := HT1.out.frozen; obtain ⟨⟨g0, g1⟩, fg0, fg1⟩ := HF1.out.cells; clear hb)
    )
  have hz1 : w.heap.size + 5 ≤ w1.heap.size := by have := HF1.out.lt; omega
  go_cut [2] (fun v2 wr => CallSt X A c w E nm r0 v2 wr)
  case first =>
    cases hb : ((X.tx i).toList == [91]) with
    | false =>
      go_wp2
      go_meet
      refine ⟨w1.heap.size, i, 0, 0, false, none, 0, 0, none, 0, 0, rfl, HX1.out, hz1, Nat.le_refl _, HT1.out, HF1.out, .inl ⟨X.ts.length + 1, i, [], [], rfl, rfl, rfl, hi, ?_, by omega, Nat.zero_le _, SliceV.none _ _ _ _ _, GrowV.nil _ _ _ _ _ _⟩⟩
      rw [HR0.out]
      unfold callS shapedS callR
      rw [if_neg (by rw [hb]; simp), Res.bind_ok]
    | true =>
      have hil := Tks.lt_of hb (by simp)
      go_upto_region 5 with fail
      have hoT := set_out w1 (w.heap.size + 1) 3 (.bool true)
      have HX2 := hide (HX1.out.grown hoT (by simp <;> omega) (by simp <;> omega) (by simp <;> omega) (fun g e => by cases e; omega))
      have HT2 := hide (HT1.out.set3 (.bool true))
      have HF2 := hide (HF1.out.grown hoT (by simp <;> omega))
      have hz2 : w1.heap.size ≤ (w1.setCell ⟨w.heap.size + 1, 3, none⟩ (.bool true)).heap.size := hoT.size
      obtain ⟨w2, hw2⟩ : ∃ w2, w2 = w1.setCell ⟨w.heap.size + 1, 3, none⟩ (.bool true) := ⟨_, rfl⟩
      rw [← hw2] at HX2 HT2 HF2 hz2 ⊢
      clear hw2 hoT HX1 HT1 HF1
      clear q0 q1 fq0 fq1 d0 d1 fd0 fd1 z0 z1 z2 z3 z4 z5 z6 y0 y1 y2 y3 y4 y5 y6
      clear a0 a1 a2 a3 a4 a5 a6 fa0 fa1 fa2 fa3 fa4 fa5 fa6
      clear g0 g1 fg0 fg1
      obtain ⟨⟨q0, q1⟩, fq0, fq1⟩ := HX2.out.t.cells
      obtain ⟨⟨d0, d1⟩, fd0, fd1⟩ := HX2.out.d.cells
      obtain ⟨z0, z1, z2, z3, z4, z5, z6⟩ := HX2.out.z.cells
      obtain ⟨y0, y1, y2, y3, y4, y5, y6⟩ := HX2.out.z.frozen
      obtain ⟨a0, a1, a2, a3, a4, a5, a6⟩ := HT2.out.cells
      obtain ⟨fa0, fa1, fa2, fa3, fa4, fa5, fa6⟩ := HT2.out.frozen
      obtain ⟨⟨g0, g1⟩, fg0, fg1⟩ := HF2.out.cells
      go_wp2_with (go_at_call 44; refine (rShape HOK.out HX2.out.l i hi).mono ?_; intro e w3 hr; obtain ⟨hb, As, ns, cs, E3, K3, J3, rfl, hst⟩ := hr.anyD; have HST := hide hst; have HB3 := hide hb; have HX3 := hide (HX2.out.below hb); have HT3 := hide (HT2.out.below hb); have HF3 := hide (HF2.out.below hb); clear q0 q1 fq0 fq1 d0 d1 fd0 fd1 z0 z1 z2 z3 z4 z5 z6 y0 y1 y2 y3 y4 y5 y6; clear a0 a1 a2 a3 a4 a5 a6 fa0 fa1 fa2 fa3 fa4 fa5 fa6; clear g0 g1 fg0 fg1; clear HX2 HT2 HF2; obtain ⟨⟨q0, q1⟩, fq0, fq1⟩ := HX3.out.t.cells; obtain ⟨⟨d0, d1⟩, fd0, fd1⟩ := HX3.out.d.cells; obtain ⟨z0, z1, z2, z3, z4, z5, z6⟩ := HX3.out.z.cells; obtain ⟨y0, y1, y2, y3, y4, y5, y6⟩ := HX3.out.z.frozen; obtain ⟨a0, a1, a2, a3, a4, a5, a6⟩ := HT3.out.cells; obtain ⟨fa0, fa1, fa2, fa3, fa4, fa5, fa6⟩ := HT3.out.frozen; obtain ⟨⟨g0, g1⟩, fg0, fg1⟩ := HF3.out.cells; clear hb hr hst)
      go_meet
      have hoT := set_out w3 (w.heap.size + 1) 4 (.slice As ns cs)
      have hoF := TwoAt.out (w := w3.setCell ⟨w.heap.size + 1, 4, none⟩ (.slice As ns cs)) (b := w.heap.size + 1 + 1 + 1 + 1) (.int .i64 E3) (.int .i64 (K3 : Int))
      have hz3 := HB3.out.size
      refine ⟨w3.heap.size, J3, E3, K3, true, As, ns, cs, none, 0, 0, rfl, (HX3.out.grown hoT (by simp <;> omega) (by simp <;> omega) (by simp <;> omega) (fun g e => by cases e; omega)).grown hoF (by simp <;> omega) (by simp <;> omega) (by simp <;> omega) (fun g e => by cases e; omega), by omega, Nat.le_trans hoT.size hoF.size, (HT3.out.set4 _).grown hoF (by simp), (HF3.out.grown hoT (by simp <;> omega)).put _ _, ?_⟩
      rcases HST.out with ⟨l, j, h1, rfl, rfl, rfl, h2⟩ | ⟨h1, h2⟩
      · refine .inl ⟨X.ts.length + 1, j, l, [], rfl, rfl, rfl, shapeS_le h1, ?_, by omega, Nat.zero_le _, ?_, GrowV.nil _ _ _ _ _ _⟩
        · rw [HR0.out]
          unfold callS shapedS callR
          rw [if_pos hb, h1]
          rfl
        · refine DimV.stays.slice_weaken (DimV.stays.slice (DimV.stays.slice_weaken (S' := amid (w.heap.size + 4) w3.heap.size) h2 (fun b hl hf => ⟨by have h9 : w2.heap.size ≤ b := hf; omega, hl⟩)) ((Keep.of_grown hoT (fun b hb _ => by have := hb.1; simp; omega)).trans (Keep.of_grown hoF (fun b hb _ => by have := hb.1; simp; omega)))) (fun b _ hb => hb)
      · refine .inr ⟨h2, ?_⟩
        rw [HR0.out]
        unfold callS shapedS
        rw [if_pos hb, h1]
        rfl
  case rest =>
    obtain ⟨M, J, Er, K, sh, As, ns, cs, Al, nl, cl, hv, hX, hM, hMw, hS, hF, hst⟩ := hcut
    subst hv
    go_wp2
    go_loopw [2] (fun v2 wr => CallSt X A c w E nm r0 v2 wr) (fun v2 wr => if intOf ((wr.cell? ⟨w.heap.size + 1 + 1 + 1 + 1, 0, none⟩).getD (.bool false)) = 0 then X.ts.length + 2 - (intOf v2).toNat else 0)
    case atStart => exact ⟨M, J, Er, K, sh, As, ns, cs, Al, nl, cl, rfl, hX, hM, hMw, hS, hF, hst⟩
    case round =>
      clear hX hM hMw hS hF hst
      obtain ⟨M, J, Er, K, sh, As, ns, cs, Al, nl, cl, rfl, hX, hM, hMw, hS, hF, hst⟩ := hrel
      have HX2 := hide hX
      have HT2 := hide hS
      have HF2 := hide hF
      obtain ⟨⟨q0, q1⟩, fq0, fq1⟩ := HX2.out.t.cells
      obtain ⟨⟨d0, d1⟩, fd0, fd1⟩ := HX2.out.d.cells
      obtain ⟨z0, z1, z2, z3, z4, z5, z6⟩ := HX2.out.z.cells
      obtain ⟨y0, y1, y2, y3, y4, y5, y6⟩ := HX2.out.z.frozen
      obtain ⟨a0, a1, a2, a3, a4, a5, a6⟩ := HT2.out.cells
      obtain ⟨fa0, fa1, fa2, fa3, fa4, fa5, fa6⟩ := HT2.out.frozen
      obtain ⟨⟨g0, g1⟩, fg0, fg1⟩ := HF2.out.cells
      clear hX hS hF
      rcases hst with ⟨f, j, ds, ls, rfl, rfl, rfl, hjl, hr, hf, hl, hD, hG⟩ | ⟨hne, hr⟩
      · obtain ⟨f, rfl⟩ : ∃ g, f = g + 1 := ⟨f - 1, by omega⟩
        have HD2 := hide hD
        have HG2 := hide hG
        have HCF := hide HF2.out.cells.1.1
        have hfe : w.heap.size + 5 ≤ wr.heap.size := by omega
        clear hD hG
        cases hb3 : ((X.tx j).toList == [123]) with
        | true =>
          have hjlt := Tks.lt_of hb3 (by simp)
          have HSL : Hid (r0 = (listS X j).bind fun l j' => callR X E nm (sh, ds) f j' (ls ++ [l])) := by
            rw [Hid, hr]
            unfold callR
            rw [listsL, if_pos hb3]
            cases listS X j <;> rfl
          clear hr
          go_wp2_with (go_at_call 24; refine (rText HX2.out.l (j)).mono ?_; rintro e w3 ⟨rfl, hb⟩; have HX3 := hide (HX2.out.below hb); have HT3 := hide (HT2.out.below hb); have HF3 := hide (HF2.out.below hb); clear q0 q1 fq0 fq1 d0 d1 fd0 fd1 z0 z1 z2 z3 z4 z5 z6 y0 y1 y2 y3 y4 y5 y6; clear a0 a1 a2 a3 a4 a5 a6 fa0 fa1 fa2 fa3 fa4 fa5 fa6; clear g0 g1 fg0 fg1; clear HX2 HT2 HF2; obtain ⟨⟨q0, q1⟩, fq0, fq1⟩ := HX3.out.t.cells; obtain ⟨⟨d0, d1⟩, fd0, fd1⟩ := HX3.out.d.cells; obtain ⟨z0, z1, z2, z3, z4, z5, z6⟩ := HX3.out.z.cells; obtain ⟨y0, y1, y2, y3, y4, y5, y6⟩ := HX3.out.z.frozen; obtain ⟨a0, a1, a2, a3, a4, a5, a6⟩ := HT3.out.cells; obtain ⟨fa0, fa1, fa2, fa3, fa4, fa5, fa6⟩ := HT3.out.frozen; obtain ⟨⟨g0, g1⟩, fg0, fg1⟩ := HF3.out.cells; have HB3 := hide hb; clear hb)
          have HG3 := hide (HG2.out.far ListV.stays HB3.out)
          have HQ3 : Hid (∀ b, (Value.slice Al nl cl).ownBlock = some b → b < w3.heap.size) := fun b e => by obtain ⟨_, ho, _⟩ := HG3.out; exact (ho.lt b e).2
          (go_at_call 87; refine (rNumbers HOK.out HX3.out.l j hb3).mono ?_; intro e w5 hr; obtain ⟨hb5, A6, n6, m6, E5, K5, J5, rfl, hst⟩ := hr.anyL; have HST := hide hst; have HB5 := hide hb5; have hb := hb5; have HX5 := hide (HX3.out.below hb); have HT5 := hide (HT3.out.below hb); have HF5 := hide (HF3.out.below hb); clear q0 q1 fq0 fq1 d0 d1 fd0 fd1 z0 z1 z2 z3 z4 z5 z6 y0 y1 y2 y3 y4 y5 y6; clear a0 a1 a2 a3 a4 a5 a6 fa0 fa1 fa2 fa3 fa4 fa5 fa6; clear g0 g1 fg0 fg1; clear HX3 HT3 HF3; obtain ⟨⟨q0, q1⟩, fq0, fq1⟩ := HX5.out.t.cells; obtain ⟨⟨d0, d1⟩, fd0, fd1⟩ := HX5.out.d.cells; obtain ⟨z0, z1, z2, z3, z4, z5, z6⟩ := HX5.out.z.cells; obtain ⟨y0, y1, y2, y3, y4, y5, y6⟩ := HX5.out.z.frozen; obtain ⟨a0, a1, a2, a3, a4, a5, a6⟩ := HT5.out.cells; obtain ⟨fa0, fa1, fa2, fa3, fa4, fa5, fa6⟩ := HT5.out.frozen; obtain ⟨⟨g0, g1⟩, fg0, fg1⟩ := HF5.out.cells; clear hb hb5 hr hst)
          go_upto_region 9 with fail
          have HG5 := hide (HG3.out.far ListV.stays HB5.out)
          have hoF := TwoAt.out (w := w5) (b := w.heap.size + 1 + 1 + 1 + 1) (.int .i64 E5) (.int .i64 (K5 : Int))
          have hz3 := HB3.out.size
          have hz5 := HB5.out.size
          have HX6 := hide (HX5.out.grown hoF (by simp <;> omega) (by simp <;> omega) (by simp <;> omega) (fun g e => by cases e; omega))
          have HT6 := hide (HT5.out.grown hoF (by simp <;> omega))
          have HF6 := hide (HF5.out.put (.int .i64 E5) (.int .i64 (K5 : Int)))
          have HG6 : Hid (GrowV ListV 85 1 ((w5.setCell ⟨w.heap.size + 1 + 1 + 1 + 1, 0, none⟩ (.int .i64 E5)).setCell ⟨w.heap.size + 1 + 1 + 1 + 1, 1, none⟩ (.int .i64 (K5 : Int))) M (far M) ls (.slice Al nl cl)) := GrowV.kept ListV.stays HG5.out hoF (by obtain ⟨_, ho, _⟩ := HG5.out; exact .inr (own_ne ho (by omega))) (fun b hb _ => by have : M ≤ b := hb; simp; omega)
          have HK6 : Hid (Keep (fun b => w.heap.size + 4 < b) wr ((w5.setCell ⟨w.heap.size + 1 + 1 + 1 + 1, 0, none⟩ (.int .i64 E5)).setCell ⟨w.heap.size + 1 + 1 + 1 + 1, 1, none⟩ (.int .i64 (K5 : Int)))) := (Keep.of_below (HB3.out.trans (HB5.out.mono hz3))).trans (Keep.of_grown hoF (fun b hb _ => by simp; omega))
          have HJ6 : Hid (Keep (fun b => w.heap.size + 4 < b) w5 ((w5.setCell ⟨w.heap.size + 1 + 1 + 1 + 1, 0, none⟩ (.int .i64 E5)).setCell ⟨w.heap.size + 1 + 1 + 1 + 1, 1, none⟩ (.int .i64 (K5 : Int)))) := Keep.of_grown hoF (fun b hb _ => by simp; omega)
          have hz6 : w5.heap.size ≤ ((w5.setCell ⟨w.heap.size + 1 + 1 + 1 + 1, 0, none⟩ (.int .i64 E5)).setCell ⟨w.heap.size + 1 + 1 + 1 + 1, 1, none⟩ (.int .i64 (K5 : Int))).heap.size := hoF.size
          obtain ⟨w6, hw6⟩ : ∃ w6, w6 = ((w5.setCell ⟨w.heap.size + 1 + 1 + 1 + 1, 0, none⟩ (.int .i64 E5)).setCell ⟨w.heap.size + 1 + 1 + 1 + 1, 1, none⟩ (.int .i64 (K5 : Int))) := ⟨_, rfl⟩
          rw [← hw6] at HX6 HT6 HF6 HG6 HK6 HJ6 hz6 ⊢
          clear hw6 hoF HX5 HT5 HF5 HG5 HG3 HG2
          clear q0 q1 fq0 fq1 d0 d1 fd0 fd1 z0 z1 z2 z3 z4 z5 z6 y0 y1 y2 y3 y4 y5 y6
          clear a0 a1 a2 a3 a4 a5 a6 fa0 fa1 fa2 fa3 fa4 fa5 fa6
          clear g0 g1 fg0 fg1
          obtain ⟨e0, e1, e2, e3, e4, e5, e6⟩ := (HT6.out.alloc (.cells #[.slice A6 n6 m6] 85)).cells; obtain ⟨fe0, fe1, fe2, fe3, fe4, fe5, fe6⟩ := (HT6.out.alloc (.cells #[.slice A6 n6 m6] 85)).frozen
          obtain ⟨a0, a1, a2, a3, a4, a5, a6⟩ := HT6.out.cells
          obtain ⟨csr, ho6, hv6⟩ := HG6.out
          have HO6 := hide ho6
          have HV6 := hide hv6
          clear ho6 hv6 HG6
          go_wp2_with (at_builtin; refine wpList_append_own_at _ rfl _ _ 44 rfl M 85 i0 _ 1 24 Tryz.underlying44 HI.out HI0.out HI1.out HI2.out rfl (by decide) _ _ _ rfl (HO6.out.alloc _) ⟨w6.heap.size, 0, none⟩ 1 1 [.slice A6 n6 m6] rfl rfl ?c1 ?c2 ?c3 ?c4 ?c5 ?_)
          case c1 => exact cells_new _ [.slice A6 n6 m6] _
          case c2 => intro u hu; simp at hu; subst hu; rfl
          case c3 => unfold maxLen; omega
          case c4 => omega
          case c5 => simp; omega
          intro v' w7 hown' hgrow _ hat
          obtain ⟨g, cap, rfl⟩ := own_form hown'
          have hlow : ∀ x, x < M → some x ≠ (Value.slice Al nl cl).ownBlock := fun x hx e => by have := (HO6.out.lt x e.symm).1; omega
          have hge : ∀ x, (Value.slice Al nl cl).ownBlock = some x → w.heap.size ≤ x := fun x e => by have := (HO6.out.lt x e).1; omega
          have HX7 := hide ((HX6.out.alloc (.cells #[.slice A6 n6 m6] 85)).grown hgrow (hlow _ (by omega)) (hlow _ (by omega)) (hlow _ (by omega)) hge)
          have HT7 := hide ((HT6.out.alloc (.cells #[.slice A6 n6 m6] 85)).grown hgrow (hlow _ (by omega)))
          have HF7 := hide ((HF6.out.alloc (.cells #[.slice A6 n6 m6] 85)).grown hgrow (hlow _ (by omega)))
          have HK7 : Hid (Keep (fun b => w.heap.size + 4 < b ∧ b < M) w6 w7) := (Keep.alloc w6 (.cells #[.slice A6 n6 m6] 85)).trans (Keep.of_grown hgrow (fun b hb _ => hlow b hb.2))
          have HN7 : Hid (∀ l, SliceV IntV w6 (fun b => far M b ∧ some b ≠ (Value.slice Al nl cl).ownBlock) l (.slice A6 n6 m6) → GrowV ListV 85 1 w7 M (far M) (ls ++ [l]) (.slice (some ⟨g, 0, none⟩) (ls.length + 1) cap)) := fun l h => grow_more (a := l) ListV.stays HV6.out ⟨_, rfl, h⟩ hgrow hat hown'
          have hz7 : w6.heap.size ≤ w7.heap.size := by have := hgrow.size; simp at this; omega
          clear hown' hgrow hat e0 e1 e2 e3 e4 e5 e6 fe0 fe1 fe2 fe3 fe4 fe5 fe6 a0 a1 a2 a3 a4 a5 a6
          obtain ⟨a0, a1, a2, a3, a4, a5, a6⟩ := HT7.out.cells; obtain ⟨fa0, fa1, fa2, fa3, fa4, fa5, fa6⟩ := HT7.out.frozen
          go_wp2
          have hoT := set_out w7 (w.heap.size + 1) 5 (.slice (some ⟨g, 0, none⟩) (ls.length + 1) cap)
          have HX8 := hide (HX7.out.grown hoT (by simp <;> omega) (by simp <;> omega) (by simp <;> omega) (fun g e => by cases e; omega))
          have HT8 := hide (HT7.out.set5 (.slice (some ⟨g, 0, none⟩) (ls.length + 1) cap))
          have HF8 := hide (HF7.out.grown hoT (by simp <;> omega))
          have HK8 : Hid (Keep (fun b => w.heap.size + 4 < b) w7 (w7.setCell ⟨w.heap.size + 1, 5, none⟩ (.slice (some ⟨g, 0, none⟩) (ls.length + 1) cap))) := Keep.of_grown hoT (fun b hb _ => by simp; omega)
          have HN8 : Hid (∀ l, SliceV IntV w6 (fun b => far M b ∧ some b ≠ (Value.slice Al nl cl).ownBlock) l (.slice A6 n6 m6) → GrowV ListV 85 1 (w7.setCell ⟨w.heap.size + 1, 5, none⟩ (.slice (some ⟨g, 0, none⟩) (ls.length + 1) cap)) M (far M) (ls ++ [l]) (.slice (some ⟨g, 0, none⟩) (ls.length + 1) cap)) := fun l h => GrowV.kept ListV.stays (HN7.out l h) hoT (.inr (by obtain ⟨_, ho, _⟩ := HN7.out l h; exact own_ne ho (by omega))) (fun b hb _ => by have : M ≤ b := hb; simp; omega)
          have hz8 : w7.heap.size ≤ (w7.setCell ⟨w.heap.size + 1, 5, none⟩ (.slice (some ⟨g, 0, none⟩) (ls.length + 1) cap)).heap.size := hoT.size
          obtain ⟨w8, hw8⟩ : ∃ w8, w8 = (w7.setCell ⟨w.heap.size + 1, 5, none⟩ (.slice (some ⟨g, 0, none⟩) (ls.length + 1) cap)) := ⟨_, rfl⟩
          rw [← hw8] at HX8 HT8 HF8 HK8 HN8 hz8 ⊢
          clear hw8 hoT HX7 HT7 HF7 HN7 a0 a1 a2 a3 a4 a5 a6 fa0 fa1 fa2 fa3 fa4 fa5 fa6
          go_roundw
          case rel =>
            refine ⟨M, J5, E5, K5, sh, As, ns, cs, _, _, _, rfl, HX8.out, hM, by omega, HT8.out, HF8.out, ?_⟩
            rcases HST.out with ⟨l, j5, h1, rfl, rfl, rfl, h2⟩ | ⟨h1, h2⟩
            · have hj5 := listS_lt h1
              refine .inl ⟨f, j5, ds, ls ++ [l], rfl, rfl, rfl, listS_le h1, by rw [HSL.out, h1]; rfl, by omega, by rw [List.length_append]; show ls.length + 1 ≤ j5; omega, ?_, ?_⟩
              · exact DimV.stays.slice_weaken (DimV.stays.slice (DimV.stays.slice_weaken (DimV.stays.slice HD2.out ((show Keep (amid (w.heap.size + 4) M) wr w7 from (show Keep (amid (w.heap.size + 4) M) wr w6 from ⟨HK6.out.1, fun b hb hl => HK6.out.2 b hb.1 hl⟩).trans ⟨HK7.out.1, fun b hb hl => HK7.out.2 b hb hl⟩).trans (show Keep (amid (w.heap.size + 4) M) w7 w8 from ⟨HK8.out.1, fun b hb hl => HK8.out.2 b hb.1 hl⟩))) (fun b _ hb => hb)) (Keep.refl _ _)) (fun b _ hb => hb)
              · refine HN8.out l (IntV.stays.slice_weaken (IntV.stays.slice (IntV.stays.slice_weaken (S' := fun b => w3.heap.size ≤ b) h2 (fun b hl hb => hb)) (show Keep (fun b => w3.heap.size ≤ b) w5 w6 from ⟨HJ6.out.1, fun b hb hl => HJ6.out.2 b (by omega) hl⟩)) (fun b hl hb => ⟨by unfold far; omega, fun e => by have := HQ3.out b e.symm; omega⟩))
            · exact .inr ⟨h2, by rw [HSL.out, h1]; rfl⟩
          case measure =>
            have hc8 := HF8.out.cells.1.1
            have hc2 := HCF.out
            rw [hc8, hc2]
            rcases HST.out with ⟨l, j5, h1, rfl, rfl, rfl, h2⟩ | ⟨h1, h2⟩
            · have hj5 := listS_lt h1
              simp [intOf]; omega
            · have hE5 : ¬ intOf ((some (Value.int .i64 E5)).getD (.bool false)) = 0 := h2
              rw [if_neg hE5]
              simp [intOf]; omega
        | false =>
          have HSL : Hid (r0 = (brackS X E j).bind fun ks i => .ok (.mk 3 nm 0 sh ds ls ks) i) := by
            rw [Hid, hr]
            unfold callR
            rw [listsL, if_neg (by rw [hb3]; simp)]
            rfl
          clear hr
          cases hb4 : ((X.tx j).toList == [40]) with
          | false =>
            have HSB : Hid (r0 = .bad 7 (X.ps j)) := by
              rw [Hid, HSL.out]
              unfold brackS mustS
              rw [if_neg (by rw [hb4]; simp)]
              rfl
            clear HSL
            go_wp2_with (first
              | (go_at_call 24; refine (rText HX2.out.l (j)).mono ?_; rintro e w3 ⟨rfl, hb⟩; have HX3 := hide (HX2.out.below hb); have HT3 := hide (HT2.out.below hb); have HF3 := hide (HF2.out.below hb); clear q0 q1 fq0 fq1 d0 d1 fd0 fd1 z0 z1 z2 z3 z4 z5 z6 y0 y1 y2 y3 y4 y5 y6; clear a0 a1 a2 a3 a4 a5 a6 fa0 fa1 fa2 fa3 fa4 fa5 fa6; clear g0 g1 fg0 fg1; clear HX2 HT2 HF2; obtain ⟨⟨q0, q1⟩, fq0, fq1⟩ := HX3.out.t.cells; obtain ⟨⟨d0, d1⟩, fd0, fd1⟩ := HX3.out.d.cells; obtain ⟨z0, z1, z2, z3, z4, z5, z6⟩ := HX3.out.z.cells; obtain ⟨y0, y1, y2, y3, y4, y5, y6⟩ := HX3.out.z.frozen; obtain ⟨a0, a1, a2, a3, a4, a5, a6⟩ := HT3.out.cells; obtain ⟨fa0, fa1, fa2, fa3, fa4, fa5, fa6⟩ := HT3.out.frozen; obtain ⟨⟨g0, g1⟩, fg0, fg1⟩ := HF3.out.cells; clear hb)
              | (go_at_call 24; refine (rText HX3.out.l (j)).mono ?_; rintro e w4 ⟨rfl, hb⟩; have HX4 := hide (HX3.out.below hb); have HT4 := hide (HT3.out.below hb); have HF4 := hide (HF3.out.below hb); clear q0 q1 fq0 fq1 d0 d1 fd0 fd1 z0 z1 z2 z3 z4 z5 z6 y0 y1 y2 y3 y4 y5 y6; clear a0 a1 a2 a3 a4 a5 a6 fa0 fa1 fa2 fa3 fa4 fa5 fa6; clear g0 g1 fg0 fg1; clear HX3 HT3 HF3; obtain ⟨⟨q0, q1⟩, fq0, fq1⟩ := HX4.out.t.cells; obtain ⟨⟨d0, d1⟩, fd0, fd1⟩ := HX4.out.d.cells; obtain ⟨z0, z1, z2, z3, z4, z5, z6⟩ := HX4.out.z.cells; obtain ⟨y0, y1, y2, y3, y4, y5, y6⟩ := HX4.out.z.frozen; obtain ⟨a0, a1, a2, a3, a4, a5, a6⟩ := HT4.out.cells; obtain ⟨fa0, fa1, fa2, fa3, fa4, fa5, fa6⟩ := HT4.out.frozen; obtain ⟨⟨g0, g1⟩, fg0, fg1⟩ := HF4.out.cells; clear hb)
              )
            obtain ⟨p, hp⟩ : ∃ p, p = X.ps (j) := ⟨_, rfl⟩
            have HBA := hide (rBad (X := X) (A := A) (c := c) (w := w4.drew) HX4.out.drew.l (j))
            rw [← hp] at HBA 
            have HPP := hide hp
            clear hp
            go_region_with (go_at_call 25; refine HBA.out.mono ?_; rintro e w5 ⟨rfl, hb⟩; have HX5 := hide (HX4.out.drew.below hb); have HT5 := hide (HT4.out.drew.below hb); have HF5 := hide (HF4.out.drew.below hb); clear q0 q1 fq0 fq1 d0 d1 fd0 fd1 z0 z1 z2 z3 z4 z5 z6 y0 y1 y2 y3 y4 y5 y6; clear a0 a1 a2 a3 a4 a5 a6 fa0 fa1 fa2 fa3 fa4 fa5 fa6; clear g0 g1 fg0 fg1; obtain ⟨⟨q0, q1⟩, fq0, fq1⟩ := HX5.out.t.cells; obtain ⟨⟨d0, d1⟩, fd0, fd1⟩ := HX5.out.d.cells; obtain ⟨z0, z1, z2, z3, z4, z5, z6⟩ := HX5.out.z.cells; obtain ⟨y0, y1, y2, y3, y4, y5, y6⟩ := HX5.out.z.frozen; obtain ⟨a0, a1, a2, a3, a4, a5, a6⟩ := HT5.out.cells; obtain ⟨fa0, fa1, fa2, fa3, fa4, fa5, fa6⟩ := HT5.out.frozen; obtain ⟨⟨g0, g1⟩, fg0, fg1⟩ := HF5.out.cells; clear hb)
            all_goals
              obtain ⟨wg, hwg, hfin⟩ := HX5.out.fin 5 (.int .i64 3) (.string nm) (.int .i64 0) (.bool sh) (.slice As ns cs) (.slice Al nl cl) (.slice none 0 0) (.int .i64 7) (.int .i64 (p : Int)) (by omega) (by omega) (by omega) (by omega) (by omega)
              rw [← hwg]
              clear hwg
              obtain ⟨hbf, hkf, u0, u1, u2, u3, u4, u5, u6, v0, v1⟩ := hfin
              have HBF := hide hbf
              have HKF := hide hkf
              clear hbf hkf
              go_wp2
              refine bodyPost_ret (v := .tuple #[.agg #[.int .i64 3, .string nm, .int .i64 0, .bool sh, .slice As ns cs, .slice Al nl cl, .slice none 0 0], .int .i64 ((j : Int)), .agg #[.int .i64 7, .int .i64 (p : Int)]]) (by simp [results, Tryz.results80, go_sem, u0, u1, u2, u3, u4, u5, u6, v0, v1]) rfl ?_
              exact RefP.of _ _ _ _ _ _ _ _ _ _ _ _ _ 7 p j HBF.out (.inr ⟨by rw [HSB.out, HPP.out], by decide⟩)
          | true =>
            have hjl4 := Tks.lt_of hb4 (by simp)
            have HSB : Hid (r0 = (kidS X E 0 (j + 1) []).bind fun ks i => .ok (.mk 3 nm 0 sh ds ls ks) i) := by
              rw [Hid, HSL.out]
              unfold brackS mustS kidS
              rw [if_pos hb4]
              rfl
            clear HSL
            go_wp2_with (first
              | (go_at_call 24; refine (rText HX2.out.l (j)).mono ?_; rintro e w3 ⟨rfl, hb⟩; have HX3 := hide (HX2.out.below hb); have HT3 := hide (HT2.out.below hb); have HF3 := hide (HF2.out.below hb); clear q0 q1 fq0 fq1 d0 d1 fd0 fd1 z0 z1 z2 z3 z4 z5 z6 y0 y1 y2 y3 y4 y5 y6; clear a0 a1 a2 a3 a4 a5 a6 fa0 fa1 fa2 fa3 fa4 fa5 fa6; clear g0 g1 fg0 fg1; clear HX2 HT2 HF2; obtain ⟨⟨q0, q1⟩, fq0, fq1⟩ := HX3.out.t.cells; obtain ⟨⟨d0, d1⟩, fd0, fd1⟩ := HX3.out.d.cells; obtain ⟨z0, z1, z2, z3, z4, z5, z6⟩ := HX3.out.z.cells; obtain ⟨y0, y1, y2, y3, y4, y5, y6⟩ := HX3.out.z.frozen; obtain ⟨a0, a1, a2, a3, a4, a5, a6⟩ := HT3.out.cells; obtain ⟨fa0, fa1, fa2, fa3, fa4, fa5, fa6⟩ := HT3.out.frozen; obtain ⟨⟨g0, g1⟩, fg0, fg1⟩ := HF3.out.cells; have HB3 := hide hb; clear hb)
              | (go_at_call 24; refine (rText HX3.out.l (j)).mono ?_; rintro e w4 ⟨rfl, hb⟩; have HX4 := hide (HX3.out.below hb); have HT4 := hide (HT3.out.below hb); have HF4 := hide (HF3.out.below hb); clear q0 q1 fq0 fq1 d0 d1 fd0 fd1 z0 z1 z2 z3 z4 z5 z6 y0 y1 y2 y3 y4 y5 y6; clear a0 a1 a2 a3 a4 a5 a6 fa0 fa1 fa2 fa3 fa4 fa5 fa6; clear g0 g1 fg0 fg1; clear HX3 HT3 HF3; obtain ⟨⟨q0, q1⟩, fq0, fq1⟩ := HX4.out.t.cells; obtain ⟨⟨d0, d1⟩, fd0, fd1⟩ := HX4.out.d.cells; obtain ⟨z0, z1, z2, z3, z4, z5, z6⟩ := HX4.out.z.cells; obtain ⟨y0, y1, y2, y3, y4, y5, y6⟩ := HX4.out.z.frozen; obtain ⟨a0, a1, a2, a3, a4, a5, a6⟩ := HT4.out.cells; obtain ⟨fa0, fa1, fa2, fa3, fa4, fa5, fa6⟩ := HT4.out.frozen; obtain ⟨⟨g0, g1⟩, fg0, fg1⟩ := HF4.out.cells; have HB4 := hide hb; clear hb)
              )
            have hz3 := HB3.out.size
            have hz4 := HB4.out.size
            have HG4 := hide ((HG2.out.far ListV.stays HB3.out).far ListV.stays HB4.out)
            have HQ4 : Hid (KidAt X A c w nm sh ds ls w4.heap.size As ns cs Al nl cl none 0 0 [] w4) := ⟨HX4.out, Nat.le_refl _, HT4.out, HF4.out, DimV.stays.slice_weaken (DimV.stays.slice (DimV.stays.slice HD2.out (Keep.of_below HB3.out)) (Keep.of_below HB4.out)) (fun b hl hb => ⟨hb.1, by have := hb.2; omega⟩), ListV.stays.slice_weaken (HG4.out.slice ListV.stays (fun _ h => h)) (fun b hl hb => ⟨by have h9 : M ≤ b := hb; omega, hl⟩), GrowV.nil _ _ _ _ _ _⟩
            obtain ⟨M2, hM2⟩ : ∃ M2, M2 = w4.heap.size := ⟨_, rfl⟩
            have hMM : w.heap.size + 5 ≤ M2 := by omega
            rw [← hM2] at HQ4
            clear hM2 HG4 HX4 HT4 HF4 HD2 HG2 HB3 HB4 hz3 hz4 HCF hMw hM hf hl hfe HR0
            go_loopw [2] (fun v2 wr => ∃ (j f : Nat) (us : List Tr) (Ak : Option Addr) (nk ck : Nat), v2 = .int .i64 (j : Int) ∧ j ≤ X.ts.length ∧ r0 = (kidS X E f j us).bind (fun ks i => (Res.ok (.mk 3 nm 0 sh ds ls ks) i : Res Tr)) ∧ (us = [] ∨ X.ts.length - j < f) ∧ us.length ≤ j ∧ nk = us.length ∧ KidAt X A c w nm sh ds ls M2 As ns cs Al nl cl Ak nk ck us wr) (fun v2 _ => X.ts.length + 1 - (intOf v2).toNat)
            case atStart => exact ⟨j + 1, 0, [], none, 0, 0, rfl, by omega, HSB.out, .inl rfl, Nat.zero_le _, rfl, HQ4.out⟩
            case round =>
              clear HSB HQ4 q0 q1 fq0 fq1 d0 d1 fd0 fd1 z0 z1 z2 z3 z4 z5 z6 y0 y1 y2 y3 y4 y5 y6  a0 a1 a2 a3 a4 a5 a6 fa0 fa1 fa2 fa3 fa4 fa5 fa6  g0 g1 fg0 fg1
              obtain ⟨j, f, us, Ak, nk, ck, rfl, hjl, hr, hf, hl, hnk, hQ⟩ := hrel
              have HQ2 := hide hQ
              have HNK := hide hnk
              clear hQ hnk
              obtain ⟨⟨q0, q1⟩, fq0, fq1⟩ := HQ2.out.x.t.cells
              obtain ⟨⟨d0, d1⟩, fd0, fd1⟩ := HQ2.out.x.d.cells
              obtain ⟨z0, z1, z2, z3, z4, z5, z6⟩ := HQ2.out.x.z.cells
              obtain ⟨y0, y1, y2, y3, y4, y5, y6⟩ := HQ2.out.x.z.frozen
              obtain ⟨a0, a1, a2, a3, a4, a5, a6⟩ := HQ2.out.t.cells
              obtain ⟨fa0, fa1, fa2, fa3, fa4, fa5, fa6⟩ := HQ2.out.t.frozen
              obtain ⟨⟨g0, g1⟩, fg0, fg1⟩ := HQ2.out.f.cells
              cases hc : ((X.tx j).toList == [41]) with
              | true =>
                have HSL : Hid (r0 = .ok (.mk 3 nm 0 sh ds ls us) (j + 1)) := by rw [Hid, hr, kidS_end hc hf]; rfl
                clear hr
                go_wp2_with (first
                  | (go_at_call 24; refine (rText HQ2.out.x.l (j)).mono ?_; rintro e w3 ⟨rfl, hb⟩; have HQ3 := hide (HQ2.out.below hb); clear q0 q1 fq0 fq1 d0 d1 fd0 fd1 z0 z1 z2 z3 z4 z5 z6 y0 y1 y2 y3 y4 y5 y6; clear a0 a1 a2 a3 a4 a5 a6 fa0 fa1 fa2 fa3 fa4 fa5 fa6; clear g0 g1 fg0 fg1; clear HQ2; obtain ⟨⟨q0, q1⟩, fq0, fq1⟩ := HQ3.out.x.t.cells; obtain ⟨⟨d0, d1⟩, fd0, fd1⟩ := HQ3.out.x.d.cells; obtain ⟨z0, z1, z2, z3, z4, z5, z6⟩ := HQ3.out.x.z.cells; obtain ⟨y0, y1, y2, y3, y4, y5, y6⟩ := HQ3.out.x.z.frozen; obtain ⟨a0, a1, a2, a3, a4, a5, a6⟩ := HQ3.out.t.cells; obtain ⟨fa0, fa1, fa2, fa3, fa4, fa5, fa6⟩ := HQ3.out.t.frozen; obtain ⟨⟨g0, g1⟩, fg0, fg1⟩ := HQ3.out.f.cells; clear hb)
                  )
                go_region
                obtain ⟨wg, hwg, hfin⟩ := HQ3.out.x.fin 5 (.int .i64 3) (.string nm) (.int .i64 0) (.bool sh) (.slice As ns cs) (.slice Al nl cl) (.slice Ak nk ck) (.int .i64 0) (.int .i64 0) (by omega) (by omega) (by omega) (by omega) (by omega)
                rw [← hwg]
                replace hfin := hfin.drew
                clear hwg
                obtain ⟨wf, hwf⟩ : ∃ wf, wf = wg.drew := ⟨_, rfl⟩
                rw [← hwf] at hfin ⊢
                clear hwf
                obtain ⟨hbf, hkf, u0, u1, u2, u3, u4, u5, u6, v0, v1⟩ := hfin
                have HBF := hide hbf
                have HKF := hide hkf
                clear hbf hkf
                go_wp2
                refine bodyPost_ret (v := .tuple #[.agg #[.int .i64 3, .string nm, .int .i64 0, .bool sh, .slice As ns cs, .slice Al nl cl, .slice Ak nk ck], .int .i64 (((j + 1 : Nat) : Int)), .agg #[.int .i64 0, .int .i64 0]]) (by simp [results, Tryz.results80, go_sem, u0, u1, u2, u3, u4, u5, u6, v0, v1]) rfl ?_
                exact RefP.of _ _ _ _ _ _ _ _ _ _ _ _ _ 0 0 (j + 1) HBF.out (.inl ⟨_, HSL.out, rfl, rfl, HQ3.out.fin hMM HKF.out⟩)
              | false =>
                go_upto_if 74 with (go_at_call 24; refine (rText HQ2.out.x.l (j)).mono ?_; rintro e w3 ⟨rfl, hb⟩; have HQ3 := hide (HQ2.out.below hb); clear q0 q1 fq0 fq1 d0 d1 fd0 fd1 z0 z1 z2 z3 z4 z5 z6 y0 y1 y2 y3 y4 y5 y6; clear a0 a1 a2 a3 a4 a5 a6 fa0 fa1 fa2 fa3 fa4 fa5 fa6; clear g0 g1 fg0 fg1; clear HQ2; obtain ⟨⟨q0, q1⟩, fq0, fq1⟩ := HQ3.out.x.t.cells; obtain ⟨⟨d0, d1⟩, fd0, fd1⟩ := HQ3.out.x.d.cells; obtain ⟨z0, z1, z2, z3, z4, z5, z6⟩ := HQ3.out.x.z.cells; obtain ⟨y0, y1, y2, y3, y4, y5, y6⟩ := HQ3.out.x.z.frozen; obtain ⟨a0, a1, a2, a3, a4, a5, a6⟩ := HQ3.out.t.cells; obtain ⟨fa0, fa1, fa2, fa3, fa4, fa5, fa6⟩ := HQ3.out.t.frozen; obtain ⟨⟨g0, g1⟩, fg0, fg1⟩ := HQ3.out.f.cells; clear hb)
                go_cut [2] (fun v2 wr => ∃ (p F : Nat), v2 = .int .i64 (p : Int) ∧ p ≤ X.ts.length ∧ j ≤ p ∧ r0 = (E p).bind (fun a j' => (argsL X E F j' (us ++ [a])).bind (fun ks i => (Res.ok (.mk 3 nm 0 sh ds ls ks) i : Res Tr))) ∧ X.ts.length - p ≤ F ∧ us.length ≤ p ∧ KidAt X A c w nm sh ds ls M2 As ns cs Al nl cl Ak nk ck us wr)
                case first =>
                  cases us with
                  | nil =>
                    have h0 : ¬ (0 : Int) < (nk : Int) := by have := HNK.out; simp at this; omega
                    go_wp2
                    go_meet
                    refine ⟨j, X.ts.length + 1, rfl, hjl, Nat.le_refl _, ?_, by omega, Nat.zero_le _, HQ3.out⟩
                    rw [hr]
                    unfold kidS
                    rw [if_neg (by rw [hc]; simp)]
                    cases E j <;> rfl
                  | cons u us =>
                    have h0 : (0 : Int) < (nk : Int) := by have := HNK.out; simp at this; omega
                    obtain ⟨f, rfl⟩ : ∃ g, f = g + 1 := by
                      rcases hf with h | h
                      · cases h
                      · exact ⟨f - 1, by omega⟩
                    have hf2 : X.ts.length - j < f + 1 := by
                      rcases hf with h | h
                      · cases h
                      · exact h
                    have hl2 : us.length + 1 ≤ j := hl
                    clear hl
                    rw [kidS_cons, argsL_succ] at hr
                    cases hd : ((X.tx j).toList == [44]) with
                    | false =>
                      rw [if_neg (by rw [hd]; simp), if_neg (by rw [hc]; simp)] at hr
                      have HSL := hide hr
                      clear hr
                      go_wp2_with (first
                        | (go_at_call 24; refine (rText HQ3.out.x.l (j)).mono ?_; rintro e w4 ⟨rfl, hb⟩; have HQ4 := hide (HQ3.out.below hb); clear q0 q1 fq0 fq1 d0 d1 fd0 fd1 z0 z1 z2 z3 z4 z5 z6 y0 y1 y2 y3 y4 y5 y6; clear a0 a1 a2 a3 a4 a5 a6 fa0 fa1 fa2 fa3 fa4 fa5 fa6; clear g0 g1 fg0 fg1; clear HQ3; obtain ⟨⟨q0, q1⟩, fq0, fq1⟩ := HQ4.out.x.t.cells; obtain ⟨⟨d0, d1⟩, fd0, fd1⟩ := HQ4.out.x.d.cells; obtain ⟨z0, z1, z2, z3, z4, z5, z6⟩ := HQ4.out.x.z.cells; obtain ⟨y0, y1, y2, y3, y4, y5, y6⟩ := HQ4.out.x.z.frozen; obtain ⟨a0, a1, a2, a3, a4, a5, a6⟩ := HQ4.out.t.cells; obtain ⟨fa0, fa1, fa2, fa3, fa4, fa5, fa6⟩ := HQ4.out.t.frozen; obtain ⟨⟨g0, g1⟩, fg0, fg1⟩ := HQ4.out.f.cells; clear hb)
                        )
                      obtain ⟨p, hp⟩ : ∃ p, p = X.ps j := ⟨_, rfl⟩
                      have HBA := hide (rBad (X := X) (A := A) (c := c) (w := w4.drew) HQ4.out.x.drew.l j)
                      rw [← hp] at HBA
                      have HPP := hide hp
                      clear hp
                      go_region_with (go_at_call 25; refine HBA.out.mono ?_; rintro e w5 ⟨rfl, hb⟩; have HQ5 := hide ((HQ4.out.below (Below.refl _ _).drew).below hb); clear q0 q1 fq0 fq1 d0 d1 fd0 fd1 z0 z1 z2 z3 z4 z5 z6 y0 y1 y2 y3 y4 y5 y6; clear a0 a1 a2 a3 a4 a5 a6 fa0 fa1 fa2 fa3 fa4 fa5 fa6; clear g0 g1 fg0 fg1; obtain ⟨⟨q0, q1⟩, fq0, fq1⟩ := HQ5.out.x.t.cells; obtain ⟨⟨d0, d1⟩, fd0, fd1⟩ := HQ5.out.x.d.cells; obtain ⟨z0, z1, z2, z3, z4, z5, z6⟩ := HQ5.out.x.z.cells; obtain ⟨y0, y1, y2, y3, y4, y5, y6⟩ := HQ5.out.x.z.frozen; obtain ⟨a0, a1, a2, a3, a4, a5, a6⟩ := HQ5.out.t.cells; obtain ⟨fa0, fa1, fa2, fa3, fa4, fa5, fa6⟩ := HQ5.out.t.frozen; obtain ⟨⟨g0, g1⟩, fg0, fg1⟩ := HQ5.out.f.cells; clear hb)
                      all_goals
                        obtain ⟨wg, hwg, hfin⟩ := HQ5.out.x.fin 5 (.int .i64 3) (.string nm) (.int .i64 0) (.bool sh) (.slice As ns cs) (.slice Al nl cl) (.slice Ak nk ck) (.int .i64 7) (.int .i64 (p : Int)) (by omega) (by omega) (by omega) (by omega) (by omega)
                        rw [← hwg]
                        clear hwg
                        obtain ⟨hbf, hkf, u0, u1, u2, u3, u4, u5, u6, v0, v1⟩ := hfin
                        have HBF := hide hbf
                        have HKF := hide hkf
                        clear hbf hkf
                        go_wp2
                        refine bodyPost_ret (v := .tuple #[.agg #[.int .i64 3, .string nm, .int .i64 0, .bool sh, .slice As ns cs, .slice Al nl cl, .slice Ak nk ck], .int .i64 ((j : Int)), .agg #[.int .i64 7, .int .i64 (p : Int)]]) (by simp [results, Tryz.results80, go_sem, u0, u1, u2, u3, u4, u5, u6, v0, v1]) rfl ?_
                        exact RefP.of _ _ _ _ _ _ _ _ _ _ _ _ _ 7 p j HBF.out (.inr ⟨by rw [HSL.out, HPP.out]; rfl, by decide⟩)
                    | true =>
                      have hjl2 := Tks.lt_of hd (by simp)
                      rw [if_pos hd] at hr
                      go_wp2_with (go_at_call 24; refine (rText HQ3.out.x.l (j)).mono ?_; rintro e w4 ⟨rfl, hb⟩; have HQ4 := hide (HQ3.out.below hb); clear q0 q1 fq0 fq1 d0 d1 fd0 fd1 z0 z1 z2 z3 z4 z5 z6 y0 y1 y2 y3 y4 y5 y6; clear a0 a1 a2 a3 a4 a5 a6 fa0 fa1 fa2 fa3 fa4 fa5 fa6; clear g0 g1 fg0 fg1; clear HQ3; obtain ⟨⟨q0, q1⟩, fq0, fq1⟩ := HQ4.out.x.t.cells; obtain ⟨⟨d0, d1⟩, fd0, fd1⟩ := HQ4.out.x.d.cells; obtain ⟨z0, z1, z2, z3, z4, z5, z6⟩ := HQ4.out.x.z.cells; obtain ⟨y0, y1, y2, y3, y4, y5, y6⟩ := HQ4.out.x.z.frozen; obtain ⟨a0, a1, a2, a3, a4, a5, a6⟩ := HQ4.out.t.cells; obtain ⟨fa0, fa1, fa2, fa3, fa4, fa5, fa6⟩ := HQ4.out.t.frozen; obtain ⟨⟨g0, g1⟩, fg0, fg1⟩ := HQ4.out.f.cells; clear hb)
                      go_meet
                      refine ⟨j + 1, f, by go_num, by omega, by omega, ?_, by omega, by show us.length + 1 ≤ j + 1; omega, HQ4.out⟩
                      rw [hr]
                      cases E (j + 1) <;> rfl
                case rest =>
                  clear hr hf hl HQ3 q0 q1 fq0 fq1 d0 d1 fd0 fd1 z0 z1 z2 z3 z4 z5 z6 y0 y1 y2 y3 y4 y5 y6  a0 a1 a2 a3 a4 a5 a6 fa0 fa1 fa2 fa3 fa4 fa5 fa6  g0 g1 fg0 fg1
                  obtain ⟨p, F, hv, hpl, hjp, hr, hf, hl, hQ⟩ := hcut
                  subst hv
                  have HQ4 := hide hQ
                  clear hQ
                  obtain ⟨⟨q0, q1⟩, fq0, fq1⟩ := HQ4.out.x.t.cells
                  obtain ⟨⟨d0, d1⟩, fd0, fd1⟩ := HQ4.out.x.d.cells
                  obtain ⟨z0, z1, z2, z3, z4, z5, z6⟩ := HQ4.out.x.z.cells
                  obtain ⟨y0, y1, y2, y3, y4, y5, y6⟩ := HQ4.out.x.z.frozen
                  obtain ⟨a0, a1, a2, a3, a4, a5, a6⟩ := HQ4.out.t.cells
                  obtain ⟨fa0, fa1, fa2, fa3, fa4, fa5, fa6⟩ := HQ4.out.t.frozen
                  obtain ⟨⟨g0, g1⟩, fg0, fg1⟩ := HQ4.out.f.cells
                  cases h3 : E p with
                  | bad Te ke =>
                    have hsw := HQ4.out.s
                    have hbz : Below wc.heap.size wc (wc.alloc (.cells z7 47)) := (Below.refl _ _).alloc (Nat.le_refl _) _
                    obtain ⟨⟨q2, q3⟩, _, _⟩ := (HQ4.out.below hbz).x.t.cells
                    have HSL : Hid (r0 = .bad Te ke) := by rw [Hid, hr, h3]; rfl
                    clear hr
                    go_upto_region 22 with (go_at_call 28; refine (HE.out (wc.alloc (.cells z7 47)) p (HQ4.out.below hbz).x.l hpl).mono ?_; rw [h3]; rintro e w6 ⟨hb, hT, v, J6, rfl, kx, nmx, nux, shx, Ax, nx, mx, Bx, px, qx, Cx, rx, sx, rfl⟩; have HNE := hide hT; clear hT; have HQ6 := hide ((HQ4.out.below hbz).below hb); have HB6 := hide (hbz.trans (hb.mono hbz.size)); have HZ6 : Hid (SevZ w6 wc.heap.size) := (SevAt.new wc _ _ _ _ _ _ _).below hb; have hz6 : wc.heap.size + 1 ≤ w6.heap.size := (by have := hb.size; simpa using this); clear q2 q3; clear q0 q1 fq0 fq1 d0 d1 fd0 fd1 z0 z1 z2 z3 z4 z5 z6 y0 y1 y2 y3 y4 y5 y6; clear a0 a1 a2 a3 a4 a5 a6 fa0 fa1 fa2 fa3 fa4 fa5 fa6; clear g0 g1 fg0 fg1; obtain ⟨⟨q0, q1⟩, fq0, fq1⟩ := HQ6.out.x.t.cells; obtain ⟨⟨d0, d1⟩, fd0, fd1⟩ := HQ6.out.x.d.cells; obtain ⟨z0, z1, z2, z3, z4, z5, z6⟩ := HQ6.out.x.z.cells; obtain ⟨y0, y1, y2, y3, y4, y5, y6⟩ := HQ6.out.x.z.frozen; obtain ⟨a0, a1, a2, a3, a4, a5, a6⟩ := HQ6.out.t.cells; obtain ⟨fa0, fa1, fa2, fa3, fa4, fa5, fa6⟩ := HQ6.out.t.frozen; obtain ⟨⟨g0, g1⟩, fg0, fg1⟩ := HQ6.out.f.cells; obtain ⟨c0, c1, c2, c3, c4, c5, c6⟩ := HZ6.out.cells; obtain ⟨fc0, fc1, fc2, fc3, fc4, fc5, fc6⟩ := HZ6.out.frozen; clear hb)
                    have hoB := SevAt.out w6 wc.heap.size (.int .i64 kx) (.string nmx) (.int .i64 nux) (.bool shx) (.slice Ax nx mx) (.slice Bx px qx) (.slice Cx rx sx)
                    have hoF := TwoAt.out (w := (((((((w6.setCell ⟨wc.heap.size, 0, none⟩ (.int .i64 kx)).setCell ⟨wc.heap.size, 1, none⟩ (.string nmx)).setCell ⟨wc.heap.size, 2, none⟩ (.int .i64 nux)).setCell ⟨wc.heap.size, 3, none⟩ (.bool shx)).setCell ⟨wc.heap.size, 4, none⟩ (.slice Ax nx mx)).setCell ⟨wc.heap.size, 5, none⟩ (.slice Bx px qx)).setCell ⟨wc.heap.size, 6, none⟩ (.slice Cx rx sx))) (b := w.heap.size + 1 + 1 + 1 + 1) (.int .i64 Te) (.int .i64 (ke : Int))
                    have HX7 := hide ((HQ6.out.x.grown hoB (by simp <;> omega) (by simp <;> omega) (by simp <;> omega) (fun g e => by cases e; omega)).grown hoF (by simp <;> omega) (by simp <;> omega) (by simp <;> omega) (fun g e => by cases e; omega))
                    have HT7 := hide ((HQ6.out.t.grown hoB (by simp <;> omega)).grown hoF (by simp <;> omega))
                    have HF7 := hide ((HQ6.out.f.grown hoB (by simp <;> omega)).put (.int .i64 Te) (.int .i64 (ke : Int)))
                    have HC7 := hide ((HZ6.out.put (.int .i64 kx) (.string nmx) (.int .i64 nux) (.bool shx) (.slice Ax nx mx) (.slice Bx px qx) (.slice Cx rx sx)).grown hoF (by simp <;> omega))
                    have HK7 : Hid (Keep (fun b => w.heap.size + 4 < b ∧ b ≠ wc.heap.size) w6 (((((((((w6.setCell ⟨wc.heap.size, 0, none⟩ (.int .i64 kx)).setCell ⟨wc.heap.size, 1, none⟩ (.string nmx)).setCell ⟨wc.heap.size, 2, none⟩ (.int .i64 nux)).setCell ⟨wc.heap.size, 3, none⟩ (.bool shx)).setCell ⟨wc.heap.size, 4, none⟩ (.slice Ax nx mx)).setCell ⟨wc.heap.size, 5, none⟩ (.slice Bx px qx)).setCell ⟨wc.heap.size, 6, none⟩ (.slice Cx rx sx)).setCell ⟨w.heap.size + 1 + 1 + 1 + 1, 0, none⟩ (.int .i64 Te)).setCell ⟨w.heap.size + 1 + 1 + 1 + 1, 1, none⟩ (.int .i64 (ke : Int)))) := (Keep.of_grown hoB (fun b hb _ => by have := hb.2; simp <;> omega)).trans (Keep.of_grown hoF (fun b hb _ => by have := hb.1; simp <;> omega))
                    have HG7 : Hid (GrowV TreeV 47 7 (((((((((w6.setCell ⟨wc.heap.size, 0, none⟩ (.int .i64 kx)).setCell ⟨wc.heap.size, 1, none⟩ (.string nmx)).setCell ⟨wc.heap.size, 2, none⟩ (.int .i64 nux)).setCell ⟨wc.heap.size, 3, none⟩ (.bool shx)).setCell ⟨wc.heap.size, 4, none⟩ (.slice Ax nx mx)).setCell ⟨wc.heap.size, 5, none⟩ (.slice Bx px qx)).setCell ⟨wc.heap.size, 6, none⟩ (.slice Cx rx sx)).setCell ⟨w.heap.size + 1 + 1 + 1 + 1, 0, none⟩ (.int .i64 Te)).setCell ⟨w.heap.size + 1 + 1 + 1 + 1, 1, none⟩ (.int .i64 (ke : Int))) M2 (far M2) us (.slice Ak nk ck)) := kid_kept HQ4.out.k HB6.out hoB hoF (by omega)
                    have hz7 : w6.heap.size ≤ (((((((((w6.setCell ⟨wc.heap.size, 0, none⟩ (.int .i64 kx)).setCell ⟨wc.heap.size, 1, none⟩ (.string nmx)).setCell ⟨wc.heap.size, 2, none⟩ (.int .i64 nux)).setCell ⟨wc.heap.size, 3, none⟩ (.bool shx)).setCell ⟨wc.heap.size, 4, none⟩ (.slice Ax nx mx)).setCell ⟨wc.heap.size, 5, none⟩ (.slice Bx px qx)).setCell ⟨wc.heap.size, 6, none⟩ (.slice Cx rx sx)).setCell ⟨w.heap.size + 1 + 1 + 1 + 1, 0, none⟩ (.int .i64 Te)).setCell ⟨w.heap.size + 1 + 1 + 1 + 1, 1, none⟩ (.int .i64 (ke : Int))).heap.size := Nat.le_trans hoB.size hoF.size
                    obtain ⟨w7, hw7⟩ : ∃ w7, w7 = (((((((((w6.setCell ⟨wc.heap.size, 0, none⟩ (.int .i64 kx)).setCell ⟨wc.heap.size, 1, none⟩ (.string nmx)).setCell ⟨wc.heap.size, 2, none⟩ (.int .i64 nux)).setCell ⟨wc.heap.size, 3, none⟩ (.bool shx)).setCell ⟨wc.heap.size, 4, none⟩ (.slice Ax nx mx)).setCell ⟨wc.heap.size, 5, none⟩ (.slice Bx px qx)).setCell ⟨wc.heap.size, 6, none⟩ (.slice Cx rx sx)).setCell ⟨w.heap.size + 1 + 1 + 1 + 1, 0, none⟩ (.int .i64 Te)).setCell ⟨w.heap.size + 1 + 1 + 1 + 1, 1, none⟩ (.int .i64 (ke : Int))) := ⟨_, rfl⟩
                    rw [← hw7] at HX7 HT7 HF7 HC7 HK7 HG7 hz7 ⊢
                    clear hw7 hoB hoF q0 q1 fq0 fq1 d0 d1 fd0 fd1 z0 z1 z2 z3 z4 z5 z6 y0 y1 y2 y3 y4 y5 y6  a0 a1 a2 a3 a4 a5 a6 fa0 fa1 fa2 fa3 fa4 fa5 fa6  g0 g1 fg0 fg1 c0 c1 c2 c3 c4 c5 c6 fc0 fc1 fc2 fc3 fc4 fc5 fc6
                    obtain ⟨⟨q0, q1⟩, fq0, fq1⟩ := HX7.out.t.cells; obtain ⟨⟨d0, d1⟩, fd0, fd1⟩ := HX7.out.d.cells; obtain ⟨z0, z1, z2, z3, z4, z5, z6⟩ := HX7.out.z.cells; obtain ⟨y0, y1, y2, y3, y4, y5, y6⟩ := HX7.out.z.frozen
                    obtain ⟨a0, a1, a2, a3, a4, a5, a6⟩ := HT7.out.cells; obtain ⟨fa0, fa1, fa2, fa3, fa4, fa5, fa6⟩ := HT7.out.frozen
                    obtain ⟨⟨g0, g1⟩, fg0, fg1⟩ := HF7.out.cells
                    have hne0 : (Te == 0) = false := by have := HNE.out; simpa using this
                    go_wp2
                    go_region
                    obtain ⟨wg, hwg, hfin⟩ := HX7.out.fin 5 (.int .i64 3) (.string nm) (.int .i64 0) (.bool sh) (.slice As ns cs) (.slice Al nl cl) (.slice Ak nk ck) (.int .i64 Te) (.int .i64 (ke : Int)) (by omega) (by omega) (by omega) (by omega) (by omega)
                    rw [← hwg]
                    replace hfin := hfin.drew
                    clear hwg
                    obtain ⟨wf, hwf⟩ : ∃ wf, wf = wg.drew := ⟨_, rfl⟩
                    rw [← hwf] at hfin ⊢
                    clear hwf
                    obtain ⟨hbf, hkf, u0, u1, u2, u3, u4, u5, u6, v0, v1⟩ := hfin
                    have HBF := hide hbf
                    have HKF := hide hkf
                    clear hbf hkf
                    go_wp2
                    refine bodyPost_ret (v := .tuple #[.agg #[.int .i64 3, .string nm, .int .i64 0, .bool sh, .slice As ns cs, .slice Al nl cl, .slice Ak nk ck], .int .i64 (J6), .agg #[.int .i64 Te, .int .i64 (ke : Int)]]) (by simp [results, Tryz.results80, go_sem, u0, u1, u2, u3, u4, u5, u6, v0, v1]) rfl ?_
                    exact RefP.ofJ _ _ _ _ _ _ _ _ _ _ _ _ _ Te ke J6 HBF.out (.inr ⟨HSL.out, HNE.out⟩)
                  | ok ta j2 =>
                    have hsw := HQ4.out.s
                    have hbz : Below wc.heap.size wc (wc.alloc (.cells z7 47)) := (Below.refl _ _).alloc (Nat.le_refl _) _
                    obtain ⟨⟨q2, q3⟩, _, _⟩ := (HQ4.out.below hbz).x.t.cells
                    have hj2 := HEP.out _ _ _ h3
                    have hj2l := HEL.out _ _ _ h3
                    have HSL : Hid (r0 = (argsL X E F j2 (us ++ [ta])).bind (fun ks i => (Res.ok (.mk 3 nm 0 sh ds ls ks) i : Res Tr))) := by rw [Hid, hr, h3]; rfl
                    clear hr
                    have HQB : Hid (∀ b, (Value.slice Ak nk ck).ownBlock = some b → b < wc.heap.size) := fun b e => by obtain ⟨_, ho, _⟩ := HQ4.out.k; exact (ho.lt b e).2
                    go_upto_region 22 with (go_at_call 28; refine (HE.out (wc.alloc (.cells z7 47)) p (HQ4.out.below hbz).x.l hpl).mono ?_; rw [h3]; rintro e w6 ⟨hb, v, rfl, kx, nmx, nux, shx, Ax, nx, mx, Bx, px, qx, Cx, rx, sx, rfl, htr⟩; have HV6 := hide htr; clear htr; have HQ6 := hide ((HQ4.out.below hbz).below hb); have HB6 := hide (hbz.trans (hb.mono hbz.size)); have HZ6 : Hid (SevZ w6 wc.heap.size) := (SevAt.new wc _ _ _ _ _ _ _).below hb; have hz6 : wc.heap.size + 1 ≤ w6.heap.size := (by have := hb.size; simpa using this); clear q2 q3; clear q0 q1 fq0 fq1 d0 d1 fd0 fd1 z0 z1 z2 z3 z4 z5 z6 y0 y1 y2 y3 y4 y5 y6; clear a0 a1 a2 a3 a4 a5 a6 fa0 fa1 fa2 fa3 fa4 fa5 fa6; clear g0 g1 fg0 fg1; obtain ⟨⟨q0, q1⟩, fq0, fq1⟩ := HQ6.out.x.t.cells; obtain ⟨⟨d0, d1⟩, fd0, fd1⟩ := HQ6.out.x.d.cells; obtain ⟨z0, z1, z2, z3, z4, z5, z6⟩ := HQ6.out.x.z.cells; obtain ⟨y0, y1, y2, y3, y4, y5, y6⟩ := HQ6.out.x.z.frozen; obtain ⟨a0, a1, a2, a3, a4, a5, a6⟩ := HQ6.out.t.cells; obtain ⟨fa0, fa1, fa2, fa3, fa4, fa5, fa6⟩ := HQ6.out.t.frozen; obtain ⟨⟨g0, g1⟩, fg0, fg1⟩ := HQ6.out.f.cells; obtain ⟨c0, c1, c2, c3, c4, c5, c6⟩ := HZ6.out.cells; obtain ⟨fc0, fc1, fc2, fc3, fc4, fc5, fc6⟩ := HZ6.out.frozen; clear hb)
                    have hoB := SevAt.out w6 wc.heap.size (.int .i64 kx) (.string nmx) (.int .i64 nux) (.bool shx) (.slice Ax nx mx) (.slice Bx px qx) (.slice Cx rx sx)
                    have hoF := TwoAt.out (w := (((((((w6.setCell ⟨wc.heap.size, 0, none⟩ (.int .i64 kx)).setCell ⟨wc.heap.size, 1, none⟩ (.string nmx)).setCell ⟨wc.heap.size, 2, none⟩ (.int .i64 nux)).setCell ⟨wc.heap.size, 3, none⟩ (.bool shx)).setCell ⟨wc.heap.size, 4, none⟩ (.slice Ax nx mx)).setCell ⟨wc.heap.size, 5, none⟩ (.slice Bx px qx)).setCell ⟨wc.heap.size, 6, none⟩ (.slice Cx rx sx))) (b := w.heap.size + 1 + 1 + 1 + 1) (.int .i64 0) (.int .i64 0)
                    have HX7 := hide ((HQ6.out.x.grown hoB (by simp <;> omega) (by simp <;> omega) (by simp <;> omega) (fun g e => by cases e; omega)).grown hoF (by simp <;> omega) (by simp <;> omega) (by simp <;> omega) (fun g e => by cases e; omega))
                    have HT7 := hide ((HQ6.out.t.grown hoB (by simp <;> omega)).grown hoF (by simp <;> omega))
                    have HF7 := hide ((HQ6.out.f.grown hoB (by simp <;> omega)).put (.int .i64 0) (.int .i64 0))
                    have HC7 := hide ((HZ6.out.put (.int .i64 kx) (.string nmx) (.int .i64 nux) (.bool shx) (.slice Ax nx mx) (.slice Bx px qx) (.slice Cx rx sx)).grown hoF (by simp <;> omega))
                    have HK7 : Hid (Keep (fun b => w.heap.size + 4 < b ∧ b ≠ wc.heap.size) w6 (((((((((w6.setCell ⟨wc.heap.size, 0, none⟩ (.int .i64 kx)).setCell ⟨wc.heap.size, 1, none⟩ (.string nmx)).setCell ⟨wc.heap.size, 2, none⟩ (.int .i64 nux)).setCell ⟨wc.heap.size, 3, none⟩ (.bool shx)).setCell ⟨wc.heap.size, 4, none⟩ (.slice Ax nx mx)).setCell ⟨wc.heap.size, 5, none⟩ (.slice Bx px qx)).setCell ⟨wc.heap.size, 6, none⟩ (.slice Cx rx sx)).setCell ⟨w.heap.size + 1 + 1 + 1 + 1, 0, none⟩ (.int .i64 0)).setCell ⟨w.heap.size + 1 + 1 + 1 + 1, 1, none⟩ (.int .i64 0))) := (Keep.of_grown hoB (fun b hb _ => by have := hb.2; simp <;> omega)).trans (Keep.of_grown hoF (fun b hb _ => by have := hb.1; simp <;> omega))
                    have HG7 : Hid (GrowV TreeV 47 7 (((((((((w6.setCell ⟨wc.heap.size, 0, none⟩ (.int .i64 kx)).setCell ⟨wc.heap.size, 1, none⟩ (.string nmx)).setCell ⟨wc.heap.size, 2, none⟩ (.int .i64 nux)).setCell ⟨wc.heap.size, 3, none⟩ (.bool shx)).setCell ⟨wc.heap.size, 4, none⟩ (.slice Ax nx mx)).setCell ⟨wc.heap.size, 5, none⟩ (.slice Bx px qx)).setCell ⟨wc.heap.size, 6, none⟩ (.slice Cx rx sx)).setCell ⟨w.heap.size + 1 + 1 + 1 + 1, 0, none⟩ (.int .i64 0)).setCell ⟨w.heap.size + 1 + 1 + 1 + 1, 1, none⟩ (.int .i64 0)) M2 (far M2) us (.slice Ak nk ck)) := kid_kept HQ4.out.k HB6.out hoB hoF (by omega)
                    have hz7 : w6.heap.size ≤ (((((((((w6.setCell ⟨wc.heap.size, 0, none⟩ (.int .i64 kx)).setCell ⟨wc.heap.size, 1, none⟩ (.string nmx)).setCell ⟨wc.heap.size, 2, none⟩ (.int .i64 nux)).setCell ⟨wc.heap.size, 3, none⟩ (.bool shx)).setCell ⟨wc.heap.size, 4, none⟩ (.slice Ax nx mx)).setCell ⟨wc.heap.size, 5, none⟩ (.slice Bx px qx)).setCell ⟨wc.heap.size, 6, none⟩ (.slice Cx rx sx)).setCell ⟨w.heap.size + 1 + 1 + 1 + 1, 0, none⟩ (.int .i64 0)).setCell ⟨w.heap.size + 1 + 1 + 1 + 1, 1, none⟩ (.int .i64 0)).heap.size := Nat.le_trans hoB.size hoF.size
                    obtain ⟨w7, hw7⟩ : ∃ w7, w7 = (((((((((w6.setCell ⟨wc.heap.size, 0, none⟩ (.int .i64 kx)).setCell ⟨wc.heap.size, 1, none⟩ (.string nmx)).setCell ⟨wc.heap.size, 2, none⟩ (.int .i64 nux)).setCell ⟨wc.heap.size, 3, none⟩ (.bool shx)).setCell ⟨wc.heap.size, 4, none⟩ (.slice Ax nx mx)).setCell ⟨wc.heap.size, 5, none⟩ (.slice Bx px qx)).setCell ⟨wc.heap.size, 6, none⟩ (.slice Cx rx sx)).setCell ⟨w.heap.size + 1 + 1 + 1 + 1, 0, none⟩ (.int .i64 0)).setCell ⟨w.heap.size + 1 + 1 + 1 + 1, 1, none⟩ (.int .i64 0)) := ⟨_, rfl⟩
                    rw [← hw7] at HX7 HT7 HF7 HC7 HK7 HG7 hz7 ⊢
                    clear hw7 hoB hoF q0 q1 fq0 fq1 d0 d1 fd0 fd1 z0 z1 z2 z3 z4 z5 z6 y0 y1 y2 y3 y4 y5 y6  a0 a1 a2 a3 a4 a5 a6 fa0 fa1 fa2 fa3 fa4 fa5 fa6  g0 g1 fg0 fg1 c0 c1 c2 c3 c4 c5 c6 fc0 fc1 fc2 fc3 fc4 fc5 fc6
                    obtain ⟨⟨q0, q1⟩, fq0, fq1⟩ := HX7.out.t.cells; obtain ⟨⟨d0, d1⟩, fd0, fd1⟩ := HX7.out.d.cells; obtain ⟨z0, z1, z2, z3, z4, z5, z6⟩ := HX7.out.z.cells; obtain ⟨y0, y1, y2, y3, y4, y5, y6⟩ := HX7.out.z.frozen
                    obtain ⟨a0, a1, a2, a3, a4, a5, a6⟩ := HT7.out.cells; obtain ⟨fa0, fa1, fa2, fa3, fa4, fa5, fa6⟩ := HT7.out.frozen
                    obtain ⟨⟨g0, g1⟩, fg0, fg1⟩ := HF7.out.cells
                    obtain ⟨c0, c1, c2, c3, c4, c5, c6⟩ := HC7.out.cells
                    obtain ⟨e0, e1, e2, e3, e4, e5, e6⟩ := (HT7.out.alloc (.cells #[.int .i64 kx, .string nmx, .int .i64 nux, .bool shx, .slice Ax nx mx, .slice Bx px qx, .slice Cx rx sx] 47)).cells; obtain ⟨fe0, fe1, fe2, fe3, fe4, fe5, fe6⟩ := (HT7.out.alloc (.cells #[.int .i64 kx, .string nmx, .int .i64 nux, .bool shx, .slice Ax nx mx, .slice Bx px qx, .slice Cx rx sx] 47)).frozen
                    obtain ⟨csr, ho7, hv7⟩ := HG7.out
                    have HO7 := hide ho7
                    have HV7 := hide hv7
                    clear ho7 hv7 HG7
                    have HD7 : Hid (SliceV DimV w7 (amid (w.heap.size + 4) M2) ds (.slice As ns cs)) := DimV.stays.slice HQ6.out.d ⟨HK7.out.1, fun b hb hl => HK7.out.2 b ⟨hb.1, by have := hb.2; omega⟩ hl⟩
                    have HL7 : Hid (SliceV ListV w7 (amid (w.heap.size + 4) M2) ls (.slice Al nl cl)) := ListV.stays.slice HQ6.out.l ⟨HK7.out.1, fun b hb hl => HK7.out.2 b ⟨hb.1, by have := hb.2; omega⟩ hl⟩
                    have HA7 : Hid (TreeV w7 (fun b => far M2 b ∧ some b ≠ (Value.slice Ak nk ck).ownBlock) ta [.int .i64 kx, .string nmx, .int .i64 nux, .bool shx, .slice Ax nx mx, .slice Bx px qx, .slice Cx rx sx]) := TreeV.stays.weaken (TreeV.stays.keep (TreeV.stays.weaken (S' := fun b => wc.heap.size < b) HV6.out (fun b hl hb => by have h9 : (wc.alloc (.cells z7 47)).heap.size ≤ b := hb; simp at h9; omega)) (show Keep (fun b => wc.heap.size < b) w6 w7 from ⟨HK7.out.1, fun b hb hl => HK7.out.2 b ⟨by omega, by omega⟩ hl⟩)) (fun b hl hb => ⟨by unfold far; omega, fun e => by have := HQB.out b e.symm; omega⟩)
                    go_wp2_with (at_builtin; refine wpList_append_own_at _ rfl _ _ 45 rfl M2 47 k0 _ 7 112 Tryz.underlying45 HK.out HK0.out HK1.out HK2.out rfl (by decide) _ _ _ rfl (HO7.out.alloc _) ⟨w7.heap.size, 0, none⟩ 1 1 [.int .i64 kx, .string nmx, .int .i64 nux, .bool shx, .slice Ax nx mx, .slice Bx px qx, .slice Cx rx sx] rfl rfl ?c1 ?c2 ?c3 ?c4 ?c5 ?_)
                    case c1 => exact cells_new _ [.int .i64 kx, .string nmx, .int .i64 nux, .bool shx, .slice Ax nx mx, .slice Bx px qx, .slice Cx rx sx] _
                    case c2 => intro u hu; simp at hu; rcases hu with rfl | rfl | rfl | rfl | rfl | rfl | rfl <;> rfl
                    case c3 => unfold maxLen; omega
                    case c4 => omega
                    case c5 => simp; omega
                    intro v' w8 hown' hgrow _ hat
                    obtain ⟨g, cap, rfl⟩ := own_form hown'
                    have hlow : ∀ x, x < M2 → some x ≠ (Value.slice Ak nk ck).ownBlock := fun x hx e => by have := (HO7.out.lt x e.symm).1; omega
                    have hge : ∀ x, (Value.slice Ak nk ck).ownBlock = some x → w.heap.size ≤ x := fun x e => by have := (HO7.out.lt x e).1; omega
                    have HX8 := hide ((HX7.out.alloc (.cells #[.int .i64 kx, .string nmx, .int .i64 nux, .bool shx, .slice Ax nx mx, .slice Bx px qx, .slice Cx rx sx] 47)).grown hgrow (hlow _ (by omega)) (hlow _ (by omega)) (hlow _ (by omega)) hge)
                    have HT8 := hide ((HT7.out.alloc (.cells #[.int .i64 kx, .string nmx, .int .i64 nux, .bool shx, .slice Ax nx mx, .slice Bx px qx, .slice Cx rx sx] 47)).grown hgrow (hlow _ (by omega)))
                    have HF8 := hide ((HF7.out.alloc (.cells #[.int .i64 kx, .string nmx, .int .i64 nux, .bool shx, .slice Ax nx mx, .slice Bx px qx, .slice Cx rx sx] 47)).grown hgrow (hlow _ (by omega)))
                    have hk8 : Keep (fun b => w.heap.size + 4 < b ∧ b < M2) w7 w8 := (Keep.alloc w7 (.cells #[.int .i64 kx, .string nmx, .int .i64 nux, .bool shx, .slice Ax nx mx, .slice Bx px qx, .slice Cx rx sx] 47)).trans (Keep.of_grown hgrow (fun b hb _ => hlow b hb.2))
                    have HD8 := hide (DimV.stays.slice HD7.out hk8)
                    have HL8 := hide (ListV.stays.slice HL7.out hk8)
                    have HN8 := hide (grow_more (a := ta) TreeV.stays HV7.out HA7.out hgrow hat hown')
                    have hz8 : w7.heap.size ≤ w8.heap.size := by have := hgrow.size; simp at this; omega
                    clear hown' hgrow hat hk8 e0 e1 e2 e3 e4 e5 e6 fe0 fe1 fe2 fe3 fe4 fe5 fe6 a0 a1 a2 a3 a4 a5 a6 fa0 fa1 fa2 fa3 fa4 fa5 fa6 c0 c1 c2 c3 c4 c5 c6
                    obtain ⟨a0, a1, a2, a3, a4, a5, a6⟩ := HT8.out.cells; obtain ⟨fa0, fa1, fa2, fa3, fa4, fa5, fa6⟩ := HT8.out.frozen
                    go_wp2
                    have hoT := set_out w8 (w.heap.size + 1) 6 (.slice (some ⟨g, 0, none⟩) (us.length + 1) cap)
                    have HQ9 : Hid (KidAt X A c w nm sh ds ls M2 As ns cs Al nl cl (some ⟨g, 0, none⟩) (us.length + 1) cap (us ++ [ta]) (w8.setCell ⟨w.heap.size + 1, 6, none⟩ (.slice (some ⟨g, 0, none⟩) (us.length + 1) cap))) := ⟨HX8.out.grown hoT (by simp <;> omega) (by simp <;> omega) (by simp <;> omega) (fun g e => by cases e; omega), by have := hoT.size; omega, HT8.out.set6 _, HF8.out.grown hoT (by simp <;> omega), DimV.stays.slice HD8.out (Keep.of_grown hoT (fun b hb _ => by have := hb.1; simp <;> omega)), ListV.stays.slice HL8.out (Keep.of_grown hoT (fun b hb _ => by have := hb.1; simp <;> omega)), GrowV.kept TreeV.stays HN8.out hoT (by obtain ⟨_, ho, _⟩ := HN8.out; exact .inr (own_ne ho (by omega))) (fun b hb _ => by have : M2 ≤ b := hb; simp <;> omega)⟩
                    obtain ⟨w9, hw9⟩ : ∃ w9, w9 = (w8.setCell ⟨w.heap.size + 1, 6, none⟩ (.slice (some ⟨g, 0, none⟩) (us.length + 1) cap)) := ⟨_, rfl⟩
                    rw [← hw9] at HQ9 ⊢
                    clear hw9 hoT HX8 HT8 HF8 HD8 HL8 HN8 a0 a1 a2 a3 a4 a5 a6 fa0 fa1 fa2 fa3 fa4 fa5 fa6
                    go_roundw
                    case rel =>
                      refine ⟨j2, F, us ++ [ta], _, _, _, rfl, hj2l, ?_, .inr (by omega), by rw [List.length_append]; show us.length + 1 ≤ j2; omega, by rw [List.length_append]; rfl, HQ9.out⟩
                      rw [HSL.out]
                      cases us <;> rfl
                    case measure => simp [intOf]; omega
      · have HSL := hide hr
        have hE0 : (Er == 0) = false := by simpa using hne
        have HNE := hide hne
        clear hr hne
        go_wp2
        go_region
        obtain ⟨wg, hwg, hfin⟩ := HX2.out.fin 5 (.int .i64 3) (.string nm) (.int .i64 0) (.bool sh) (.slice As ns cs) (.slice Al nl cl) (.slice none 0 0) (.int .i64 Er) (.int .i64 (K : Int)) (by omega) (by omega) (by omega) (by omega) (by omega)
        rw [← hwg]
        replace hfin := hfin.drew
        clear hwg
        obtain ⟨wf, hwf⟩ : ∃ wf, wf = wg.drew := ⟨_, rfl⟩
        rw [← hwf] at hfin ⊢
        clear hwf
        obtain ⟨hbf, hkf, u0, u1, u2, u3, u4, u5, u6, v0, v1⟩ := hfin
        have HBF := hide hbf
        have HKF := hide hkf
        clear hbf hkf
        go_wp2
        refine bodyPost_ret (v := .tuple #[.agg #[.int .i64 3, .string nm, .int .i64 0, .bool sh, .slice As ns cs, .slice Al nl cl, .slice none 0 0], .int .i64 (J), .agg #[.int .i64 Er, .int .i64 (K : Int)]]) (by simp [results, Tryz.results80, go_sem, u0, u1, u2, u3, u4, u5, u6, v0, v1]) rfl ?_
        exact RefP.ofJ _ _ _ _ _ _ _ _ _ _ _ _ _ Er K J HBF.out (.inr ⟨HSL.out, HNE.out⟩)
end Go.Proofs.YtadhlnlcdljamaaGreatDoor.V
