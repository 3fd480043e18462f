/-
  Contract: plain.Points.
-/
import Derived.Test.YtmefgejggpimeaaPtPlain2
import Derived.OwnWalkIn
namespace Go.Proofs.Ytmefgejggpimeaa.V
open Go.RowKit Go.Shelf
attribute [local go_sem] Oper.semAt_some
set_option linter.unusedVariables false

theorem boxed_grown2 {W W' : World} {B b : Nat} {t : TypeId} {v : Value} {row : Option Nat} (h : Boxed W b t v) (hg : W.grownBy W' row) (hr : ∀ r, row = some r → B ≤ r ∧ ∃ o : Obj, W.heap[r]? = some o ∧ o.isCells = false) : Boxed W' b t v :=
  h.kept hg (fun e => by obtain ⟨_, o, ho, hc⟩ := hr b e.symm; rw [h] at ho; cases ho; cases hc)
/-- append(out, list), within a fence. -/
theorem append_listsIn {F : Fence} {n : Nat} {w : World} {ops : Array Oper} {rest : List Oper} {op : Oper} {a : Act} {Q : Exit → Act → World → Prop} (hgd : op.guard = none) (s x : Operand)
    (ho : op.op = .call { callee := .builtin .append, args := #[s, x], argTypes := #[38, 38] }) (B : Nat)
    (v : Value) (L : List (List Int)) (hs : a.eval s = v) (X : Option Addr) (l c : Nat) (xs : List Int) (hout : OutL w B v L) (hX : Lst w X l c xs) (hf : Flush X)
    (hx : a.eval x = .slice (some ⟨w.heap.size, 0, none⟩) 1 1) (hbytes : (L.length + 1) * 24 ≤ 140737488355328) (hB : B ≤ w.heap.size)
    (h : ∀ v' w', OutL w' B v' (L ++ [xs]) → Below B w w' → KeepsOthers w w' → wpListIn F n Try.prog ops Q rest (a.put op.dst v') w') :
    wpListIn F n Try.prog ops Q (op :: rest) a (w.alloc (.cells #[.slice X l c] 22)) := by
  obtain ⟨vs, h1, h2, h3⟩ := hout
  obtain ⟨i0, hi, hz0, hz1, hz2⟩ := info_parts info_lists
  refine wpListIn_append_own _ hgd s x 38 ho B 22 i0 (.slice none 0 0) 1 24 Try.underlying38 hi hz0 hz1 hz2 rfl (by decide) v L.length vs hs (h1.alloc _) ⟨w.heap.size, 0, none⟩ 1 1 [.slice X l c] hx rfl ?_ ?_ (by unfold maxLen; omega) hbytes (by simp; omega) (fun v' w' k1 k2 _ => h v' w' (OutL.snoc h1 h2 h3 hX hf k1 k2) (OutL.grownB (Below.refl _ _) hB h1 k2) ((KeepsOthers.alloc w _).trans (KeepsOthers.of_grownBy k2 (fun j o hj ho => ?_))))
  · intro j u hj
    have hjl : j = 0 := by have := (List.getElem?_eq_some_iff.1 hj).1; simp at this; exact this
    subst hjl
    simp at hj
    rw [← hj, Go.WideShapes.add_plain]
    show (w.alloc (.cells #[.slice X l c] 22)).cell? ⟨w.heap.size, 0 + 0, none⟩ = _
    unfold World.cell?
    rw [World.alloc_heap_new w (.cells #[.slice X l c] 22)]
    rfl
  · intro u hu; simp at hu; subst hu; rfl
  · rcases (h1.alloc (.cells #[.slice X l c] 22)).2 with ⟨rfl, _⟩ | ⟨g, cap, cur, rfl, _, hb, _⟩
    · simp [Value.ownBlock] at hj
    · have e : g = j := by simpa [Value.ownBlock] using hj
      rw [← e, hb] at ho
      cases ho
      rfl
theorem lst_grown {W W' : World} {B : Nat} {a : Option Addr} {l c : Nat} {xs : List Int} {row : Option Nat} (h : Lst W a l c xs) (hg : W.grownBy W' row) (hr : ∀ r, row = some r → B ≤ r ∧ ∃ o : Obj, W.heap[r]? = some o ∧ o.isCells = false) : Lst W' a l c xs := by
  obtain ⟨⟨h1, h2, h3, h4⟩, h5⟩ := h
  refine ⟨⟨h1, h2, h3, ?_⟩, h5⟩
  rcases h4 with h4 | ⟨b, off, e, hc⟩
  · exact .inl h4
  · refine .inr ⟨b, off, e, fun j hj => ?_⟩
    have hcj := hc j hj
    refine (World.cell?_of_block (w := W) (hg.block b (lt_of_cell hcj) (fun e' => ?_))).trans hcj
    obtain ⟨_, o, ho, hcl⟩ := hr b e'.symm
    obtain ⟨o', ho', hc'⟩ := cells_of_cell hcj
    rw [ho] at ho'
    cases ho'
    rw [hcl] at hc'
    cases hc'
theorem LL.grownO {W W' : World} {B n : Nat} {A : Option Addr} {L : List (List Int)} {row : Option Nat} (h : LL W A n L) (hg : W.grownBy W' row) (hr : ∀ r, row = some r → B ≤ r ∧ ∃ o : Obj, W.heap[r]? = some o ∧ o.isCells = false) : LL W' A n L := by
  obtain ⟨h1, h2⟩ := h
  refine ⟨h1, ?_⟩
  rcases h2 with h2 | ⟨b, off, e, h⟩
  · exact .inl h2
  · refine .inr ⟨b, off, e, fun i hi => ?_⟩
    obtain ⟨a, l, c, k1, k2, k3⟩ := h i hi
    refine ⟨a, l, c, (World.cell?_of_block (w := W) (hg.block b (lt_of_cell k1) (fun e' => ?_))).trans k1, lst_grown k2 hg hr, k3⟩
    obtain ⟨_, o, ho, hcl⟩ := hr b e'.symm
    obtain ⟨o', ho', hc'⟩ := cells_of_cell k1
    rw [ho] at ho'
    cases ho'
    rw [hcl] at hc'
    cases hc'
theorem OutL.grownO {W W' : World} {B N : Nat} {v : Value} {L : List (List Int)} {row : Option Nat} (h : OutL W N v L) (hg : W.grownBy W' row) (hr : ∀ r, row = some r → B ≤ r ∧ ∃ o : Obj, W.heap[r]? = some o ∧ o.isCells = false) : OutL W' N v L := by
  obtain ⟨vs, h1, h2, h3⟩ := h
  refine ⟨vs, ⟨h1.1, ?_⟩, ⟨h2.1, fun i hi => ?_⟩, h3⟩
  · rcases h1.2 with e | ⟨g, cap, cur, e1, e2, e3, e4⟩
    · exact .inl e
    · refine .inr ⟨g, cap, cur, e1, e2, (hg.block g (Array.getElem?_eq_some_iff.1 e3).1 (fun e' => ?_)).trans e3, e4⟩
      obtain ⟨_, o, ho, hcl⟩ := hr g e'.symm
      rw [e3] at ho
      cases ho
      cases hcl
  · obtain ⟨a, l, c, k1, k2, k3⟩ := h2.2 i hi
    exact ⟨a, l, c, k1, lst_grown k2 hg hr, k3⟩

theorem OutL.setB {W : World} {N : Nat} {v u : Value} {L : List (List Int)} {p : Addr} (h : OutL W N v L) (hp : p.block < N) (hbx : Boxed W p.block 38 u) (hu : ∃ A n c, u = .slice A n c) (y : Value) : OutL (W.setCell p y) N v L := by
  obtain ⟨vs, h1, h2, h3⟩ := h
  refine ⟨vs, ownsRow_setCell_below h1 hp _, ⟨h2.1, fun i hi => ?_⟩, h3⟩
  obtain ⟨a, l, c, k1, ⟨⟨i1, i2, i3, i4⟩, k2⟩, k3⟩ := h2.2 i hi
  refine ⟨a, l, c, k1, ⟨⟨i1, i2, i3, ?_⟩, k2⟩, k3⟩
  rcases i4 with i4 | ⟨b, off, e, hc⟩
  · exact .inl i4
  · by_cases h0 : l = 0
    · exact .inl h0
    · refine .inr ⟨b, off, e, fun j hj => ?_⟩
      have hcj := hc j hj
      refine (World.cell?_of_block (w := W) (Below.heap_setCell _ p _ b (fun e' => ?_))).trans hcj
      have ho := k3 b off e
      have hc0 := hc 0 (by omega)
      rw [ho, e'] at hc0
      have := hbx.cell
      rw [Nat.zero_add, this] at hc0
      obtain ⟨A, n, c, rfl⟩ := hu
      cases hc0
/-- The blocks from N on, below M, are as they were in V. -/
def Same2 (N M : Nat) (V W : World) : Prop := M ≤ W.heap.size ∧ ∀ b, N ≤ b → b < M → W.heap[b]? = V.heap[b]?
def Keep2 (N M : Nat) (A A' : World) : Prop := A.heap.size ≤ A'.heap.size ∧ ∀ b, N ≤ b → b < M → A'.heap[b]? = A.heap[b]?
theorem same2_own (N M : Nat) (V : World) {B : Nat} (hB : M ≤ B) : OwnFrom B (fun (_ : List (List Int)) W => Same2 N M V W) := by
  rintro s W W' row ⟨h1, h2⟩ hg hr
  refine ⟨Nat.le_trans h1 hg.size, fun b h3 h4 => (hg.block b (by omega) (fun e => ?_)).trans (h2 b h3 h4)⟩
  have := (hr b e.symm).1
  omega
/-- What is there while the points are gathered. -/
def Gath (lb M : Nat) (pre : List (List Int)) (W : World) : Prop := ∃ v, Boxed W lb 38 v ∧ OutL W M v pre
theorem gath_own (lb M B : Nat) : OwnFrom B (fun pre W => Gath lb M pre W) := by
  rintro s W W' row ⟨v, h1, h2⟩ hg hr
  exact ⟨v, boxed_grown2 h1 hg hr, h2.grownO hg hr⟩

set_option maxRecDepth 100000 in
set_option maxHeartbeats 8000000 in
theorem plainPts_ok (ba : Option Addr) (bl bc : Nat) (box : List Int) (ra : Option Addr) (rl rc : Nat) (rs : List (List Int × Int)) (w : World) (h : Ints w ba bl box) (hr : Rws w ra rl rs) (hE : ptE box rs = 0) :
    CallsIn FW 8 Try.prog 19 #[.agg #[.slice ba bl bc, .slice ra rl rc]] w fun e w' => (∃ A c, e = .returned (.tuple #[.slice A (pts box rs).length c, .bool true]) ∧ LL w' A (pts box rs).length (pts box rs)) ∧ Below w.heap.size w w' := by
  have hro : FW.round = none := rfl
  have ho := ptE_ok hE
  have B1 : Below w.heap.size w ((w.alloc (.cells #[.slice ba bl bc, .slice ra rl rc] 25)).alloc (.cells #[.slice none 0 0] 38)) := bl_on (bl_new _) (bl_new _)
  have P1 := (PtAt.new w ba bl bc ra rl rc).below (bl_new (.cells #[.slice none 0 0] 38))
  have R1 := Boxed.new (w.alloc (.cells #[.slice ba bl bc, .slice ra rl rc] 25)) 38 (.slice none 0 0)
  rw [World.size_alloc] at R1
  have HA := hide (all_ok ba bl bc box ra rl rc rs _ (h.below B1) (hr.below B1) hE)
  have HP1 := hide P1
  have HR1 := hide R1
  have HB := hide B1
  have HO := hide ho
  have HBL := hide h.1
  have HRL := hide hr.1
  have hbl4 : bl ≤ 4 := by have := h.1; have := ho.rank; omega
  have HLN := hide (pts_len ho)
  clear h hr B1 hE ho P1 R1
  refine callsIn_of_wp_marks Try.func19 rfl trivial ?_ hro
  simp only [Try.ntmps19, List.size_toArray, List.length_cons, List.length_nil, Nat.reduceAdd, Nat.reduceSub, Array.replicate_succ, Array.replicate_zero, List.push_toArray, List.append_toArray, List.nil_append, List.cons_append]
  gi_wp2_with (refine ⟨trivial, ?_⟩; gi_at_call 32; refine (callsIn_wide.2 HA.out).mono ?_; rintro e w1 ⟨⟨B, gb, R, rfl, hN⟩, hb⟩; have HNW := hide hN; have HB1 := hide (bl_on HB.out hb); have Q1 := hide ((hb.block _ HR1.out.lt).trans HR1.out); have z1 := hb.size; clear hb hN)
  simp only [World.size_alloc] at HNW z1
  have hBlt := HNW.out.here.lt
  refine rangeFunc_tells (F := FW) (n := 8) hro (by omega) (gf := 39) (lb := #[.pointer (some ⟨B, 0, none⟩)]) rfl trivial (enters_of Try.func39 (by kernel_rfl) rfl) (L := pts box rs) (len := bl) (Kp := Keep2 (w.heap.size + 1 + 1) w1.heap.size)
    (through1_tells 7 (by omega) B (some ⟨gb, 0, none⟩) bl bl box (some ⟨R, 0, none⟩) rl rl rs HO.out (Keep2 (w.heap.size + 1 + 1) w1.heap.size) (Same2 (w.heap.size + 1 + 1) w1.heap.size w1) (fun A hA => (HNW.out.kept rfl hA.2).good HO.out HBL.out HRL.out) (fun A A' hA hb => ⟨Nat.le_trans hA.1 hb.size, fun b h1 h2 => (hb.block b (by have := hA.1; omega)).trans (hA.2 b h1 h2)⟩) (fun A A' hk => hk.1) (fun A A' hk hA => ⟨Nat.le_trans hA.1 hk.1, fun b h1 h2 => (hk.2 b h1 h2).trans (hA.2 b h1 h2)⟩) w1 ⟨Nat.le_refl _, fun _ _ _ => rfl⟩)
    (fun h1 h2 => ⟨Nat.le_trans h1.1 h2.1, fun b k1 k2 => (h2.2 b k1 k2).trans (h1.2 b k1 k2)⟩) (fun W l o o' hl _ _ _ => ⟨by simp, fun b k1 k2 => World.putObj_heap_other (by omega)⟩) (Below.refl _ _) rfl
    (fun pre W => Gath (w.heap.size + 1) w1.heap.size pre W ∧ Same2 (w.heap.size + 1 + 1) w1.heap.size w1 W ∧ Below w.heap.size w W) (fun _ _ => False)
    (OwnFrom.and (gath_own _ _ _) (OwnFrom.and (same2_own _ _ _ (Nat.le_refl _)) (ownFrom_below (Nat.le_refl _) HB1.out.size))) (fun _ _ _ _ hs _ _ => hs) ⟨⟨_, Q1.out, OutL.nil _ _⟩, ⟨Nat.le_refl _, fun _ _ _ => rfl⟩, HB1.out⟩ ?a1 ?assign ?body ?done ?stop
  case assign =>
    intro l gx W K hK
    gi_wp2
    exact hK
  case stop =>
    rintro D c W _ h _
    exact h.elim
  case body =>
    rintro l pre x post gx W hL ⟨⟨v, hv, hout⟩, hS, hB⟩ hT
    have hc := hv.cell
    have hf := hv.frozen
    have hzl := hv.lt
    have hzx := hT.lt
    have hM := hS.1
    have hpl : pre.length < 4096 := by
      have h1 := HLN.out
      rw [hL] at h1
      simp only [List.length_append, List.length_cons] at h1
      omega
    have HV := hide hv
    have HOUT := hide hout
    have HS := hide hS
    have HBW := hide hB
    have HX : Hid (Lst W (some ⟨gx, 0, none⟩) bl bl x) := ⟨hT.ints, Nat.le_refl _, fun e => by cases e⟩
    clear hv hout hS hB hT hL
    gi_wp2_with (gi_at_builtin; refine append_listsIn rfl (.tmp 14) (.tmp 16) rfl w1.heap.size _ pre rfl (some ⟨gx, 0, none⟩) bl bl x HOUT.out HX.out (fun b o e => by cases e; rfl) rfl (by omega) (by omega) ?_; intro v4 w4 hout4 hb4 hk4; obtain ⟨A4, cc4, hv4e, _, _⟩ := hout4.ll; obtain ⟨n4, hn4⟩ : ∃ n4, n4 = (pre ++ [x]).length := ⟨_, rfl⟩; rw [← hn4] at hv4e; subst hv4e; have HO4 := hide hout4; have HB4 := hide hb4; have HK4 := hide hk4; have hv4 := (hb4.block (w.heap.size + 1) (by omega)).trans HV.out; have HV4 := hide hv4; have hc4 := Boxed.cell hv4; have hf4 := Boxed.frozen hv4; have hz4 := Boxed.lt hv4; clear hout4 hb4 hk4 hv4 hn4)
    refine ⟨(HK4.out.trans (KeepsOthers.setCell _ _ _)).from _, ⟨by have := HB4.out.size; simp; omega, fun b k1 k2 => (Below.heap_setCell _ ⟨w.heap.size + 1, 0, none⟩ _ b (by simp only; omega)).trans (HB4.out.block b k2)⟩, ⟨_, Boxed.set (W := w4) _ HV4.out, ?_⟩, ⟨by have := HB4.out.size; simp; omega, fun b k1 k2 => ((Below.heap_setCell _ ⟨w.heap.size + 1, 0, none⟩ _ b (by simp only; omega)).trans (HB4.out.block b k2)).trans (HS.out.2 b k1 k2)⟩, ?_⟩
    · exact HO4.out.setB (p := ⟨w.heap.size + 1, 0, none⟩) (by simp only; omega) HV4.out (by obtain ⟨A, c, e, _⟩ := HOUT.out.ll; exact ⟨_, _, _, e⟩) _
    · exact (HBW.out.trans (HB4.out.mono HB1.out.size)).setCell (p := ⟨w.heap.size + 1, 0, none⟩) (by simp only; omega) _
  case done =>
    rintro D W hD ⟨⟨v, hv, hout⟩, hS, hB⟩ hK
    obtain ⟨A, c, hve, hLL, _⟩ := hout.ll
    obtain ⟨n, hn⟩ : ∃ n, n = (pts box rs).length := ⟨_, rfl⟩
    rw [← hn] at hve hLL
    subst hve
    have hn4 : n ≤ 4096 := by rw [hn]; exact HLN.out
    have hN := HNW.out.kept rfl hS.2
    have zD := (Array.getElem?_eq_some_iff.1 hK).1
    have hM := hS.1
    have zl := hv.lt
    obtain ⟨W3, hW3⟩ : ∃ W3, W3 = ((W.alloc (.cells #[.int .i64 0] 3)).alloc (.cells #[.bool true] 4)).alloc (.cells #[.bool false] 4) := ⟨_, rfl⟩
    have z3 : W3.heap.size = W.heap.size + 3 := by rw [hW3]; simp
    have B3 : Below W.heap.size W W3 := by rw [hW3]; exact bl_on (bl_new _) (bl_on (bl_new _) (bl_new _))
    have k1 : Boxed W3 W.heap.size 3 (.int .i64 0) := by rw [hW3]; exact ((Boxed.new W 3 (.int .i64 0)).alloc _).alloc _
    have k2 : Boxed W3 (W.heap.size + 1) 4 (.bool true) := by rw [hW3]; have := (Boxed.new (W.alloc (.cells #[.int .i64 0] 3)) 4 (.bool true)).alloc (.cells #[.bool false] 4); rwa [World.size_alloc] at this
    have k3 : Boxed W3 (W.heap.size + 1 + 1) 4 (.bool false) := by rw [hW3]; have := Boxed.new ((W.alloc (.cells #[.int .i64 0] 3)).alloc (.cells #[.bool true] 4)) 4 (.bool false); rwa [World.size_alloc, World.size_alloc] at this
    have HC := hide (through1_calls B (some ⟨gb, 0, none⟩) bl bl box (some ⟨R, 0, none⟩) rl rl rs HO.out (W.heap.size + 1) (W.heap.size + 1 + 1) W.heap.size (w.heap.size + 1)
      (fun pre X => (Below W.heap.size W X ∧ Boxed X (W.heap.size + 1) 4 (.bool true)) ∧ Boxed X (W.heap.size + 1 + 1) 4 (.bool false) ∧ Boxed X W.heap.size 3 (.int .i64 (pre.length : Nat)))
      (fun X => Below W.heap.size W X ∧ Boxed X (W.heap.size + 1) 4 (.bool true))
      (fun pre X hX => (hN.below hX.1.1).good HO.out HBL.out HRL.out)
      (fun pre X X' hX hb => ⟨⟨bl_on hX.1.1 hb, (hb.block _ hX.1.2.lt).trans hX.1.2⟩, (hb.block _ hX.2.1.lt).trans hX.2.1, (hb.block _ hX.2.2.lt).trans hX.2.2⟩) W3
      (fun pre x post gx W1 hL hJ hT => by
        refine (plain1_any W (w.heap.size + 1) (W.heap.size + 1) (W.heap.size + 1 + 1) W.heap.size gx bl n A c (pts box rs) pre post x W1 hL hn.symm hn4 hv hLL hJ.1.1 ⟨by omega, by omega, by omega, by omega, by omega, by omega, by have := hT.1; omega, by have := hT.1; omega, by have := hT.1; omega, zl⟩ (hT.mono (by omega)) ⟨hJ.1.2, hJ.2.1, hJ.2.2, hT.2.1⟩).mono ?_
        rintro e W' ⟨⟨rfl, hV⟩, hb, hs⟩
        refine ⟨?_, hs⟩
        by_cases q : pre.length + 1 ≤ n / 2
        · refine .inl ⟨by rw [decide_eq_true q], ⟨⟨hb, hV.ok⟩, ?_, ?_⟩⟩
          · have := hV.no
            rwa [decide_eq_false (by omega)] at this
          · have := hV.k
            rw [List.length_append]
            exact this
        · exact .inr ⟨by rw [decide_eq_false q], hb, hV.ok⟩)
      ⟨⟨B3, k2⟩, k3, k1⟩)
    have HW3 := hide hW3
    have HV := hide hv
    have HLL := hide hLL
    have HBW := hide hB
    have HK := hide hK
    have HN := hide hn
    clear hv hout hS hB hK hLL hN k1 k2 k3 B3 hW3 hn
    gi_wp2_with fail
    rw [← HW3.out]
    refine ⟨trivial, (callsIn_wide.2 HC.out).mono ?_⟩
    rintro e w5 ⟨⟨rv, rfl⟩, hJ⟩
    have h5 : Below W.heap.size W w5 ∧ Boxed w5 (W.heap.size + 1) 4 (.bool true) := by
      rcases hJ with h | h
      · exact h.1
      · exact h
    have d1 := Boxed.cell ((h5.1.block _ zl).trans HV.out)
    have d2 := h5.2.cell
    have z5 := h5.2.lt
    have z6 := h5.1.size
    have H5 := hide h5.1
    have HK5 := hide ((h5.1.block D zD).trans HK.out)
    have HLL5 := hide (HLL.out.below h5.1)
    clear hJ h5
    gi_wp2_with fail
    refine wpIn_wide.2 ?_
    go_region
    all_goals gi_wp2_with fail
    all_goals
      refine ⟨by simp, .inl ⟨_, _, rfl, run_takeDeferred (w := w5.drew) HK5.out, ?_⟩⟩
      refine ⟨_, results_tmp2 rfl _ _ _, ⟨A, c, by rw [← HN.out]; rfl, ?_⟩, ?_⟩
      · rw [← HN.out]
        exact LL.grownO (B := 0) (W := w5.drew) (HLL5.out.below ((Below.refl _ _).drew)) (grownBy_putObj' _ D _) (fun r e => by cases e; exact ⟨Nat.zero_le _, _, HK5.out, rfl⟩)
      · exact ((bl_on HBW.out H5.out).drew).trans (belowK_b (w := w) (Nat.le_refl _) w5.drew D _ _ (by have := HB1.out.size; omega) HK5.out rfl rfl)
theorem all1_tells (n : Nat) (Kp : World → World → Prop) (w : World) : TellsIn FW n Try.prog 46 #[] [] 0 Kp w := by
  intro l J Jx W hW hJ hJx hY h0
  have H0 := hide h0
  clear h0 hY hJ hJx
  refine callsIn_of_wp Try.func46 rfl trivial ?_ rfl
  simp only [Try.ntmps46, List.size_toArray, List.length_cons, List.length_nil, Nat.reduceAdd, Nat.reduceSub, Array.replicate_succ, Array.replicate_zero, List.push_toArray, List.append_toArray, List.nil_append, List.cons_append]
  gi_wp2
  go_end0
  exact ⟨⟨_, rfl⟩, .inl H0.out⟩
theorem all1_calls (f : Value) (w : World) : Calls Try.prog 46 #[f] w fun e w' => (∃ v, e = .returned v) ∧ w' = w := by
  go_enter Try.func46, Try.ntmps46
  go_wp2
  refine bodyPost_end (results_none rfl _ _ _) rfl ?_
  exact ⟨⟨_, rfl⟩, rfl⟩

set_option maxRecDepth 100000 in
set_option maxHeartbeats 4000000 in
theorem plainPts_bad (ba : Option Addr) (bl bc : Nat) (box : List Int) (ra : Option Addr) (rl rc : Nat) (rs : List (List Int × Int)) (w : World) (h : Ints w ba bl box) (hr : Rws w ra rl rs) (hE : ptE box rs ≠ 0) :
    CallsIn FW 8 Try.prog 19 #[.agg #[.slice ba bl bc, .slice ra rl rc]] w fun e w' => e = .returned (.tuple #[.slice none 0 0, .bool true]) ∧ Below w.heap.size w w' := by
  have hro : FW.round = none := rfl
  have B1 : Below w.heap.size w ((w.alloc (.cells #[.slice ba bl bc, .slice ra rl rc] 25)).alloc (.cells #[.slice none 0 0] 38)) := bl_on (bl_new _) (bl_new _)
  have R1 := Boxed.new (w.alloc (.cells #[.slice ba bl bc, .slice ra rl rc] 25)) 38 (.slice none 0 0)
  rw [World.size_alloc] at R1
  have HA := hide (all_bad ba bl bc box ra rl rc rs _ (h.below B1) (hr.below B1) hE)
  have HR1 := hide R1
  have HB := hide B1
  clear h hr B1 hE R1
  refine callsIn_of_wp_marks Try.func19 rfl trivial ?_ hro
  simp only [Try.ntmps19, List.size_toArray, List.length_cons, List.length_nil, Nat.reduceAdd, Nat.reduceSub, Array.replicate_succ, Array.replicate_zero, List.push_toArray, List.append_toArray, List.nil_append, List.cons_append]
  gi_wp2_with (refine ⟨trivial, ?_⟩; gi_at_call 32; refine (callsIn_wide.2 HA.out).mono ?_; rintro e w1 ⟨rfl, hb⟩; have HB1 := hide (bl_on HB.out hb); have Q1 := hide ((hb.block _ HR1.out.lt).trans HR1.out); have z1 := hb.size; clear hb)
  simp only [World.size_alloc] at z1
  refine rangeFunc_tells (F := FW) (n := 8) hro (by omega) (gf := 46) (lb := #[]) rfl trivial (enters_of Try.func46 (by kernel_rfl) rfl) (L := []) (len := 0) (Kp := fun _ _ => True)
    (all1_tells 7 (fun _ _ => True) w1) (fun _ _ => trivial) (fun _ _ _ _ _ _ _ _ => trivial) (Below.refl _ _) rfl
    (fun _ W => Boxed W (w.heap.size + 1) 38 (.slice none 0 0) ∧ Below w.heap.size w W) (fun _ _ => False)
    (OwnFrom.and (Own.from (boxed_own _ _ _) _) (ownFrom_below (Nat.le_refl _) HB1.out.size)) (fun _ _ _ _ hs _ _ => hs) ⟨Q1.out, HB1.out⟩ ?a1 ?assign ?body ?done ?stop
  case assign =>
    intro l gx W K hK
    gi_wp2
    exact hK
  case stop =>
    rintro D c W _ h _
    exact h.elim
  case body =>
    rintro l pre x post gx W hL
    simp at hL
  case done =>
    rintro D W hD ⟨hv, hB⟩ hK
    have zD := (Array.getElem?_eq_some_iff.1 hK).1
    have zl := hv.lt
    obtain ⟨W3, hW3⟩ : ∃ W3, W3 = ((W.alloc (.cells #[.int .i64 0] 3)).alloc (.cells #[.bool true] 4)).alloc (.cells #[.bool false] 4) := ⟨_, rfl⟩
    have z3 : W3.heap.size = W.heap.size + 3 := by rw [hW3]; simp
    have B3 : Below W.heap.size W W3 := by rw [hW3]; exact bl_on (bl_new _) (bl_on (bl_new _) (bl_new _))
    have k2 : Boxed W3 (W.heap.size + 1) 4 (.bool true) := by rw [hW3]; have := (Boxed.new (W.alloc (.cells #[.int .i64 0] 3)) 4 (.bool true)).alloc (.cells #[.bool false] 4); rwa [World.size_alloc] at this
    have d1 := Boxed.cell ((B3.block _ zl).trans hv)
    have d2 := k2.cell
    have z5 := k2.lt
    have HW3 := hide hW3
    have HBW := hide (bl_on hB B3)
    have HK := hide ((B3.block D zD).trans hK)
    clear hv hB hK k2 B3 hW3
    gi_wp2_with fail
    rw [← HW3.out]
    refine ⟨trivial, (callsIn_wide.2 (all1_calls _ W3)).mono ?_⟩
    rintro e w5 ⟨⟨rv, rfl⟩, hw5⟩
    obtain rfl := hw5.symm
    gi_wp2_with fail
    refine wpIn_wide.2 ?_
    go_region
    all_goals gi_wp2_with fail
    all_goals
      refine ⟨by simp, .inl ⟨_, _, rfl, run_takeDeferred (w := W3.drew) HK.out, ?_⟩⟩
      refine ⟨_, results_tmp2 rfl _ _ _, rfl, ?_⟩
      exact (HBW.out.drew).trans (belowK_b (w := w) (Nat.le_refl _) W3.drew D _ _ (by have := HB1.out.size; omega) HK.out rfl rfl)
end Go.Proofs.Ytmefgejggpimeaa.V
