/-
  Spots of the program in a row of the call's own; what stands while they are gathered. The words of a spot in a block. A statement that does what is done at a spot. A statement of one point does what is done at a spot. Contracts: cmp.Compare, slices.Compare of times, order.byTime, adds, the comparisons of Legal and Free. Who touched a place: lists in a map, each in a row of its own.
-/
import Derived.Test.YtoidgdbgpbcebaaK19
import Derived.Test.YtoidgdbgpbcebaaK24
import Derived.OwnWalkIn
import Derived.Test.YtoidgdbgpbcebaaK15
import Derived.Test.YtoidgdbgpbcebaaK17
import Derived.Test.YtoidgdbgpbcebaaK18
import Derived.Test.YtoidgdbgpbcebaaK3
import Derived.Test.YtoidgdbgpbcebaaK12
import Derived.Deep.DeepCutAuto
import Derived.Maps.AppendAt
import Derived.Maps.OwnOps
namespace Go.Proofs.Ytoidgdbgpbcebaa.V
open Go Go.RowKit Go.Shelf
set_option linter.unusedVariables false

theorem info_T : (Try.prog.info? 59).map (fun i => (i.zero, i.size, i.bytes)) = some (some (.agg twD.cs), 15, 152) := by kernel_rfl
def twCs (q : TW) : List Value := q.cs.toList
theorem twCs_len (q : TW) : (twCs q).length = 15 := rfl
theorem flat_len : ∀ us : List TW, (us.flatMap twCs).length = us.length * 15
  | [] => rfl
  | u :: us => by rw [List.flatMap_cons, List.length_append, twCs_len, flat_len us, List.length_cons]; omega
/-- Spots in a row of the call's own. -/
def OutT (W : World) (B : Nat) (v : Value) (S : List Sp) : Prop := ∃ us : List TW, us.length = S.length ∧ W.ownsRow B 59 15 v us.length (us.flatMap twCs) ∧ ∀ j, j < S.length → Lies B (fun V => TG V (us[j]?.getD twD) (S[j]?.getD spDD)) W
theorem OutT.nil (W : World) (B : Nat) : OutT W B (.slice none 0 0) [] := ⟨[], rfl, World.ownsRow_nil _ _ _ _, fun j hj => by simp at hj⟩
theorem OutT.keep {W V : World} {B : Nat} {v : Value} {S : List Sp} (h : OutT W B v S) (hk : KeepF B W V) (hb : ∀ g, v.ownBlock = some g → V.heap[g]? = W.heap[g]?) : OutT V B v S := by
  obtain ⟨us, h1, h2, h3⟩ := h
  refine ⟨us, h1, ⟨h2.1, ?_⟩, fun j hj => (h3 j hj).keep hk⟩
  rcases h2.2 with e | ⟨g, cap, cur, e1, e2, e3, e4⟩
  · exact .inl e
  · subst e1
    exact .inr ⟨g, cap, cur, rfl, e2, (hb g rfl).trans e3, e4⟩
theorem OutT.lt {W : World} {B : Nat} {v : Value} {S : List Sp} (h : OutT W B v S) : ∀ g, v.ownBlock = some g → (B ≤ g ∧ g < W.heap.size) ∧ ∃ cur, W.heap[g]? = some (.cells cur 59 (0, 0)) := by
  obtain ⟨us, h1, h2, h3⟩ := h
  intro g e
  rcases h2.2 with ⟨rfl, _⟩ | ⟨g', cap, cur, rfl, e2, e3, e4⟩
  · simp [Value.ownBlock] at e
  · obtain rfl : g' = g := by simpa [Value.ownBlock] using e
    exact ⟨⟨e2, (Array.getElem?_eq_some_iff.1 e3).1⟩, cur, e3⟩
theorem OutT.below {W V : World} {B : Nat} {v : Value} {S : List Sp} (h : OutT W B v S) (hb : Below W.heap.size W V) : OutT V B v S := h.keep (KeepF.below hb) (fun g e => hb.block g (h.lt g e).1.2)
theorem OutT.len {W : World} {B : Nat} {v : Value} {S : List Sp} (h : OutT W B v S) : ∃ A c, v = .slice A S.length c ∧ S.length ≤ c := by
  obtain ⟨us, h1, h2, h3⟩ := h
  rcases h2.2 with ⟨rfl, e⟩ | ⟨g', cap, cur, rfl, e2, e3, e4, _⟩
  · exact ⟨none, 0, by rw [← h1, e], by omega⟩
  · exact ⟨_, cap, by rw [h1], by omega⟩
/-- append(out, spot), within a fence. -/
theorem append_tw {F : Fence} {n : Nat} {w : World} {ops : Array Oper} {rest : List Oper} {op : Oper} {a : Act} {Q : Exit → Act → World → Prop} (hgd : op.guard = none) (s x : Operand)
    (ho : op.op = .call { callee := .builtin .append, args := #[s, x], argTypes := #[48, 48] }) (B : Nat) (v : Value) (hs : a.eval s = v) (S : List Sp) (u : TW) (p : Sp) (hout : OutT w B v S) (hu : Lies B (fun V => TG V u p) w)
    (hx : a.eval x = .slice (some ⟨w.heap.size, 0, none⟩) 1 1) (hbytes : (S.length + 1) * 152 ≤ 140737488355328) (hB : B ≤ w.heap.size)
    (h : ∀ v' w', OutT w' B v' (S ++ [p]) → Below B w w' → (∀ N, KeepF N w w') → KeepsOthers w w' → (∀ b, v.ownBlock ≠ some b → b < w.heap.size → w'.heap[b]? = w.heap[b]?) → wpListIn F n Try.prog ops Q rest (a.put op.dst v') w') :
    wpListIn F n Try.prog ops Q (op :: rest) a (w.alloc (.cells u.cs 59)) := by
  obtain ⟨i0, hi, hz0, hz1, hz2⟩ := info_parts info_T
  have hlt := hout.lt
  obtain ⟨us, h1, h2, h3⟩ := hout
  have hb : Below w.heap.size w (w.alloc (.cells u.cs 59)) := bl_new _
  have h2' := h2.alloc (o := .cells u.cs 59)
  refine wpListIn_append_own _ hgd s x 48 ho B 59 i0 (.agg twD.cs) 15 152 Try.underlying48 hi hz0 hz1 hz2 rfl (by decide) v us.length (us.flatMap twCs) hs h2' ⟨w.heap.size, 0, none⟩ 1 1 (twCs u) hx rfl ?_ ?_ (by unfold maxLen; omega) (by rw [h1]; exact hbytes) (by simp; omega) (fun v' w' k1 k2 _ => ?_)
  · intro j y hj
    rw [Go.WideShapes.add_plain]
    show (w.alloc (.cells u.cs 59)).cell? ⟨w.heap.size, 0 + j, none⟩ = _
    unfold World.cell?
    rw [World.alloc_heap_new w (.cells u.cs 59)]
    rw [Nat.zero_add, ← hj]
    show u.cs[j]? = u.cs.toList[j]?
    exact Array.getElem?_toList.symm
  · intro y hy
    simp [twCs, TW.cs] at hy
    rcases hy with rfl | rfl | rfl | rfl | rfl | rfl | rfl | rfl | rfl | rfl | rfl | rfl | rfl | rfl | rfl <;> rfl
  · have hk : ∀ N, KeepF N w w' := fun N => (KeepF.below hb).trans (KeepF.spots h2' k2)
    have hbl : ∀ b, v.ownBlock ≠ some b → b < w.heap.size → w'.heap[b]? = w.heap[b]? := fun b e hl => (k2.block b (by simp; omega) (fun e' => e e'.symm)).trans (Below.heap_alloc _ _ _ hl)
    refine h v' w' ⟨us ++ [u], by simp [h1], ?_, fun j hj => ?_⟩ (((Below.refl B w).alloc hB _).grown k2 (by simp; omega) (fun j e => (hlt j e).1.1)) hk ⟨Nat.le_trans (by simp) k2.size, fun k o hk' ho' => ?_⟩ hbl
    · rw [List.length_append, List.flatMap_append]
      simpa using k1
    · by_cases e : j < S.length
      · rw [List.getElem?_append_left (by omega), List.getElem?_append_left e]
        exact (h3 j e).keep (hk B)
      · obtain rfl : j = S.length := by simp at hj; omega
        rw [List.getElem?_append_right (by omega), List.getElem?_append_right (Nat.le_refl _), h1]
        simpa using hu.keep (hk B)
    · have hl := (Array.getElem?_eq_some_iff.1 hk').1
      refine (hbl k (fun e => ?_) hl).trans hk'
      obtain ⟨_, cur, hc⟩ := hlt k e
      rw [hc] at hk'
      cases hk'
      cases ho'
/-- What stands while spots are gathered. -/
structure SInv (w : World) (za : Option Addr) (zl zc : Nat) (ta : Option Addr) (tl tc : Nat) (ma : Option Addr) (ml mc : Nat) (O : Nat) (Ds : List Nat) (S : List Sp) (W : World) : Prop where
  below : Below w.heap.size w W
  ns : NsBlk W w.heap.size za zl zc ta tl tc
  tb : W.heap[w.heap.size + 1]? = some (.cells #[.slice ma ml mc] 27 (0, 0))
  r1 : W.heap[w.heap.size + 1 + 1]? = some (.cells #[.slice none 0 0] 48 (0, 0))
  r2 : W.heap[w.heap.size + 1 + 1 + 1]? = some (.cells #[.int .i64 0] 29 (0, 0))
  out : ∃ v, W.heap[O]? = some (.cells #[v] 48 (0, 0)) ∧ OutT W (O + 1) v S
  marks : Marks (O + 1) Ds W
theorem keepF_of_cells {W W' : World} (N : Nat) (hs : W.heap.size ≤ W'.heap.size) (hc : ∀ (b : Nat) c t f, W.heap[b]? = some (Obj.cells c t f) → W'.heap[b]? = W.heap[b]?) : KeepF N W W' := ⟨fun b c t _ _ h => hc b c t _ h, hs⟩
theorem SInv.of_blocks {w W W' : World} {za : Option Addr} {zl zc : Nat} {ta : Option Addr} {tl tc : Nat} {ma : Option Addr} {ml mc O : Nat} {Ds : List Nat} {S : List Sp} (h : SInv w za zl zc ta tl tc ma ml mc O Ds S W) (hB : Below w.heap.size w W') (hs : W.heap.size ≤ W'.heap.size)
    (hc : ∀ (b : Nat) c t f, W.heap[b]? = some (Obj.cells c t f) → W'.heap[b]? = W.heap[b]?) (hd : ∀ D ∈ Ds, W'.heap[D]? = W.heap[D]?) : SInv w za zl zc ta tl tc ma ml mc O Ds S W' := by
  obtain ⟨v, h1, h2⟩ := h.out
  exact ⟨hB, (hc _ _ _ _ h.ns).trans h.ns, (hc _ _ _ _ h.tb).trans h.tb, (hc _ _ _ _ h.r1).trans h.r1, (hc _ _ _ _ h.r2).trans h.r2, ⟨v, (hc _ _ _ _ h1).trans h1, h2.keep (keepF_of_cells _ hs hc) (fun g e => by obtain ⟨_, cur, hcur⟩ := h2.lt g e; exact hc _ _ _ _ hcur)⟩, ⟨h.marks.nodup, fun D hD => ⟨(h.marks.here D hD).1, (hd D hD).trans (h.marks.here D hD).2⟩⟩⟩
theorem SInv.grow {w W W' : World} {za : Option Addr} {zl zc : Nat} {ta : Option Addr} {tl tc : Nat} {ma : Option Addr} {ml mc O : Nat} {Ds : List Nat} {S : List Sp} (h : SInv w za zl zc ta tl tc ma ml mc O Ds S W) (hB : Below W.heap.size W W') : SInv w za zl zc ta tl tc ma ml mc O Ds S W' :=
  h.of_blocks (bl_on h.below hB) hB.size (fun b c t f e => hB.block b (Array.getElem?_eq_some_iff.1 e).1) (fun D hD => hB.block D (Array.getElem?_eq_some_iff.1 (h.marks.here D hD).2).1)
/-- With the statement that is gone through. -/
def SInvS (w : World) (za : Option Addr) (zl zc : Nat) (ta : Option Addr) (tl tc : Nat) (ma : Option Addr) (ml mc : Nat) (O : Nat) (Ds : List Nat) (S : List Sp) (f : List Int → Sp) (k : Nat) (q : SW) (KB N1 : Nat) (V : World) (pre : List (List Int)) (W : World) : Prop :=
  SInv w za zl zc ta tl tc ma ml mc O Ds (S ++ pre.map f) W ∧ (W.heap[KB]? = some (.cells #[.int .i64 (k : Int)] 3 (0, 0)) ∧ q.blk W (KB + 1)) ∧ KeepF N1 V W
theorem SInvS.own {w : World} {za : Option Addr} {zl zc : Nat} {ta : Option Addr} {tl tc : Nat} {ma : Option Addr} {ml mc O : Nat} {Ds : List Nat} {S : List Sp} {f : List Int → Sp} {k : Nat} {q : SW} {KB N1 : Nat} {V : World} {B : Nat} (hw : w.heap.size ≤ B) (hD : ∀ D ∈ Ds, D < B) :
    OwnFrom B (fun pre W => SInvS w za zl zc ta tl tc ma ml mc O Ds S f k q KB N1 V pre W) := by
  rintro pre W W' row ⟨h, ⟨hk, hq⟩, hv⟩ hg hr
  have hc : ∀ (b : Nat) c t f, W.heap[b]? = some (Obj.cells c t f) → W'.heap[b]? = W.heap[b]? := fun b c t f e => hg.block b (Array.getElem?_eq_some_iff.1 e).1 (fun e' => by
    obtain ⟨_, o, ho, hcl⟩ := hr b e'.symm
    rw [e] at ho
    cases ho
    cases hcl)
  refine ⟨h.of_blocks (h.below.grown hg h.below.size (fun k e => Nat.le_trans hw (hr k e).1)) hg.size hc (fun D hD' => ?_), ⟨(hc _ _ _ _ hk).trans hk, (hc _ _ _ _ hq).trans hq⟩, hv.trans (keepF_of_cells _ hg.size hc)⟩
  refine hg.block D (Array.getElem?_eq_some_iff.1 (h.marks.here D hD').2).1 (fun e' => ?_)
  have h1 := (hr D e'.symm).1
  have h2 := hD D hD'
  omega
/-- A spot more. -/
theorem SInvS.step {w : World} {za : Option Addr} {zl zc : Nat} {ta : Option Addr} {tl tc : Nat} {ma : Option Addr} {ml mc O : Nat} {Ds : List Nat} {S : List Sp} {f : List Int → Sp} {k : Nat} {q : SW} {KB N1 : Nat} {V : World} {pre : List (List Int)} {x : List Int} {W W5 W7 : World} {v v' : Value}
    (h : SInvS w za zl zc ta tl tc ma ml mc O Ds S f k q KB N1 V pre W) (hO : w.heap.size + 1 + 1 + 1 < O) (hKB : O < KB) (hN1 : O < N1) (h5 : Below W.heap.size W W5) (hv : W.heap[O]? = some (.cells #[v] 48 (0, 0))) (hov : OutT W5 (O + 1) v (S ++ pre.map f))
    (ho : OutT W7 (O + 1) v' (S ++ pre.map f ++ [f x])) (hb7 : Below (O + 1) W5 W7) (hk7 : ∀ N, KeepF N W5 W7) (hot : KeepsOthers W5 W7) (hbl : ∀ b, v.ownBlock ≠ some b → b < W5.heap.size → W7.heap[b]? = W5.heap[b]?) :
    SInvS w za zl zc ta tl tc ma ml mc O Ds S f k q KB N1 V (pre ++ [x]) (W7.setCell ⟨O, 0, none⟩ v') ∧ KeepsOthers W (W7.setCell ⟨O, 0, none⟩ v') ∧ KeepF N1 W (W7.setCell ⟨O, 0, none⟩ v') := by
  obtain ⟨hi, ⟨hk, hq⟩, hkf⟩ := h
  have hlt := hov.lt
  have oth : ∀ b, b ≠ O → (W7.setCell ⟨O, 0, none⟩ v').heap[b]? = W7.heap[b]? := fun b hb => Below.heap_setCell _ ⟨O, 0, none⟩ _ b hb
  have fwd : ∀ b, b ≠ O → b < W.heap.size → v.ownBlock ≠ some b → (W7.setCell ⟨O, 0, none⟩ v').heap[b]? = W.heap[b]? := fun b h1 h2 h3 => (oth b h1).trans ((hbl b h3 (Nat.lt_of_lt_of_le h2 h5.size)).trans (h5.block b h2))
  have low : ∀ b, b ≤ O → v.ownBlock ≠ some b := fun b hb e => by have := (hlt b e).1.1; omega
  have typ : ∀ (b : Nat) c t, t ≠ 59 → W.heap[b]? = some (Obj.cells c t (0, 0)) → v.ownBlock ≠ some b := fun b c t ht hb e => by
    obtain ⟨⟨_, hl⟩, cur, hc⟩ := hlt b e
    have := (h5.block b (Array.getElem?_eq_some_iff.1 hb).1).trans hb
    rw [hc] at this
    cases this
    exact ht rfl
  have hkW : KeepF N1 W (W7.setCell ⟨O, 0, none⟩ v') := ((KeepF.below h5).trans (hk7 N1)).trans (KeepF.set (p := ⟨O, 0, none⟩) hN1 v')
  have hoW : KeepsOthers W (W7.setCell ⟨O, 0, none⟩ v') := by
    refine ⟨by rw [World.size_setCell]; exact Nat.le_trans h5.size hot.size, fun b o hb hcl => ?_⟩
    have h1 := hot.same b o ((h5.block b (Array.getElem?_eq_some_iff.1 hb).1).trans hb) hcl
    refine (oth b (fun e => ?_)).trans h1
    rw [e, hv] at hb
    cases hb
    cases hcl
  have hO7 : W7.heap[O]? = some (.cells #[v] 48 (0, 0)) := by
    have hOl := (Array.getElem?_eq_some_iff.1 hv).1
    exact (hbl O (low O (Nat.le_refl _)) (Nat.lt_of_lt_of_le hOl h5.size)).trans ((h5.block O hOl).trans hv)
  refine ⟨⟨⟨?_, ?_, ?_, ?_, ?_, ⟨v', ?_, ?_⟩, ⟨hi.marks.nodup, fun D hD => ?_⟩⟩, ⟨?_, ?_⟩, hkf.trans hkW⟩, hoW, hkW⟩
  · exact ((bl_on hi.below h5).trans (hb7.mono (by omega))).setCell (p := ⟨O, 0, none⟩) (by simp only; omega) _
  · exact (fwd _ (by omega) hi.ns.lt (low _ (by omega))).trans hi.ns
  · exact (fwd _ (by omega) (Array.getElem?_eq_some_iff.1 hi.tb).1 (low _ (by omega))).trans hi.tb
  · exact (fwd _ (by omega) (Array.getElem?_eq_some_iff.1 hi.r1).1 (low _ (by omega))).trans hi.r1
  · exact (fwd _ (by omega) (Array.getElem?_eq_some_iff.1 hi.r2).1 (low _ (by omega))).trans hi.r2
  · simp [World.setCell, Array.getElem?_modify, hO7]
  · rw [List.map_append, ← List.append_assoc]
    refine ho.keep (KeepF.set (p := ⟨O, 0, none⟩) (by simp only; omega) v') (fun g e => oth g (fun e' => ?_))
    have := (ho.lt g e).1.1
    omega
  · have := hi.marks.here D hD
    exact ⟨this.1, hoW.same D _ this.2 rfl⟩
  · exact (fwd _ (by omega) (Array.getElem?_eq_some_iff.1 hk).1 (typ _ _ _ (by decide) hk)).trans hk
  · exact (fwd _ (by omega) hq.lt (typ _ _ _ (by decide) hq)).trans hq
theorem PtNew.keepF {W' V : World} {N B gb R bl rl : Nat} {box : List Int} {rs : List (List Int × Int)} (h : PtNew V N B gb R bl rl box rs) (hk : KeepF N V W') : PtNew W' N B gb R bl rl box rs := by
  obtain ⟨f, r1, r2⟩ := h.rows
  have rr : ∀ {g l : Nat} {t : TypeId} {f : Nat → Value}, V.rowIs g t l f → N ≤ g → shiftyB t = false → W'.rowIs g t l f := fun {g l t f} hr hg ht => by
    obtain ⟨c, h1, _⟩ := id hr
    exact hr.of_block (hk.1 g c t hg ht h1)
  refine ⟨(hk.1 B _ _ h.far.1 (by decide) h.here).trans h.here, rr h.box h.far.2.1 (by decide), ⟨f, rr r1 h.far.2.2 (by decide), fun j hj => ?_⟩, h.far⟩
  obtain ⟨g, l, e1, e2, e3, e4, e5, e6⟩ := r2 j hj
  exact ⟨g, l, e1, e2, rr e3 e6 (by decide), e4, e5, e6⟩
end Go.Proofs.Ytoidgdbgpbcebaa.V
namespace Go.Proofs.Ytoidgdbgpbcebaa.V
open Go Go.RowKit Go.Shelf
set_option linter.unusedVariables false

def TW.blk (q : TW) (w : World) (b : Nat) : Prop := w.heap[b]? = some (.cells q.cs 59 (0, 0))
theorem TW.blk.lt {q : TW} {w : World} {b : Nat} (h : q.blk w b) : b < w.heap.size := (Array.getElem?_eq_some_iff.1 h).1
theorem TW.blk.below {q : TW} {w w' : World} {b : Nat} (h : q.blk w b) (hb : Below w.heap.size w w') : q.blk w' b := (hb.block b h.lt).trans h
theorem TW.blk.cells {q : TW} {w : World} {b : Nat} (h : q.blk w b) : w.cell? ⟨b, 0, none⟩ = some (.int .i64 q.stm) ∧ w.cell? ⟨b, 1, none⟩ = some (.slice q.xa q.xl q.xc) ∧ w.cell? ⟨b, 2, none⟩ = some (.int .i64 (q.tm 0)) ∧ w.cell? ⟨b, 3, none⟩ = some (.int .i64 (q.tm 1)) ∧ w.cell? ⟨b, 4, none⟩ = some (.int .i64 (q.tm 2)) ∧ w.cell? ⟨b, 5, none⟩ = some (.int .i64 (q.tm 3)) ∧ w.cell? ⟨b, 6, none⟩ = some (.int .i64 (q.tm 4)) ∧ w.cell? ⟨b, 7, none⟩ = some (.int .i64 (q.tm 5)) ∧ w.cell? ⟨b, 8, none⟩ = some (.int .i64 (q.tm 6)) ∧ w.cell? ⟨b, 9, none⟩ = some (.int .i64 (q.tm 7)) ∧ w.cell? ⟨b, 10, none⟩ = some (.int .i64 q.kd) ∧ w.cell? ⟨b, 11, none⟩ = some (.int .i64 q.va) ∧ w.cell? ⟨b, 12, none⟩ = some (.int .i64 q.pu.arr) ∧ w.cell? ⟨b, 13, none⟩ = some (.int .i64 q.pu.pos) ∧ w.cell? ⟨b, 14, none⟩ = some (.slice q.ga q.gl q.gc) := by
  unfold TW.blk TW.cs at h
  refine ⟨?_, ?_, ?_, ?_, ?_, ?_, ?_, ?_, ?_, ?_, ?_, ?_, ?_, ?_, ?_⟩ <;> simp [World.cell?, h]
theorem TW.blk.free {q : TW} {w : World} {b : Nat} (h : q.blk w b) (i : Nat) : w.frozen? ⟨b, i, none⟩ = false := by
  unfold TW.blk at h
  simp [World.frozen?, h]
theorem TW.new (q : TW) (w : World) : q.blk (w.alloc (.cells q.cs 59)) w.heap.size := World.alloc_heap_new w _
def putT (W : World) (b : Nat) (q : TW) : World := ((((((((((((((W.setCell ⟨b, 0, none⟩ (.int .i64 q.stm)).setCell ⟨b, 1, none⟩ (.slice q.xa q.xl q.xc)).setCell ⟨b, 2, none⟩ (.int .i64 (q.tm 0))).setCell ⟨b, 3, none⟩ (.int .i64 (q.tm 1))).setCell ⟨b, 4, none⟩ (.int .i64 (q.tm 2))).setCell ⟨b, 5, none⟩ (.int .i64 (q.tm 3))).setCell ⟨b, 6, none⟩ (.int .i64 (q.tm 4))).setCell ⟨b, 7, none⟩ (.int .i64 (q.tm 5))).setCell ⟨b, 8, none⟩ (.int .i64 (q.tm 6))).setCell ⟨b, 9, none⟩ (.int .i64 (q.tm 7))).setCell ⟨b, 10, none⟩ (.int .i64 q.kd)).setCell ⟨b, 11, none⟩ (.int .i64 q.va)).setCell ⟨b, 12, none⟩ (.int .i64 q.pu.arr)).setCell ⟨b, 13, none⟩ (.int .i64 q.pu.pos)).setCell ⟨b, 14, none⟩ (.slice q.ga q.gl q.gc)
theorem putT_blk {q u : TW} {W : World} {b : Nat} (h : q.blk W b) : u.blk (putT W b u) b := by
  unfold TW.blk TW.cs putT at *
  simp [World.setCell, Array.getElem?_modify, h]
theorem putT_size (W : World) (b : Nat) (q : TW) : (putT W b q).heap.size = W.heap.size := by simp [putT]
theorem putT_oth (W : World) (b : Nat) (q : TW) (j : Nat) (h : j ≠ b) : (putT W b q).heap[j]? = W.heap[j]? := by
  unfold putT
  simp [World.setCell, Array.getElem?_modify, h.symm]
theorem putT_keep {N : Nat} {W : World} {b : Nat} {u : TW} (h : u.blk W b) (q : TW) : KeepF N W (putT W b q) := by
  refine ⟨fun j c t _ h2 h3 => putT_oth _ _ _ _ (fun e => ?_), by rw [putT_size]; exact Nat.le_refl _⟩
  rw [e, h] at h3
  cases h3
  exact absurd h2 (by decide)
theorem putT_below {w W : World} {n b : Nat} (hb : Below n w W) (h : n ≤ b) (q : TW) : Below n w (putT W b q) := by
  unfold putT
  exact (((((((((((((((hb.setCell (p := ⟨b, 0, none⟩) h _).setCell (p := ⟨b, 1, none⟩) h _).setCell (p := ⟨b, 2, none⟩) h _).setCell (p := ⟨b, 3, none⟩) h _).setCell (p := ⟨b, 4, none⟩) h _).setCell (p := ⟨b, 5, none⟩) h _).setCell (p := ⟨b, 6, none⟩) h _).setCell (p := ⟨b, 7, none⟩) h _).setCell (p := ⟨b, 8, none⟩) h _).setCell (p := ⟨b, 9, none⟩) h _).setCell (p := ⟨b, 10, none⟩) h _).setCell (p := ⟨b, 11, none⟩) h _).setCell (p := ⟨b, 12, none⟩) h _).setCell (p := ⟨b, 13, none⟩) h _).setCell (p := ⟨b, 14, none⟩) h _)
/-- Numbers of a time, up to place j. -/
def TW.upto (q : TW) (f : Nat → Int) (j : Nat) : TW := ⟨q.stm, q.xa, q.xl, q.xc, fun i => if i < j then f i else 0, q.kd, q.va, q.pu, q.ga, q.gl, q.gc⟩
theorem upto_blk {q : TW} {f : Nat → Int} {j : Nat} {W : World} {b : Nat} (h : (q.upto f j).blk W b) (hj : j < 8) : (q.upto f (j + 1)).blk (W.setCell ⟨b, 2 + j, none⟩ (.int .i64 (f j))) b := by
  have : j = 0 ∨ j = 1 ∨ j = 2 ∨ j = 3 ∨ j = 4 ∨ j = 5 ∨ j = 6 ∨ j = 7 := by omega
  rcases this with rfl | rfl | rfl | rfl | rfl | rfl | rfl | rfl <;>
  · unfold TW.blk TW.cs TW.upto at *
    simp [World.setCell, Array.getElem?_modify, h]
theorem upto_cell {q : TW} {f : Nat → Int} {j : Nat} {W : World} {b : Nat} (h : (q.upto f j).blk W b) (hj : j < 8) : W.cell? ⟨b, 2 + j, none⟩ = some (.int .i64 0) := by
  have : j = 0 ∨ j = 1 ∨ j = 2 ∨ j = 3 ∨ j = 4 ∨ j = 5 ∨ j = 6 ∨ j = 7 := by omega
  rcases this with rfl | rfl | rfl | rfl | rfl | rfl | rfl | rfl <;>
  · unfold TW.blk TW.cs TW.upto at h
    simp [World.cell?, h]
theorem KeepF.sp {N : Nat} {W : World} {p : Addr} {u : TW} (h : u.blk W p.block) (v : Value) : KeepF N W (W.setCell p v) := ⟨fun b c t _ h2 h3 => Below.heap_setCell _ p _ b (fun e => by rw [e, h] at h3; cases h3; exact absurd h2 (by decide)), by rw [World.size_setCell]; exact Nat.le_refl _⟩
/-- A new spot, not yet told. -/
def fNewSpot (N : Nat) : Fact := ⟨fun v w => ∃ g : Nat, v = .pointer (some ⟨g, 0, none⟩) ∧ twD.blk w g ∧ N ≤ g, false⟩
theorem fNewSpot_good (N : Nat) : (fNewSpot N).Good := ⟨fun _ _ _ ⟨g, h1, h2, h3⟩ hb => ⟨g, h1, h2.below hb, h3⟩, fun h => by cases h⟩
def fPls (N l : Nat) (ps : List PW) : Fact := ⟨fun v w => ∃ R : Nat, v = .slice (some ⟨R, 0, none⟩) l l ∧ Lies N (fun V => PlsAt V (some ⟨R, 0, none⟩) l ps) w, false⟩
theorem fPls_good (N l : Nat) (ps : List PW) : (fPls N l ps).Good := ⟨fun _ _ _ ⟨R, h1, h2⟩ hb => ⟨R, h1, h2.below hb⟩, fun h => by cases h⟩
/-- The spot as it is built. -/
def fSpot (N : Nat) (u : Nat → TW) (l : Nat) (ps : List PW) : Fact := ⟨fun v w => ∃ R : Nat, v = (u R).v ∧ Lies N (fun V => PlsAt V (some ⟨R, 0, none⟩) l ps) w, false⟩
theorem fSpot_good (N : Nat) (u : Nat → TW) (l : Nat) (ps : List PW) : (fSpot N u l ps).Good := ⟨fun _ _ _ ⟨R, h1, h2⟩ hb => ⟨R, h1, h2.below hb⟩, fun h => by cases h⟩
end Go.Proofs.Ytoidgdbgpbcebaa.V
namespace Go.Proofs.Ytoidgdbgpbcebaa.V
open Go Go.RowKit
set_option linter.unusedVariables false

theorem plsAt_below {w w' : World} {a : Option Addr} {len : Nat} {ps : List PW} (h : PlsAt w a len ps) (hb : Below w.heap.size w w') : PlsAt w' a len ps := by
  obtain ⟨h1, h2, h3⟩ := h
  refine ⟨h1, h2, ?_⟩
  rcases h3 with e | ⟨b, off, e, h⟩
  · exact .inl e
  · exact .inr ⟨b, off, e, fun j hj => ⟨(hb.cell (p := ⟨b, off + j * 2, none⟩) (lt_of_cell (h j hj).1)).trans (h j hj).1, (hb.cell (p := ⟨b, off + j * 2 + 1, none⟩) (lt_of_cell (h j hj).2)).trans (h j hj).2⟩⟩
theorem TG.below {w w' : World} {q : TW} {p : Sp} (h : TG w q p) (hb : Below w.heap.size w w') : TG w' q p := ⟨h.stm, h.pt.below hb, h.tm, h.kd, h.va, h.put, plsAt_below h.gets hb, h.cap, fun b o e => by
  obtain ⟨cur, fz, h1⟩ := h.num b o e
  exact ⟨cur, fz, (hb.block b (Array.getElem?_eq_some_iff.1 h1).1).trans h1⟩⟩
def accOf (p : PW) : Acc := (p.arr, ([], p.pos))
def stmOf (s : Sp) : Stm := ⟨[], [], s.kd, s.va, accOf s.put, s.gets.map accOf⟩
def awOf (p : PW) : AW := ⟨p.arr, none, 0, 0, p.pos⟩
set_option maxRecDepth 100000 in
set_option maxHeartbeats 4000000 in
theorem eachPA (a : Option Addr) (len cap : Nat) (qs : Nat → PW) (g : Nat) (bs : Array Value) (eg : ∀ args w, (callFunc g args).run Try.prog w = .ok (.enter g args) w) (Q : Nat → AW → World → Prop) (w : World) (hlen : len * 40 ≤ 281474976710656)
    (hin : len = 0 ∨ ∃ b off, a = some ⟨b, off, none⟩ ∧ ∀ j, j < len → w.cell? ⟨b, off + j * 2, none⟩ = some (.int .i64 (qs j).arr) ∧ w.cell? ⟨b, off + j * 2 + 1, none⟩ = some (.int .i64 (qs j).pos))
    (hcall : ∀ (j : Nat) (W : World), j < len → Below w.heap.size w W → w.heap.size < W.heap.size → Calls Try.prog g (#[(qs j).v] ++ bs) W fun e w' => (∃ u : AW, e = .returned u.v ∧ Lies W.heap.size (Q j u) w') ∧ Below W.heap.size W w') :
    Calls Try.prog 54 #[.slice a len cap, .func (.func g) #[] bs] w fun e w' => (∃ us : Nat → AW, e = .returned (.slice (some ⟨w.heap.size, 0, none⟩) len len) ∧ OutA w' w.heap.size len us len ∧ ∀ j, j < len → Lies (w.heap.size + 1) (Q j (us j)) w') ∧ Below w.heap.size w w' := by
  have HIN := hide hin
  have HCALL := hide hcall
  obtain ⟨i0, hi, hz0, hz1, hz2⟩ := info_parts info_A
  have hmk : ∀ W : World, (Instr.makeSlice 69 (.int .i64 (len : Int)) (.int .i64 (len : Int))).run Try.prog W = .ok (.slice (some ⟨W.heap.size, 0, none⟩) len len) (W.alloc (.cells (madeCells #[.int .i64 0, .slice none 0 0, .int .i64 0] (len * 3)) 68)) := fun W => by
    have := run_make (P := Try.prog) W 69 68 i0 (.agg #[.int .i64 0, .slice none 0 0, .int .i64 0]) Try.underlying69 hi hz0 .i64 .i64 len len (by omega) (by omega) (by rw [hz2]; omega) (by omega)
    simpa [hz1, Value.cells] using this
  have HROW : Hid (OutA (w.alloc (.cells (madeCells #[.int .i64 0, .slice none 0 0, .int .i64 0] (len * 3)) 68)) w.heap.size len (fun _ => ⟨0, none, 0, 0, 0⟩) 0) := ⟨fun i => (#[.int .i64 0, .slice none 0 0, .int .i64 0] : Array Value)[i % 3]!, ⟨_, World.alloc_heap_new _ _, size_madeCells _ _, fun i hi => by simp [madeCells, hi]⟩, fun j hj => by omega⟩
  have HB0 : Hid (Below w.heap.size w (w.alloc (.cells (madeCells #[.int .i64 0, .slice none 0 0, .int .i64 0] (len * 3)) 68))) := bl_new _
  clear hin hcall hi hz0 hz1 hz2
  go_enter Try.func54, Try.ntmps54
  go_wp2_with fail
  clear hmk
  go_loopw [13] (fun i wr => ∃ k : Nat, k ≤ len ∧ i = .int .i64 k ∧ (∃ us, OutA wr w.heap.size len us k ∧ ∀ j, j < k → Lies (w.heap.size + 1) (Q j (us j)) wr) ∧ Below w.heap.size w wr) (fun i _ => len - (intOf i).toNat)
  case atStart => exact ⟨0, Nat.zero_le _, rfl, ⟨_, HROW.out, fun j hj => by omega⟩, HB0.out⟩
  case round =>
    obtain ⟨k, hk, rfl, ⟨us, hT, hL⟩, hB⟩ := hrel
    have HT := hide hT
    have HL := hide hL
    have HB := hide hB
    clear HROW HB0 hL
    by_cases hlt : k < len
    · obtain ⟨b, off, rfl, hat⟩ := HIN.out.resolve_left (by omega)
      obtain ⟨c0, c1⟩ := hat k hlt
      have HC0 := hide (HCALL.out k)
      obtain ⟨q, hq⟩ : ∃ q, q = qs k := ⟨_, rfl⟩
      rw [← hq] at HC0 c0 c1
      have c0' := (HB.out.cell (p := ⟨b, off + k * 2, none⟩) (lt_of_cell c0)).trans c0
      have z0 := lt_of_cell c0'
      have c1' := (HB.out.cell (p := ⟨b, off + k * 2 + 1, none⟩) (lt_of_cell c1)).trans c1
      have z1 := lt_of_cell c1'
      have hRl := hT.lt
      have B2 : Below wr.heap.size wr (wr.alloc (.cells #[.int .i64 q.arr, .int .i64 q.pos] 56)) := bl_new _
      have HC := hide (HC0.out (wr.alloc (.cells #[.int .i64 q.arr, .int .i64 q.pos] 56)) hlt (bl_on HB.out B2) (by rw [World.size_alloc]; omega))
      have HB2 := hide B2
      unfold PW.v  at HC
      clear hat hq B2 hT hB HC0 c0 c1
      go_wp2_with fail
      refine HC.out.mono ?_
      rintro e w2 ⟨⟨u, rfl, hl⟩, hb2⟩
      have T2 := HT.out.below (bl_on HB2.out hb2)
      obtain ⟨f, r1, r2⟩ := T2
      have d0 := r1.cell (i := k * 3) (by omega)
      have y0 := r1.frozen (k * 3)
      have d1 := r1.cell (i := k * 3 + 1) (by omega)
      have y1 := r1.frozen (k * 3 + 1)
      have d2 := r1.cell (i := k * 3 + 2) (by omega)
      have y2 := r1.frozen (k * 3 + 2)
      have z3 := r1.lt
      have hsz := HB.out.size
      have HT2 := hide (OutA.snoc ⟨f, r1, r2⟩ u)
      have HLn := hide (hl.mono (N := w.heap.size + 1) (by rw [World.size_alloc]; omega))
      have HLo := hide (fun j (hj : j < k) => (HL.out j hj).below (bl_on HB2.out hb2))
      have HBb := hide (bl_on HB.out (bl_on HB2.out hb2))
      clear hb2 r1 r2 hl
      try unfold AW.v 
      go_wp2_with fail
      go_roundw
      case rel =>
        refine ⟨k + 1, by omega, by go_num, ⟨_, HT2.out, fun j hj => ?_⟩, (((HBb.out.setCell (p := ⟨w.heap.size, k * 3, none⟩) (Nat.le_refl _) _).setCell (p := ⟨w.heap.size, k * 3 + 1, none⟩) (Nat.le_refl _) _).setCell (p := ⟨w.heap.size, k * 3 + 2, none⟩) (Nat.le_refl _) _)⟩
        by_cases e : k = j
        · subst e
          simp only [if_true]
          have hl := HLn.out
          exact ((((hl).set (p := ⟨w.heap.size, k * 3, none⟩) (by simp only; omega) _).set (p := ⟨w.heap.size, k * 3 + 1, none⟩) (by simp only; omega) _).set (p := ⟨w.heap.size, k * 3 + 2, none⟩) (by simp only; omega) _)
        · simp only [if_neg (fun e' : j = k => e e'.symm)]
          have hl := HLo.out j (by omega)
          exact ((((hl).set (p := ⟨w.heap.size, k * 3, none⟩) (by simp only; omega) _).set (p := ⟨w.heap.size, k * 3 + 1, none⟩) (by simp only; omega) _).set (p := ⟨w.heap.size, k * 3 + 2, none⟩) (by simp only; omega) _)
      case measure => simp [intOf]; omega
    · obtain rfl : k = len := by omega
      clear hT hB
      go_wp2_with fail
      go_ret
      exact ⟨⟨us, rfl, HT.out, HL.out⟩, HB.out⟩

set_option maxRecDepth 100000 in
set_option maxHeartbeats 2000000 in
theorem access1 (p : PW) (w : World) : Calls Try.prog 53 #[.agg #[.int .i64 p.arr, .int .i64 p.pos]] w fun e w' => e = .returned (awOf p).v ∧ Below w.heap.size w w' := by
  go_enter Try.func53, Try.ntmps53
  go_wp2_with fail
  have e1 := World.alloc_heap_new (w.alloc (.cells #[.int .i64 p.arr, .int .i64 p.pos] 56)) (.cells #[.int .i64 p.arr, .slice none 0 0, .int .i64 p.pos] 68)
  rw [World.size_alloc] at e1
  have hB : Below w.heap.size w ((w.alloc (.cells #[.int .i64 p.arr, .int .i64 p.pos] 56)).alloc (.cells #[.int .i64 p.arr, .slice none 0 0, .int .i64 p.pos] 68)) := bl_on (bl_new _) (bl_new _)
  generalize (w.alloc (.cells #[.int .i64 p.arr, .int .i64 p.pos] 56)).alloc (.cells #[.int .i64 p.arr, .slice none 0 0, .int .i64 p.pos] 68) = W at e1 hB ⊢
  have x0 : W.cell? ⟨w.heap.size + 1, 0, none⟩ = some (.int .i64 p.arr) := by simp [World.cell?, e1]
  have x1 : W.cell? ⟨w.heap.size + 1, 1, none⟩ = some (.slice none 0 0) := by simp [World.cell?, e1]
  have x2 : W.cell? ⟨w.heap.size + 1, 2, none⟩ = some (.int .i64 p.pos) := by simp [World.cell?, e1]
  exact bodyPost_ret (v := (awOf p).v) (by simp [results, Try.results53, go_sem, x0, x1, x2, AW.v, awOf]) rfl ⟨rfl, hB⟩
theorem ag_of (p : PW) (V : World) (h : B64 p.arr ∧ B64 p.pos) : AG V (awOf p) (accOf p) := ⟨rfl, rfl, ⟨rfl, by show 0 ≤ _; omega, (fun x hx => by cases hx), .inl rfl⟩, ⟨Nat.le_refl _, fun _ => rfl⟩, h⟩
/-- All numbers of a spot are numbers of 64 bits. -/
structure SpB (p : Sp) : Prop where
  kd : B64 p.kd
  va : B64 p.va
  put : B64 p.put.arr ∧ B64 p.put.pos
  gets : ∀ a ∈ p.gets, B64 a.arr ∧ B64 a.pos
theorem getsT_any (p : Sp) (q : TW) (w : World) (h : TG w q p) (hb : SpB p) (h3 : q.gl ≤ 1000) : Calls Try.prog 54 #[.slice q.ga q.gl q.gc, .func (.func 53) #[] #[]] w fun e w' => (∃ a l c, e = .returned (.slice a l c) ∧ Lies w.heap.size (fun V => Accs V a l (p.gets.map accOf)) w') ∧ Below w.heap.size w w' := by
  obtain ⟨h1, h2, hin⟩ := h.gets
  refine (eachPA q.ga q.gl q.gc (fun j => p.gets[j]?.getD ⟨0, 0⟩) 53 #[] (enters_of Try.func53 (by kernel_rfl) rfl) (fun j u V => u = awOf (p.gets[j]?.getD ⟨0, 0⟩)) w (by omega) hin (fun j W hj hb _ => ?_)).mono ?_
  · refine (access1 (p.gets[j]?.getD ⟨0, 0⟩) W).mono ?_
    rintro e w' ⟨rfl, hb'⟩
    exact ⟨⟨_, rfl, lies_pure rfl _⟩, hb'⟩
  rintro e w' ⟨⟨us, rfl, k1, k2⟩, hb'⟩
  refine ⟨⟨_, _, _, rfl, (k1.lies (Nat.le_refl _)).imp (fun V hV => accs_out hV (by rw [List.length_map]; exact h1) (by omega) (fun j hj => ?_))⟩, hb'⟩
  have e := (k2 j hj).out
  rw [e]
  have hj' : j < p.gets.length := by rw [h1]; exact hj
  have e2 : (p.gets.map accOf)[j]?.getD accD = accOf (p.gets[j]?.getD ⟨0, 0⟩) := by simp [hj']
  rw [e2]
  exact ag_of _ V (hb.gets _ (by simp [hj']))
set_option maxRecDepth 100000 in
set_option maxHeartbeats 4000000 in
theorem stmt1 (p : Sp) (q : TW) (w : World) (h : TG w q p) (hb : SpB p) (h3 : q.gl ≤ 1000) : Calls Try.prog 21 #[q.v] w fun e w' => (∃ u : SW, e = .returned u.v ∧ Lies w.heap.size (fun V => SG V u (stmOf p)) w') ∧ Below w.heap.size w w' := by
  have P0 := (q.new w).below (bl_new (.cells swD.cs 71))
  have P1 := swD.new (w.alloc (.cells q.cs 59))
  rw [World.size_alloc] at P1
  obtain ⟨W, hW⟩ : ∃ W, W = (w.alloc (.cells q.cs 59)).alloc (.cells swD.cs 71) := ⟨_, rfl⟩
  have hBW : Below w.heap.size w W := by rw [hW]; exact bl_on (bl_new _) (bl_new _)
  rw [← hW] at P0 P1
  obtain ⟨d0, d1, d2, d3, d4, d5, d6, d7, d8, d9, d10, d11, d12, d13, d14⟩ := P0.cells
  have dz := P0.lt
  have HP1 := hide P1
  have HGE := hide (fun V (hb' : Below W.heap.size W V) => getsT_any p q V (h.below (bl_on hBW hb')) hb h3)
  have HAC := hide (fun V => access1 q.pu V)
  have HTG := hide (show p.put = q.pu ∧ p.kd = q.kd ∧ p.va = q.va from ⟨h.put.symm, h.kd.symm, h.va.symm⟩)
  have HSB := hide hb
  have HW := hide hW
  have HBW := hide hBW
  have z1 := P1.lt
  have hWs : W.heap.size = w.heap.size + 2 := by rw [hW, World.size_alloc, World.size_alloc]
  have HWS := hide hWs
  clear h hb P0 P1 hW hBW d0 d1 d2 d3 d4 d5 d6 d7 d8 d9 hWs
  unfold TW.cs SW.cs swD at HW
  unfold TW.v TW.cs
  unfold AW.v awOf at HAC
  go_enter Try.func21, Try.ntmps21
  go_wp2_with fail
  rw [← HW.out]
  refine region_made 10 12 [fIs (.pointer (some ⟨w.heap.size, 10, none⟩)), fIs (.int .i64 q.kd), fIs (.pointer (some ⟨w.heap.size, 11, none⟩)), fIs (.int .i64 q.va), fIs (.pointer (some ⟨w.heap.size, 12, none⟩)), fIs (.agg #[.int .i64 q.pu.arr, .int .i64 q.pu.pos]), fIs (.agg #[.int .i64 q.pu.arr, .slice none 0 0, .int .i64 q.pu.pos]), fIs (.pointer (some ⟨w.heap.size, 14, none⟩)), fIs (.slice q.ga q.gl q.gc), fAccs W.heap.size (p.gets.map accOf)] (by kernel_rfl) (by kernel_rfl) (by kernel_rfl) (fun _ ⟨_, _⟩ ⟨_, _⟩ _ e h => by cases e; exact h) ⟨fIs_good _, fIs_good _, fIs_good _, fIs_good _, fIs_good _, fIs_good _, fIs_good _, fIs_good _, fIs_good _, fAccs_good _ _, trivial⟩ ?mk ?rest
  case mk =>
    refine ⟨fun u wz hb hd => ?_, fun u wz hb hd => ?_, fun u wz hb hd => ?_, fun u wz hb hd => ?_, fun u wz hb hd => ?_, fun u wz hb hd => ?_, fun u wz hb hd => ?_, fun u wz hb hd => ?_, fun u wz hb hd => ?_, fun u wz hb hd => ?_, trivial⟩
    all_goals simp only [Act.put, List.setIfInBounds_toArray, List.set_cons_zero, List.set_cons_succ]
    · go_simp
      exact ⟨rfl, Below.refl _ _, fun h => by cases h⟩
    · have e0 : u 0 = .pointer (some ⟨w.heap.size, 10, none⟩) := hd 0 (by omega) (by kernel_rfl)
      rw [e0]
      have d10' := (hb.cell (p := ⟨w.heap.size, 10, none⟩) (lt_of_cell d10)).trans d10
      go_simp
      exact ⟨rfl, Below.refl _ _, fun h => by cases h⟩
    · go_simp
      exact ⟨rfl, Below.refl _ _, fun h => by cases h⟩
    · have e2 : u 2 = .pointer (some ⟨w.heap.size, 11, none⟩) := hd 2 (by omega) (by kernel_rfl)
      rw [e2]
      have d11' := (hb.cell (p := ⟨w.heap.size, 11, none⟩) (lt_of_cell d11)).trans d11
      go_simp
      exact ⟨rfl, Below.refl _ _, fun h => by cases h⟩
    · go_simp
      exact ⟨rfl, Below.refl _ _, fun h => by cases h⟩
    · have e4 : u 4 = .pointer (some ⟨w.heap.size, 12, none⟩) := hd 4 (by omega) (by kernel_rfl)
      rw [e4]
      have d12' := (hb.cell (p := ⟨w.heap.size, 12, none⟩) (lt_of_cell d12)).trans d12
      have d13' := (hb.cell (p := ⟨w.heap.size, 13, none⟩) (lt_of_cell d13)).trans d13
      go_simp
      exact ⟨rfl, Below.refl _ _, fun h => by cases h⟩
    · have e5 : u 5 = .agg #[.int .i64 q.pu.arr, .int .i64 q.pu.pos] := hd 5 (by omega) (by kernel_rfl)
      rw [e5]
      go_simp
      refine (HAC.out wz).mono ?_
      rintro e w2 ⟨rfl, hb2⟩
      exact ⟨rfl, hb2, fun h => by cases h⟩
    · go_simp
      exact ⟨rfl, Below.refl _ _, fun h => by cases h⟩
    · have e7 : u 7 = .pointer (some ⟨w.heap.size, 14, none⟩) := hd 7 (by omega) (by kernel_rfl)
      rw [e7]
      have d14' := (hb.cell (p := ⟨w.heap.size, 14, none⟩) (lt_of_cell d14)).trans d14
      go_simp
      exact ⟨rfl, Below.refl _ _, fun h => by cases h⟩
    · have e8 : u 8 = .slice q.ga q.gl q.gc := hd 8 (by omega) (by kernel_rfl)
      rw [e8]
      go_simp
      refine (HGE.out wz hb).mono ?_
      rintro e w2 ⟨⟨a9, l9, c9, rfl, h9⟩, hb2⟩
      exact ⟨⟨a9, l9, c9, rfl, h9.mono hb.size⟩, hb2, fun h => by cases h⟩
  case rest =>
    intro u wz hb hf hp
    have f0 : u 0 = .pointer (some ⟨w.heap.size, 10, none⟩) := hf 0 (by omega)
    have f1 : u 1 = .int .i64 q.kd := hf 1 (by omega)
    have f2 : u 2 = .pointer (some ⟨w.heap.size, 11, none⟩) := hf 2 (by omega)
    have f3 : u 3 = .int .i64 q.va := hf 3 (by omega)
    have f4 : u 4 = .pointer (some ⟨w.heap.size, 12, none⟩) := hf 4 (by omega)
    have f5 : u 5 = .agg #[.int .i64 q.pu.arr, .int .i64 q.pu.pos] := hf 5 (by omega)
    have f6 : u 6 = .agg #[.int .i64 q.pu.arr, .slice none 0 0, .int .i64 q.pu.pos] := hf 6 (by omega)
    have f7 : u 7 = .pointer (some ⟨w.heap.size, 14, none⟩) := hf 7 (by omega)
    have f8 : u 8 = .slice q.ga q.gl q.gc := hf 8 (by omega)
    obtain ⟨ga, gl, gc, f9, k9⟩ := hf 9 (by omega)
    refine UptoW.rest 2 10 (by rfl) (by kernel_rfl) ?_
    simp only [List.take, List.drop, putOps, Act.put, List.setIfInBounds_toArray, List.set_cons_zero, List.set_cons_succ, Nat.reduceAdd, f0, f1, f2, f3, f4, f5, f6, f7, f8, f9]
    clear f0 f1 f2 f3 f4 f5 f6 f7 f8 f9 hf hp
    have HBZ := hide hb
    have HK9 := hide k9
    have P7 := HP1.out.below hb
    have HP7 := hide P7
    obtain ⟨y0, y1, y2, y3, y4, y5, y6, y7⟩ := P7.cells
    have g0 := P7.free 0
    have g1 := P7.free 1
    have g2 := P7.free 2
    have g3 := P7.free 3
    have g4 := P7.free 4
    have g5 := P7.free 5
    have g6 := P7.free 6
    have g7 := P7.free 7
    have z6 := P7.lt
    unfold swD at y0 y1 y2 y3 y4 y5 y6 y7
    clear P7 hb k9 d10 d11 d12 d13 d14
    go_wp2_with fail
    obtain ⟨u, hu⟩ : ∃ u : SW, u = ⟨none, 0, 0, none, 0, 0, q.kd, q.va, awOf q.pu, ga, gl, gc⟩ := ⟨_, rfl⟩
    obtain ⟨W5, hW5⟩ : ∃ W5, W5 = putS8 wz (w.heap.size + 1) u := ⟨_, rfl⟩
    have hW5' := hW5
    rw [hu] at hW5'
    unfold putS8 awOf at hW5'
    rw [← hW5']
    have P9 : u.blk W5 (w.heap.size + 1) := by rw [hW5]; exact putS8_blk HP7.out
    obtain ⟨x0, x1, x2, x3, x4, x5, x6, x7⟩ := P9.cells
    refine bodyPost_ret (v := u.v) (by simp [results, Try.results21, go_sem, x0, x1, x2, x3, x4, x5, x6, x7, SW.v, SW.cs]) rfl ⟨⟨u, rfl, ?_⟩, ?_⟩
    · have hL := HK9.out.keep (putS8_keep (N := W.heap.size) (b := w.heap.size + 1) (by have := HWS.out; omega) u)
      rw [← hW5] at hL
      refine (hL.mono (by have := HWS.out; omega)).imp (fun V hV => ?_)
      obtain ⟨t1, t2, t3⟩ := HTG.out
      rw [hu]
      exact ⟨⟨⟨rfl, by show 0 ≤ _; omega, (fun x hx => by cases hx), .inl rfl⟩, Nat.le_refl _, fun _ => rfl⟩, ⟨rfl, by show 0 ≤ _; omega, .inl rfl⟩, t2.symm, t3.symm, by show AG V _ (accOf p.put); rw [t1]; exact ag_of _ V (by rw [← t1]; exact HSB.out.put), hV, HSB.out.kd, HSB.out.va⟩
    · rw [hW5]
      exact putS8_below (bl_on HBW.out HBZ.out) (by omega) _
end Go.Proofs.Ytoidgdbgpbcebaa.V
namespace Go.Proofs.Ytoidgdbgpbcebaa.V
open Go Go.RowKit
set_option linter.unusedVariables false

/-- Memory of the sizes that a nest tells. -/
structure FitM (zs : List Int) (M : Mem) : Prop where
  len : M.length = zs.length
  arr : ∀ k, k < M.length → ((arrM M k).length : Int) = zs[k]?.getD 0
theorem FitM.same {zs : List Int} {M N : Mem} (h : FitM zs M) (s : SameLen N M) : FitM zs N := ⟨s.1.trans h.len, fun k hk => by rw [s.2]; exact h.arr k (by rw [← s.1]; exact hk)⟩
theorem FitM.zero {zs : List Int} {M : Mem} (h : FitM zs M) : fitsE zs M = 0 := by
  unfold fitsE
  rw [if_neg (by simpa using h.len), if_neg]
  intro hc
  rw [List.any_eq_true] at hc
  obtain ⟨k, hk, he⟩ := hc
  have := h.arr k (by simpa using hk)
  simp [this] at he
theorem lead_in {zs : List Int} {M : Mem} (h : FitM zs M) {a : Acc} {vars : Nat} (ha : AccOk zs.length a vars) (x : List Int) : (inM M (accOf (leadV zs a x)) [] ↔ inM M a x) ∧ (inM M a x → worthV (accOf (leadV zs a x)).2 [] = worthV a.2 x) := by
  have h1 := ha.arr
  have h2 := h.arr a.1.toNat (by have := h.len; omega)
  have e : worthV (accOf (leadV zs a x)).2 [] = (leadV zs a x).pos := by
    unfold accOf worthV
    simp [dotV]
  unfold inM
  rw [e]
  have e2 : (accOf (leadV zs a x)).1 = a.1 := rfl
  rw [e2, h2]
  unfold leadV
  by_cases c : worthV a.2 x < 0 ∨ zs[a.1.toNat]?.getD 0 ≤ worthV a.2 x
  · simp only [if_pos c]
    constructor
    · constructor
      · intro k; omega
      · intro k; omega
    · intro k; omega
  · rw [if_neg c]
    exact ⟨Iff.rfl, fun _ => rfl⟩
theorem lead_got {zs : List Int} {M : Mem} (h : FitM zs M) {a : Acc} {vars : Nat} (ha : AccOk zs.length a vars) (x : List Int) : gotM M (accOf (leadV zs a x)) [] = gotM M a x := by
  obtain ⟨h1, h2⟩ := lead_in h ha x
  unfold gotM
  by_cases c : inM M a x
  · rw [if_pos (h1.2 c), if_pos c, h2 c]
    rfl
  · rw [if_neg (fun k => c (h1.1 k)), if_neg c]
theorem pts_nil : pts [] [] = [[]] := by rfl
theorem ptE_nil : ptE [] [] = 0 := by rfl
theorem stm_spot {zs : List Int} {ss : List Stm} {M : Mem} (T : Tms) (h : FitM zs M) (p : Nat × List Int) (ho : StmOk zs.length (ss[p.1]?.getD stmD)) : stmM M (stmOf (spOf zs ss T p)) = spM ss M p := by
  unfold stmM spM
  show (pts [] []).foldl _ M = _
  rw [pts_nil]
  show doM _ M [] = _
  obtain ⟨i1, i2⟩ := lead_in h ho.put p.2
  have gk : ∀ k, gotK M (stmOf (spOf zs ss T p)) [] k = gotK M (ss[p.1]?.getD stmD) p.2 k := fun k => by
    unfold gotK
    show (if k < (((ss[p.1]?.getD stmD).gets.map fun a => leadV zs a p.2).map accOf).length then gotM M ((((ss[p.1]?.getD stmD).gets.map fun a => leadV zs a p.2).map accOf)[k]?.getD accD) [] else 0) = _
    rw [List.length_map, List.length_map]
    by_cases c : k < (ss[p.1]?.getD stmD).gets.length
    · rw [if_pos c, if_pos c]
      have e : ((((ss[p.1]?.getD stmD).gets.map fun a => leadV zs a p.2).map accOf)[k]?.getD accD) = accOf (leadV zs ((ss[p.1]?.getD stmD).gets[k]?.getD accD) p.2) := by
        rw [List.getElem?_map, List.getElem?_map, List.getElem?_eq_getElem c]
        rfl
      rw [e]
      exact lead_got h (ho.gets _ (by rw [List.getElem?_eq_getElem c]; exact List.getElem_mem c)) p.2
    · rw [if_neg c, if_neg c]
  have nk : newM M (stmOf (spOf zs ss T p)) [] = newM M (ss[p.1]?.getD stmD) p.2 := by
    unfold newM
    rw [gk 0, gk 1, gk 2]
    have : gotM M (stmOf (spOf zs ss T p)).put [] = gotM M (ss[p.1]?.getD stmD).put p.2 := lead_got h ho.put p.2
    rw [this]
    rfl
  unfold doM
  rw [nk]
  have e1 : (stmOf (spOf zs ss T p)).put = accOf (leadV zs (ss[p.1]?.getD stmD).put p.2) := rfl
  rw [e1]
  by_cases c : inM M (ss[p.1]?.getD stmD).put p.2
  · rw [if_pos (i1.2 c), if_pos c, i2 c]
    rfl
  · rw [if_neg (fun k => c (i1.1 k)), if_neg c]
theorem run_spots {zs : List Int} {ss : List Stm} (T : Tms) (ho : ∀ s ∈ ss, StmOk zs.length s) : ∀ (l : List (Nat × List Int)) (M : Mem), FitM zs M → (∀ p ∈ l, p.1 < ss.length) → runM (l.map (fun p => stmOf (spOf zs ss T p))) M = l.foldl (spM ss) M ∧ FitM zs (l.foldl (spM ss) M)
  | [], M, h, _ => ⟨rfl, h⟩
  | p :: l, M, h, hl => by
    have hp := hl p (by simp)
    have h1 := stm_spot T h p (ho (ss[p.1]?.getD stmD) (by simp [hp]))
    have h2 : FitM zs (spM ss M p) := h.same (doM_same _ _ _)
    obtain ⟨k1, k2⟩ := run_spots T ho l (spM ss M p) h2 (fun q hq => hl q (by simp [hq]))
    unfold runM at k1 ⊢
    rw [List.map_cons, List.foldl_cons, h1, List.foldl_cons]
    exact ⟨k1, k2⟩
theorem rowE_pos {q : Int} (h : -1048576 ≤ q ∧ q ≤ 1048576) : rowE ([], q) 0 = 0 := by
  unfold rowE ptFar
  simp
  omega
theorem lead_bd {zs : List Int} {a : Acc} {vars : Nat} (hz : ∀ z ∈ zs, 0 ≤ z ∧ z ≤ 65536) (ha : AccOk zs.length a vars) (x : List Int) : (leadV zs a x).arr = a.1 ∧ -1 ≤ (leadV zs a x).pos ∧ (leadV zs a x).pos < 65536 := by
  have h1 := ha.arr
  have h2 := hz _ (mem_getD zs a.1.toNat (by omega))
  refine ⟨rfl, ?_⟩
  unfold leadV
  by_cases c : worthV a.2 x < 0 ∨ zs[a.1.toNat]?.getD 0 ≤ worthV a.2 x
  · simp only [if_pos c]
    omega
  · simp only [if_neg c]
    omega
theorem acc_zero {zs : List Int} {a : Acc} {vars : Nat} (hz : ∀ z ∈ zs, 0 ≤ z ∧ z ≤ 65536) (ha : AccOk zs.length a vars) (x : List Int) : accE zs.length (accOf (leadV zs a x)) 0 = 0 := by
  obtain ⟨e1, e2, e3⟩ := lead_bd hz ha x
  have h1 := ha.arr
  unfold accE
  have e : (accOf (leadV zs a x)).1 = a.1 := rfl
  rw [e, if_neg (by omega)]
  exact rowE_pos (by omega)
theorem accs_zero {n : Nat} : ∀ (l : List Acc) (v : Nat), (∀ a ∈ l, accE n a v = 0) → accsE n l v = 0
  | [], v, _ => rfl
  | a :: l, v, h => by
    unfold accsE
    rw [if_neg (by simpa using h a (by simp))]
    exact accs_zero l v (fun b hb => h b (by simp [hb]))
theorem stm_zero {zs : List Int} {ss : List Stm} (T : Tms) (hz : ∀ z ∈ zs, 0 ≤ z ∧ z ≤ 65536) (p : Nat × List Int) (ho : StmOk zs.length (ss[p.1]?.getD stmD)) : stmE zs.length (stmOf (spOf zs ss T p)) = 0 := by
  have ht : takesV (stmOf (spOf zs ss T p)).kind = ((ss[p.1]?.getD stmD).gets.length : Int) := ho.takes
  have hl : (stmOf (spOf zs ss T p)).gets.length = (ss[p.1]?.getD stmD).gets.length := by
    show (((ss[p.1]?.getD stmD).gets.map fun a => leadV zs a p.2).map accOf).length = _
    rw [List.length_map, List.length_map]
  unfold stmE
  have e0 : ptE (stmOf (spOf zs ss T p)).box (stmOf (spOf zs ss T p)).rows = 0 := ptE_nil
  rw [if_neg (by simpa using e0), ht, hl, if_neg (by omega), if_neg (by simp)]
  have e1 : accE zs.length (stmOf (spOf zs ss T p)).put (stmOf (spOf zs ss T p)).box.length = 0 := acc_zero hz ho.put p.2
  rw [if_neg (by simpa using e1)]
  refine accs_zero _ _ (fun a ha => ?_)
  have ha' : a ∈ ((ss[p.1]?.getD stmD).gets.map fun a => leadV zs a p.2).map accOf := ha
  rw [List.mem_map] at ha'
  obtain ⟨q, hq, rfl⟩ := ha'
  rw [List.mem_map] at hq
  obtain ⟨b, hb, rfl⟩ := hq
  exact acc_zero hz (ho.gets b hb) p.2
theorem stms_zero {n : Nat} : ∀ l : List Stm, (∀ s ∈ l, stmE n s = 0) → stmsE n l = 0
  | [], _ => rfl
  | s :: l, h => by
    unfold stmsE
    rw [if_neg (by simpa using h s (by simp))]
    exact stms_zero l (fun b hb => h b (by simp [hb]))
theorem any_none {zs : List Int} (hz : ∀ z ∈ zs, 0 ≤ z ∧ z ≤ 65536) : zs.any badSize = false := by
  rw [List.any_eq_false]
  intro z hz'
  have := hz z hz'
  unfold badSize
  simp
  omega
theorem nest_zero {zs : List Int} {ss : List Stm} (T : Tms) (hok : NestOk zs ss) (l : List (Nat × List Int)) (hl : ∀ p ∈ l, p.1 < ss.length) (h6 : l.length ≤ 256) : nestE zs (l.map (fun p => stmOf (spOf zs ss T p))) = 0 := by
  unfold nestE
  rw [List.length_map, if_neg (by omega), any_none hok.sizes, if_neg (by simp)]
  refine stms_zero _ (fun s hs => ?_)
  rw [List.mem_map] at hs
  obtain ⟨p, hp, rfl⟩ := hs
  exact stm_zero T hok.sizes p (hok.stms _ (by have := hl p hp; simp [this]))
/-- The numbers of a spot. -/
theorem sp_b {zs : List Int} {ss : List Stm} (T : Tms) (hok : NestOk zs ss) (hzl : zs.length ≤ 9223372036854775807) (hv : ∀ s ∈ ss, B64 s.val) (p : Nat × List Int) (hp : p.1 < ss.length) : SpB (spOf zs ss T p) := by
  have hm : (ss[p.1]?.getD stmD) ∈ ss := by simp [hp]
  have ho := hok.stms _ hm
  have key : ∀ a : Acc, AccOk zs.length a (ss[p.1]?.getD stmD).box.length → B64 (leadV zs a p.2).arr ∧ B64 (leadV zs a p.2).pos := fun a ha => by
    obtain ⟨e1, e2, e3⟩ := lead_bd hok.sizes ha p.2
    have := ha.arr
    rw [e1]
    unfold B64
    omega
  refine ⟨?_, hv _ hm, key _ ho.put, fun a ha => ?_⟩
  · show B64 (ss[p.1]?.getD stmD).kind
    have ht := ho.takes
    rcases kind_cases (ss[p.1]?.getD stmD).kind with c | c | c | c | c | c | c | c | c | c | c
    all_goals first
      | (unfold B64; omega)
      | (rw [takes_none c] at ht; omega)
  · have ha' : a ∈ (ss[p.1]?.getD stmD).gets.map fun a => leadV zs a p.2 := ha
    rw [List.mem_map] at ha'
    obtain ⟨b, hb, rfl⟩ := ha'
    exact key b (ho.gets b hb)
end Go.Proofs.Ytoidgdbgpbcebaa.V
namespace Go.Proofs.Ytoidgdbgpbcebaa.V
open Go.RowKit
set_option linter.unusedVariables false

set_option maxRecDepth 100000 in
/-- Times compared. -/
def cmpT (f g : Nat → Int) : Int := if befB f g = true then -1 else if befB g f = true then 1 else 0
theorem cmpT_here {f g : Nat → Int} {k : Nat} (hk : k < 8) (h : ∀ j, j < k → f j = g j) (hn : f k ≠ g k) : cmpT f g = cmpI (f k) (g k) := by
  unfold cmpT cmpI
  rw [befB_here hk h hn, befB_here hk (fun j hj => (h j hj).symm) (fun e => hn e.symm)]
  by_cases c1 : f k < g k
  · simp [c1]
  · have c2 : g k < f k := by omega
    simp [c1, c2]
theorem cmpT_same {f g : Nat → Int} (h : ∀ j, j < 8 → f j = g j) : cmpT f g = 0 := by
  unfold cmpT
  rw [befB_same h, befB_same (fun j hj => (h j hj).symm)]
  rfl
theorem cmpI_zero {x y : Int} : cmpI x y = 0 ↔ x = y := by
  unfold cmpI
  by_cases c1 : x < y
  · rw [if_pos c1]; omega
  · rw [if_neg c1]
    by_cases c2 : y < x
    · rw [if_pos c2]; omega
    · rw [if_neg c2]; omega
set_option maxRecDepth 100000 in
set_option maxHeartbeats 1000000 in
theorem compare8 (b1 o1 b2 o2 : Nat) (f g : Nat → Int) (w : World) (h1 : ∀ k, k < 8 → w.cell? ⟨b1, o1 + k, none⟩ = some (.int .i64 (f k))) (h2 : ∀ k, k < 8 → w.cell? ⟨b2, o2 + k, none⟩ = some (.int .i64 (g k))) :
    Calls Try.prog 62 #[.slice (some ⟨b1, o1, none⟩) 8 8, .slice (some ⟨b2, o2, none⟩) 8 8] w fun e w' => e = .returned (.int .i64 (cmpT f g)) ∧ w' = w := by
  have H1 := hide h1
  have H2 := hide h2
  clear h1 h2
  go_enter Try.func62, Try.ntmps62
  go_wp2_with fail
  go_loopw [11] (fun i wr => ∃ k : Nat, k ≤ 8 ∧ i = .int .i64 k ∧ (∀ j, j < k → f j = g j) ∧ wr = w) (fun i _ => 8 - (intOf i).toNat)
  case atStart => exact ⟨0, Nat.zero_le _, rfl, fun j hj => by omega, rfl⟩
  case round =>
    obtain ⟨k, hk, rfl, hE, hw⟩ := hrel
    obtain rfl := hw.symm
    have HE := hide hE
    clear hE
    by_cases hlt : k < 8
    · have c1 := H1.out k hlt
      have c2 := H2.out k hlt
      have z1 := lt_of_cell c1
      have z2 := lt_of_cell c2
      have HH := hide (fun hn => cmpT_here (f := f) (g := g) hlt HE.out hn)
      have HS : Hid (f k = g k → ∀ j, j < k + 1 → f j = g j) := fun e j hj => by
        by_cases ej : j = k
        · subst ej; exact e
        · exact HE.out j (by omega)
      obtain ⟨a, ha⟩ : ∃ a, a = f k := ⟨_, rfl⟩
      obtain ⟨b, hb⟩ : ∃ b, b = g k := ⟨_, rfl⟩
      rw [← ha] at c1 HH HS
      rw [← hb] at c2 HH HS
      have HC := hide (cmp_any a b w)
      clear ha hb
      by_cases hab : a = b
      · have hz : cmpI a b = 0 := cmpI_zero.2 hab
        rw [hz] at HC
        have HAB := hide hab
        clear hab hz
        go_wp2_with (go_at_call 86; refine HC.out.mono ?_; rintro e w1 ⟨rfl, hw⟩; obtain rfl := hw.symm)
        go_roundw
        case rel => exact ⟨k + 1, by omega, by go_num, HS.out HAB.out, trivial⟩
        case measure => simp [intOf]; omega
      · have hz : cmpI a b ≠ 0 := fun e => hab (cmpI_zero.1 e)
        obtain ⟨C, hC⟩ : ∃ C, C = cmpI a b := ⟨_, rfl⟩
        rw [← hC] at HC hz
        have qC : (C != 0) = true := by simpa using hz
        have HAB := hide hab
        have HCC := hide hC
        clear hab hz hC
        go_wp2_with (go_at_call 86; refine HC.out.mono ?_; rintro e w1 ⟨rfl, hw⟩; obtain rfl := hw.symm)
        go_ret
        exact ⟨by rw [HH.out HAB.out, HCC.out]; rfl, rfl⟩
    · obtain rfl : k = 8 := by omega
      go_wp2_with fail
      go_ret
      exact ⟨by rw [cmpT_same HE.out]; rfl, rfl⟩
set_option maxRecDepth 100000 in
set_option maxHeartbeats 4000000 in
theorem byTime_any (p q : TW) (w : World) : Calls Try.prog 31 #[p.v, q.v] w fun e w' => e = .returned (.int .i64 (cmpT p.tm q.tm)) ∧ Below w.heap.size w w' := by
  have B0 : Below w.heap.size w ((w.alloc (.cells p.cs 59)).alloc (.cells q.cs 59)) := bl_on (bl_new _) (bl_new _)
  have P0 := (p.new w).below (bl_new (.cells q.cs 59))
  have P1 := q.new (w.alloc (.cells p.cs 59))
  rw [World.size_alloc] at P1
  obtain ⟨W, hW⟩ : ∃ W, W = (w.alloc (.cells p.cs 59)).alloc (.cells q.cs 59) := ⟨_, rfl⟩
  rw [← hW] at B0 P0 P1
  have tmc : ∀ (u : TW) (b : Nat) (V : World), u.blk V b → ∀ k, k < 8 → V.cell? ⟨b, 2 + k, none⟩ = some (.int .i64 (u.tm k)) := fun u b V h k hk => by
    have : k = 0 ∨ k = 1 ∨ k = 2 ∨ k = 3 ∨ k = 4 ∨ k = 5 ∨ k = 6 ∨ k = 7 := by omega
    obtain ⟨t0, t1, t2, t3, t4, t5, t6, t7, t8, t9, t10, t11, t12, t13, t14⟩ := h.cells
    rcases this with rfl | rfl | rfl | rfl | rfl | rfl | rfl | rfl
    · exact t2
    · exact t3
    · exact t4
    · exact t5
    · exact t6
    · exact t7
    · exact t8
    · exact t9
  have HC := hide (fun V (hb : Below W.heap.size W V) => compare8 w.heap.size 2 (w.heap.size + 1) 2 p.tm q.tm V (tmc p _ V (P0.below hb)) (tmc q _ V (P1.below hb)))
  have z0 := P0.lt
  have z1 := P1.lt
  have HB := hide B0
  have HW := hide hW
  clear B0 P0 P1 hW tmc
  unfold TW.cs at HW
  unfold TW.v TW.cs
  go_enter Try.func31, Try.ntmps31
  go_wp2_with fail
  rw [← HW.out]
  refine region_made 5 10 [fIs (.pointer (some ⟨w.heap.size, 2, none⟩)), fIs (.slice (some ⟨w.heap.size, 2, none⟩) 8 8), fIs (.pointer (some ⟨w.heap.size + 1, 2, none⟩)), fIs (.slice (some ⟨w.heap.size + 1, 2, none⟩) 8 8), fIs (.int .i64 (cmpT p.tm q.tm))] (by kernel_rfl) (by kernel_rfl) (by kernel_rfl) (fun _ ⟨_, _⟩ ⟨_, _⟩ _ e h => by cases e; exact h) ⟨fIs_good _, fIs_good _, fIs_good _, fIs_good _, fIs_good _, trivial⟩ ?mk ?rest
  case mk =>
    refine ⟨fun u wz hb hd => ?_, fun u wz hb hd => ?_, fun u wz hb hd => ?_, fun u wz hb hd => ?_, fun u wz hb hd => ?_, trivial⟩
    all_goals simp only [Act.put, List.setIfInBounds_toArray, List.set_cons_zero, List.set_cons_succ]
    · go_simp
      exact ⟨rfl, Below.refl _ _, fun h => by cases h⟩
    · have e0 : u 0 = .pointer (some ⟨w.heap.size, 2, none⟩) := hd 0 (by omega) (by kernel_rfl)
      rw [e0]
      go_simp
      exact ⟨rfl, Below.refl _ _, fun h => by cases h⟩
    · go_simp
      exact ⟨rfl, Below.refl _ _, fun h => by cases h⟩
    · have e2 : u 2 = .pointer (some ⟨w.heap.size + 1, 2, none⟩) := hd 2 (by omega) (by kernel_rfl)
      rw [e2]
      go_simp
      exact ⟨rfl, Below.refl _ _, fun h => by cases h⟩
    · have e1 : u 1 = .slice (some ⟨w.heap.size, 2, none⟩) 8 8 := hd 1 (by omega) (by kernel_rfl)
      have e3 : u 3 = .slice (some ⟨w.heap.size + 1, 2, none⟩) 8 8 := hd 3 (by omega) (by kernel_rfl)
      rw [e1, e3]
      go_simp
      refine (HC.out wz hb).mono ?_
      rintro e w2 ⟨rfl, hw2⟩
      exact ⟨rfl, by rw [hw2]; exact Below.refl _ _, fun h => by cases h⟩
  case rest =>
    intro u wz hb hf hp
    have f0 : u 0 = .pointer (some ⟨w.heap.size, 2, none⟩) := hf 0 (by omega)
    have f1 : u 1 = .slice (some ⟨w.heap.size, 2, none⟩) 8 8 := hf 1 (by omega)
    have f2 : u 2 = .pointer (some ⟨w.heap.size + 1, 2, none⟩) := hf 2 (by omega)
    have f3 : u 3 = .slice (some ⟨w.heap.size + 1, 2, none⟩) 8 8 := hf 3 (by omega)
    have f4 : u 4 = .int .i64 (cmpT p.tm q.tm) := hf 4 (by omega)
    refine UptoW.rest 1 5 (by rfl) (by kernel_rfl) ?_
    simp only [List.take, List.drop, putOps, Act.put, List.setIfInBounds_toArray, List.set_cons_zero, List.set_cons_succ, Nat.reduceAdd, f0, f1, f2, f3, f4]
    clear f0 f1 f2 f3 f4 hf hp
    have HB1 := hide (bl_on HB.out hb)
    clear hb
    go_wp2_with fail
    go_ret
    exact ⟨rfl, HB1.out⟩
def addsB (k : Int) : Bool := decide (k = 9) || decide (k = 10)
set_option maxRecDepth 100000 in
set_option maxHeartbeats 2000000 in
theorem adds_any (p : TW) (w : World) : Calls Try.prog 85 #[p.v] w fun e w' => e = .returned (.bool (addsB p.kd)) ∧ Below w.heap.size w w' := by
  have B0 : Below w.heap.size w (w.alloc (.cells p.cs 59)) := bl_new _
  have HB := hide B0
  clear B0
  unfold TW.cs at HB
  unfold TW.v TW.cs
  obtain ⟨K, hK⟩ : ∃ K, K = p.kd := ⟨_, rfl⟩
  rw [← hK] at HB ⊢
  clear hK
  by_cases c1 : K = 9
  · have e1 : addsB K = true := by simp [addsB, c1]
    rw [e1]
    clear e1
    subst c1
    go_enter Try.func85, Try.ntmps85
    go_wp2_with fail
    go_ret
    exact ⟨rfl, HB.out⟩
  · by_cases c2 : K = 10
    · have e1 : addsB K = true := by simp [addsB, c2]
      rw [e1]
      clear e1
      subst c2
      go_enter Try.func85, Try.ntmps85
      go_wp2_with fail
      go_ret
      exact ⟨rfl, HB.out⟩
    · have e1 : addsB K = false := by simp [addsB, c1, c2]
      rw [e1]
      have q1 : (K == 9) = false := by simpa using c1
      have q2 : (K == 10) = false := by simpa using c2
      clear e1
      go_enter Try.func85, Try.ntmps85
      go_wp2_with fail
      go_ret
      exact ⟨rfl, HB.out⟩
end Go.Proofs.Ytoidgdbgpbcebaa.V
namespace Go.Proofs.Ytoidgdbgpbcebaa.V
open Go Go.RowKit
set_option linter.unusedVariables false

def Ent.side (e : Ent) : Bool → Value
  | false => .slice e.pa e.pl e.pc
  | true => .slice e.ga e.gl e.gc
def iv (n : Nat) : Value := .int .i64 (n : Int)
theorem lookE_key (k : PW) : ∀ M : List Ent, (lookE k M).key = k
  | [] => rfl
  | x :: M => by
    rw [lookE_cons]
    by_cases h : k = x.key
    · rw [if_pos h, h]
    · rw [if_neg h]; exact lookE_key k M
theorem own_keep {W V : World} {B e size n : Nat} {v : Value} {xs : List Value} (h : W.ownsRow B e size v n xs) (hb : ∀ g, v.ownBlock = some g → V.heap[g]? = W.heap[g]?) : V.ownsRow B e size v n xs := by
  refine ⟨h.1, ?_⟩
  rcases h.2 with e | ⟨g, cap, cur, e1, e2, e3, e4⟩
  · exact .inl e
  · subst e1
    exact .inr ⟨g, cap, cur, rfl, e2, (hb g rfl).trans e3, e4⟩
theorem own_lt {W : World} {B e size n : Nat} {v : Value} {xs : List Value} (h : W.ownsRow B e size v n xs) : ∀ g, v.ownBlock = some g → (B ≤ g ∧ g < W.heap.size) ∧ ∃ cur, W.heap[g]? = some (.cells cur e (0, 0)) := by
  intro g e
  rcases h.2 with ⟨rfl, _⟩ | ⟨g', cap, cur, rfl, e2, e3, e4⟩
  · simp [Value.ownBlock] at e
  · obtain rfl : g' = g := by simpa [Value.ownBlock] using e
    exact ⟨⟨e2, (Array.getElem?_eq_some_iff.1 e3).1⟩, cur, e3⟩
/-- Who touched what. -/
structure Tch (W : World) (mb : Nat) (M : List Ent) (L : PW → Bool → List Nat) : Prop where
  map : MapAt W mb M
  own : ∀ k s, W.ownsRow mb 3 1 ((lookE k M).side s) (L k s).length ((L k s).map iv)
  apart : ∀ k s k' s' b, ((lookE k M).side s).ownBlock = some b → ((lookE k' M).side s').ownBlock = some b → k = k' ∧ s = s'
theorem MapAt.lt {W : World} {mb : Nat} {M : List Ent} (h : MapAt W mb M) : mb < W.heap.size := by
  obtain ⟨es, c, h1, _⟩ := h
  exact (Array.getElem?_eq_some_iff.1 h1).1
theorem MapAt.keep {W V : World} {mb : Nat} {M : List Ent} (h : MapAt W mb M) (hb : V.heap[mb]? = W.heap[mb]?) : MapAt V mb M := by
  obtain ⟨es, c, h1, h2⟩ := h
  exact ⟨es, c, hb.trans h1, h2⟩
theorem MapAt.ne {W : World} {mb : Nat} {M : List Ent} (h : MapAt W mb M) {g : Nat} {cur : Array Value} {e : TypeId} {f : Nat × Nat} (hg : W.heap[g]? = some (.cells cur e f)) : g ≠ mb := by
  obtain ⟨es, c, h1, _⟩ := h
  intro he
  rw [he, h1] at hg
  cases hg
theorem Tch.below {W V : World} {mb : Nat} {M : List Ent} {L : PW → Bool → List Nat} (h : Tch W mb M L) (hb : Below W.heap.size W V) : Tch V mb M L :=
  ⟨h.map.keep (hb.block mb h.map.lt), fun k s => own_keep (h.own k s) (fun g e => hb.block g (own_lt (h.own k s) g e).1.2), h.apart⟩
def addL (L : PW → Bool → List Nat) (k : PW) (s : Bool) (n : Nat) : PW → Bool → List Nat := fun k' s' => if k' = k ∧ s' = s then L k s ++ [n] else L k' s'
theorem addL_len (L : PW → Bool → List Nat) (k : PW) (s : Bool) (n : Nat) (k' : PW) (s' : Bool) : (addL L k s n k' s').length ≤ (L k' s').length + 1 := by
  unfold addL
  by_cases h : k' = k ∧ s' = s
  · obtain ⟨rfl, rfl⟩ := h
    simp
  · rw [if_neg h]; omega
theorem Tch.step {W V : World} {mb : Nat} {M : List Ent} {L : PW → Bool → List Nat} (h : Tch W mb M L) (k : PW) (s : Bool) (n : Nat) (e : Ent) (hek : e.key = k) (hot : e.side (!s) = (lookE k M).side (!s))
    (hnew : V.ownsRow mb 3 1 (e.side s) ((L k s).length + 1) ((L k s).map iv ++ [iv n]))
    (hat : (e.side s).ownBlock = ((lookE k M).side s).ownBlock ∨ ∃ b, (e.side s).ownBlock = some b ∧ W.heap.size ≤ b)
    (hmap : MapAt V mb (putR e M)) (hkeep : ∀ b, b < W.heap.size → b ≠ mb → ((lookE k M).side s).ownBlock ≠ some b → V.heap[b]? = W.heap[b]?) :
    Tch V mb (putR e M) (addL L k s n) := by
  have kp : ∀ k' s', ¬ (k' = k ∧ s' = s) → V.ownsRow mb 3 1 ((lookE k' M).side s') (L k' s').length ((L k' s').map iv) := fun k' s' hne => by
    refine own_keep (h.own k' s') (fun g eg => ?_)
    obtain ⟨⟨_, hl⟩, cur, hc⟩ := own_lt (h.own k' s') g eg
    exact hkeep g hl (h.map.ne hc) (fun e' => hne (h.apart k' s' k s g eg e'))
  have sd : ∀ k' s', ¬ (k' = k ∧ s' = s) → (lookE k' (putR e M)).side s' = (lookE k' M).side s' := fun k' s' hne => by
    rw [lookE_put]
    by_cases e1 : k' = e.key
    · rw [if_pos e1]
      have e2 : s' = !s := by
        by_cases e3 : s' = s
        · exact absurd ⟨e1.trans hek, e3⟩ hne
        · cases s <;> cases s' <;> simp_all
      rw [e2, hot, e1, hek]
    · rw [if_neg e1]
  have sn : (lookE k (putR e M)).side s = e.side s := by rw [lookE_put, if_pos hek.symm]
  have ap : ∀ k' s' b, ¬ (k' = k ∧ s' = s) → ((lookE k' M).side s').ownBlock = some b → (e.side s).ownBlock ≠ some b := fun k' s' b hne e1 e2 => by
    rcases hat with e3 | ⟨b', e3, e4⟩
    · rw [e3] at e2
      exact hne (h.apart k' s' k s b e1 e2)
    · rw [e3] at e2
      have hl := (own_lt (h.own k' s') b e1).1.2
      have : b' = b := Option.some.inj e2
      omega
  refine ⟨hmap, fun k' s' => ?_, fun k1 s1 k2 s2 b h1 h2 => ?_⟩
  · unfold addL
    by_cases e1 : k' = k ∧ s' = s
    · rw [if_pos e1]
      obtain ⟨rfl, rfl⟩ := e1
      rw [sn]
      simpa using hnew
    · rw [if_neg e1, sd k' s' e1]
      exact kp k' s' e1
  · by_cases e1 : k1 = k ∧ s1 = s <;> by_cases e2 : k2 = k ∧ s2 = s
    · exact ⟨e1.1.trans e2.1.symm, e1.2.trans e2.2.symm⟩
    · obtain ⟨rfl, rfl⟩ := e1
      rw [sn] at h1
      rw [sd k2 s2 e2] at h2
      exact absurd h1 (ap k2 s2 b e2 h2)
    · obtain ⟨rfl, rfl⟩ := e2
      rw [sn] at h2
      rw [sd k1 s1 e1] at h1
      exact absurd h2 (ap k1 s1 b e1 h1)
    · rw [sd k1 s1 e1] at h1
      rw [sd k2 s2 e2] at h2
      exact h.apart k1 s1 k2 s2 b h1 h2
/-- The lookup, at the operation. -/
theorem wp_look {w : World} {ops : Array Oper} {rest : List Oper} {o : Oper} {a : Act} {Q : Exit → Act → World → Prop} (hg : o.guard = none) (m x : Operand) (hop : o.op = Op.lookup 116 m x false) (mb : Nat) (M : List Ent) (k : PW) (e : Ent) (he : lookE k M = e)
    (hm : a.eval m = .map (some mb)) (hM : MapAt w mb M) (hx : a.eval x = k.v) (h : wpList Try.prog ops Q rest (a.put o.dst (.agg #[.slice e.pa e.pl e.pc, .slice e.ga e.gl e.gc])) w) : wpList Try.prog ops Q (o :: rest) a w := by
  refine wpList_plain hg fun K' hK' => ?_
  have hrun := run_look hM k
  rw [he] at hrun
  unfold Ent.vv at hrun
  unfold Oper.wp
  simp [execOp, hop, hm, hx, hrun, Result.andThen]
  exact hK' _ _ h
/-- An entry is put, at the operation. -/
theorem wp_put {w : World} {ops : Array Oper} {rest : List Oper} {o : Oper} {a : Act} {Q : Exit → Act → World → Prop} (hg : o.guard = none) (m x v : Operand) (hop : o.op = Op.mapUpdate 116 m x v) (mb : Nat) (M : List Ent) (e : Ent)
    (hm : a.eval m = .map (some mb)) (hM : MapAt w mb M) (hx : a.eval x = e.key.v) (hv : a.eval v = e.vv)
    (h : ∀ w', MapAt w' mb (putR e M) → (∀ b, b ≠ mb → w'.heap[b]? = w.heap[b]?) → w.grownBy w' (some mb) → wpList Try.prog ops Q rest (a.put o.dst undef) w') : wpList Try.prog ops Q (o :: rest) a w := by
  refine wpList_plain hg fun K' hK' => ?_
  obtain ⟨ob, hrun, hat⟩ := run_put hM e
  have h1 := h _ hat (fun b hb => by simp [hb.symm]) ⟨rfl, rfl, rfl, by simp, fun b _ hb => by
    have : mb ≠ b := fun e' => hb (by rw [e'])
    simp [this]⟩
  unfold Oper.wp
  simp [execOp, hop, hm, hx, hv, hrun, Result.andThen]
  exact hK' _ _ h1
theorem info_I : (Try.prog.info? 3).map (fun i => (i.zero, i.size, i.bytes)) = some (some (.int .i64 0), 1, 8) := by kernel_rfl
/-- append(list, number), at the operation: the number lies in the newest block. -/
theorem append_at {w : World} {ops : Array Oper} {rest : List Oper} {op : Oper} {a : Act} {Q : Exit → Act → World → Prop} (hgd : op.guard = none) (s x : Operand)
    (ho : op.op = .call { callee := .builtin .append, args := #[s, x], argTypes := #[22, 22] }) (B : Nat) (v : Value) (hs : a.eval s = v) (l : List Nat) (n : Nat) (hown : w.ownsRow B 3 1 v l.length (l.map iv))
    (X : Nat) (hx : a.eval x = .slice (some ⟨X, 0, none⟩) 1 1) (hX : X = w.heap.size) (hl : l.length ≤ 1000000000000) (hB : B ≤ w.heap.size)
    (h : ∀ g c w', w'.ownsRow B 3 1 (.slice (some ⟨g, 0, none⟩) (l.length + 1) c) (l.length + 1) (l.map iv ++ [iv n]) → w.grownBy w' v.ownBlock → (v.ownBlock = some g ∨ w.heap.size ≤ g) → wpList Try.prog ops Q rest (a.put op.dst (.slice (some ⟨g, 0, none⟩) (l.length + 1) c)) w') :
    wpList Try.prog ops Q (op :: rest) a (w.alloc (.cells #[iv n] 3)) := by
  subst hX
  obtain ⟨i0, hi, hz0, hz1, hz2⟩ := info_parts info_I
  refine wpList_append_own_at _ hgd s x 22 ho B 3 i0 (.int .i64 0) 1 8 Try.underlying22 hi hz0 hz1 hz2 rfl (by decide) v l.length (l.map iv) hs (hown.alloc _) ⟨w.heap.size, 0, none⟩ 1 1 [iv n] hx rfl (cell_one_new _ _ _) (by simp [iv, Value.oneCell']) (by unfold maxLen; omega) (by omega) (by simp; omega) (fun v' w' k1 k2 _ k4 => ?_)
  rcases k1.2 with ⟨_, e⟩ | ⟨g, cap, cur, rfl, e2, e3, e4⟩
  · omega
  · refine h g cap w' k1 ⟨k2.os, k2.tape, k2.output, Nat.le_trans (by simp) k2.size, fun b hb hn => (k2.block b (by simp; omega) hn).trans (Below.heap_alloc _ _ _ hb)⟩ ?_
    rcases k4 with e | e
    · exact .inl e.symm
    · refine .inr ?_
      have : g = (w.alloc (.cells #[iv n] 3)).heap.size := Option.some.inj e
      rw [this]
      simp
/-- The map after an append. -/
theorem Tch.app {w w2 w' : World} {mb : Nat} {M : List Ent} {L : PW → Bool → List Nat} (hT : Tch w mb M L) (k : PW) (s : Bool) (hb2 : Below w.heap.size w w2) (hg : w2.grownBy w' ((lookE k M).side s).ownBlock) {Y : Nat} (hY : w.heap.size ≤ Y) (i : Nat) (v : Value) : MapAt (w'.setCell ⟨Y, i, none⟩ v) mb M := by
  have hl := hT.map.lt
  refine hT.map.keep ((Below.heap_setCell _ ⟨Y, i, none⟩ _ mb (by simp only; omega)).trans ((hg.block mb (Nat.lt_of_lt_of_le hl hb2.size) (fun e => ?_)).trans (hb2.block mb hl)))
  obtain ⟨_, cur, hc⟩ := own_lt (hT.own k s) mb e.symm
  exact hT.map.ne hc rfl
theorem Tch.blk {w w2 w' : World} {mb : Nat} {M : List Ent} {L : PW → Bool → List Nat} (hT : Tch w mb M L) (k : PW) (s : Bool) (hg : w2.grownBy w' ((lookE k M).side s).ownBlock) {Y : Nat} (hY : w.heap.size ≤ Y) (hY2 : Y < w2.heap.size) : w'.heap[Y]? = w2.heap[Y]? := by
  refine hg.block Y hY2 (fun e => ?_)
  have := (own_lt (hT.own k s) Y e.symm).1.2
  omega
theorem Tch.mark {w w2 w' w4 : World} {mb : Nat} {M : List Ent} {L : PW → Bool → List Nat} (hT : Tch w mb M L) (k : PW) (s : Bool) (n g c : Nat) (e : Ent) (hek : e.key = k) (hes : e.side s = .slice (some ⟨g, 0, none⟩) ((L k s).length + 1) c) (hot : e.side (!s) = (lookE k M).side (!s)) (hb2 : Below w.heap.size w w2)
    (hown : w'.ownsRow mb 3 1 (.slice (some ⟨g, 0, none⟩) ((L k s).length + 1) c) ((L k s).length + 1) ((L k s).map iv ++ [iv n])) (hg : w2.grownBy w' ((lookE k M).side s).ownBlock) (hat : ((lookE k M).side s).ownBlock = some g ∨ w2.heap.size ≤ g) {Y : Nat} (hY : w.heap.size ≤ Y) (hY2 : Y < w2.heap.size) (v : Value) (i : Nat)
    (hm4 : MapAt w4 mb (putR e M)) (h4 : ∀ b, b ≠ mb → w4.heap[b]? = (w'.setCell ⟨Y, i, none⟩ v).heap[b]?) (hg4 : (w'.setCell ⟨Y, i, none⟩ v).grownBy w4 (some mb)) : Tch w4 mb (putR e M) (addL L k s n) ∧ Below mb w w4 := by
  have hl := hT.map.lt
  have hap := hT.app k s hb2 hg hY i v
  have hsz := hb2.size
  have hgl := own_lt hown g rfl
  have hgm : g ≠ mb := by
    obtain ⟨_, cur, hc⟩ := hgl
    refine MapAt.ne (W := w') (M := M) (hap.keep (Below.heap_setCell _ ⟨Y, i, none⟩ _ mb (by simp only; omega)).symm) hc
  have hgY : g ≠ Y := by
    rcases hat with e1 | e1
    · have := (own_lt (hT.own k s) g e1).1.2
      omega
    · omega
  refine ⟨hT.step k s n e hek hot ?_ ?_ hm4 (fun b hb h1 h2 => ?_), ?_⟩
  · rw [hes]
    refine own_keep hown (fun g' eg => ?_)
    obtain rfl : g = g' := Option.some.inj eg
    exact (h4 g hgm).trans (Below.heap_setCell _ ⟨Y, i, none⟩ _ g hgY)
  · rw [hes]
    rcases hat with e1 | e1
    · exact .inl e1.symm
    · exact .inr ⟨g, rfl, by omega⟩
  · exact (h4 b h1).trans ((Below.heap_setCell _ ⟨Y, i, none⟩ _ b (by simp only; omega)).trans ((hg.block b (by omega) (fun e => h2 e.symm)).trans (hb2.block b hb)))
  · have hb3 : Below mb w w2 := hb2.mono (by omega)
    have hb4 : Below mb w w' := hb3.grown hg (by omega) (fun j ej => (own_lt (hT.own k s) j ej).1.1)
    have hb5 : Below mb w (w'.setCell ⟨Y, i, none⟩ v) := hb4.setCell (p := ⟨Y, i, none⟩) (by simp only; omega) v
    refine hb5.grown hg4 ?_ (fun j ej => ?_)
    · rw [World.size_setCell]
      have := hg.size
      omega
    · have : mb = j := Option.some.inj ej
      omega
end Go.Proofs.Ytoidgdbgpbcebaa.V
