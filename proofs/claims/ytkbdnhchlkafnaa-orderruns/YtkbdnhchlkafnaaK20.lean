/-
  Spots of the program in a row of the call's own; what stands while they are gathered. The words of a spot in a block. A statement that does what is done at a spot. A statement of one point does what is done at a spot. Contracts: cmp.Compare, slices.Compare of times, order.byTime, adds, the comparisons of Legal and Free. Who touched a place: lists in a map, each in a row of its own. The contract of order.mark. The contract of order.ahead. Which spots are in each other's way: what the map tells is what the document says. What the map tells of a right nest is what the document says. Contract: order.spots. Contract: order.spots, where times are right. Towards order.look: the closures, the spots in a list, the search for the first one. order.look: where something is wrong. order.look: where all is right.
-/
import Derived.Test.YtkbdnhchlkafnaaK14
import Derived.Test.YtkbdnhchlkafnaaK19
import Derived.Test.YtkbdnhchlkafnaaK13
import Derived.OwnWalkIn
import Derived.Test.YtkbdnhchlkafnaaK12
import Derived.Test.YtkbdnhchlkafnaaK8
import Derived.Deep.DeepCutAuto
import Derived.Maps.AppendAt
import Derived.Maps.OwnOps
import Derived.Test.YtkbdnhchlkafnaaK16
namespace Go.Proofs.Ytkbdnhchlkafnaa.V
open Go Go.RowKit Go.Shelf
set_option linter.unusedVariables false

theorem info_T : (Try.prog.info? 63).map (fun i => (i.zero, i.size, i.bytes)) = some (some (.agg twD.cs), 15, 152) := by kernel_rfl
def twCs (q : TW) : List Value := q.cs.toList
theorem twCs_len (q : TW) : (twCs q).length = 15 := rfl
theorem flat_len : ∀ us : List TW, (us.flatMap twCs).length = us.length * 15
  | [] => rfl
  | u :: us => by rw [List.flatMap_cons, List.length_append, twCs_len, flat_len us, List.length_cons]; omega
/-- Spots in a row of the call's own. -/
def OutT (W : World) (B : Nat) (v : Value) (S : List Sp) : Prop := ∃ us : List TW, us.length = S.length ∧ W.ownsRow B 63 15 v us.length (us.flatMap twCs) ∧ ∀ j, j < S.length → Lies B (fun V => TG V (us[j]?.getD twD) (S[j]?.getD spDD)) W
theorem OutT.nil (W : World) (B : Nat) : OutT W B (.slice none 0 0) [] := ⟨[], rfl, World.ownsRow_nil _ _ _ _, fun j hj => by simp at hj⟩
theorem OutT.keep {W V : World} {B : Nat} {v : Value} {S : List Sp} (h : OutT W B v S) (hk : KeepF B W V) (hb : ∀ g, v.ownBlock = some g → V.heap[g]? = W.heap[g]?) : OutT V B v S := by
  obtain ⟨us, h1, h2, h3⟩ := h
  refine ⟨us, h1, ⟨h2.1, ?_⟩, fun j hj => (h3 j hj).keep hk⟩
  rcases h2.2 with e | ⟨g, cap, cur, e1, e2, e3, e4⟩
  · exact .inl e
  · subst e1
    exact .inr ⟨g, cap, cur, rfl, e2, (hb g rfl).trans e3, e4⟩
theorem OutT.lt {W : World} {B : Nat} {v : Value} {S : List Sp} (h : OutT W B v S) : ∀ g, v.ownBlock = some g → (B ≤ g ∧ g < W.heap.size) ∧ ∃ cur, W.heap[g]? = some (.cells cur 63 (0, 0)) := by
  obtain ⟨us, h1, h2, h3⟩ := h
  intro g e
  rcases h2.2 with ⟨rfl, _⟩ | ⟨g', cap, cur, rfl, e2, e3, e4⟩
  · simp [Value.ownBlock] at e
  · obtain rfl : g' = g := by simpa [Value.ownBlock] using e
    exact ⟨⟨e2, (Array.getElem?_eq_some_iff.1 e3).1⟩, cur, e3⟩
theorem OutT.below {W V : World} {B : Nat} {v : Value} {S : List Sp} (h : OutT W B v S) (hb : Below W.heap.size W V) : OutT V B v S := h.keep (KeepF.below hb) (fun g e => hb.block g (h.lt g e).1.2)
theorem OutT.len {W : World} {B : Nat} {v : Value} {S : List Sp} (h : OutT W B v S) : ∃ A c, v = .slice A S.length c ∧ S.length ≤ c := by
  obtain ⟨us, h1, h2, h3⟩ := h
  rcases h2.2 with ⟨rfl, e⟩ | ⟨g', cap, cur, rfl, e2, e3, e4, _⟩
  · exact ⟨none, 0, by rw [← h1, e], by omega⟩
  · exact ⟨_, cap, by rw [h1], by omega⟩
/-- append(out, spot), within a fence. -/
theorem append_tw {F : Fence} {n : Nat} {w : World} {ops : Array Oper} {rest : List Oper} {op : Oper} {a : Act} {Q : Exit → Act → World → Prop} (hgd : op.guard = none) (s x : Operand)
    (ho : op.op = .call { callee := .builtin .append, args := #[s, x], argTypes := #[76, 76] }) (B : Nat) (v : Value) (hs : a.eval s = v) (S : List Sp) (u : TW) (p : Sp) (hout : OutT w B v S) (hu : Lies B (fun V => TG V u p) w)
    (hx : a.eval x = .slice (some ⟨w.heap.size, 0, none⟩) 1 1) (hbytes : (S.length + 1) * 152 ≤ 140737488355328) (hB : B ≤ w.heap.size)
    (h : ∀ v' w', OutT w' B v' (S ++ [p]) → Below B w w' → (∀ N, KeepF N w w') → KeepsOthers w w' → (∀ b, v.ownBlock ≠ some b → b < w.heap.size → w'.heap[b]? = w.heap[b]?) → wpListIn F n Try.prog ops Q rest (a.put op.dst v') w') :
    wpListIn F n Try.prog ops Q (op :: rest) a (w.alloc (.cells u.cs 63)) := by
  obtain ⟨i0, hi, hz0, hz1, hz2⟩ := info_parts info_T
  have hlt := hout.lt
  obtain ⟨us, h1, h2, h3⟩ := hout
  have hb : Below w.heap.size w (w.alloc (.cells u.cs 63)) := bl_new _
  have h2' := h2.alloc (o := .cells u.cs 63)
  refine wpListIn_append_own _ hgd s x 76 ho B 63 i0 (.agg twD.cs) 15 152 Try.underlying76 hi hz0 hz1 hz2 rfl (by decide) v us.length (us.flatMap twCs) hs h2' ⟨w.heap.size, 0, none⟩ 1 1 (twCs u) hx rfl ?_ ?_ (by unfold maxLen; omega) (by rw [h1]; exact hbytes) (by simp; omega) (fun v' w' k1 k2 _ => ?_)
  · intro j y hj
    rw [Go.WideShapes.add_plain]
    show (w.alloc (.cells u.cs 63)).cell? ⟨w.heap.size, 0 + j, none⟩ = _
    unfold World.cell?
    rw [World.alloc_heap_new w (.cells u.cs 63)]
    rw [Nat.zero_add, ← hj]
    show u.cs[j]? = u.cs.toList[j]?
    exact Array.getElem?_toList.symm
  · intro y hy
    simp [twCs, TW.cs] at hy
    rcases hy with rfl | rfl | rfl | rfl | rfl | rfl | rfl | rfl | rfl | rfl | rfl | rfl | rfl | rfl | rfl <;> rfl
  · have hk : ∀ N, KeepF N w w' := fun N => (KeepF.below hb).trans (KeepF.spots h2' k2)
    have hbl : ∀ b, v.ownBlock ≠ some b → b < w.heap.size → w'.heap[b]? = w.heap[b]? := fun b e hl => (k2.block b (by simp; omega) (fun e' => e e'.symm)).trans (Below.heap_alloc _ _ _ hl)
    refine h v' w' ⟨us ++ [u], by simp [h1], ?_, fun j hj => ?_⟩ (((Below.refl B w).alloc hB _).grown k2 (by simp; omega) (fun j e => (hlt j e).1.1)) hk ⟨Nat.le_trans (by simp) k2.size, fun k o hk' ho' => ?_⟩ hbl
    · rw [List.length_append, List.flatMap_append]
      simpa using k1
    · by_cases e : j < S.length
      · rw [List.getElem?_append_left (by omega), List.getElem?_append_left e]
        exact (h3 j e).keep (hk B)
      · obtain rfl : j = S.length := by simp at hj; omega
        rw [List.getElem?_append_right (by omega), List.getElem?_append_right (Nat.le_refl _), h1]
        simpa using hu.keep (hk B)
    · have hl := (Array.getElem?_eq_some_iff.1 hk').1
      refine (hbl k (fun e => ?_) hl).trans hk'
      obtain ⟨_, cur, hc⟩ := hlt k e
      rw [hc] at hk'
      cases hk'
      cases ho'
/-- What stands while spots are gathered. -/
structure SInv (w : World) (za : Option Addr) (zl zc : Nat) (ta : Option Addr) (tl tc : Nat) (ma : Option Addr) (ml mc : Nat) (O : Nat) (Ds : List Nat) (S : List Sp) (W : World) : Prop where
  below : Below w.heap.size w W
  ns : NsBlk W w.heap.size za zl zc ta tl tc
  tb : W.heap[w.heap.size + 1]? = some (.cells #[.slice ma ml mc] 27 (0, 0))
  r1 : W.heap[w.heap.size + 1 + 1]? = some (.cells #[.slice none 0 0] 76 (0, 0))
  r2 : W.heap[w.heap.size + 1 + 1 + 1]? = some (.cells #[.int .i64 0] 32 (0, 0))
  out : ∃ v, W.heap[O]? = some (.cells #[v] 76 (0, 0)) ∧ OutT W (O + 1) v S
  marks : Marks (O + 1) Ds W
theorem keepF_of_cells {W W' : World} (N : Nat) (hs : W.heap.size ≤ W'.heap.size) (hc : ∀ (b : Nat) c t f, W.heap[b]? = some (Obj.cells c t f) → W'.heap[b]? = W.heap[b]?) : KeepF N W W' := ⟨fun b c t _ _ h => hc b c t _ h, hs⟩
theorem SInv.of_blocks {w W W' : World} {za : Option Addr} {zl zc : Nat} {ta : Option Addr} {tl tc : Nat} {ma : Option Addr} {ml mc O : Nat} {Ds : List Nat} {S : List Sp} (h : SInv w za zl zc ta tl tc ma ml mc O Ds S W) (hB : Below w.heap.size w W') (hs : W.heap.size ≤ W'.heap.size)
    (hc : ∀ (b : Nat) c t f, W.heap[b]? = some (Obj.cells c t f) → W'.heap[b]? = W.heap[b]?) (hd : ∀ D ∈ Ds, W'.heap[D]? = W.heap[D]?) : SInv w za zl zc ta tl tc ma ml mc O Ds S W' := by
  obtain ⟨v, h1, h2⟩ := h.out
  exact ⟨hB, (hc _ _ _ _ h.ns).trans h.ns, (hc _ _ _ _ h.tb).trans h.tb, (hc _ _ _ _ h.r1).trans h.r1, (hc _ _ _ _ h.r2).trans h.r2, ⟨v, (hc _ _ _ _ h1).trans h1, h2.keep (keepF_of_cells _ hs hc) (fun g e => by obtain ⟨_, cur, hcur⟩ := h2.lt g e; exact hc _ _ _ _ hcur)⟩, ⟨h.marks.nodup, fun D hD => ⟨(h.marks.here D hD).1, (hd D hD).trans (h.marks.here D hD).2⟩⟩⟩
theorem SInv.grow {w W W' : World} {za : Option Addr} {zl zc : Nat} {ta : Option Addr} {tl tc : Nat} {ma : Option Addr} {ml mc O : Nat} {Ds : List Nat} {S : List Sp} (h : SInv w za zl zc ta tl tc ma ml mc O Ds S W) (hB : Below W.heap.size W W') : SInv w za zl zc ta tl tc ma ml mc O Ds S W' :=
  h.of_blocks (bl_on h.below hB) hB.size (fun b c t f e => hB.block b (Array.getElem?_eq_some_iff.1 e).1) (fun D hD => hB.block D (Array.getElem?_eq_some_iff.1 (h.marks.here D hD).2).1)
/-- With the statement that is gone through. -/
def SInvS (w : World) (za : Option Addr) (zl zc : Nat) (ta : Option Addr) (tl tc : Nat) (ma : Option Addr) (ml mc : Nat) (O : Nat) (Ds : List Nat) (S : List Sp) (f : List Int → Sp) (k : Nat) (q : SW) (KB N1 : Nat) (V : World) (pre : List (List Int)) (W : World) : Prop :=
  SInv w za zl zc ta tl tc ma ml mc O Ds (S ++ pre.map f) W ∧ (W.heap[KB]? = some (.cells #[.int .i64 (k : Int)] 3 (0, 0)) ∧ q.blk W (KB + 1)) ∧ KeepF N1 V W
theorem SInvS.own {w : World} {za : Option Addr} {zl zc : Nat} {ta : Option Addr} {tl tc : Nat} {ma : Option Addr} {ml mc O : Nat} {Ds : List Nat} {S : List Sp} {f : List Int → Sp} {k : Nat} {q : SW} {KB N1 : Nat} {V : World} {B : Nat} (hw : w.heap.size ≤ B) (hD : ∀ D ∈ Ds, D < B) :
    OwnFrom B (fun pre W => SInvS w za zl zc ta tl tc ma ml mc O Ds S f k q KB N1 V pre W) := by
  rintro pre W W' row ⟨h, ⟨hk, hq⟩, hv⟩ hg hr
  have hc : ∀ (b : Nat) c t f, W.heap[b]? = some (Obj.cells c t f) → W'.heap[b]? = W.heap[b]? := fun b c t f e => hg.block b (Array.getElem?_eq_some_iff.1 e).1 (fun e' => by
    obtain ⟨_, o, ho, hcl⟩ := hr b e'.symm
    rw [e] at ho
    cases ho
    cases hcl)
  refine ⟨h.of_blocks (h.below.grown hg h.below.size (fun k e => Nat.le_trans hw (hr k e).1)) hg.size hc (fun D hD' => ?_), ⟨(hc _ _ _ _ hk).trans hk, (hc _ _ _ _ hq).trans hq⟩, hv.trans (keepF_of_cells _ hg.size hc)⟩
  refine hg.block D (Array.getElem?_eq_some_iff.1 (h.marks.here D hD').2).1 (fun e' => ?_)
  have h1 := (hr D e'.symm).1
  have h2 := hD D hD'
  omega
/-- A spot more. -/
theorem SInvS.step {w : World} {za : Option Addr} {zl zc : Nat} {ta : Option Addr} {tl tc : Nat} {ma : Option Addr} {ml mc O : Nat} {Ds : List Nat} {S : List Sp} {f : List Int → Sp} {k : Nat} {q : SW} {KB N1 : Nat} {V : World} {pre : List (List Int)} {x : List Int} {W W5 W7 : World} {v v' : Value}
    (h : SInvS w za zl zc ta tl tc ma ml mc O Ds S f k q KB N1 V pre W) (hO : w.heap.size + 1 + 1 + 1 < O) (hKB : O < KB) (hN1 : O < N1) (h5 : Below W.heap.size W W5) (hv : W.heap[O]? = some (.cells #[v] 76 (0, 0))) (hov : OutT W5 (O + 1) v (S ++ pre.map f))
    (ho : OutT W7 (O + 1) v' (S ++ pre.map f ++ [f x])) (hb7 : Below (O + 1) W5 W7) (hk7 : ∀ N, KeepF N W5 W7) (hot : KeepsOthers W5 W7) (hbl : ∀ b, v.ownBlock ≠ some b → b < W5.heap.size → W7.heap[b]? = W5.heap[b]?) :
    SInvS w za zl zc ta tl tc ma ml mc O Ds S f k q KB N1 V (pre ++ [x]) (W7.setCell ⟨O, 0, none⟩ v') ∧ KeepsOthers W (W7.setCell ⟨O, 0, none⟩ v') ∧ KeepF N1 W (W7.setCell ⟨O, 0, none⟩ v') := by
  obtain ⟨hi, ⟨hk, hq⟩, hkf⟩ := h
  have hlt := hov.lt
  have oth : ∀ b, b ≠ O → (W7.setCell ⟨O, 0, none⟩ v').heap[b]? = W7.heap[b]? := fun b hb => Below.heap_setCell _ ⟨O, 0, none⟩ _ b hb
  have fwd : ∀ b, b ≠ O → b < W.heap.size → v.ownBlock ≠ some b → (W7.setCell ⟨O, 0, none⟩ v').heap[b]? = W.heap[b]? := fun b h1 h2 h3 => (oth b h1).trans ((hbl b h3 (Nat.lt_of_lt_of_le h2 h5.size)).trans (h5.block b h2))
  have low : ∀ b, b ≤ O → v.ownBlock ≠ some b := fun b hb e => by have := (hlt b e).1.1; omega
  have typ : ∀ (b : Nat) c t, t ≠ 63 → W.heap[b]? = some (Obj.cells c t (0, 0)) → v.ownBlock ≠ some b := fun b c t ht hb e => by
    obtain ⟨⟨_, hl⟩, cur, hc⟩ := hlt b e
    have := (h5.block b (Array.getElem?_eq_some_iff.1 hb).1).trans hb
    rw [hc] at this
    cases this
    exact ht rfl
  have hkW : KeepF N1 W (W7.setCell ⟨O, 0, none⟩ v') := ((KeepF.below h5).trans (hk7 N1)).trans (KeepF.set (p := ⟨O, 0, none⟩) hN1 v')
  have hoW : KeepsOthers W (W7.setCell ⟨O, 0, none⟩ v') := by
    refine ⟨by rw [World.size_setCell]; exact Nat.le_trans h5.size hot.size, fun b o hb hcl => ?_⟩
    have h1 := hot.same b o ((h5.block b (Array.getElem?_eq_some_iff.1 hb).1).trans hb) hcl
    refine (oth b (fun e => ?_)).trans h1
    rw [e, hv] at hb
    cases hb
    cases hcl
  have hO7 : W7.heap[O]? = some (.cells #[v] 76 (0, 0)) := by
    have hOl := (Array.getElem?_eq_some_iff.1 hv).1
    exact (hbl O (low O (Nat.le_refl _)) (Nat.lt_of_lt_of_le hOl h5.size)).trans ((h5.block O hOl).trans hv)
  refine ⟨⟨⟨?_, ?_, ?_, ?_, ?_, ⟨v', ?_, ?_⟩, ⟨hi.marks.nodup, fun D hD => ?_⟩⟩, ⟨?_, ?_⟩, hkf.trans hkW⟩, hoW, hkW⟩
  · exact ((bl_on hi.below h5).trans (hb7.mono (by omega))).setCell (p := ⟨O, 0, none⟩) (by simp only; omega) _
  · exact (fwd _ (by omega) hi.ns.lt (low _ (by omega))).trans hi.ns
  · exact (fwd _ (by omega) (Array.getElem?_eq_some_iff.1 hi.tb).1 (low _ (by omega))).trans hi.tb
  · exact (fwd _ (by omega) (Array.getElem?_eq_some_iff.1 hi.r1).1 (low _ (by omega))).trans hi.r1
  · exact (fwd _ (by omega) (Array.getElem?_eq_some_iff.1 hi.r2).1 (low _ (by omega))).trans hi.r2
  · simp [World.setCell, Array.getElem?_modify, hO7]
  · rw [List.map_append, ← List.append_assoc]
    refine ho.keep (KeepF.set (p := ⟨O, 0, none⟩) (by simp only; omega) v') (fun g e => oth g (fun e' => ?_))
    have := (ho.lt g e).1.1
    omega
  · have := hi.marks.here D hD
    exact ⟨this.1, hoW.same D _ this.2 rfl⟩
  · exact (fwd _ (by omega) (Array.getElem?_eq_some_iff.1 hk).1 (typ _ _ _ (by decide) hk)).trans hk
  · exact (fwd _ (by omega) hq.lt (typ _ _ _ (by decide) hq)).trans hq
theorem PtNew.keepF {W' V : World} {N B gb R bl rl : Nat} {box : List Int} {rs : List (List Int × Int)} (h : PtNew V N B gb R bl rl box rs) (hk : KeepF N V W') : PtNew W' N B gb R bl rl box rs := by
  obtain ⟨f, r1, r2⟩ := h.rows
  have rr : ∀ {g l : Nat} {t : TypeId} {f : Nat → Value}, V.rowIs g t l f → N ≤ g → shiftyB t = false → W'.rowIs g t l f := fun {g l t f} hr hg ht => by
    obtain ⟨c, h1, _⟩ := id hr
    exact hr.of_block (hk.1 g c t hg ht h1)
  refine ⟨(hk.1 B _ _ h.far.1 (by decide) h.here).trans h.here, rr h.box h.far.2.1 (by decide), ⟨f, rr r1 h.far.2.2 (by decide), fun j hj => ?_⟩, h.far⟩
  obtain ⟨g, l, e1, e2, e3, e4, e5, e6⟩ := r2 j hj
  exact ⟨g, l, e1, e2, rr e3 e6 (by decide), e4, e5, e6⟩
end Go.Proofs.Ytkbdnhchlkafnaa.V
namespace Go.Proofs.Ytkbdnhchlkafnaa.V
open Go Go.RowKit Go.Shelf
set_option linter.unusedVariables false

def TW.blk (q : TW) (w : World) (b : Nat) : Prop := w.heap[b]? = some (.cells q.cs 63 (0, 0))
theorem TW.blk.lt {q : TW} {w : World} {b : Nat} (h : q.blk w b) : b < w.heap.size := (Array.getElem?_eq_some_iff.1 h).1
theorem TW.blk.below {q : TW} {w w' : World} {b : Nat} (h : q.blk w b) (hb : Below w.heap.size w w') : q.blk w' b := (hb.block b h.lt).trans h
theorem TW.blk.cells {q : TW} {w : World} {b : Nat} (h : q.blk w b) : w.cell? ⟨b, 0, none⟩ = some (.int .i64 q.stm) ∧ w.cell? ⟨b, 1, none⟩ = some (.slice q.xa q.xl q.xc) ∧ w.cell? ⟨b, 2, none⟩ = some (.int .i64 (q.tm 0)) ∧ w.cell? ⟨b, 3, none⟩ = some (.int .i64 (q.tm 1)) ∧ w.cell? ⟨b, 4, none⟩ = some (.int .i64 (q.tm 2)) ∧ w.cell? ⟨b, 5, none⟩ = some (.int .i64 (q.tm 3)) ∧ w.cell? ⟨b, 6, none⟩ = some (.int .i64 (q.tm 4)) ∧ w.cell? ⟨b, 7, none⟩ = some (.int .i64 (q.tm 5)) ∧ w.cell? ⟨b, 8, none⟩ = some (.int .i64 (q.tm 6)) ∧ w.cell? ⟨b, 9, none⟩ = some (.int .i64 (q.tm 7)) ∧ w.cell? ⟨b, 10, none⟩ = some (.int .i64 q.kd) ∧ w.cell? ⟨b, 11, none⟩ = some (.int .i64 q.va) ∧ w.cell? ⟨b, 12, none⟩ = some (.int .i64 q.pu.arr) ∧ w.cell? ⟨b, 13, none⟩ = some (.int .i64 q.pu.pos) ∧ w.cell? ⟨b, 14, none⟩ = some (.slice q.ga q.gl q.gc) := by
  unfold TW.blk TW.cs at h
  refine ⟨?_, ?_, ?_, ?_, ?_, ?_, ?_, ?_, ?_, ?_, ?_, ?_, ?_, ?_, ?_⟩ <;> simp [World.cell?, h]
theorem TW.blk.free {q : TW} {w : World} {b : Nat} (h : q.blk w b) (i : Nat) : w.frozen? ⟨b, i, none⟩ = false := by
  unfold TW.blk at h
  simp [World.frozen?, h]
theorem TW.new (q : TW) (w : World) : q.blk (w.alloc (.cells q.cs 63)) w.heap.size := World.alloc_heap_new w _
def putT (W : World) (b : Nat) (q : TW) : World := ((((((((((((((W.setCell ⟨b, 0, none⟩ (.int .i64 q.stm)).setCell ⟨b, 1, none⟩ (.slice q.xa q.xl q.xc)).setCell ⟨b, 2, none⟩ (.int .i64 (q.tm 0))).setCell ⟨b, 3, none⟩ (.int .i64 (q.tm 1))).setCell ⟨b, 4, none⟩ (.int .i64 (q.tm 2))).setCell ⟨b, 5, none⟩ (.int .i64 (q.tm 3))).setCell ⟨b, 6, none⟩ (.int .i64 (q.tm 4))).setCell ⟨b, 7, none⟩ (.int .i64 (q.tm 5))).setCell ⟨b, 8, none⟩ (.int .i64 (q.tm 6))).setCell ⟨b, 9, none⟩ (.int .i64 (q.tm 7))).setCell ⟨b, 10, none⟩ (.int .i64 q.kd)).setCell ⟨b, 11, none⟩ (.int .i64 q.va)).setCell ⟨b, 12, none⟩ (.int .i64 q.pu.arr)).setCell ⟨b, 13, none⟩ (.int .i64 q.pu.pos)).setCell ⟨b, 14, none⟩ (.slice q.ga q.gl q.gc)
theorem putT_blk {q u : TW} {W : World} {b : Nat} (h : q.blk W b) : u.blk (putT W b u) b := by
  unfold TW.blk TW.cs putT at *
  simp [World.setCell, Array.getElem?_modify, h]
theorem putT_size (W : World) (b : Nat) (q : TW) : (putT W b q).heap.size = W.heap.size := by simp [putT]
theorem putT_oth (W : World) (b : Nat) (q : TW) (j : Nat) (h : j ≠ b) : (putT W b q).heap[j]? = W.heap[j]? := by
  unfold putT
  simp [World.setCell, Array.getElem?_modify, h.symm]
theorem putT_keep {N : Nat} {W : World} {b : Nat} {u : TW} (h : u.blk W b) (q : TW) : KeepF N W (putT W b q) := by
  refine ⟨fun j c t _ h2 h3 => putT_oth _ _ _ _ (fun e => ?_), by rw [putT_size]; exact Nat.le_refl _⟩
  rw [e, h] at h3
  cases h3
  exact absurd h2 (by decide)
theorem putT_below {w W : World} {n b : Nat} (hb : Below n w W) (h : n ≤ b) (q : TW) : Below n w (putT W b q) := by
  unfold putT
  exact (((((((((((((((hb.setCell (p := ⟨b, 0, none⟩) h _).setCell (p := ⟨b, 1, none⟩) h _).setCell (p := ⟨b, 2, none⟩) h _).setCell (p := ⟨b, 3, none⟩) h _).setCell (p := ⟨b, 4, none⟩) h _).setCell (p := ⟨b, 5, none⟩) h _).setCell (p := ⟨b, 6, none⟩) h _).setCell (p := ⟨b, 7, none⟩) h _).setCell (p := ⟨b, 8, none⟩) h _).setCell (p := ⟨b, 9, none⟩) h _).setCell (p := ⟨b, 10, none⟩) h _).setCell (p := ⟨b, 11, none⟩) h _).setCell (p := ⟨b, 12, none⟩) h _).setCell (p := ⟨b, 13, none⟩) h _).setCell (p := ⟨b, 14, none⟩) h _)
/-- Numbers of a time, up to place j. -/
def TW.upto (q : TW) (f : Nat → Int) (j : Nat) : TW := ⟨q.stm, q.xa, q.xl, q.xc, fun i => if i < j then f i else 0, q.kd, q.va, q.pu, q.ga, q.gl, q.gc⟩
theorem upto_blk {q : TW} {f : Nat → Int} {j : Nat} {W : World} {b : Nat} (h : (q.upto f j).blk W b) (hj : j < 8) : (q.upto f (j + 1)).blk (W.setCell ⟨b, 2 + j, none⟩ (.int .i64 (f j))) b := by
  have : j = 0 ∨ j = 1 ∨ j = 2 ∨ j = 3 ∨ j = 4 ∨ j = 5 ∨ j = 6 ∨ j = 7 := by omega
  rcases this with rfl | rfl | rfl | rfl | rfl | rfl | rfl | rfl <;>
  · unfold TW.blk TW.cs TW.upto at *
    simp [World.setCell, Array.getElem?_modify, h]
theorem upto_cell {q : TW} {f : Nat → Int} {j : Nat} {W : World} {b : Nat} (h : (q.upto f j).blk W b) (hj : j < 8) : W.cell? ⟨b, 2 + j, none⟩ = some (.int .i64 0) := by
  have : j = 0 ∨ j = 1 ∨ j = 2 ∨ j = 3 ∨ j = 4 ∨ j = 5 ∨ j = 6 ∨ j = 7 := by omega
  rcases this with rfl | rfl | rfl | rfl | rfl | rfl | rfl | rfl <;>
  · unfold TW.blk TW.cs TW.upto at h
    simp [World.cell?, h]
theorem KeepF.sp {N : Nat} {W : World} {p : Addr} {u : TW} (h : u.blk W p.block) (v : Value) : KeepF N W (W.setCell p v) := ⟨fun b c t _ h2 h3 => Below.heap_setCell _ p _ b (fun e => by rw [e, h] at h3; cases h3; exact absurd h2 (by decide)), by rw [World.size_setCell]; exact Nat.le_refl _⟩
/-- A new spot, not yet told. -/
def fNewSpot (N : Nat) : Fact := ⟨fun v w => ∃ g : Nat, v = .pointer (some ⟨g, 0, none⟩) ∧ twD.blk w g ∧ N ≤ g, false⟩
theorem fNewSpot_good (N : Nat) : (fNewSpot N).Good := ⟨fun _ _ _ ⟨g, h1, h2, h3⟩ hb => ⟨g, h1, h2.below hb, h3⟩, fun h => by cases h⟩
def fPls (N l : Nat) (ps : List PW) : Fact := ⟨fun v w => ∃ R : Nat, v = .slice (some ⟨R, 0, none⟩) l l ∧ Lies N (fun V => PlsAt V (some ⟨R, 0, none⟩) l ps) w, false⟩
theorem fPls_good (N l : Nat) (ps : List PW) : (fPls N l ps).Good := ⟨fun _ _ _ ⟨R, h1, h2⟩ hb => ⟨R, h1, h2.below hb⟩, fun h => by cases h⟩
/-- The spot as it is built. -/
def fSpot (N : Nat) (u : Nat → TW) (l : Nat) (ps : List PW) : Fact := ⟨fun v w => ∃ R : Nat, v = (u R).v ∧ Lies N (fun V => PlsAt V (some ⟨R, 0, none⟩) l ps) w, false⟩
theorem fSpot_good (N : Nat) (u : Nat → TW) (l : Nat) (ps : List PW) : (fSpot N u l ps).Good := ⟨fun _ _ _ ⟨R, h1, h2⟩ hb => ⟨R, h1, h2.below hb⟩, fun h => by cases h⟩
end Go.Proofs.Ytkbdnhchlkafnaa.V
namespace Go.Proofs.Ytkbdnhchlkafnaa.V
open Go Go.RowKit
set_option linter.unusedVariables false

theorem plsAt_below {w w' : World} {a : Option Addr} {len : Nat} {ps : List PW} (h : PlsAt w a len ps) (hb : Below w.heap.size w w') : PlsAt w' a len ps := by
  obtain ⟨h1, h2, h3⟩ := h
  refine ⟨h1, h2, ?_⟩
  rcases h3 with e | ⟨b, off, e, h⟩
  · exact .inl e
  · exact .inr ⟨b, off, e, fun j hj => ⟨(hb.cell (p := ⟨b, off + j * 2, none⟩) (lt_of_cell (h j hj).1)).trans (h j hj).1, (hb.cell (p := ⟨b, off + j * 2 + 1, none⟩) (lt_of_cell (h j hj).2)).trans (h j hj).2⟩⟩
theorem TG.below {w w' : World} {q : TW} {p : Sp} (h : TG w q p) (hb : Below w.heap.size w w') : TG w' q p := ⟨h.stm, h.pt.below hb, h.tm, h.kd, h.va, h.put, plsAt_below h.gets hb, h.cap, fun b o e => by
  obtain ⟨cur, fz, h1⟩ := h.num b o e
  exact ⟨cur, fz, (hb.block b (Array.getElem?_eq_some_iff.1 h1).1).trans h1⟩⟩
def accOf (p : PW) : Acc := (p.arr, ([], p.pos))
def stmOf (s : Sp) : Stm := ⟨[], [], s.kd, s.va, accOf s.put, s.gets.map accOf⟩
def awOf (p : PW) : AW := ⟨p.arr, none, 0, 0, p.pos⟩
set_option maxRecDepth 100000 in
set_option maxHeartbeats 4000000 in
theorem eachPA (a : Option Addr) (len cap : Nat) (qs : Nat → PW) (g : Nat) (bs : Array Value) (eg : ∀ args w, (callFunc g args).run Try.prog w = .ok (.enter g args) w) (Q : Nat → AW → World → Prop) (w : World) (hlen : len * 40 ≤ 281474976710656)
    (hin : len = 0 ∨ ∃ b off, a = some ⟨b, off, none⟩ ∧ ∀ j, j < len → w.cell? ⟨b, off + j * 2, none⟩ = some (.int .i64 (qs j).arr) ∧ w.cell? ⟨b, off + j * 2 + 1, none⟩ = some (.int .i64 (qs j).pos))
    (hcall : ∀ (j : Nat) (W : World), j < len → Below w.heap.size w W → w.heap.size < W.heap.size → Calls Try.prog g (#[(qs j).v] ++ bs) W fun e w' => (∃ u : AW, e = .returned u.v ∧ Lies W.heap.size (Q j u) w') ∧ Below W.heap.size W w') :
    Calls Try.prog 82 #[.slice a len cap, .func (.func g) #[] bs] w fun e w' => (∃ us : Nat → AW, e = .returned (.slice (some ⟨w.heap.size, 0, none⟩) len len) ∧ OutA w' w.heap.size len us len ∧ ∀ j, j < len → Lies (w.heap.size + 1) (Q j (us j)) w') ∧ Below w.heap.size w w' := by
  have HIN := hide hin
  have HCALL := hide hcall
  obtain ⟨i0, hi, hz0, hz1, hz2⟩ := info_parts info_A
  have hmk : ∀ W : World, (Instr.makeSlice 73 (.int .i64 (len : Int)) (.int .i64 (len : Int))).run Try.prog W = .ok (.slice (some ⟨W.heap.size, 0, none⟩) len len) (W.alloc (.cells (madeCells #[.int .i64 0, .slice none 0 0, .int .i64 0] (len * 3)) 72)) := fun W => by
    have := run_make (P := Try.prog) W 73 72 i0 (.agg #[.int .i64 0, .slice none 0 0, .int .i64 0]) Try.underlying73 hi hz0 .i64 .i64 len len (by omega) (by omega) (by rw [hz2]; omega) (by omega)
    simpa [hz1, Value.cells] using this
  have HROW : Hid (OutA (w.alloc (.cells (madeCells #[.int .i64 0, .slice none 0 0, .int .i64 0] (len * 3)) 72)) w.heap.size len (fun _ => ⟨0, none, 0, 0, 0⟩) 0) := ⟨fun i => (#[.int .i64 0, .slice none 0 0, .int .i64 0] : Array Value)[i % 3]!, ⟨_, World.alloc_heap_new _ _, size_madeCells _ _, fun i hi => by simp [madeCells, hi]⟩, fun j hj => by omega⟩
  have HB0 : Hid (Below w.heap.size w (w.alloc (.cells (madeCells #[.int .i64 0, .slice none 0 0, .int .i64 0] (len * 3)) 72))) := bl_new _
  clear hin hcall hi hz0 hz1 hz2
  go_enter Try.func82, Try.ntmps82
  go_wp2_with fail
  clear hmk
  go_loopw [13] (fun i wr => ∃ k : Nat, k ≤ len ∧ i = .int .i64 k ∧ (∃ us, OutA wr w.heap.size len us k ∧ ∀ j, j < k → Lies (w.heap.size + 1) (Q j (us j)) wr) ∧ Below w.heap.size w wr) (fun i _ => len - (intOf i).toNat)
  case atStart => exact ⟨0, Nat.zero_le _, rfl, ⟨_, HROW.out, fun j hj => by omega⟩, HB0.out⟩
  case round =>
    obtain ⟨k, hk, rfl, ⟨us, hT, hL⟩, hB⟩ := hrel
    have HT := hide hT
    have HL := hide hL
    have HB := hide hB
    clear HROW HB0 hL
    by_cases hlt : k < len
    · obtain ⟨b, off, rfl, hat⟩ := HIN.out.resolve_left (by omega)
      obtain ⟨c0, c1⟩ := hat k hlt
      have HC0 := hide (HCALL.out k)
      obtain ⟨q, hq⟩ : ∃ q, q = qs k := ⟨_, rfl⟩
      rw [← hq] at HC0 c0 c1
      have c0' := (HB.out.cell (p := ⟨b, off + k * 2, none⟩) (lt_of_cell c0)).trans c0
      have z0 := lt_of_cell c0'
      have c1' := (HB.out.cell (p := ⟨b, off + k * 2 + 1, none⟩) (lt_of_cell c1)).trans c1
      have z1 := lt_of_cell c1'
      have hRl := hT.lt
      have B2 : Below wr.heap.size wr (wr.alloc (.cells #[.int .i64 q.arr, .int .i64 q.pos] 60)) := bl_new _
      have HC := hide (HC0.out (wr.alloc (.cells #[.int .i64 q.arr, .int .i64 q.pos] 60)) hlt (bl_on HB.out B2) (by rw [World.size_alloc]; omega))
      have HB2 := hide B2
      unfold PW.v  at HC
      clear hat hq B2 hT hB HC0 c0 c1
      go_wp2_with fail
      refine HC.out.mono ?_
      rintro e w2 ⟨⟨u, rfl, hl⟩, hb2⟩
      have T2 := HT.out.below (bl_on HB2.out hb2)
      obtain ⟨f, r1, r2⟩ := T2
      have d0 := r1.cell (i := k * 3) (by omega)
      have y0 := r1.frozen (k * 3)
      have d1 := r1.cell (i := k * 3 + 1) (by omega)
      have y1 := r1.frozen (k * 3 + 1)
      have d2 := r1.cell (i := k * 3 + 2) (by omega)
      have y2 := r1.frozen (k * 3 + 2)
      have z3 := r1.lt
      have hsz := HB.out.size
      have HT2 := hide (OutA.snoc ⟨f, r1, r2⟩ u)
      have HLn := hide (hl.mono (N := w.heap.size + 1) (by rw [World.size_alloc]; omega))
      have HLo := hide (fun j (hj : j < k) => (HL.out j hj).below (bl_on HB2.out hb2))
      have HBb := hide (bl_on HB.out (bl_on HB2.out hb2))
      clear hb2 r1 r2 hl
      try unfold AW.v 
      go_wp2_with fail
      go_roundw
      case rel =>
        refine ⟨k + 1, by omega, by go_num, ⟨_, HT2.out, fun j hj => ?_⟩, (((HBb.out.setCell (p := ⟨w.heap.size, k * 3, none⟩) (Nat.le_refl _) _).setCell (p := ⟨w.heap.size, k * 3 + 1, none⟩) (Nat.le_refl _) _).setCell (p := ⟨w.heap.size, k * 3 + 2, none⟩) (Nat.le_refl _) _)⟩
        by_cases e : k = j
        · subst e
          simp only [if_true]
          have hl := HLn.out
          exact ((((hl).set (p := ⟨w.heap.size, k * 3, none⟩) (by simp only; omega) _).set (p := ⟨w.heap.size, k * 3 + 1, none⟩) (by simp only; omega) _).set (p := ⟨w.heap.size, k * 3 + 2, none⟩) (by simp only; omega) _)
        · simp only [if_neg (fun e' : j = k => e e'.symm)]
          have hl := HLo.out j (by omega)
          exact ((((hl).set (p := ⟨w.heap.size, k * 3, none⟩) (by simp only; omega) _).set (p := ⟨w.heap.size, k * 3 + 1, none⟩) (by simp only; omega) _).set (p := ⟨w.heap.size, k * 3 + 2, none⟩) (by simp only; omega) _)
      case measure => simp [intOf]; omega
    · obtain rfl : k = len := by omega
      clear hT hB
      go_wp2_with fail
      go_ret
      exact ⟨⟨us, rfl, HT.out, HL.out⟩, HB.out⟩

set_option maxRecDepth 100000 in
set_option maxHeartbeats 2000000 in
theorem access1 (p : PW) (w : World) : Calls Try.prog 81 #[.agg #[.int .i64 p.arr, .int .i64 p.pos]] w fun e w' => e = .returned (awOf p).v ∧ Below w.heap.size w w' := by
  go_enter Try.func81, Try.ntmps81
  go_wp2_with fail
  have e1 := World.alloc_heap_new (w.alloc (.cells #[.int .i64 p.arr, .int .i64 p.pos] 60)) (.cells #[.int .i64 p.arr, .slice none 0 0, .int .i64 p.pos] 72)
  rw [World.size_alloc] at e1
  have hB : Below w.heap.size w ((w.alloc (.cells #[.int .i64 p.arr, .int .i64 p.pos] 60)).alloc (.cells #[.int .i64 p.arr, .slice none 0 0, .int .i64 p.pos] 72)) := bl_on (bl_new _) (bl_new _)
  generalize (w.alloc (.cells #[.int .i64 p.arr, .int .i64 p.pos] 60)).alloc (.cells #[.int .i64 p.arr, .slice none 0 0, .int .i64 p.pos] 72) = W at e1 hB ⊢
  have x0 : W.cell? ⟨w.heap.size + 1, 0, none⟩ = some (.int .i64 p.arr) := by simp [World.cell?, e1]
  have x1 : W.cell? ⟨w.heap.size + 1, 1, none⟩ = some (.slice none 0 0) := by simp [World.cell?, e1]
  have x2 : W.cell? ⟨w.heap.size + 1, 2, none⟩ = some (.int .i64 p.pos) := by simp [World.cell?, e1]
  exact bodyPost_ret (v := (awOf p).v) (by simp [results, Try.results81, go_sem, x0, x1, x2, AW.v, awOf]) rfl ⟨rfl, hB⟩
theorem ag_of (p : PW) (V : World) (h : B64 p.arr ∧ B64 p.pos) : AG V (awOf p) (accOf p) := ⟨rfl, rfl, ⟨rfl, by show 0 ≤ _; omega, (fun x hx => by cases hx), .inl rfl⟩, ⟨Nat.le_refl _, fun _ => rfl⟩, h⟩
/-- All numbers of a spot are numbers of 64 bits. -/
structure SpB (p : Sp) : Prop where
  kd : B64 p.kd
  va : B64 p.va
  put : B64 p.put.arr ∧ B64 p.put.pos
  gets : ∀ a ∈ p.gets, B64 a.arr ∧ B64 a.pos
theorem getsT_any (p : Sp) (q : TW) (w : World) (h : TG w q p) (hb : SpB p) (h3 : q.gl ≤ 1000) : Calls Try.prog 82 #[.slice q.ga q.gl q.gc, .func (.func 81) #[] #[]] w fun e w' => (∃ a l c, e = .returned (.slice a l c) ∧ Lies w.heap.size (fun V => Accs V a l (p.gets.map accOf)) w') ∧ Below w.heap.size w w' := by
  obtain ⟨h1, h2, hin⟩ := h.gets
  refine (eachPA q.ga q.gl q.gc (fun j => p.gets[j]?.getD ⟨0, 0⟩) 81 #[] (enters_of Try.func81 (by kernel_rfl) rfl) (fun j u V => u = awOf (p.gets[j]?.getD ⟨0, 0⟩)) w (by omega) hin (fun j W hj hb _ => ?_)).mono ?_
  · refine (access1 (p.gets[j]?.getD ⟨0, 0⟩) W).mono ?_
    rintro e w' ⟨rfl, hb'⟩
    exact ⟨⟨_, rfl, lies_pure rfl _⟩, hb'⟩
  rintro e w' ⟨⟨us, rfl, k1, k2⟩, hb'⟩
  refine ⟨⟨_, _, _, rfl, (k1.lies (Nat.le_refl _)).imp (fun V hV => accs_out hV (by rw [List.length_map]; exact h1) (by omega) (fun j hj => ?_))⟩, hb'⟩
  have e := (k2 j hj).out
  rw [e]
  have hj' : j < p.gets.length := by rw [h1]; exact hj
  have e2 : (p.gets.map accOf)[j]?.getD accD = accOf (p.gets[j]?.getD ⟨0, 0⟩) := by simp [hj']
  rw [e2]
  exact ag_of _ V (hb.gets _ (by simp [hj']))
set_option maxRecDepth 100000 in
set_option maxHeartbeats 4000000 in
theorem stmt1 (p : Sp) (q : TW) (w : World) (h : TG w q p) (hb : SpB p) (h3 : q.gl ≤ 1000) : Calls Try.prog 41 #[q.v] w fun e w' => (∃ u : SW, e = .returned u.v ∧ Lies w.heap.size (fun V => SG V u (stmOf p)) w') ∧ Below w.heap.size w w' := by
  have P0 := (q.new w).below (bl_new (.cells swD.cs 75))
  have P1 := swD.new (w.alloc (.cells q.cs 63))
  rw [World.size_alloc] at P1
  obtain ⟨W, hW⟩ : ∃ W, W = (w.alloc (.cells q.cs 63)).alloc (.cells swD.cs 75) := ⟨_, rfl⟩
  have hBW : Below w.heap.size w W := by rw [hW]; exact bl_on (bl_new _) (bl_new _)
  rw [← hW] at P0 P1
  obtain ⟨d0, d1, d2, d3, d4, d5, d6, d7, d8, d9, d10, d11, d12, d13, d14⟩ := P0.cells
  have dz := P0.lt
  have HP1 := hide P1
  have HGE := hide (fun V (hb' : Below W.heap.size W V) => getsT_any p q V (h.below (bl_on hBW hb')) hb h3)
  have HAC := hide (fun V => access1 q.pu V)
  have HTG := hide (show p.put = q.pu ∧ p.kd = q.kd ∧ p.va = q.va from ⟨h.put.symm, h.kd.symm, h.va.symm⟩)
  have HSB := hide hb
  have HW := hide hW
  have HBW := hide hBW
  have z1 := P1.lt
  have hWs : W.heap.size = w.heap.size + 2 := by rw [hW, World.size_alloc, World.size_alloc]
  have HWS := hide hWs
  clear h hb P0 P1 hW hBW d0 d1 d2 d3 d4 d5 d6 d7 d8 d9 hWs
  unfold TW.cs SW.cs swD at HW
  unfold TW.v TW.cs
  unfold AW.v awOf at HAC
  go_enter Try.func41, Try.ntmps41
  go_wp2_with fail
  rw [← HW.out]
  refine region_made 10 12 [fIs (.pointer (some ⟨w.heap.size, 10, none⟩)), fIs (.int .i64 q.kd), fIs (.pointer (some ⟨w.heap.size, 11, none⟩)), fIs (.int .i64 q.va), fIs (.pointer (some ⟨w.heap.size, 12, none⟩)), fIs (.agg #[.int .i64 q.pu.arr, .int .i64 q.pu.pos]), fIs (.agg #[.int .i64 q.pu.arr, .slice none 0 0, .int .i64 q.pu.pos]), fIs (.pointer (some ⟨w.heap.size, 14, none⟩)), fIs (.slice q.ga q.gl q.gc), fAccs W.heap.size (p.gets.map accOf)] (by kernel_rfl) (by kernel_rfl) (by kernel_rfl) (fun _ ⟨_, _⟩ ⟨_, _⟩ _ e h => by cases e; exact h) ⟨fIs_good _, fIs_good _, fIs_good _, fIs_good _, fIs_good _, fIs_good _, fIs_good _, fIs_good _, fIs_good _, fAccs_good _ _, trivial⟩ ?mk ?rest
  case mk =>
    refine ⟨fun u wz hb hd => ?_, fun u wz hb hd => ?_, fun u wz hb hd => ?_, fun u wz hb hd => ?_, fun u wz hb hd => ?_, fun u wz hb hd => ?_, fun u wz hb hd => ?_, fun u wz hb hd => ?_, fun u wz hb hd => ?_, fun u wz hb hd => ?_, trivial⟩
    all_goals simp only [Act.put, List.setIfInBounds_toArray, List.set_cons_zero, List.set_cons_succ]
    · go_simp
      exact ⟨rfl, Below.refl _ _, fun h => by cases h⟩
    · have e0 : u 0 = .pointer (some ⟨w.heap.size, 10, none⟩) := hd 0 (by omega) (by kernel_rfl)
      rw [e0]
      have d10' := (hb.cell (p := ⟨w.heap.size, 10, none⟩) (lt_of_cell d10)).trans d10
      go_simp
      exact ⟨rfl, Below.refl _ _, fun h => by cases h⟩
    · go_simp
      exact ⟨rfl, Below.refl _ _, fun h => by cases h⟩
    · have e2 : u 2 = .pointer (some ⟨w.heap.size, 11, none⟩) := hd 2 (by omega) (by kernel_rfl)
      rw [e2]
      have d11' := (hb.cell (p := ⟨w.heap.size, 11, none⟩) (lt_of_cell d11)).trans d11
      go_simp
      exact ⟨rfl, Below.refl _ _, fun h => by cases h⟩
    · go_simp
      exact ⟨rfl, Below.refl _ _, fun h => by cases h⟩
    · have e4 : u 4 = .pointer (some ⟨w.heap.size, 12, none⟩) := hd 4 (by omega) (by kernel_rfl)
      rw [e4]
      have d12' := (hb.cell (p := ⟨w.heap.size, 12, none⟩) (lt_of_cell d12)).trans d12
      have d13' := (hb.cell (p := ⟨w.heap.size, 13, none⟩) (lt_of_cell d13)).trans d13
      go_simp
      exact ⟨rfl, Below.refl _ _, fun h => by cases h⟩
    · have e5 : u 5 = .agg #[.int .i64 q.pu.arr, .int .i64 q.pu.pos] := hd 5 (by omega) (by kernel_rfl)
      rw [e5]
      go_simp
      refine (HAC.out wz).mono ?_
      rintro e w2 ⟨rfl, hb2⟩
      exact ⟨rfl, hb2, fun h => by cases h⟩
    · go_simp
      exact ⟨rfl, Below.refl _ _, fun h => by cases h⟩
    · have e7 : u 7 = .pointer (some ⟨w.heap.size, 14, none⟩) := hd 7 (by omega) (by kernel_rfl)
      rw [e7]
      have d14' := (hb.cell (p := ⟨w.heap.size, 14, none⟩) (lt_of_cell d14)).trans d14
      go_simp
      exact ⟨rfl, Below.refl _ _, fun h => by cases h⟩
    · have e8 : u 8 = .slice q.ga q.gl q.gc := hd 8 (by omega) (by kernel_rfl)
      rw [e8]
      go_simp
      refine (HGE.out wz hb).mono ?_
      rintro e w2 ⟨⟨a9, l9, c9, rfl, h9⟩, hb2⟩
      exact ⟨⟨a9, l9, c9, rfl, h9.mono hb.size⟩, hb2, fun h => by cases h⟩
  case rest =>
    intro u wz hb hf hp
    have f0 : u 0 = .pointer (some ⟨w.heap.size, 10, none⟩) := hf 0 (by omega)
    have f1 : u 1 = .int .i64 q.kd := hf 1 (by omega)
    have f2 : u 2 = .pointer (some ⟨w.heap.size, 11, none⟩) := hf 2 (by omega)
    have f3 : u 3 = .int .i64 q.va := hf 3 (by omega)
    have f4 : u 4 = .pointer (some ⟨w.heap.size, 12, none⟩) := hf 4 (by omega)
    have f5 : u 5 = .agg #[.int .i64 q.pu.arr, .int .i64 q.pu.pos] := hf 5 (by omega)
    have f6 : u 6 = .agg #[.int .i64 q.pu.arr, .slice none 0 0, .int .i64 q.pu.pos] := hf 6 (by omega)
    have f7 : u 7 = .pointer (some ⟨w.heap.size, 14, none⟩) := hf 7 (by omega)
    have f8 : u 8 = .slice q.ga q.gl q.gc := hf 8 (by omega)
    obtain ⟨ga, gl, gc, f9, k9⟩ := hf 9 (by omega)
    refine UptoW.rest 2 10 (by rfl) (by kernel_rfl) ?_
    simp only [List.take, List.drop, putOps, Act.put, List.setIfInBounds_toArray, List.set_cons_zero, List.set_cons_succ, Nat.reduceAdd, f0, f1, f2, f3, f4, f5, f6, f7, f8, f9]
    clear f0 f1 f2 f3 f4 f5 f6 f7 f8 f9 hf hp
    have HBZ := hide hb
    have HK9 := hide k9
    have P7 := HP1.out.below hb
    have HP7 := hide P7
    obtain ⟨y0, y1, y2, y3, y4, y5, y6, y7⟩ := P7.cells
    have g0 := P7.free 0
    have g1 := P7.free 1
    have g2 := P7.free 2
    have g3 := P7.free 3
    have g4 := P7.free 4
    have g5 := P7.free 5
    have g6 := P7.free 6
    have g7 := P7.free 7
    have z6 := P7.lt
    unfold swD at y0 y1 y2 y3 y4 y5 y6 y7
    clear P7 hb k9 d10 d11 d12 d13 d14
    go_wp2_with fail
    obtain ⟨u, hu⟩ : ∃ u : SW, u = ⟨none, 0, 0, none, 0, 0, q.kd, q.va, awOf q.pu, ga, gl, gc⟩ := ⟨_, rfl⟩
    obtain ⟨W5, hW5⟩ : ∃ W5, W5 = putS8 wz (w.heap.size + 1) u := ⟨_, rfl⟩
    have hW5' := hW5
    rw [hu] at hW5'
    unfold putS8 awOf at hW5'
    rw [← hW5']
    have P9 : u.blk W5 (w.heap.size + 1) := by rw [hW5]; exact putS8_blk HP7.out
    obtain ⟨x0, x1, x2, x3, x4, x5, x6, x7⟩ := P9.cells
    refine bodyPost_ret (v := u.v) (by simp [results, Try.results41, go_sem, x0, x1, x2, x3, x4, x5, x6, x7, SW.v, SW.cs]) rfl ⟨⟨u, rfl, ?_⟩, ?_⟩
    · have hL := HK9.out.keep (putS8_keep (N := W.heap.size) (b := w.heap.size + 1) (by have := HWS.out; omega) u)
      rw [← hW5] at hL
      refine (hL.mono (by have := HWS.out; omega)).imp (fun V hV => ?_)
      obtain ⟨t1, t2, t3⟩ := HTG.out
      rw [hu]
      exact ⟨⟨⟨rfl, by show 0 ≤ _; omega, (fun x hx => by cases hx), .inl rfl⟩, Nat.le_refl _, fun _ => rfl⟩, ⟨rfl, by show 0 ≤ _; omega, .inl rfl⟩, t2.symm, t3.symm, by show AG V _ (accOf p.put); rw [t1]; exact ag_of _ V (by rw [← t1]; exact HSB.out.put), hV, HSB.out.kd, HSB.out.va⟩
    · rw [hW5]
      exact putS8_below (bl_on HBW.out HBZ.out) (by omega) _
end Go.Proofs.Ytkbdnhchlkafnaa.V
namespace Go.Proofs.Ytkbdnhchlkafnaa.V
open Go Go.RowKit
set_option linter.unusedVariables false

/-- Memory of the sizes that a nest tells. -/
structure FitM (zs : List Int) (M : Mem) : Prop where
  len : M.length = zs.length
  arr : ∀ k, k < M.length → ((arrM M k).length : Int) = zs[k]?.getD 0
theorem FitM.same {zs : List Int} {M N : Mem} (h : FitM zs M) (s : SameLen N M) : FitM zs N := ⟨s.1.trans h.len, fun k hk => by rw [s.2]; exact h.arr k (by rw [← s.1]; exact hk)⟩
theorem FitM.zero {zs : List Int} {M : Mem} (h : FitM zs M) : fitsE zs M = 0 := by
  unfold fitsE
  rw [if_neg (by simpa using h.len), if_neg]
  intro hc
  rw [List.any_eq_true] at hc
  obtain ⟨k, hk, he⟩ := hc
  have := h.arr k (by simpa using hk)
  simp [this] at he
theorem lead_in {zs : List Int} {M : Mem} (h : FitM zs M) {a : Acc} {vars : Nat} (ha : AccOk zs.length a vars) (x : List Int) : (inM M (accOf (leadV zs a x)) [] ↔ inM M a x) ∧ (inM M a x → worthV (accOf (leadV zs a x)).2 [] = worthV a.2 x) := by
  have h1 := ha.arr
  have h2 := h.arr a.1.toNat (by have := h.len; omega)
  have e : worthV (accOf (leadV zs a x)).2 [] = (leadV zs a x).pos := by
    unfold accOf worthV
    simp [dotV]
  unfold inM
  rw [e]
  have e2 : (accOf (leadV zs a x)).1 = a.1 := rfl
  rw [e2, h2]
  unfold leadV
  by_cases c : worthV a.2 x < 0 ∨ zs[a.1.toNat]?.getD 0 ≤ worthV a.2 x
  · simp only [if_pos c]
    constructor
    · constructor
      · intro k; omega
      · intro k; omega
    · intro k; omega
  · rw [if_neg c]
    exact ⟨Iff.rfl, fun _ => rfl⟩
theorem lead_got {zs : List Int} {M : Mem} (h : FitM zs M) {a : Acc} {vars : Nat} (ha : AccOk zs.length a vars) (x : List Int) : gotM M (accOf (leadV zs a x)) [] = gotM M a x := by
  obtain ⟨h1, h2⟩ := lead_in h ha x
  unfold gotM
  by_cases c : inM M a x
  · rw [if_pos (h1.2 c), if_pos c, h2 c]
    rfl
  · rw [if_neg (fun k => c (h1.1 k)), if_neg c]
theorem pts_nil : pts [] [] = [[]] := by rfl
theorem ptE_nil : ptE [] [] = 0 := by rfl
theorem stm_spot {zs : List Int} {ss : List Stm} {M : Mem} (T : Tms) (h : FitM zs M) (p : Nat × List Int) (ho : StmOk zs.length (ss[p.1]?.getD stmD)) : stmM M (stmOf (spOf zs ss T p)) = spM ss M p := by
  unfold stmM spM
  show (pts [] []).foldl _ M = _
  rw [pts_nil]
  show doM _ M [] = _
  obtain ⟨i1, i2⟩ := lead_in h ho.put p.2
  have gk : ∀ k, gotK M (stmOf (spOf zs ss T p)) [] k = gotK M (ss[p.1]?.getD stmD) p.2 k := fun k => by
    unfold gotK
    show (if k < (((ss[p.1]?.getD stmD).gets.map fun a => leadV zs a p.2).map accOf).length then gotM M ((((ss[p.1]?.getD stmD).gets.map fun a => leadV zs a p.2).map accOf)[k]?.getD accD) [] else 0) = _
    rw [List.length_map, List.length_map]
    by_cases c : k < (ss[p.1]?.getD stmD).gets.length
    · rw [if_pos c, if_pos c]
      have e : ((((ss[p.1]?.getD stmD).gets.map fun a => leadV zs a p.2).map accOf)[k]?.getD accD) = accOf (leadV zs ((ss[p.1]?.getD stmD).gets[k]?.getD accD) p.2) := by
        rw [List.getElem?_map, List.getElem?_map, List.getElem?_eq_getElem c]
        rfl
      rw [e]
      exact lead_got h (ho.gets _ (by rw [List.getElem?_eq_getElem c]; exact List.getElem_mem c)) p.2
    · rw [if_neg c, if_neg c]
  have nk : newM M (stmOf (spOf zs ss T p)) [] = newM M (ss[p.1]?.getD stmD) p.2 := by
    unfold newM
    rw [gk 0, gk 1, gk 2]
    have : gotM M (stmOf (spOf zs ss T p)).put [] = gotM M (ss[p.1]?.getD stmD).put p.2 := lead_got h ho.put p.2
    rw [this]
    rfl
  unfold doM
  rw [nk]
  have e1 : (stmOf (spOf zs ss T p)).put = accOf (leadV zs (ss[p.1]?.getD stmD).put p.2) := rfl
  rw [e1]
  by_cases c : inM M (ss[p.1]?.getD stmD).put p.2
  · rw [if_pos (i1.2 c), if_pos c, i2 c]
    rfl
  · rw [if_neg (fun k => c (i1.1 k)), if_neg c]
theorem run_spots {zs : List Int} {ss : List Stm} (T : Tms) (ho : ∀ s ∈ ss, StmOk zs.length s) : ∀ (l : List (Nat × List Int)) (M : Mem), FitM zs M → (∀ p ∈ l, p.1 < ss.length) → runM (l.map (fun p => stmOf (spOf zs ss T p))) M = l.foldl (spM ss) M ∧ FitM zs (l.foldl (spM ss) M)
  | [], M, h, _ => ⟨rfl, h⟩
  | p :: l, M, h, hl => by
    have hp := hl p (by simp)
    have h1 := stm_spot T h p (ho (ss[p.1]?.getD stmD) (by simp [hp]))
    have h2 : FitM zs (spM ss M p) := h.same (doM_same _ _ _)
    obtain ⟨k1, k2⟩ := run_spots T ho l (spM ss M p) h2 (fun q hq => hl q (by simp [hq]))
    unfold runM at k1 ⊢
    rw [List.map_cons, List.foldl_cons, h1, List.foldl_cons]
    exact ⟨k1, k2⟩
theorem rowE_pos {q : Int} (h : -1048576 ≤ q ∧ q ≤ 1048576) : rowE ([], q) 0 = 0 := by
  unfold rowE ptFar
  simp
  omega
theorem lead_bd {zs : List Int} {a : Acc} {vars : Nat} (hz : ∀ z ∈ zs, 0 ≤ z ∧ z ≤ 65536) (ha : AccOk zs.length a vars) (x : List Int) : (leadV zs a x).arr = a.1 ∧ -1 ≤ (leadV zs a x).pos ∧ (leadV zs a x).pos < 65536 := by
  have h1 := ha.arr
  have h2 := hz _ (mem_getD zs a.1.toNat (by omega))
  refine ⟨rfl, ?_⟩
  unfold leadV
  by_cases c : worthV a.2 x < 0 ∨ zs[a.1.toNat]?.getD 0 ≤ worthV a.2 x
  · simp only [if_pos c]
    omega
  · simp only [if_neg c]
    omega
theorem acc_zero {zs : List Int} {a : Acc} {vars : Nat} (hz : ∀ z ∈ zs, 0 ≤ z ∧ z ≤ 65536) (ha : AccOk zs.length a vars) (x : List Int) : accE zs.length (accOf (leadV zs a x)) 0 = 0 := by
  obtain ⟨e1, e2, e3⟩ := lead_bd hz ha x
  have h1 := ha.arr
  unfold accE
  have e : (accOf (leadV zs a x)).1 = a.1 := rfl
  rw [e, if_neg (by omega)]
  exact rowE_pos (by omega)
theorem accs_zero {n : Nat} : ∀ (l : List Acc) (v : Nat), (∀ a ∈ l, accE n a v = 0) → accsE n l v = 0
  | [], v, _ => rfl
  | a :: l, v, h => by
    unfold accsE
    rw [if_neg (by simpa using h a (by simp))]
    exact accs_zero l v (fun b hb => h b (by simp [hb]))
theorem stm_zero {zs : List Int} {ss : List Stm} (T : Tms) (hz : ∀ z ∈ zs, 0 ≤ z ∧ z ≤ 65536) (p : Nat × List Int) (ho : StmOk zs.length (ss[p.1]?.getD stmD)) : stmE zs.length (stmOf (spOf zs ss T p)) = 0 := by
  have ht : takesV (stmOf (spOf zs ss T p)).kind = ((ss[p.1]?.getD stmD).gets.length : Int) := ho.takes
  have hl : (stmOf (spOf zs ss T p)).gets.length = (ss[p.1]?.getD stmD).gets.length := by
    show (((ss[p.1]?.getD stmD).gets.map fun a => leadV zs a p.2).map accOf).length = _
    rw [List.length_map, List.length_map]
  unfold stmE
  have e0 : ptE (stmOf (spOf zs ss T p)).box (stmOf (spOf zs ss T p)).rows = 0 := ptE_nil
  rw [if_neg (by simpa using e0), ht, hl, if_neg (by omega), if_neg (by simp)]
  have e1 : accE zs.length (stmOf (spOf zs ss T p)).put (stmOf (spOf zs ss T p)).box.length = 0 := acc_zero hz ho.put p.2
  rw [if_neg (by simpa using e1)]
  refine accs_zero _ _ (fun a ha => ?_)
  have ha' : a ∈ ((ss[p.1]?.getD stmD).gets.map fun a => leadV zs a p.2).map accOf := ha
  rw [List.mem_map] at ha'
  obtain ⟨q, hq, rfl⟩ := ha'
  rw [List.mem_map] at hq
  obtain ⟨b, hb, rfl⟩ := hq
  exact acc_zero hz (ho.gets b hb) p.2
theorem stms_zero {n : Nat} : ∀ l : List Stm, (∀ s ∈ l, stmE n s = 0) → stmsE n l = 0
  | [], _ => rfl
  | s :: l, h => by
    unfold stmsE
    rw [if_neg (by simpa using h s (by simp))]
    exact stms_zero l (fun b hb => h b (by simp [hb]))
theorem any_none {zs : List Int} (hz : ∀ z ∈ zs, 0 ≤ z ∧ z ≤ 65536) : zs.any badSize = false := by
  rw [List.any_eq_false]
  intro z hz'
  have := hz z hz'
  unfold badSize
  simp
  omega
theorem nest_zero {zs : List Int} {ss : List Stm} (T : Tms) (hok : NestOk zs ss) (l : List (Nat × List Int)) (hl : ∀ p ∈ l, p.1 < ss.length) (h6 : l.length ≤ 256) : nestE zs (l.map (fun p => stmOf (spOf zs ss T p))) = 0 := by
  unfold nestE
  rw [List.length_map, if_neg (by omega), any_none hok.sizes, if_neg (by simp)]
  refine stms_zero _ (fun s hs => ?_)
  rw [List.mem_map] at hs
  obtain ⟨p, hp, rfl⟩ := hs
  exact stm_zero T hok.sizes p (hok.stms _ (by have := hl p hp; simp [this]))
/-- The numbers of a spot. -/
theorem sp_b {zs : List Int} {ss : List Stm} (T : Tms) (hok : NestOk zs ss) (hzl : zs.length ≤ 9223372036854775807) (hv : ∀ s ∈ ss, B64 s.val) (p : Nat × List Int) (hp : p.1 < ss.length) : SpB (spOf zs ss T p) := by
  have hm : (ss[p.1]?.getD stmD) ∈ ss := by simp [hp]
  have ho := hok.stms _ hm
  have key : ∀ a : Acc, AccOk zs.length a (ss[p.1]?.getD stmD).box.length → B64 (leadV zs a p.2).arr ∧ B64 (leadV zs a p.2).pos := fun a ha => by
    obtain ⟨e1, e2, e3⟩ := lead_bd hok.sizes ha p.2
    have := ha.arr
    rw [e1]
    unfold B64
    omega
  refine ⟨?_, hv _ hm, key _ ho.put, fun a ha => ?_⟩
  · show B64 (ss[p.1]?.getD stmD).kind
    have ht := ho.takes
    rcases kind_cases (ss[p.1]?.getD stmD).kind with c | c | c | c | c | c | c | c | c | c | c
    all_goals first
      | (unfold B64; omega)
      | (rw [takes_none c] at ht; omega)
  · have ha' : a ∈ (ss[p.1]?.getD stmD).gets.map fun a => leadV zs a p.2 := ha
    rw [List.mem_map] at ha'
    obtain ⟨b, hb, rfl⟩ := ha'
    exact key b (ho.gets b hb)
end Go.Proofs.Ytkbdnhchlkafnaa.V
namespace Go.Proofs.Ytkbdnhchlkafnaa.V
open Go.RowKit
set_option linter.unusedVariables false

set_option maxRecDepth 100000 in
theorem nan_any (x : Int) (w : World) : Calls Try.prog 119 #[.int .i64 x] w fun e w' => e = .returned (.bool false) ∧ w' = w := by
  have q : (x != x) = false := by simp
  go_enter Try.func119, Try.ntmps119
  go_wp2
  go_ret
  exact ⟨rfl, rfl⟩
def cmpI (x y : Int) : Int := if x < y then -1 else if y < x then 1 else 0
set_option maxRecDepth 100000 in
theorem cmp_any (x y : Int) (w : World) : Calls Try.prog 100 #[.int .i64 x, .int .i64 y] w fun e w' => e = .returned (.int .i64 (cmpI x y)) ∧ w' = w := by
  have H1 := hide (nan_any x w)
  have H2 := hide (nan_any y w)
  unfold cmpI
  by_cases c1 : x < y
  · rw [if_pos c1]
    go_enter Try.func100, Try.ntmps100
    go_wp2_with (first | (go_at_call 119; first | (refine H1.out.mono ?_; rintro e w1 ⟨rfl, hw⟩; obtain rfl := hw.symm) | (refine H2.out.mono ?_; rintro e w1 ⟨rfl, hw⟩; obtain rfl := hw.symm)))
    go_ret
    exact ⟨rfl, rfl⟩
  · rw [if_neg c1]
    by_cases c2 : y < x
    · rw [if_pos c2]
      go_enter Try.func100, Try.ntmps100
      go_wp2_with (first | (go_at_call 119; first | (refine H1.out.mono ?_; rintro e w1 ⟨rfl, hw⟩; obtain rfl := hw.symm) | (refine H2.out.mono ?_; rintro e w1 ⟨rfl, hw⟩; obtain rfl := hw.symm)))
      go_ret
      exact ⟨rfl, rfl⟩
    · rw [if_neg c2]
      go_enter Try.func100, Try.ntmps100
      go_wp2_with (first | (go_at_call 119; first | (refine H1.out.mono ?_; rintro e w1 ⟨rfl, hw⟩; obtain rfl := hw.symm) | (refine H2.out.mono ?_; rintro e w1 ⟨rfl, hw⟩; obtain rfl := hw.symm)))
      go_ret
      exact ⟨rfl, rfl⟩
/-- Times compared. -/
def cmpT (f g : Nat → Int) : Int := if befB f g = true then -1 else if befB g f = true then 1 else 0
theorem cmpT_here {f g : Nat → Int} {k : Nat} (hk : k < 8) (h : ∀ j, j < k → f j = g j) (hn : f k ≠ g k) : cmpT f g = cmpI (f k) (g k) := by
  unfold cmpT cmpI
  rw [befB_here hk h hn, befB_here hk (fun j hj => (h j hj).symm) (fun e => hn e.symm)]
  by_cases c1 : f k < g k
  · simp [c1]
  · have c2 : g k < f k := by omega
    simp [c1, c2]
theorem cmpT_same {f g : Nat → Int} (h : ∀ j, j < 8 → f j = g j) : cmpT f g = 0 := by
  unfold cmpT
  rw [befB_same h, befB_same (fun j hj => (h j hj).symm)]
  rfl
theorem cmpI_zero {x y : Int} : cmpI x y = 0 ↔ x = y := by
  unfold cmpI
  by_cases c1 : x < y
  · rw [if_pos c1]; omega
  · rw [if_neg c1]
    by_cases c2 : y < x
    · rw [if_pos c2]; omega
    · rw [if_neg c2]; omega
set_option maxRecDepth 100000 in
set_option maxHeartbeats 1000000 in
theorem compare8 (b1 o1 b2 o2 : Nat) (f g : Nat → Int) (w : World) (h1 : ∀ k, k < 8 → w.cell? ⟨b1, o1 + k, none⟩ = some (.int .i64 (f k))) (h2 : ∀ k, k < 8 → w.cell? ⟨b2, o2 + k, none⟩ = some (.int .i64 (g k))) :
    Calls Try.prog 66 #[.slice (some ⟨b1, o1, none⟩) 8 8, .slice (some ⟨b2, o2, none⟩) 8 8] w fun e w' => e = .returned (.int .i64 (cmpT f g)) ∧ w' = w := by
  have H1 := hide h1
  have H2 := hide h2
  clear h1 h2
  go_enter Try.func66, Try.ntmps66
  go_wp2_with fail
  go_loopw [11] (fun i wr => ∃ k : Nat, k ≤ 8 ∧ i = .int .i64 k ∧ (∀ j, j < k → f j = g j) ∧ wr = w) (fun i _ => 8 - (intOf i).toNat)
  case atStart => exact ⟨0, Nat.zero_le _, rfl, fun j hj => by omega, rfl⟩
  case round =>
    obtain ⟨k, hk, rfl, hE, hw⟩ := hrel
    obtain rfl := hw.symm
    have HE := hide hE
    clear hE
    by_cases hlt : k < 8
    · have c1 := H1.out k hlt
      have c2 := H2.out k hlt
      have z1 := lt_of_cell c1
      have z2 := lt_of_cell c2
      have HH := hide (fun hn => cmpT_here (f := f) (g := g) hlt HE.out hn)
      have HS : Hid (f k = g k → ∀ j, j < k + 1 → f j = g j) := fun e j hj => by
        by_cases ej : j = k
        · subst ej; exact e
        · exact HE.out j (by omega)
      obtain ⟨a, ha⟩ : ∃ a, a = f k := ⟨_, rfl⟩
      obtain ⟨b, hb⟩ : ∃ b, b = g k := ⟨_, rfl⟩
      rw [← ha] at c1 HH HS
      rw [← hb] at c2 HH HS
      have HC := hide (cmp_any a b w)
      clear ha hb
      by_cases hab : a = b
      · have hz : cmpI a b = 0 := cmpI_zero.2 hab
        rw [hz] at HC
        have HAB := hide hab
        clear hab hz
        go_wp2_with (go_at_call 100; refine HC.out.mono ?_; rintro e w1 ⟨rfl, hw⟩; obtain rfl := hw.symm)
        go_roundw
        case rel => exact ⟨k + 1, by omega, by go_num, HS.out HAB.out, trivial⟩
        case measure => simp [intOf]; omega
      · have hz : cmpI a b ≠ 0 := fun e => hab (cmpI_zero.1 e)
        obtain ⟨C, hC⟩ : ∃ C, C = cmpI a b := ⟨_, rfl⟩
        rw [← hC] at HC hz
        have qC : (C != 0) = true := by simpa using hz
        have HAB := hide hab
        have HCC := hide hC
        clear hab hz hC
        go_wp2_with (go_at_call 100; refine HC.out.mono ?_; rintro e w1 ⟨rfl, hw⟩; obtain rfl := hw.symm)
        go_ret
        exact ⟨by rw [HH.out HAB.out, HCC.out]; rfl, rfl⟩
    · obtain rfl : k = 8 := by omega
      go_wp2_with fail
      go_ret
      exact ⟨by rw [cmpT_same HE.out]; rfl, rfl⟩
set_option maxRecDepth 100000 in
set_option maxHeartbeats 4000000 in
theorem byTime_any (p q : TW) (w : World) : Calls Try.prog 30 #[p.v, q.v] w fun e w' => e = .returned (.int .i64 (cmpT p.tm q.tm)) ∧ Below w.heap.size w w' := by
  have B0 : Below w.heap.size w ((w.alloc (.cells p.cs 63)).alloc (.cells q.cs 63)) := bl_on (bl_new _) (bl_new _)
  have P0 := (p.new w).below (bl_new (.cells q.cs 63))
  have P1 := q.new (w.alloc (.cells p.cs 63))
  rw [World.size_alloc] at P1
  obtain ⟨W, hW⟩ : ∃ W, W = (w.alloc (.cells p.cs 63)).alloc (.cells q.cs 63) := ⟨_, rfl⟩
  rw [← hW] at B0 P0 P1
  have tmc : ∀ (u : TW) (b : Nat) (V : World), u.blk V b → ∀ k, k < 8 → V.cell? ⟨b, 2 + k, none⟩ = some (.int .i64 (u.tm k)) := fun u b V h k hk => by
    have : k = 0 ∨ k = 1 ∨ k = 2 ∨ k = 3 ∨ k = 4 ∨ k = 5 ∨ k = 6 ∨ k = 7 := by omega
    obtain ⟨t0, t1, t2, t3, t4, t5, t6, t7, t8, t9, t10, t11, t12, t13, t14⟩ := h.cells
    rcases this with rfl | rfl | rfl | rfl | rfl | rfl | rfl | rfl
    · exact t2
    · exact t3
    · exact t4
    · exact t5
    · exact t6
    · exact t7
    · exact t8
    · exact t9
  have HC := hide (fun V (hb : Below W.heap.size W V) => compare8 w.heap.size 2 (w.heap.size + 1) 2 p.tm q.tm V (tmc p _ V (P0.below hb)) (tmc q _ V (P1.below hb)))
  have z0 := P0.lt
  have z1 := P1.lt
  have HB := hide B0
  have HW := hide hW
  clear B0 P0 P1 hW tmc
  unfold TW.cs at HW
  unfold TW.v TW.cs
  go_enter Try.func30, Try.ntmps30
  go_wp2_with fail
  rw [← HW.out]
  refine region_made 5 10 [fIs (.pointer (some ⟨w.heap.size, 2, none⟩)), fIs (.slice (some ⟨w.heap.size, 2, none⟩) 8 8), fIs (.pointer (some ⟨w.heap.size + 1, 2, none⟩)), fIs (.slice (some ⟨w.heap.size + 1, 2, none⟩) 8 8), fIs (.int .i64 (cmpT p.tm q.tm))] (by kernel_rfl) (by kernel_rfl) (by kernel_rfl) (fun _ ⟨_, _⟩ ⟨_, _⟩ _ e h => by cases e; exact h) ⟨fIs_good _, fIs_good _, fIs_good _, fIs_good _, fIs_good _, trivial⟩ ?mk ?rest
  case mk =>
    refine ⟨fun u wz hb hd => ?_, fun u wz hb hd => ?_, fun u wz hb hd => ?_, fun u wz hb hd => ?_, fun u wz hb hd => ?_, trivial⟩
    all_goals simp only [Act.put, List.setIfInBounds_toArray, List.set_cons_zero, List.set_cons_succ]
    · go_simp
      exact ⟨rfl, Below.refl _ _, fun h => by cases h⟩
    · have e0 : u 0 = .pointer (some ⟨w.heap.size, 2, none⟩) := hd 0 (by omega) (by kernel_rfl)
      rw [e0]
      go_simp
      exact ⟨rfl, Below.refl _ _, fun h => by cases h⟩
    · go_simp
      exact ⟨rfl, Below.refl _ _, fun h => by cases h⟩
    · have e2 : u 2 = .pointer (some ⟨w.heap.size + 1, 2, none⟩) := hd 2 (by omega) (by kernel_rfl)
      rw [e2]
      go_simp
      exact ⟨rfl, Below.refl _ _, fun h => by cases h⟩
    · have e1 : u 1 = .slice (some ⟨w.heap.size, 2, none⟩) 8 8 := hd 1 (by omega) (by kernel_rfl)
      have e3 : u 3 = .slice (some ⟨w.heap.size + 1, 2, none⟩) 8 8 := hd 3 (by omega) (by kernel_rfl)
      rw [e1, e3]
      go_simp
      refine (HC.out wz hb).mono ?_
      rintro e w2 ⟨rfl, hw2⟩
      exact ⟨rfl, by rw [hw2]; exact Below.refl _ _, fun h => by cases h⟩
  case rest =>
    intro u wz hb hf hp
    have f0 : u 0 = .pointer (some ⟨w.heap.size, 2, none⟩) := hf 0 (by omega)
    have f1 : u 1 = .slice (some ⟨w.heap.size, 2, none⟩) 8 8 := hf 1 (by omega)
    have f2 : u 2 = .pointer (some ⟨w.heap.size + 1, 2, none⟩) := hf 2 (by omega)
    have f3 : u 3 = .slice (some ⟨w.heap.size + 1, 2, none⟩) 8 8 := hf 3 (by omega)
    have f4 : u 4 = .int .i64 (cmpT p.tm q.tm) := hf 4 (by omega)
    refine UptoW.rest 1 5 (by rfl) (by kernel_rfl) ?_
    simp only [List.take, List.drop, putOps, Act.put, List.setIfInBounds_toArray, List.set_cons_zero, List.set_cons_succ, Nat.reduceAdd, f0, f1, f2, f3, f4]
    clear f0 f1 f2 f3 f4 hf hp
    have HB1 := hide (bl_on HB.out hb)
    clear hb
    go_wp2_with fail
    go_ret
    exact ⟨rfl, HB1.out⟩
def addsB (k : Int) : Bool := decide (k = 9) || decide (k = 10)
set_option maxRecDepth 100000 in
set_option maxHeartbeats 2000000 in
theorem adds_any (p : TW) (w : World) : Calls Try.prog 99 #[p.v] w fun e w' => e = .returned (.bool (addsB p.kd)) ∧ Below w.heap.size w w' := by
  have B0 : Below w.heap.size w (w.alloc (.cells p.cs 63)) := bl_new _
  have HB := hide B0
  clear B0
  unfold TW.cs at HB
  unfold TW.v TW.cs
  obtain ⟨K, hK⟩ : ∃ K, K = p.kd := ⟨_, rfl⟩
  rw [← hK] at HB ⊢
  clear hK
  by_cases c1 : K = 9
  · have e1 : addsB K = true := by simp [addsB, c1]
    rw [e1]
    clear e1
    subst c1
    go_enter Try.func99, Try.ntmps99
    go_wp2_with fail
    go_ret
    exact ⟨rfl, HB.out⟩
  · by_cases c2 : K = 10
    · have e1 : addsB K = true := by simp [addsB, c2]
      rw [e1]
      clear e1
      subst c2
      go_enter Try.func99, Try.ntmps99
      go_wp2_with fail
      go_ret
      exact ⟨rfl, HB.out⟩
    · have e1 : addsB K = false := by simp [addsB, c1, c2]
      rw [e1]
      have q1 : (K == 9) = false := by simpa using c1
      have q2 : (K == 10) = false := by simpa using c2
      clear e1
      go_enter Try.func99, Try.ntmps99
      go_wp2_with fail
      go_ret
      exact ⟨rfl, HB.out⟩
end Go.Proofs.Ytkbdnhchlkafnaa.V
namespace Go.Proofs.Ytkbdnhchlkafnaa.V
open Go Go.RowKit
set_option linter.unusedVariables false

def Ent.side (e : Ent) : Bool → Value
  | false => .slice e.pa e.pl e.pc
  | true => .slice e.ga e.gl e.gc
def iv (n : Nat) : Value := .int .i64 (n : Int)
theorem lookE_key (k : PW) : ∀ M : List Ent, (lookE k M).key = k
  | [] => rfl
  | x :: M => by
    rw [lookE_cons]
    by_cases h : k = x.key
    · rw [if_pos h, h]
    · rw [if_neg h]; exact lookE_key k M
theorem own_keep {W V : World} {B e size n : Nat} {v : Value} {xs : List Value} (h : W.ownsRow B e size v n xs) (hb : ∀ g, v.ownBlock = some g → V.heap[g]? = W.heap[g]?) : V.ownsRow B e size v n xs := by
  refine ⟨h.1, ?_⟩
  rcases h.2 with e | ⟨g, cap, cur, e1, e2, e3, e4⟩
  · exact .inl e
  · subst e1
    exact .inr ⟨g, cap, cur, rfl, e2, (hb g rfl).trans e3, e4⟩
theorem own_lt {W : World} {B e size n : Nat} {v : Value} {xs : List Value} (h : W.ownsRow B e size v n xs) : ∀ g, v.ownBlock = some g → (B ≤ g ∧ g < W.heap.size) ∧ ∃ cur, W.heap[g]? = some (.cells cur e (0, 0)) := by
  intro g e
  rcases h.2 with ⟨rfl, _⟩ | ⟨g', cap, cur, rfl, e2, e3, e4⟩
  · simp [Value.ownBlock] at e
  · obtain rfl : g' = g := by simpa [Value.ownBlock] using e
    exact ⟨⟨e2, (Array.getElem?_eq_some_iff.1 e3).1⟩, cur, e3⟩
/-- Who touched what. -/
structure Tch (W : World) (mb : Nat) (M : List Ent) (L : PW → Bool → List Nat) : Prop where
  map : MapAt W mb M
  own : ∀ k s, W.ownsRow mb 3 1 ((lookE k M).side s) (L k s).length ((L k s).map iv)
  apart : ∀ k s k' s' b, ((lookE k M).side s).ownBlock = some b → ((lookE k' M).side s').ownBlock = some b → k = k' ∧ s = s'
theorem MapAt.lt {W : World} {mb : Nat} {M : List Ent} (h : MapAt W mb M) : mb < W.heap.size := by
  obtain ⟨es, c, h1, _⟩ := h
  exact (Array.getElem?_eq_some_iff.1 h1).1
theorem MapAt.keep {W V : World} {mb : Nat} {M : List Ent} (h : MapAt W mb M) (hb : V.heap[mb]? = W.heap[mb]?) : MapAt V mb M := by
  obtain ⟨es, c, h1, h2⟩ := h
  exact ⟨es, c, hb.trans h1, h2⟩
theorem MapAt.ne {W : World} {mb : Nat} {M : List Ent} (h : MapAt W mb M) {g : Nat} {cur : Array Value} {e : TypeId} {f : Nat × Nat} (hg : W.heap[g]? = some (.cells cur e f)) : g ≠ mb := by
  obtain ⟨es, c, h1, _⟩ := h
  intro he
  rw [he, h1] at hg
  cases hg
theorem Tch.below {W V : World} {mb : Nat} {M : List Ent} {L : PW → Bool → List Nat} (h : Tch W mb M L) (hb : Below W.heap.size W V) : Tch V mb M L :=
  ⟨h.map.keep (hb.block mb h.map.lt), fun k s => own_keep (h.own k s) (fun g e => hb.block g (own_lt (h.own k s) g e).1.2), h.apart⟩
def addL (L : PW → Bool → List Nat) (k : PW) (s : Bool) (n : Nat) : PW → Bool → List Nat := fun k' s' => if k' = k ∧ s' = s then L k s ++ [n] else L k' s'
theorem addL_len (L : PW → Bool → List Nat) (k : PW) (s : Bool) (n : Nat) (k' : PW) (s' : Bool) : (addL L k s n k' s').length ≤ (L k' s').length + 1 := by
  unfold addL
  by_cases h : k' = k ∧ s' = s
  · obtain ⟨rfl, rfl⟩ := h
    simp
  · rw [if_neg h]; omega
theorem Tch.step {W V : World} {mb : Nat} {M : List Ent} {L : PW → Bool → List Nat} (h : Tch W mb M L) (k : PW) (s : Bool) (n : Nat) (e : Ent) (hek : e.key = k) (hot : e.side (!s) = (lookE k M).side (!s))
    (hnew : V.ownsRow mb 3 1 (e.side s) ((L k s).length + 1) ((L k s).map iv ++ [iv n]))
    (hat : (e.side s).ownBlock = ((lookE k M).side s).ownBlock ∨ ∃ b, (e.side s).ownBlock = some b ∧ W.heap.size ≤ b)
    (hmap : MapAt V mb (putR e M)) (hkeep : ∀ b, b < W.heap.size → b ≠ mb → ((lookE k M).side s).ownBlock ≠ some b → V.heap[b]? = W.heap[b]?) :
    Tch V mb (putR e M) (addL L k s n) := by
  have kp : ∀ k' s', ¬ (k' = k ∧ s' = s) → V.ownsRow mb 3 1 ((lookE k' M).side s') (L k' s').length ((L k' s').map iv) := fun k' s' hne => by
    refine own_keep (h.own k' s') (fun g eg => ?_)
    obtain ⟨⟨_, hl⟩, cur, hc⟩ := own_lt (h.own k' s') g eg
    exact hkeep g hl (h.map.ne hc) (fun e' => hne (h.apart k' s' k s g eg e'))
  have sd : ∀ k' s', ¬ (k' = k ∧ s' = s) → (lookE k' (putR e M)).side s' = (lookE k' M).side s' := fun k' s' hne => by
    rw [lookE_put]
    by_cases e1 : k' = e.key
    · rw [if_pos e1]
      have e2 : s' = !s := by
        by_cases e3 : s' = s
        · exact absurd ⟨e1.trans hek, e3⟩ hne
        · cases s <;> cases s' <;> simp_all
      rw [e2, hot, e1, hek]
    · rw [if_neg e1]
  have sn : (lookE k (putR e M)).side s = e.side s := by rw [lookE_put, if_pos hek.symm]
  have ap : ∀ k' s' b, ¬ (k' = k ∧ s' = s) → ((lookE k' M).side s').ownBlock = some b → (e.side s).ownBlock ≠ some b := fun k' s' b hne e1 e2 => by
    rcases hat with e3 | ⟨b', e3, e4⟩
    · rw [e3] at e2
      exact hne (h.apart k' s' k s b e1 e2)
    · rw [e3] at e2
      have hl := (own_lt (h.own k' s') b e1).1.2
      have : b' = b := Option.some.inj e2
      omega
  refine ⟨hmap, fun k' s' => ?_, fun k1 s1 k2 s2 b h1 h2 => ?_⟩
  · unfold addL
    by_cases e1 : k' = k ∧ s' = s
    · rw [if_pos e1]
      obtain ⟨rfl, rfl⟩ := e1
      rw [sn]
      simpa using hnew
    · rw [if_neg e1, sd k' s' e1]
      exact kp k' s' e1
  · by_cases e1 : k1 = k ∧ s1 = s <;> by_cases e2 : k2 = k ∧ s2 = s
    · exact ⟨e1.1.trans e2.1.symm, e1.2.trans e2.2.symm⟩
    · obtain ⟨rfl, rfl⟩ := e1
      rw [sn] at h1
      rw [sd k2 s2 e2] at h2
      exact absurd h1 (ap k2 s2 b e2 h2)
    · obtain ⟨rfl, rfl⟩ := e2
      rw [sn] at h2
      rw [sd k1 s1 e1] at h1
      exact absurd h2 (ap k1 s1 b e1 h1)
    · rw [sd k1 s1 e1] at h1
      rw [sd k2 s2 e2] at h2
      exact h.apart k1 s1 k2 s2 b h1 h2
/-- The lookup, at the operation. -/
theorem wp_look {w : World} {ops : Array Oper} {rest : List Oper} {o : Oper} {a : Act} {Q : Exit → Act → World → Prop} (hg : o.guard = none) (m x : Operand) (hop : o.op = Op.lookup 112 m x false) (mb : Nat) (M : List Ent) (k : PW) (e : Ent) (he : lookE k M = e)
    (hm : a.eval m = .map (some mb)) (hM : MapAt w mb M) (hx : a.eval x = k.v) (h : wpList Try.prog ops Q rest (a.put o.dst (.agg #[.slice e.pa e.pl e.pc, .slice e.ga e.gl e.gc])) w) : wpList Try.prog ops Q (o :: rest) a w := by
  refine wpList_plain hg fun K' hK' => ?_
  have hrun := run_look hM k
  rw [he] at hrun
  unfold Ent.vv at hrun
  unfold Oper.wp
  simp [execOp, hop, hm, hx, hrun, Result.andThen]
  exact hK' _ _ h
/-- An entry is put, at the operation. -/
theorem wp_put {w : World} {ops : Array Oper} {rest : List Oper} {o : Oper} {a : Act} {Q : Exit → Act → World → Prop} (hg : o.guard = none) (m x v : Operand) (hop : o.op = Op.mapUpdate 112 m x v) (mb : Nat) (M : List Ent) (e : Ent)
    (hm : a.eval m = .map (some mb)) (hM : MapAt w mb M) (hx : a.eval x = e.key.v) (hv : a.eval v = e.vv)
    (h : ∀ w', MapAt w' mb (putR e M) → (∀ b, b ≠ mb → w'.heap[b]? = w.heap[b]?) → w.grownBy w' (some mb) → wpList Try.prog ops Q rest (a.put o.dst undef) w') : wpList Try.prog ops Q (o :: rest) a w := by
  refine wpList_plain hg fun K' hK' => ?_
  obtain ⟨ob, hrun, hat⟩ := run_put hM e
  have h1 := h _ hat (fun b hb => by simp [hb.symm]) ⟨rfl, rfl, rfl, by simp, fun b _ hb => by
    have : mb ≠ b := fun e' => hb (by rw [e'])
    simp [this]⟩
  unfold Oper.wp
  simp [execOp, hop, hm, hx, hv, hrun, Result.andThen]
  exact hK' _ _ h1
theorem info_I : (Try.prog.info? 3).map (fun i => (i.zero, i.size, i.bytes)) = some (some (.int .i64 0), 1, 8) := by kernel_rfl
/-- append(list, number), at the operation: the number lies in the newest block. -/
theorem append_at {w : World} {ops : Array Oper} {rest : List Oper} {op : Oper} {a : Act} {Q : Exit → Act → World → Prop} (hgd : op.guard = none) (s x : Operand)
    (ho : op.op = .call { callee := .builtin .append, args := #[s, x], argTypes := #[22, 22] }) (B : Nat) (v : Value) (hs : a.eval s = v) (l : List Nat) (n : Nat) (hown : w.ownsRow B 3 1 v l.length (l.map iv))
    (X : Nat) (hx : a.eval x = .slice (some ⟨X, 0, none⟩) 1 1) (hX : X = w.heap.size) (hl : l.length ≤ 1000000000000) (hB : B ≤ w.heap.size)
    (h : ∀ g c w', w'.ownsRow B 3 1 (.slice (some ⟨g, 0, none⟩) (l.length + 1) c) (l.length + 1) (l.map iv ++ [iv n]) → w.grownBy w' v.ownBlock → (v.ownBlock = some g ∨ w.heap.size ≤ g) → wpList Try.prog ops Q rest (a.put op.dst (.slice (some ⟨g, 0, none⟩) (l.length + 1) c)) w') :
    wpList Try.prog ops Q (op :: rest) a (w.alloc (.cells #[iv n] 3)) := by
  subst hX
  obtain ⟨i0, hi, hz0, hz1, hz2⟩ := info_parts info_I
  refine wpList_append_own_at _ hgd s x 22 ho B 3 i0 (.int .i64 0) 1 8 Try.underlying22 hi hz0 hz1 hz2 rfl (by decide) v l.length (l.map iv) hs (hown.alloc _) ⟨w.heap.size, 0, none⟩ 1 1 [iv n] hx rfl (cell_one_new _ _ _) (by simp [iv, Value.oneCell']) (by unfold maxLen; omega) (by omega) (by simp; omega) (fun v' w' k1 k2 _ k4 => ?_)
  rcases k1.2 with ⟨_, e⟩ | ⟨g, cap, cur, rfl, e2, e3, e4⟩
  · omega
  · refine h g cap w' k1 ⟨k2.os, k2.tape, k2.output, Nat.le_trans (by simp) k2.size, fun b hb hn => (k2.block b (by simp; omega) hn).trans (Below.heap_alloc _ _ _ hb)⟩ ?_
    rcases k4 with e | e
    · exact .inl e.symm
    · refine .inr ?_
      have : g = (w.alloc (.cells #[iv n] 3)).heap.size := Option.some.inj e
      rw [this]
      simp
/-- The map after an append. -/
theorem Tch.app {w w2 w' : World} {mb : Nat} {M : List Ent} {L : PW → Bool → List Nat} (hT : Tch w mb M L) (k : PW) (s : Bool) (hb2 : Below w.heap.size w w2) (hg : w2.grownBy w' ((lookE k M).side s).ownBlock) {Y : Nat} (hY : w.heap.size ≤ Y) (i : Nat) (v : Value) : MapAt (w'.setCell ⟨Y, i, none⟩ v) mb M := by
  have hl := hT.map.lt
  refine hT.map.keep ((Below.heap_setCell _ ⟨Y, i, none⟩ _ mb (by simp only; omega)).trans ((hg.block mb (Nat.lt_of_lt_of_le hl hb2.size) (fun e => ?_)).trans (hb2.block mb hl)))
  obtain ⟨_, cur, hc⟩ := own_lt (hT.own k s) mb e.symm
  exact hT.map.ne hc rfl
theorem Tch.blk {w w2 w' : World} {mb : Nat} {M : List Ent} {L : PW → Bool → List Nat} (hT : Tch w mb M L) (k : PW) (s : Bool) (hg : w2.grownBy w' ((lookE k M).side s).ownBlock) {Y : Nat} (hY : w.heap.size ≤ Y) (hY2 : Y < w2.heap.size) : w'.heap[Y]? = w2.heap[Y]? := by
  refine hg.block Y hY2 (fun e => ?_)
  have := (own_lt (hT.own k s) Y e.symm).1.2
  omega
theorem Tch.mark {w w2 w' w4 : World} {mb : Nat} {M : List Ent} {L : PW → Bool → List Nat} (hT : Tch w mb M L) (k : PW) (s : Bool) (n g c : Nat) (e : Ent) (hek : e.key = k) (hes : e.side s = .slice (some ⟨g, 0, none⟩) ((L k s).length + 1) c) (hot : e.side (!s) = (lookE k M).side (!s)) (hb2 : Below w.heap.size w w2)
    (hown : w'.ownsRow mb 3 1 (.slice (some ⟨g, 0, none⟩) ((L k s).length + 1) c) ((L k s).length + 1) ((L k s).map iv ++ [iv n])) (hg : w2.grownBy w' ((lookE k M).side s).ownBlock) (hat : ((lookE k M).side s).ownBlock = some g ∨ w2.heap.size ≤ g) {Y : Nat} (hY : w.heap.size ≤ Y) (hY2 : Y < w2.heap.size) (v : Value) (i : Nat)
    (hm4 : MapAt w4 mb (putR e M)) (h4 : ∀ b, b ≠ mb → w4.heap[b]? = (w'.setCell ⟨Y, i, none⟩ v).heap[b]?) (hg4 : (w'.setCell ⟨Y, i, none⟩ v).grownBy w4 (some mb)) : Tch w4 mb (putR e M) (addL L k s n) ∧ Below mb w w4 := by
  have hl := hT.map.lt
  have hap := hT.app k s hb2 hg hY i v
  have hsz := hb2.size
  have hgl := own_lt hown g rfl
  have hgm : g ≠ mb := by
    obtain ⟨_, cur, hc⟩ := hgl
    refine MapAt.ne (W := w') (M := M) (hap.keep (Below.heap_setCell _ ⟨Y, i, none⟩ _ mb (by simp only; omega)).symm) hc
  have hgY : g ≠ Y := by
    rcases hat with e1 | e1
    · have := (own_lt (hT.own k s) g e1).1.2
      omega
    · omega
  refine ⟨hT.step k s n e hek hot ?_ ?_ hm4 (fun b hb h1 h2 => ?_), ?_⟩
  · rw [hes]
    refine own_keep hown (fun g' eg => ?_)
    obtain rfl : g = g' := Option.some.inj eg
    exact (h4 g hgm).trans (Below.heap_setCell _ ⟨Y, i, none⟩ _ g hgY)
  · rw [hes]
    rcases hat with e1 | e1
    · exact .inl e1.symm
    · exact .inr ⟨g, rfl, by omega⟩
  · exact (h4 b h1).trans ((Below.heap_setCell _ ⟨Y, i, none⟩ _ b (by simp only; omega)).trans ((hg.block b (by omega) (fun e => h2 e.symm)).trans (hb2.block b hb)))
  · have hb3 : Below mb w w2 := hb2.mono (by omega)
    have hb4 : Below mb w w' := hb3.grown hg (by omega) (fun j ej => (own_lt (hT.own k s) j ej).1.1)
    have hb5 : Below mb w (w'.setCell ⟨Y, i, none⟩ v) := hb4.setCell (p := ⟨Y, i, none⟩) (by simp only; omega) v
    refine hb5.grown hg4 ?_ (fun j ej => ?_)
    · rw [World.size_setCell]
      have := hg.size
      omega
    · have : mb = j := Option.some.inj ej
      omega
end Go.Proofs.Ytkbdnhchlkafnaa.V
namespace Go.Proofs.Ytkbdnhchlkafnaa.V
open Go Go.RowKit
set_option linter.unusedVariables false

def markL (L : PW → Bool → List Nat) (n : Nat) (p : PW) (ps : List PW) : PW → Bool → List Nat := ps.foldl (fun L q => addL L q true n) (addL L p false n)
theorem fold_len (n : Nat) : ∀ (ps : List PW) (L : PW → Bool → List Nat) (k : PW) (s : Bool), (ps.foldl (fun L q => addL L q true n) L k s).length ≤ (L k s).length + ps.length
  | [], L, k, s => by simp
  | q :: ps, L, k, s => by
    have h1 := fold_len n ps (addL L q true n) k s
    have h2 := addL_len L q true n k s
    simp only [List.foldl_cons, List.length_cons]
    omega
theorem markL_len (L : PW → Bool → List Nat) (n : Nat) (p : PW) (ps : List PW) (k : PW) (s : Bool) : (markL L n p ps k s).length ≤ (L k s).length + 1 + ps.length := by
  have h1 := fold_len n ps (addL L p false n) k s
  have h2 := addL_len L p false n k s
  unfold markL
  omega
theorem markL_snoc (L : PW → Bool → List Nat) (n : Nat) (p : PW) (ps : List PW) (q : PW) : markL L n p (ps ++ [q]) = addL (markL L n p ps) q true n := by simp [markL, List.foldl_append]
theorem tch_blk {w w2 w' : World} {mb Y : Nat} {M : List Ent} {L : PW → Bool → List Nat} (hT : Tch w mb M L) (k : PW) (s : Bool) (hg : w2.grownBy w' ((lookE k M).side s).ownBlock) (hY : w.heap.size ≤ Y) (hY2 : Y < w2.heap.size) {cs : Array Value} {t : TypeId} (h : w2.heap[Y]? = some (.cells cs t (0, 0))) :
    Y < w'.heap.size ∧ (∀ i, w'.frozen? ⟨Y, i, none⟩ = false) ∧ ∀ i, w'.cell? ⟨Y, i, none⟩ = cs[i]? := by
  have h1 := (hT.blk k s hg hY hY2).trans h
  exact ⟨Nat.lt_of_lt_of_le hY2 hg.size, fun i => by simp [World.frozen?, h1], fun i => by simp [World.cell?, h1]⟩
set_option maxRecDepth 100000 in
set_option maxHeartbeats 4000000 in
theorem mark_any (mb : Nat) (M : List Ent) (L : PW → Bool → List Nat) (n : Nat) (q : TW) (ps : List PW) (w : World) (hT : Tch w mb M L) (hin : ∀ W, Below mb w W → PlsAt W q.ga q.gl ps) (hl : ∀ k s, (L k s).length ≤ 1000000000) (hgl : q.gl ≤ 1000000000) :
    Calls Try.prog 65 #[.map (some mb), iv n, q.v] w fun e w' => (e = .returned (.tuple #[]) ∧ ∃ M', Tch w' mb M' (markL L n q.pu ps)) ∧ Below mb w w' := by
  have HIN := hide hin
  have HL := hide hl
  have HMB := hide hT.map.lt
  obtain ⟨e0, he0⟩ : ∃ e0, lookE q.pu M = e0 := ⟨_, rfl⟩
  have HT1 := hide (hT.below (V := w.alloc (.cells q.cs 63)) (bl_new _))
  have B2 : Below w.heap.size w ((w.alloc (.cells q.cs 63)).alloc (.cells #[.slice e0.pa e0.pl e0.pc, .slice e0.ga e0.gl e0.gc] 147)) := bl_on (bl_new _) (bl_new _)
  have HB2 := hide B2
  have HX : Hid (((w.alloc (.cells q.cs 63)).alloc (.cells #[.slice e0.pa e0.pl e0.pc, .slice e0.ga e0.gl e0.gc] 147)).heap[w.heap.size]? = some (.cells q.cs 63 (0, 0))) := (Below.heap_alloc _ _ _ (by simp)).trans (World.alloc_heap_new w _)
  have HY : Hid (((w.alloc (.cells q.cs 63)).alloc (.cells #[.slice e0.pa e0.pl e0.pc, .slice e0.ga e0.gl e0.gc] 147)).heap[w.heap.size + 1]? = some (.cells #[.slice e0.pa e0.pl e0.pc, .slice e0.ga e0.gl e0.gc] 147 (0, 0))) := by
    have := World.alloc_heap_new (w.alloc (.cells q.cs 63)) (.cells #[.slice e0.pa e0.pl e0.pc, .slice e0.ga e0.gl e0.gc] 147)
    rwa [World.size_alloc] at this
  have HOW := hide (show Go.World.ownsRow _ mb 3 1 (.slice e0.pa e0.pl e0.pc) (L q.pu false).length ((L q.pu false).map iv) from by
    have := (hT.below B2).own q.pu false
    rw [he0] at this
    exact this)
  have HT := hide hT
  clear hin hl B2 hT
  unfold iv TW.v
  go_enter Try.func65, Try.ntmps65
  unfold TW.cs
  go_wp2_with (first
    | (at_lookup; refine wp_look rfl (.tmp 10) (.tmp 12) rfl mb M q.pu e0 he0 rfl HT1.out.map rfl ?_)
    | (at_builtin; refine append_at rfl (.tmp 15) (.tmp 17) rfl mb (.slice e0.pa e0.pl e0.pc) rfl (L q.pu false) n HOW.out (w.heap.size + 1 + 1) rfl (by simp) (by have := HL.out q.pu false; omega) (by have := HMB.out; simp; omega) ?_; intro g c w1 hown hgr hat
       rw [show Value.ownBlock (.slice e0.pa e0.pl e0.pc) = ((lookE q.pu M).side false).ownBlock from by rw [he0]; rfl] at hgr hat
       obtain ⟨x1, x2, x3⟩ := tch_blk HT.out q.pu false hgr (Nat.le_refl _) (by simp only [World.size_alloc]; omega) HX.out
       obtain ⟨y1, y2, y3⟩ := tch_blk HT.out q.pu false hgr (by omega) (by simp only [World.size_alloc]; omega) HY.out
       have x12 : w1.cell? ⟨w.heap.size, 12, none⟩ = some (.int .i64 q.pu.arr) := x3 12
       have x13 : w1.cell? ⟨w.heap.size, 13, none⟩ = some (.int .i64 q.pu.pos) := x3 13
       have x14 : w1.cell? ⟨w.heap.size, 14, none⟩ = some (.slice q.ga q.gl q.gc) := x3 14
       have y0 := y3 0
       have y01 := y3 1
       have HOWN := hide hown
       have HGR := hide hgr
       have HAT := hide hat
       have HMA := hide (fun v => HT.out.app q.pu false HB2.out hgr (Y := w.heap.size + 1) (by omega) 0 v)
       clear x3 y3 hown hgr hat)
    | (at_mapUpdate; refine wp_put rfl (.tmp 20) (.tmp 22) (.tmp 23) rfl mb M ⟨q.pu, some ⟨g, 0, none⟩, (L q.pu false).length + 1, c, e0.ga, e0.gl, e0.gc⟩ rfl (HMA.out _) rfl rfl ?_; intro w4 hm4 hb4 hg4
       have hmk := HT.out.mark q.pu false n g c ⟨q.pu, some ⟨g, 0, none⟩, (L q.pu false).length + 1, c, e0.ga, e0.gl, e0.gc⟩ rfl rfl (by rw [he0]; rfl) HB2.out HOWN.out HGR.out HAT.out (Y := w.heap.size + 1) (by omega) (by simp only [World.size_alloc]; omega) _ 0 hm4 hb4 hg4
       have x14' : w4.cell? ⟨w.heap.size, 14, none⟩ = some (.slice q.ga q.gl q.gc) := by
         have h1 := hb4 w.heap.size (by have := HMB.out; omega)
         rw [Below.heap_setCell _ ⟨w.heap.size + 1, 0, none⟩ _ _ (by simp only; omega)] at h1
         exact (World.cell?_of_block (a := ⟨w.heap.size, 14, none⟩) h1).trans x14
       have x1' : w.heap.size < w4.heap.size := by
         have h1 := hg4.size
         rw [World.size_setCell] at h1
         omega
       have HTM : Hid (∃ M', Tch w4 mb M' (markL L n q.pu (ps.take 0))) := ⟨_, hmk.1⟩
       have HBM := hide hmk.2
       clear hmk hm4 hb4 hg4 x1 x2 x12 x13 x14 y1 y2 y0 y01 HOWN HGR HAT HMA)
    | fail)
  clear HT1 HB2 HX HY HOW
  have HPS : Hid (ps.length = q.gl) := (HIN.out w (Below.refl _ _)).1
  go_loopw [27] (fun i wr => ∃ k : Nat, k ≤ q.gl ∧ i = .int .i64 k ∧ (∃ M', Tch wr mb M' (markL L n q.pu (ps.take k))) ∧ Below mb w wr) (fun i _ => q.gl - (intOf i).toNat)
  case atStart => exact ⟨0, Nat.zero_le _, rfl, HTM.out, HBM.out⟩
  case round =>
    obtain ⟨k, hk, rfl, ⟨M', hT'⟩, hB'⟩ := hrel
    clear HTM HBM x14' x1'
    have HT' := hide hT'
    have HB' := hide hB'
    by_cases hlt : k < q.gl
    · obtain ⟨p1, p2, p3⟩ := HIN.out wr HB'.out
      obtain ⟨b, off, hga, hat⟩ := p3.resolve_left (by omega)
      obtain ⟨c0, c1⟩ := hat k hlt
      obtain ⟨p, hp⟩ : ∃ p : PW, p = (ps[k]?.getD ⟨0, 0⟩) := ⟨_, rfl⟩
      rw [← hp] at c0 c1
      have z0 := lt_of_cell c0
      have z1 := lt_of_cell c1
      obtain ⟨e1, he1⟩ : ∃ e1, lookE p M' = e1 := ⟨_, rfl⟩
      obtain ⟨L', hL'⟩ : ∃ L', L' = markL L n q.pu (ps.take k) := ⟨_, rfl⟩
      have hlen : (L' p true).length ≤ 1000000000000 := by
        have h1 := markL_len L n q.pu (ps.take k) p true
        have h2 := HL.out p true
        rw [List.length_take] at h1
        rw [hL']
        omega
      rw [← hL'] at hT'
      have HT1 := hide (hT'.below (V := (wr.alloc (.cells #[.int .i64 p.arr, .int .i64 p.pos] 60))) (bl_new _))
      have B2 : Below wr.heap.size wr ((wr.alloc (.cells #[.int .i64 p.arr, .int .i64 p.pos] 60)).alloc (.cells #[.slice e1.pa e1.pl e1.pc, .slice e1.ga e1.gl e1.gc] 147)) := bl_on (bl_new _) (bl_new _)
      have HB2 := hide B2
      have HX : Hid (((wr.alloc (.cells #[.int .i64 p.arr, .int .i64 p.pos] 60)).alloc (.cells #[.slice e1.pa e1.pl e1.pc, .slice e1.ga e1.gl e1.gc] 147)).heap[wr.heap.size]? = some (.cells #[.int .i64 p.arr, .int .i64 p.pos] 60 (0, 0))) := (Below.heap_alloc _ _ _ (by simp)).trans (World.alloc_heap_new wr _)
      have HY : Hid (((wr.alloc (.cells #[.int .i64 p.arr, .int .i64 p.pos] 60)).alloc (.cells #[.slice e1.pa e1.pl e1.pc, .slice e1.ga e1.gl e1.gc] 147)).heap[wr.heap.size + 1]? = some (.cells #[.slice e1.pa e1.pl e1.pc, .slice e1.ga e1.gl e1.gc] 147 (0, 0))) := by
        have := World.alloc_heap_new (wr.alloc (.cells #[.int .i64 p.arr, .int .i64 p.pos] 60)) (.cells #[.slice e1.pa e1.pl e1.pc, .slice e1.ga e1.gl e1.gc] 147)
        rwa [World.size_alloc] at this
      have HOW := hide (show Go.World.ownsRow ((wr.alloc (.cells #[.int .i64 p.arr, .int .i64 p.pos] 60)).alloc (.cells #[.slice e1.pa e1.pl e1.pc, .slice e1.ga e1.gl e1.gc] 147)) mb 3 1 (.slice e1.ga e1.gl e1.gc) (L' p true).length ((L' p true).map iv) from by
        have := (hT'.below B2).own p true
        rw [he1] at this
        exact this)
      have HMB' := hide hT'.map.lt
      have HTT := hide hT'
      have HLT := hide hL'
      have HLE := hide hlen
      have HPP := hide hp
      clear hT' HT' B2 hL' hlen hp hat p1 p2 p3 hB'
      rw [hga]
      go_wp2_with (first
        | (at_lookup; refine wp_look rfl (.tmp 31) (.tmp 32) rfl mb M' p e1 he1 rfl HT1.out.map rfl ?_)
        | (at_builtin; refine append_at rfl (.tmp 35) (.tmp 37) rfl mb (.slice e1.ga e1.gl e1.gc) rfl (L' p true) n HOW.out (wr.heap.size + 1 + 1) rfl (by simp) HLE.out (by have := HMB'.out; simp only [World.size_alloc]; omega) ?_; intro g c w1 hown hgr hat
           rw [show Value.ownBlock (.slice e1.ga e1.gl e1.gc) = ((lookE p M').side true).ownBlock from by rw [he1]; rfl] at hgr hat
           obtain ⟨x1, x2, x3⟩ := tch_blk HTT.out p true hgr (Nat.le_refl _) (by simp only [World.size_alloc]; omega) HX.out
           obtain ⟨y1, y2, y3⟩ := tch_blk HTT.out p true hgr (by omega) (by simp only [World.size_alloc]; omega) HY.out
           have x12 : w1.cell? ⟨wr.heap.size, 0, none⟩ = some (.int .i64 p.arr) := x3 0
           have x13 : w1.cell? ⟨wr.heap.size, 1, none⟩ = some (.int .i64 p.pos) := x3 1
           have y0 := y3 0
           have y01 := y3 1
           have HOWN := hide hown
           have HGR := hide hgr
           have HAT := hide hat
           have HMA := hide (fun v => HTT.out.app p true HB2.out hgr (Y := wr.heap.size + 1) (by omega) 1 v)
           clear x3 y3 hown hgr hat)
        | (at_mapUpdate; refine wp_put rfl (.tmp 40) (.tmp 41) (.tmp 42) rfl mb M' ⟨p, e1.pa, e1.pl, e1.pc, some ⟨g, 0, none⟩, (L' p true).length + 1, c⟩ rfl (HMA.out _) rfl rfl ?_; intro w4 hm4 hb4 hg4
           have hmk := HTT.out.mark p true n g c ⟨p, e1.pa, e1.pl, e1.pc, some ⟨g, 0, none⟩, (L' p true).length + 1, c⟩ rfl rfl (by rw [he1]; rfl) HB2.out HOWN.out HGR.out HAT.out (Y := wr.heap.size + 1) (by omega) (by simp only [World.size_alloc]; omega) _ 1 hm4 hb4 hg4
           have HTM : Hid (∃ M', Tch w4 mb M' (addL L' p true n)) := ⟨_, hmk.1⟩
           have HBM := hide hmk.2
           clear hmk hm4 hb4 hg4 x1 x2 x12 x13 y1 y2 y0 y01 HOWN HGR HAT HMA)
        | fail)
      refine ⟨⟨k + 1, by omega, rfl, ?_, HB'.out.trans HBM.out⟩, by simp [intOf]; omega⟩
      have hk' : k < ps.length := by rw [HPS.out]; exact hlt
      have e2 : ps.take (k + 1) = ps.take k ++ [p] := by
        rw [List.take_succ_eq_append_getElem hk', HPP.out]
        simp [hk']
      rw [e2, markL_snoc, ← HLT.out]
      exact HTM.out
    · have e1 : k = q.gl := by omega
      subst e1
      go_wp2_with fail
      go_end0
      rw [List.take_of_length_le (by rw [HPS.out]; exact Nat.le_refl _)] at HT'
      exact ⟨⟨rfl, M', HT'.out⟩, HB'.out⟩
end Go.Proofs.Ytkbdnhchlkafnaa.V
namespace Go.Proofs.Ytkbdnhchlkafnaa.V
open Go Go.RowKit
set_option linter.unusedVariables false

theorem own_mono {W : World} {B B' e size n : Nat} {v : Value} {xs : List Value} (h : W.ownsRow B e size v n xs) (hB : B' ≤ B) : W.ownsRow B' e size v n xs := by
  refine ⟨h.1, ?_⟩
  rcases h.2 with e | ⟨g, cap, cur, e1, e2, e3, e4⟩
  · exact .inl e
  · exact .inr ⟨g, cap, cur, e1, Nat.le_trans hB e2, e3, e4⟩
theorem row_read {W : World} {B m c : Nat} {A : Option Addr} {l : List Nat} (h : W.ownsRow B 3 1 (.slice A m c) l.length (l.map iv)) : m = l.length ∧ ∀ j, j < l.length → ∃ g, A = some ⟨g, 0, none⟩ ∧ W.cell? ⟨g, j, none⟩ = some (iv (l[j]?.getD 0)) := by
  have hl := h.1
  rcases h.2 with ⟨e, e2⟩ | ⟨g, cap, cur, e, e2, e3, e4⟩
  · cases e
    exact ⟨by omega, fun j hj => by omega⟩
  · cases e
    refine ⟨rfl, fun j hj => ⟨g, rfl, ?_⟩⟩
    have := h.cells (g := g) rfl j (iv (l[j]?.getD 0)) (by simp [hj])
    rw [Go.WideShapes.add_plain, Nat.zero_add] at this
    exact this
set_option maxRecDepth 100000 in
/-- The first field, at the operation. -/
theorem wp_field0 {w : World} {ops : Array Oper} {rest : List Oper} {o : Oper} {a : Act} {Q : Exit → Act → World → Prop} (hg : o.guard = none) (x : Operand) (hop : o.op = Op.field 147 x 0) (e : Ent) (hx : a.eval x = .agg #[.slice e.pa e.pl e.pc, .slice e.ga e.gl e.gc])
    (h : wpList Try.prog ops Q rest (a.put o.dst (.slice e.pa e.pl e.pc)) w) : wpList Try.prog ops Q (o :: rest) a w := by
  refine wpList_plain hg fun K' hK' => ?_
  have hf : Try.prog.fieldsOf 147 = #[{ name := "put", type := 22, offset := 0, embedded := false, tag := "", pkgPath := "adjoint/order", byteOffset := 0 }, { name := "got", type := 22, offset := 1, embedded := false, tag := "", pkgPath := "adjoint/order", byteOffset := 24 }] := by kernel_rfl
  have hu := Try.underlying147
  have hz := Try.sizeOf22
  have ha := Try.isAgg22
  unfold Oper.wp
  simp only [execOp, hop, hx]
  go_simp
  exact hK' _ _ h
/-- append(list, list...), at the operation. -/
theorem append_row {w : World} {ops : Array Oper} {rest : List Oper} {op : Oper} {a : Act} {Q : Exit → Act → World → Prop} (hgd : op.guard = none) (s x : Operand)
    (ho : op.op = .call { callee := .builtin .append, args := #[s, x], argTypes := #[22, 22] }) (B : Nat) (v : Value) (hs : a.eval s = v) (l l2 : List Nat) (hown : w.ownsRow B 3 1 v l.length (l.map iv))
    (A : Option Addr) (m c B2 : Nat) (hx : a.eval x = .slice A m c) (hrow : w.ownsRow B2 3 1 (.slice A m c) l2.length (l2.map iv)) (hl : l.length + l2.length ≤ 1000000000000) (hB : B ≤ w.heap.size)
    (h : ∀ v' w', w'.ownsRow B 3 1 v' (l ++ l2).length ((l ++ l2).map iv) → w.grownBy w' v.ownBlock → wpList Try.prog ops Q rest (a.put op.dst v') w') :
    wpList Try.prog ops Q (op :: rest) a w := by
  obtain ⟨i0, hi, hz0, hz1, hz2⟩ := info_parts info_I
  rcases hrow.2 with ⟨e, e2⟩ | ⟨g, cap, cur, e, e2, e3, e4⟩
  · cases e
    have hn : l2 = [] := List.eq_nil_of_length_eq_zero e2
    subst hn
    refine wpList_append_own_none hgd s x 22 ho B 3 i0 1 Try.underlying22 hi v l.length (l.map iv) hs hown hx ?_
    exact h v w (by simpa using hown) (World.grownBy.refl w _)
  · cases e
    refine wpList_append_own _ hgd s x 22 ho B 3 i0 (.int .i64 0) 1 8 Try.underlying22 hi hz0 hz1 hz2 rfl (by decide) v l.length (l.map iv) hs hown ⟨g, 0, none⟩ l2.length c (l2.map iv) hx (by simp) (hrow.cells (g := g) rfl) (fun u hu => ?_) (by unfold maxLen; omega) (by omega) hB (fun v' w' k1 k2 _ => h v' w' (by simpa using k1) k2)
    simp at hu
    obtain ⟨j, _, rfl⟩ := hu
    rfl
/-- What stands while 'ahead' gathers. -/
structure AInv (w : World) (q : TW) (e : Ent) (v : Value) (l : List Nat) (W : World) : Prop where
  below : Below w.heap.size w W
  spot : q.blk W w.heap.size
  tch : W.heap[w.heap.size + 1]? = some (.cells #[.slice e.pa e.pl e.pc, .slice e.ga e.gl e.gc] 147 (0, 0))
  own : W.ownsRow (w.heap.size + 1 + 1) 3 1 v l.length (l.map iv)
theorem AInv.grow {w W V : World} {q : TW} {e : Ent} {v : Value} {l : List Nat} (h : AInv w q e v l W) (hb : Below W.heap.size W V) : AInv w q e v l V :=
  ⟨bl_on h.below hb, h.spot.below hb, (hb.block _ (Array.getElem?_eq_some_iff.1 h.tch).1).trans h.tch, own_keep h.own (fun g eg => hb.block g (own_lt h.own g eg).1.2)⟩
theorem AInv.lt {w W : World} {q : TW} {e : Ent} {v : Value} {l : List Nat} (h : AInv w q e v l W) : w.heap.size + 1 + 1 ≤ W.heap.size := by
  have := (Array.getElem?_eq_some_iff.1 h.tch).1
  omega
theorem AInv.app {w W V : World} {q : TW} {e : Ent} {v v' : Value} {l l' : List Nat} (h : AInv w q e v l W) (ho : V.ownsRow (w.heap.size + 1 + 1) 3 1 v' l'.length (l'.map iv)) (hg : W.grownBy V v.ownBlock) : AInv w q e v' l' V := by
  have hl := h.lt
  have low : ∀ b, b < w.heap.size + 1 + 1 → V.heap[b]? = W.heap[b]? := fun b hb => hg.block b (by omega) (fun e => by have := (own_lt h.own b e.symm).1.1; omega)
  exact ⟨h.below.grown hg (by omega) (fun j ej => by have := (own_lt h.own j ej).1.1; omega), (low _ (by omega)).trans h.spot, (low _ (by omega)).trans h.tch, ho⟩
/-- Spots in a list that is handed in. -/
def TAt (W : World) (a : Option Addr) (len : Nat) (us : Nat → TW) : Prop := ∀ j, j < len → ∃ b off, a = some ⟨b, off, none⟩ ∧ ∀ i, i < 15 → W.cell? ⟨b, off + j * 15 + i, none⟩ = (us j).cs[i]?
theorem TAt.below {W V : World} {a : Option Addr} {len : Nat} {us : Nat → TW} (h : TAt W a len us) (hb : Below W.heap.size W V) : TAt V a len us := fun j hj => by
  obtain ⟨b, off, e, h1⟩ := h j hj
  refine ⟨b, off, e, fun i hi => ?_⟩
  have h2 := h1 i hi
  have hs : (us j).cs[i]? = some ((us j).cs[i]'(by simpa [TW.cs] using hi)) := Array.getElem?_eq_getElem _
  rw [hs] at h2 ⊢
  exact (hb.cell (p := ⟨b, off + j * 15 + i, none⟩) (lt_of_cell h2)).trans h2
/-- The numbers of those that are in a spot's way. -/
def wayB (kd : Nat → Int) (k : Int) (a : Nat) : Bool := !addsB (kd a) || !addsB k
def aheadL (L : PW → Bool → List Nat) (kd : Nat → Int) (k : Int) (p : PW) (ps : List PW) : List Nat := (L p false).filter (wayB kd k) ++ L p true ++ ps.flatMap (fun r => L r false)
set_option maxRecDepth 100000 in
set_option maxHeartbeats 4000000 in
theorem ahead_any (mb : Nat) (M : List Ent) (L : PW → Bool → List Nat) (aa : Option Addr) (al ac : Nat) (us : Nat → TW) (q : TW) (ps : List PW) (w : World) (hT : Tch w mb M L) (hA : TAt w aa al us) (hin : PlsAt w q.ga q.gl ps) (hlt : ∀ k s a, a ∈ L k s → a < al) (hal : al ≤ 9223372036854775807) (hl : ∀ k s, (L k s).length ≤ 1000000) (hgl : q.gl ≤ 1000) :
    Calls Try.prog 64 #[.map (some mb), .slice aa al ac, q.v] w fun e w' => (∃ v, e = .returned v ∧ w'.ownsRow w.heap.size 3 1 v (aheadL L (fun a => (us a).kd) q.kd q.pu ps).length ((aheadL L (fun a => (us a).kd) q.kd q.pu ps).map iv)) ∧ Below w.heap.size w w' := by
  have HIN := hide hin
  have HL := hide hl
  have HA := hide hA
  have HLT := hide hlt
  obtain ⟨e0, he0⟩ : ∃ e0, lookE q.pu M = e0 := ⟨_, rfl⟩
  have HT1 := hide (hT.below (V := w.alloc (.cells q.cs 63)) (bl_new _))
  have HI : Hid (AInv w q e0 (.slice none 0 0) [] ((w.alloc (.cells q.cs 63)).alloc (.cells #[.slice e0.pa e0.pl e0.pc, .slice e0.ga e0.gl e0.gc] 147))) := ⟨bl_on (bl_new _) (bl_new _), (TW.new q w).below (bl_new _), by
    have := World.alloc_heap_new (w.alloc (.cells q.cs 63)) (.cells #[.slice e0.pa e0.pl e0.pc, .slice e0.ga e0.gl e0.gc] 147)
    rwa [World.size_alloc] at this, World.ownsRow_nil _ _ _ _⟩
  have own0 : ∀ W, Below w.heap.size w W → ∀ s, W.ownsRow mb 3 1 (e0.side s) (L q.pu s).length ((L q.pu s).map iv) := fun W hb s => by
    have := (hT.below hb).own q.pu s
    rw [he0] at this
    exact this
  have HOW := hide own0
  have hpl : e0.pl = (L q.pu false).length := (row_read (own0 w (Below.refl _ _) false)).1
  have HT := hide hT
  obtain ⟨l, hl1⟩ : ∃ l, l = L q.pu false := ⟨_, rfl⟩
  have HLL : Hid (l.length ≤ 1000000) := by rw [Hid, hl1]; exact hl _ _
  have HL1 := hide hl1
  rw [← hl1] at hpl
  clear hin hl hA hlt hT own0 hl1
  unfold TW.v
  go_enter Try.func64, Try.ntmps64
  unfold TW.cs
  go_wp2_with (first
    | (at_lookup; refine wp_look rfl (.tmp 13) (.tmp 15) rfl mb M q.pu e0 he0 rfl HT1.out.map rfl ?_)
    | fail)
  clear HT1
  go_loopw [20, 8] (fun i v wr => ∃ k : Nat, k ≤ l.length ∧ i = .int .i64 k ∧ AInv w q e0 v ((l.take k).filter (wayB (fun a => (us a).kd) q.kd)) wr) (fun i _ _ => l.length - (intOf i).toNat)
  case atStart => exact ⟨0, Nat.zero_le _, rfl, by rw [List.take_zero, List.filter_nil]; have := HI.out; rw [hpl] at this; exact this⟩
  case round =>
    obtain ⟨k, hk, rfl, hI⟩ := hrel
    clear HI
    have HI := hide hI
    by_cases hlt : k < l.length
    · have hk64 : k < 1000000 := by have := HLL.out; omega
      obtain ⟨a, ha⟩ : ∃ a, a = l[k]?.getD 0 := ⟨_, rfl⟩
      have hmem : a ∈ l := by rw [ha]; simp [hlt]
      have hal2 : a < al := HLT.out q.pu false a (by rw [← HL1.out]; exact hmem)
      have htk : l.take (k + 1) = l.take k ++ [a] := by
        rw [List.take_succ_eq_append_getElem hlt, ha]
        simp [hlt]
      obtain ⟨g, hg, hcg⟩ := (row_read (HOW.out wr HI.out.below false)).2 k (by rw [← HL1.out]; exact hlt)
      rw [← HL1.out, ← ha] at hcg
      unfold iv at hcg
      have hgz := lt_of_cell hcg
      obtain ⟨b, off, hb, hc⟩ := (HA.out.below HI.out.below) a hal2
      obtain ⟨u, hu⟩ : ∃ u, u = us a := ⟨_, rfl⟩
      rw [← hu] at hc
      have HC := hide hc
      have HU := hide hu
      have HTK := hide htk
      clear ha hmem htk hc hu hI
      subst hb
      rw [hg]
      have c0 : wr.cell? ⟨b, off + a * 15, none⟩ = some (.int .i64 u.stm) := HC.out 0 (by omega)
      have cz0 := lt_of_cell c0
      have c1 : wr.cell? ⟨b, off + a * 15 + 1, none⟩ = some (.slice u.xa u.xl u.xc) := HC.out 1 (by omega)
      have cz1 := lt_of_cell c1
      have c2 : wr.cell? ⟨b, off + a * 15 + 2, none⟩ = some (.int .i64 (u.tm 0)) := HC.out 2 (by omega)
      have cz2 := lt_of_cell c2
      have c3 : wr.cell? ⟨b, off + a * 15 + 3, none⟩ = some (.int .i64 (u.tm 1)) := HC.out 3 (by omega)
      have cz3 := lt_of_cell c3
      have c4 : wr.cell? ⟨b, off + a * 15 + 4, none⟩ = some (.int .i64 (u.tm 2)) := HC.out 4 (by omega)
      have cz4 := lt_of_cell c4
      have c5 : wr.cell? ⟨b, off + a * 15 + 5, none⟩ = some (.int .i64 (u.tm 3)) := HC.out 5 (by omega)
      have cz5 := lt_of_cell c5
      have c6 : wr.cell? ⟨b, off + a * 15 + 6, none⟩ = some (.int .i64 (u.tm 4)) := HC.out 6 (by omega)
      have cz6 := lt_of_cell c6
      have c7 : wr.cell? ⟨b, off + a * 15 + 7, none⟩ = some (.int .i64 (u.tm 5)) := HC.out 7 (by omega)
      have cz7 := lt_of_cell c7
      have c8 : wr.cell? ⟨b, off + a * 15 + 8, none⟩ = some (.int .i64 (u.tm 6)) := HC.out 8 (by omega)
      have cz8 := lt_of_cell c8
      have c9 : wr.cell? ⟨b, off + a * 15 + 9, none⟩ = some (.int .i64 (u.tm 7)) := HC.out 9 (by omega)
      have cz9 := lt_of_cell c9
      have c10 : wr.cell? ⟨b, off + a * 15 + 10, none⟩ = some (.int .i64 u.kd) := HC.out 10 (by omega)
      have cz10 := lt_of_cell c10
      have c11 : wr.cell? ⟨b, off + a * 15 + 11, none⟩ = some (.int .i64 u.va) := HC.out 11 (by omega)
      have cz11 := lt_of_cell c11
      have c12 : wr.cell? ⟨b, off + a * 15 + 12, none⟩ = some (.int .i64 u.pu.arr) := HC.out 12 (by omega)
      have cz12 := lt_of_cell c12
      have c13 : wr.cell? ⟨b, off + a * 15 + 13, none⟩ = some (.int .i64 u.pu.pos) := HC.out 13 (by omega)
      have cz13 := lt_of_cell c13
      have c14 : wr.cell? ⟨b, off + a * 15 + 14, none⟩ = some (.slice u.ga u.gl u.gc) := HC.out 14 (by omega)
      have cz14 := lt_of_cell c14
      have HFL : Hid (((l.take k).filter (wayB (fun a => (us a).kd) q.kd)).length ≤ 1000000000000) := by
        have h1 := List.length_filter_le (wayB (fun a => (us a).kd) q.kd) (l.take k)
        have h2 := HLL.out
        rw [List.length_take] at h1
        rw [Hid]
        omega
      cases hadd : addsB u.kd with
      | false => 
          go_wp2_with fail
          refine (adds_any u wr).mono ?_
          rintro e w3 ⟨rfl, hb3⟩
          rw [hadd]
          have HIW := hide (HI.out.grow hb3)
          clear c0 cz0 c1 cz1 c2 cz2 c3 cz3 c4 cz4 c5 cz5 c6 cz6 c7 cz7 c8 cz8 c9 cz9 c10 cz10 c11 cz11 c12 cz12 c13 cz13 c14 cz14
          clear hb3 hcg hgz HC
          go_wp2_with (first
            | (at_builtin; refine append_at rfl (.tmp 35) (.tmp 37) rfl (w.heap.size + 1 + 1) _ rfl ((l.take k).filter (wayB (fun a => (us a).kd) q.kd)) a HIW.out.own w3.heap.size rfl rfl ?_ HIW.out.lt ?_; exact HFL.out; intro g2 c2 w9 hown hgr hat
               have HI9 := hide (HIW.out.app (l' := ((l.take k).filter (wayB (fun a => (us a).kd) q.kd)) ++ [a]) (by simpa using hown) hgr)
               clear hown hgr hat)
            | fail)
          refine ⟨⟨k + 1, by omega, rfl, ?_⟩, by simp [intOf]; omega⟩
          have e9 : (l.take (k + 1)).filter (wayB (fun a => (us a).kd) q.kd) = ((l.take k).filter (wayB (fun a => (us a).kd) q.kd)) ++ [a] := by
            rw [HTK.out, List.filter_append]
            congr 1
            simp [wayB, ← HU.out, hadd]
          rw [e9]
          exact HI9.out
      | true =>
        cases hadq : addsB q.kd with
        | false => 
            go_wp2_with fail
            refine (adds_any u wr).mono ?_
            rintro e w3 ⟨rfl, hb3⟩
            rw [hadd]
            have HIV := hide (HI.out.grow hb3)
            clear c0 cz0 c1 cz1 c2 cz2 c3 cz3 c4 cz4 c5 cz5 c6 cz6 c7 cz7 c8 cz8 c9 cz9 c10 cz10 c11 cz11 c12 cz12 c13 cz13 c14 cz14
            clear hb3 hcg hgz HC
            obtain ⟨d0, d1, d2, d3, d4, d5, d6, d7, d8, d9, d10, d11, d12, d13, d14⟩ := HIV.out.spot.cells
            have dz := HIV.out.spot.lt
            go_wp2_with fail
            refine (adds_any q w3).mono ?_
            rintro e w5 ⟨rfl, hb5⟩
            rw [hadq]
            have HIW := hide (HIV.out.grow hb5)
            clear hb5 d0 d1 d2 d3 d4 d5 d6 d7 d8 d9 d10 d11 d12 d13 d14 dz
            go_wp2_with (first
              | (at_builtin; refine append_at rfl (.tmp 35) (.tmp 37) rfl (w.heap.size + 1 + 1) _ rfl ((l.take k).filter (wayB (fun a => (us a).kd) q.kd)) a HIW.out.own w5.heap.size rfl rfl ?_ HIW.out.lt ?_; exact HFL.out; intro g2 c2 w9 hown hgr hat
                 have HI9 := hide (HIW.out.app (l' := ((l.take k).filter (wayB (fun a => (us a).kd) q.kd)) ++ [a]) (by simpa using hown) hgr)
                 clear hown hgr hat)
              | fail)
            refine ⟨⟨k + 1, by omega, rfl, ?_⟩, by simp [intOf]; omega⟩
            have e9 : (l.take (k + 1)).filter (wayB (fun a => (us a).kd) q.kd) = ((l.take k).filter (wayB (fun a => (us a).kd) q.kd)) ++ [a] := by
              rw [HTK.out, List.filter_append]
              congr 1
              simp [wayB, ← HU.out, hadd, hadq]
            rw [e9]
            exact HI9.out
        | true => 
            go_wp2_with fail
            refine (adds_any u wr).mono ?_
            rintro e w3 ⟨rfl, hb3⟩
            rw [hadd]
            have HIV := hide (HI.out.grow hb3)
            clear c0 cz0 c1 cz1 c2 cz2 c3 cz3 c4 cz4 c5 cz5 c6 cz6 c7 cz7 c8 cz8 c9 cz9 c10 cz10 c11 cz11 c12 cz12 c13 cz13 c14 cz14
            clear hb3 hcg hgz HC
            obtain ⟨d0, d1, d2, d3, d4, d5, d6, d7, d8, d9, d10, d11, d12, d13, d14⟩ := HIV.out.spot.cells
            have dz := HIV.out.spot.lt
            go_wp2_with fail
            refine (adds_any q w3).mono ?_
            rintro e w5 ⟨rfl, hb5⟩
            rw [hadq]
            have HIW := hide (HIV.out.grow hb5)
            clear hb5 d0 d1 d2 d3 d4 d5 d6 d7 d8 d9 d10 d11 d12 d13 d14 dz
            go_wp2_with fail
            refine ⟨⟨k + 1, by omega, rfl, ?_⟩, by simp [intOf]; omega⟩
            have e9 : (l.take (k + 1)).filter (wayB (fun a => (us a).kd) q.kd) = ((l.take k).filter (wayB (fun a => (us a).kd) q.kd)) := by
              rw [HTK.out, List.filter_append]
              have : [a].filter (wayB (fun a => (us a).kd) q.kd) = [] := by simp [wayB, ← HU.out, hadd, hadq]
              rw [this, List.append_nil]
            rw [e9]
            exact HIW.out
    · have e1 : k = l.length := by omega
      subst e1
      rw [List.take_length] at HI
      obtain ⟨fl, hfl⟩ : ∃ fl, fl = l.filter (wayB (fun a => (us a).kd) q.kd) := ⟨_, rfl⟩
      rw [← hfl] at HI
      have HFL : Hid (fl.length ≤ 1000000) := by
        have h1 := List.length_filter_le (wayB (fun a => (us a).kd) q.kd) l
        have h2 := HLL.out
        rw [Hid, hfl]
        omega
      have HFE := hide hfl
      have y0 : wr.cell? ⟨w.heap.size + 1, 0, none⟩ = some (.slice e0.pa e0.pl e0.pc) := by simp [World.cell?, HI.out.tch]
      have y1 : wr.cell? ⟨w.heap.size + 1, 1, none⟩ = some (.slice e0.ga e0.gl e0.gc) := by simp [World.cell?, HI.out.tch]
      have yz := lt_of_cell y0
      have HRW := hide (HOW.out wr HI.out.below true)
      have HLG := hide (HL.out q.pu true)
      clear hfl hI
      go_wp2_with (first
        | (at_builtin; refine append_row rfl (.tmp 40) (.tmp 42) rfl (w.heap.size + 1 + 1) _ rfl fl (L q.pu true) HI.out.own e0.ga e0.gl e0.gc mb rfl HRW.out ?_ HI.out.lt ?_; (have h1 := HFL.out; have h2 := HLG.out; omega); intro v2 w2 hown hgr
           have HI2 := hide (HI.out.app (l' := fl ++ L q.pu true) hown hgr)
           obtain ⟨d0, d1, d2, d3, d4, d5, d6, d7, d8, d9, d10, d11, d12, d13, d14⟩ := HI2.out.spot.cells
           have dz := HI2.out.spot.lt
           clear hown hgr)
        | fail)
      clear d0 d1 d2 d3 d4 d5 d6 d7 d8 d9 d10 d11 d12 d13 d14 dz y0 y1 yz HRW
      have HPS : Hid (ps.length = q.gl) := HIN.out.1
      go_loopw [47, 8] (fun i v w4 => ∃ k : Nat, k ≤ q.gl ∧ i = .int .i64 k ∧ AInv w q e0 v (fl ++ L q.pu true ++ (ps.take k).flatMap (fun r => L r false)) w4) (fun i _ _ => q.gl - (intOf i).toNat)
      case atStart => exact ⟨0, Nat.zero_le _, rfl, by simpa using HI2.out⟩
      case round =>
        clear HI2 HI
        obtain ⟨k, hk, rfl, hI⟩ := hrel
        have HI := hide hI
        by_cases hlt : k < q.gl
        · obtain ⟨p1, p2, p3⟩ := HIN.out
          obtain ⟨b, off, hga, hat⟩ := p3.resolve_left (by omega)
          obtain ⟨c0, c1⟩ := hat k hlt
          obtain ⟨p, hp⟩ : ∃ p : PW, p = (ps[k]?.getD ⟨0, 0⟩) := ⟨_, rfl⟩
          rw [← hp] at c0 c1
          have c0' := (HI.out.below.cell (p := ⟨b, off + k * 2, none⟩) (lt_of_cell c0)).trans c0
          have c1' := (HI.out.below.cell (p := ⟨b, off + k * 2 + 1, none⟩) (lt_of_cell c1)).trans c1
          have z0 := lt_of_cell c0'
          have z1 := lt_of_cell c1'
          obtain ⟨e1, he1⟩ : ∃ e1, lookE p M = e1 := ⟨_, rfl⟩
          have hT1 := HT.out.below (V := (wr.alloc (.cells #[.int .i64 p.arr, .int .i64 p.pos] 60))) (bl_on HI.out.below (bl_new _))
          have HT1 := hide hT1
          have HRW := hide (show Go.World.ownsRow (wr.alloc (.cells #[.int .i64 p.arr, .int .i64 p.pos] 60)) mb 3 1 (.slice e1.pa e1.pl e1.pc) (L p false).length ((L p false).map iv) from by
            have := hT1.own p false
            rw [he1] at this
            exact this)
          have HI3 := hide (HI.out.grow (V := (wr.alloc (.cells #[.int .i64 p.arr, .int .i64 p.pos] 60))) (bl_new _))
          have HLE : Hid ((fl ++ L q.pu true ++ (ps.take k).flatMap (fun r => L r false)).length + (L p false).length ≤ 1000000000000) := by
            have h1 := HFL.out
            have h2 := HL.out q.pu true
            have h3 := HL.out p false
            have h4 : ∀ xs : List PW, (xs.flatMap (fun r => L r false)).length ≤ xs.length * 1000000 := fun xs => by
              induction xs with
              | nil => simp
              | cons x xs ih =>
                have := HL.out x false
                simp only [List.flatMap_cons, List.length_append, List.length_cons]
                omega
            have h5 := h4 (ps.take k)
            rw [List.length_take] at h5
            rw [Hid, List.length_append, List.length_append]
            omega
          have HPP := hide hp
          clear hT1 hI hat c0 c1 hp p1 p2 p3
          rw [hga]
          go_wp2_with (first
            | (at_lookup; refine wp_look rfl (.tmp 52) (.tmp 53) rfl mb M p e1 he1 rfl HT1.out.map rfl ?_)
            | (refine wp_field0 rfl (.tmp 54) rfl e1 rfl ?_)
            | (at_builtin; refine append_row rfl (.tmp 51) (.tmp 55) rfl (w.heap.size + 1 + 1) _ rfl (fl ++ L q.pu true ++ (ps.take k).flatMap (fun r => L r false)) (L p false) HI3.out.own e1.pa e1.pl e1.pc mb rfl HRW.out HLE.out HI3.out.lt ?_; intro v6 w6 hown hgr
               have HI6 := hide (HI3.out.app hown hgr)
               clear hown hgr)
            | fail)
          refine ⟨⟨k + 1, by omega, rfl, ?_⟩, by simp [intOf]; omega⟩
          have hk' : k < ps.length := by rw [HPS.out]; exact hlt
          have e2 : ps.take (k + 1) = ps.take k ++ [p] := by
            rw [List.take_succ_eq_append_getElem hk', HPP.out]
            simp [hk']
          have e3 : fl ++ L q.pu true ++ (ps.take (k + 1)).flatMap (fun r => L r false) = fl ++ L q.pu true ++ (ps.take k).flatMap (fun r => L r false) ++ L p false := by
            rw [e2, List.flatMap_append]
            simp
          rw [e3]
          exact HI6.out
        · have e1 : k = q.gl := by omega
          subst e1
          rw [List.take_of_length_le (by rw [HPS.out]; exact Nat.le_refl _)] at HI
          go_wp2_with fail
          go_ret
          refine ⟨⟨_, rfl, ?_⟩, HI.out.below⟩
          have e2 : aheadL L (fun a => (us a).kd) q.kd q.pu ps = fl ++ L q.pu true ++ ps.flatMap (fun r => L r false) := by
            unfold aheadL
            rw [← HL1.out, ← HFE.out]
          rw [e2]
          exact own_mono HI.out.own (by omega)
end Go.Proofs.Ytkbdnhchlkafnaa.V
namespace Go.Proofs.Ytkbdnhchlkafnaa.V
open Go Go.RowKit
set_option linter.unusedVariables false

/-- Who touched what, when k spots have been gone through. -/
def touchL (S : Nat → Sp) : Nat → PW → Bool → List Nat
  | 0 => fun _ _ => []
  | k + 1 => if (S k).put.pos = -1 then touchL S k else markL (touchL S k) k (S k).put (S k).gets
theorem mem_addL (L : PW → Bool → List Nat) (p : PW) (s : Bool) (n a : Nat) (p' : PW) (s' : Bool) : a ∈ addL L p s n p' s' ↔ a ∈ L p' s' ∨ (a = n ∧ p' = p ∧ s' = s) := by
  unfold addL
  by_cases h : p' = p ∧ s' = s
  · obtain ⟨rfl, rfl⟩ := h
    simp
  · rw [if_neg h]
    constructor
    · exact fun h' => .inl h'
    · rintro (h' | ⟨_, h'⟩)
      · exact h'
      · exact absurd h' h
theorem mem_fold (n a : Nat) (p' : PW) (s' : Bool) : ∀ (ps : List PW) (L : PW → Bool → List Nat), a ∈ ps.foldl (fun L q => addL L q true n) L p' s' ↔ a ∈ L p' s' ∨ (a = n ∧ p' ∈ ps ∧ s' = true)
  | [], L => by simp
  | q :: ps, L => by
    rw [List.foldl_cons, mem_fold n a p' s' ps, mem_addL]
    simp only [List.mem_cons]
    constructor
    · rintro ((h | ⟨h1, h2, h3⟩) | ⟨h1, h2, h3⟩)
      · exact .inl h
      · exact .inr ⟨h1, .inl h2, h3⟩
      · exact .inr ⟨h1, .inr h2, h3⟩
    · rintro (h | ⟨h1, h2 | h2, h3⟩)
      · exact .inl (.inl h)
      · exact .inl (.inr ⟨h1, h2, h3⟩)
      · exact .inr ⟨h1, h2, h3⟩
theorem mem_markL (L : PW → Bool → List Nat) (n a : Nat) (p : PW) (ps : List PW) (p' : PW) (s' : Bool) : a ∈ markL L n p ps p' s' ↔ a ∈ L p' s' ∨ (a = n ∧ ((s' = false ∧ p' = p) ∨ (s' = true ∧ p' ∈ ps))) := by
  unfold markL
  rw [mem_fold, mem_addL]
  constructor
  · rintro ((h | ⟨h1, h2, h3⟩) | ⟨h1, h2, h3⟩)
    · exact .inl h
    · exact .inr ⟨h1, .inl ⟨h3, h2⟩⟩
    · exact .inr ⟨h1, .inr ⟨h3, h2⟩⟩
  · rintro (h | ⟨h1, ⟨h2, h3⟩ | ⟨h2, h3⟩⟩)
    · exact .inl (.inl h)
    · exact .inl (.inr ⟨h1, h3, h2⟩)
    · exact .inr ⟨h1, h3, h2⟩
theorem mem_touch (S : Nat → Sp) (a : Nat) (p : PW) (s : Bool) : ∀ k, a ∈ touchL S k p s ↔ a < k ∧ (S a).put.pos ≠ -1 ∧ ((s = false ∧ p = (S a).put) ∨ (s = true ∧ p ∈ (S a).gets))
  | 0 => by simp [touchL]
  | k + 1 => by
    unfold touchL
    by_cases h : (S k).put.pos = -1
    · rw [if_pos h, mem_touch S a p s k]
      constructor
      · rintro ⟨h1, h2⟩; exact ⟨by omega, h2⟩
      · rintro ⟨h1, h2, h3⟩
        refine ⟨?_, h2, h3⟩
        rcases Nat.lt_or_ge a k with c | c
        · exact c
        · obtain rfl : a = k := by omega
          exact absurd h h2
    · rw [if_neg h, mem_markL, mem_touch S a p s k]
      constructor
      · rintro (⟨h1, h2⟩ | ⟨rfl, h2⟩)
        · exact ⟨by omega, h2⟩
        · exact ⟨by omega, h, h2⟩
      · rintro ⟨h1, h2, h3⟩
        rcases Nat.lt_or_ge a k with c | c
        · exact .inl ⟨c, h2, h3⟩
        · obtain rfl : a = k := by omega
          exact .inr ⟨rfl, h3⟩
theorem touch_len (S : Nat → Sp) (g : Nat) (hg : ∀ j, (S j).gets.length ≤ g) (p : PW) (s : Bool) : ∀ k, (touchL S k p s).length ≤ k * (g + 1)
  | 0 => by simp [touchL]
  | k + 1 => by
    have ih := touch_len S g hg p s k
    have h1 := hg k
    rw [Nat.succ_mul]
    unfold touchL
    by_cases h : (S k).put.pos = -1
    · rw [if_pos h]; omega
    · rw [if_neg h]
      have := markL_len (touchL S k) k (S k).put (S k).gets p s
      omega
/-- In each other's way. -/
def wayP (a b : Sp) : Prop := a.put.pos ≠ -1 ∧ ((a.put = b.put ∧ ¬ (addsB a.kd = true ∧ addsB b.kd = true)) ∨ a.put ∈ b.gets ∨ b.put ∈ a.gets)
theorem mem_ahead (S : Nat → Sp) (kd : Nat → Int) (hkd : ∀ j, kd j = (S j).kd) (a k : Nat) : a ∈ aheadL (touchL S k) kd (S k).kd (S k).put (S k).gets ↔ a < k ∧ wayP (S a) (S k) := by
  unfold aheadL wayP
  simp only [List.mem_append, List.mem_filter, List.mem_flatMap, mem_touch, wayB, hkd]
  constructor
  · rintro ((⟨⟨h1, h2, h3⟩, h4⟩ | ⟨h1, h2, h3⟩) | ⟨r, hr, h1, h2, h3⟩)
    · refine ⟨h1, h2, .inl ⟨?_, ?_⟩⟩
      · rcases h3 with h3 | h3
        · exact h3.2.symm
        · cases h3.1
      · rintro ⟨e1, e2⟩
        simp [e1, e2] at h4
    · refine ⟨h1, h2, .inr (.inr ?_)⟩
      rcases h3 with h3 | h3
      · cases h3.1
      · exact h3.2
    · refine ⟨h1, h2, .inr (.inl ?_)⟩
      rcases h3 with h3 | h3
      · rw [← h3.2]; exact hr
      · cases h3.1
  · rintro ⟨h1, h2, (⟨h3, h4⟩ | h3 | h3)⟩
    · refine .inl (.inl ⟨⟨h1, h2, .inl ⟨trivial, h3.symm⟩⟩, ?_⟩)
      cases e1 : addsB (S a).kd <;> cases e2 : addsB (S k).kd <;> simp_all
    · exact .inr ⟨(S a).put, h3, h1, h2, .inl ⟨trivial, rfl⟩⟩
    · exact .inl (.inr ⟨h1, h2, .inr ⟨trivial, h3⟩⟩)
end Go.Proofs.Ytkbdnhchlkafnaa.V
namespace Go.Proofs.Ytkbdnhchlkafnaa.V
open Go Go.RowKit
set_option linter.unusedVariables false

theorem lead_pos {zs : List Int} (hz : ∀ z ∈ zs, 0 ≤ z) {a : Acc} (h0 : 0 ≤ a.1) (h1 : a.1 < (zs.length : Int)) (x : List Int) : ((leadV zs a x).pos ≠ -1 ↔ inM (memZ zs) a x) ∧ (inM (memZ zs) a x → (leadV zs a x).pos = worthV a.2 x) := by
  have hl := memZ_arr hz a.1.toNat (by omega)
  unfold inM leadV
  rw [hl]
  simp only
  constructor
  · constructor
    · intro h
      by_cases c : worthV a.2 x < 0 ∨ zs[a.1.toNat]?.getD 0 ≤ worthV a.2 x
      · rw [if_pos c] at h; exact absurd rfl h
      · omega
    · intro h
      rw [if_neg (by omega)]
      omega
  · intro h
    rw [if_neg (by omega)]
theorem lead_same {zs : List Int} (hz : ∀ z ∈ zs, 0 ≤ z) {a b : Acc} (a0 : 0 ≤ a.1) (a1 : a.1 < (zs.length : Int)) (b0 : 0 ≤ b.1) (b1 : b.1 < (zs.length : Int)) {x y : List Int} (hin : inM (memZ zs) a x) : leadV zs a x = leadV zs b y ↔ a.1 = b.1 ∧ inM (memZ zs) b y ∧ worthV a.2 x = worthV b.2 y := by
  obtain ⟨p1, p2⟩ := lead_pos hz a0 a1 x
  obtain ⟨q1, q2⟩ := lead_pos hz b0 b1 y
  rw [pw_ext]
  have e1 : (leadV zs a x).arr = a.1 := rfl
  have e2 : (leadV zs b y).arr = b.1 := rfl
  rw [e1, e2, p2 hin]
  constructor
  · rintro ⟨h1, h2⟩
    have h3 : inM (memZ zs) b y := q1.1 (by rw [← h2, ← p2 hin]; exact p1.2 hin)
    exact ⟨h1, h3, by rw [h2, q2 h3]⟩
  · rintro ⟨h1, h2, h3⟩
    exact ⟨h1, by rw [q2 h2, h3]⟩
theorem adds_kind {k : Int} (h : 0 ≤ takesV k) : addsB k = true ↔ 9 ≤ k := by
  rcases kind_cases k with rfl | rfl | rfl | rfl | rfl | rfl | rfl | rfl | rfl | rfl | hk
  all_goals first | (simp [addsB]; done) | (rw [takes_none hk] at h; omega)
theorem way_clash {zs : List Int} {ss : List Stm} (T : Tms) (hok : NestOk zs ss) {p r : Nat × List Int} (hp : p.1 < ss.length) (hr : r.1 < ss.length) (hb : (spOf zs ss T r).put.pos ≠ -1) : wayP (spOf zs ss T p) (spOf zs ss T r) ↔ clash (memZ zs) (ss[p.1]?.getD stmD) (ss[r.1]?.getD stmD) p.2 r.2 := by
  obtain ⟨s, hs⟩ : ∃ s, s = ss[p.1]?.getD stmD := ⟨_, rfl⟩
  obtain ⟨t, ht⟩ : ∃ t, t = ss[r.1]?.getD stmD := ⟨_, rfl⟩
  have hsm : StmOk zs.length s := hok.stms s (by rw [hs]; simp [hp])
  have htm : StmOk zs.length t := hok.stms t (by rw [ht]; simp [hr])
  have hz : ∀ z ∈ zs, 0 ≤ z := fun z hz => (hok.sizes z hz).1
  have ks := adds_kind (k := s.kind) (by rw [hsm.takes]; omega)
  have kt := adds_kind (k := t.kind) (by rw [htm.takes]; omega)
  have sp := hsm.put
  have tp := htm.put
  unfold spOf at hb ⊢
  unfold wayP clash
  simp only [← hs, ← ht] at hb ⊢
  obtain ⟨s1, s2⟩ := lead_pos hz sp.arr.1 sp.arr.2 p.2
  obtain ⟨t1, t2⟩ := lead_pos hz tp.arr.1 tp.arr.2 r.2
  have htin := t1.1 hb
  rw [s1, ks, kt]
  constructor
  · rintro ⟨h1, h2⟩
    refine ⟨⟨h1, htin⟩, ?_⟩
    rcases h2 with ⟨h2, h3⟩ | h2 | h2
    · obtain ⟨e1, e2, e3⟩ := (lead_same hz sp.arr.1 sp.arr.2 tp.arr.1 tp.arr.2 h1).1 h2
      exact .inl ⟨e1, e3, h3⟩
    · simp only [List.mem_map] at h2
      obtain ⟨g, hg, e⟩ := h2
      have gp := htm.gets g hg
      obtain ⟨e1, e2, e3⟩ := (lead_same hz sp.arr.1 sp.arr.2 gp.arr.1 gp.arr.2 h1).1 e.symm
      exact .inr (.inl ⟨g, hg, e1.symm, e2, e3.symm⟩)
    · simp only [List.mem_map] at h2
      obtain ⟨g, hg, e⟩ := h2
      have gp := hsm.gets g hg
      obtain ⟨e1, e2, e3⟩ := (lead_same hz tp.arr.1 tp.arr.2 gp.arr.1 gp.arr.2 htin).1 e.symm
      exact .inr (.inr ⟨g, hg, e1.symm, e2, e3.symm⟩)
  · rintro ⟨⟨h1, _⟩, h2⟩
    refine ⟨h1, ?_⟩
    rcases h2 with ⟨h2, h3, h4⟩ | ⟨g, hg, e1, e2, e3⟩ | ⟨g, hg, e1, e2, e3⟩
    · exact .inl ⟨(lead_same hz sp.arr.1 sp.arr.2 tp.arr.1 tp.arr.2 h1).2 ⟨h2, htin, h3⟩, h4⟩
    · have gp := htm.gets g hg
      exact .inr (.inl (List.mem_map.2 ⟨g, hg, ((lead_same hz sp.arr.1 sp.arr.2 gp.arr.1 gp.arr.2 h1).2 ⟨e1.symm, e2, e3.symm⟩).symm⟩))
    · have gp := hsm.gets g hg
      exact .inr (.inr (List.mem_map.2 ⟨g, hg, ((lead_same hz tp.arr.1 tp.arr.2 gp.arr.1 gp.arr.2 htin).2 ⟨e1.symm, e2, e3.symm⟩).symm⟩))
theorem clash_in {zs : List Int} {ss : List Stm} (T : Tms) (hok : NestOk zs ss) {p r : Nat × List Int} (hr : r.1 < ss.length) (hb : (spOf zs ss T r).put.pos = -1) : ¬ clash (memZ zs) (ss[p.1]?.getD stmD) (ss[r.1]?.getD stmD) p.2 r.2 := by
  have htm : StmOk zs.length (ss[r.1]?.getD stmD) := hok.stms _ (by simp [hr])
  have hz : ∀ z ∈ zs, 0 ≤ z := fun z hz => (hok.sizes z hz).1
  rintro ⟨⟨_, h1⟩, _⟩
  exact (lead_pos hz htm.put.arr.1 htm.put.arr.2 r.2).1.2 h1 hb
end Go.Proofs.Ytkbdnhchlkafnaa.V
namespace Go.Proofs.Ytkbdnhchlkafnaa.V
open Go Go.RowKit Go.Shelf
attribute [local go_sem] Oper.semAt_some
set_option linter.unusedVariables false

theorem cell_of_one {W : World} {b : Nat} {v : Value} {t : TypeId} (h : W.heap[b]? = some (.cells #[v] t (0, 0))) : W.cell? ⟨b, 0, none⟩ = some v := by simp only [World.cell?, h]; rfl
theorem free_of_one {W : World} {b : Nat} {c : Array Value} {t : TypeId} (h : W.heap[b]? = some (.cells c t (0, 0))) : W.frozen? ⟨b, 0, none⟩ = false := by simp [World.frozen?, h]
set_option maxRecDepth 100000 in
set_option maxHeartbeats 4000000 in
theorem spots_no (za : Option Addr) (zl zc : Nat) (zs : List Int) (ta : Option Addr) (tl tc : Nat) (ss : List Stm) (ma : Option Addr) (ml mc : Nat) (T : Tms) (w : World) (hz : Ints w za zl zs) (hs : Stms w ta tl ss) (hT : TimesA w ma ml T) (hE : ordE zs ss T ≠ 0) :
    Calls Try.prog 37 #[.agg #[.slice za zl zc, .slice ta tl tc], .slice ma ml mc] w fun e w' => e = .returned (.tuple #[.slice none 0 0, .int .i64 (ordE zs ss T)]) ∧ Below w.heap.size w w' := by
  obtain ⟨W, hW⟩ : ∃ W, W = (((w.alloc (.cells #[.slice za zl zc, .slice ta tl tc] 25)).alloc (.cells #[.slice ma ml mc] 27)).alloc (.cells #[.slice none 0 0] 76)).alloc (.cells #[.int .i64 0] 32) := ⟨_, rfl⟩
  have B0 : Below w.heap.size w W := by rw [hW]; exact bl_on (bl_new _) (bl_on (bl_new _) (bl_on (bl_new _) (bl_new _)))
  have P0 : NsBlk W w.heap.size za zl zc ta tl tc := by rw [hW]; exact (((NsBlk.new w za zl zc ta tl tc).below (bl_new _)).below (bl_new _)).below (bl_new _)
  have G1 : W.heap[w.heap.size + 1]? = some (.cells #[.slice ma ml mc] 27 (0, 0)) := by
    rw [hW]
    refine (Below.heap_alloc _ _ _ (by simp <;> omega)).trans ((Below.heap_alloc _ _ _ (by simp)).trans ?_)
    have := World.alloc_heap_new (w.alloc (.cells #[.slice za zl zc, .slice ta tl tc] 25)) (.cells #[.slice ma ml mc] 27)
    rw [World.size_alloc] at this
    exact this
  have G2 : W.heap[w.heap.size + 1 + 1]? = some (.cells #[.slice none 0 0] 76 (0, 0)) := by
    rw [hW]
    refine (Below.heap_alloc _ _ _ (by simp)).trans ?_
    have := World.alloc_heap_new ((w.alloc (.cells #[.slice za zl zc, .slice ta tl tc] 25)).alloc (.cells #[.slice ma ml mc] 27)) (.cells #[.slice none 0 0] 76)
    rw [World.size_alloc, World.size_alloc] at this
    exact this
  have G3 : W.heap[w.heap.size + 1 + 1 + 1]? = some (.cells #[.int .i64 0] 32 (0, 0)) := by
    rw [hW]
    have := World.alloc_heap_new (((w.alloc (.cells #[.slice za zl zc, .slice ta tl tc] 25)).alloc (.cells #[.slice ma ml mc] 27)).alloc (.cells #[.slice none 0 0] 76)) (.cells #[.int .i64 0] 32)
    rw [World.size_alloc, World.size_alloc, World.size_alloc] at this
    exact this
  have HSW : Hid (W.heap.size = w.heap.size + 4) := by rw [Hid, hW]; simp
  have HOW := hide (oWrong_any za zl zc zs ta tl tc ss ma ml mc T W (hz.below B0) (hs.below B0) (hT.below B0))
  obtain ⟨n0, n1⟩ := P0.cells
  have zn := P0.lt
  have c1 := cell_of_one G1
  have z1 := lt_of_cell c1
  have HB := hide B0
  have HN := hide P0
  have HG := hide (And.intro G1 (And.intro G2 G3))
  have HW := hide hW
  obtain ⟨E, hEE⟩ : ∃ E, E = ordE zs ss T := ⟨_, rfl⟩
  rw [← hEE] at hE HOW ⊢
  have qE : (E != 0) = true := by simpa using hE
  clear hz hs hT B0 P0 G1 G2 G3 hW hE hEE
  go_enter Try.func37, Try.ntmps37
  go_upto_region 1 with fail
  rw [← HW.out]
  go_wp2_with fail
  refine HOW.out.mono ?_
  rintro e w1 ⟨rfl, hb⟩
  have HB1 := hide (bl_on HB.out hb)
  obtain ⟨G1, G2, G3⟩ := HG.out
  have G2' := (hb.block _ (Array.getElem?_eq_some_iff.1 G2).1).trans G2
  have G3' := (hb.block _ (Array.getElem?_eq_some_iff.1 G3).1).trans G3
  have y2 := cell_of_one G2'
  have y3 := cell_of_one G3'
  have f2 := free_of_one G2'
  have f3 := free_of_one G3'
  have z2 := lt_of_cell y2
  have z3 := lt_of_cell y3
  have HG2 := hide G2'
  have HG3 := hide G3'
  clear G1 G2 G3 G2' G3' hb n0 n1 zn c1 z1
  go_wp2_with fail
  have e2 : ((w1.setCell ⟨w.heap.size + 1 + 1, 0, none⟩ (.slice none 0 0)).setCell ⟨w.heap.size + 1 + 1 + 1, 0, none⟩ (.int .i64 E)).heap[w.heap.size + 1 + 1]? = some (.cells #[.slice none 0 0] 76 (0, 0)) := by
    rw [Below.heap_setCell _ ⟨w.heap.size + 1 + 1 + 1, 0, none⟩ _ _ (by simp only; omega)]
    simp [World.setCell, Array.getElem?_modify, HG2.out]
  have e3 : ((w1.setCell ⟨w.heap.size + 1 + 1, 0, none⟩ (.slice none 0 0)).setCell ⟨w.heap.size + 1 + 1 + 1, 0, none⟩ (.int .i64 E)).heap[w.heap.size + 1 + 1 + 1]? = some (.cells #[.int .i64 E] 32 (0, 0)) := by
    have h : (w1.setCell ⟨w.heap.size + 1 + 1, 0, none⟩ (.slice none 0 0)).heap[w.heap.size + 1 + 1 + 1]? = some (.cells #[.int .i64 0] 32 (0, 0)) := (Below.heap_setCell _ ⟨w.heap.size + 1 + 1, 0, none⟩ _ _ (by simp only; omega)).trans HG3.out
    generalize w1.setCell ⟨w.heap.size + 1 + 1, 0, none⟩ (.slice none 0 0) = V at h ⊢
    simp [World.setCell, Array.getElem?_modify, h]
  have x2 := cell_of_one e2
  have x3 := cell_of_one e3
  refine bodyPost_ret (v := .tuple #[.slice none 0 0, .int .i64 E]) (by simp [results, Try.results37, go_sem, x2, x3]) rfl ⟨rfl, ?_⟩
  exact (HB1.out.setCell (p := ⟨w.heap.size + 1 + 1, 0, none⟩) (by simp only; omega) _).setCell (p := ⟨w.heap.size + 1 + 1 + 1, 0, none⟩) (by simp only; omega) _
end Go.Proofs.Ytkbdnhchlkafnaa.V
namespace Go.Proofs.Ytkbdnhchlkafnaa.V
open Go Go.RowKit Go.Shelf
attribute [local go_sem] Oper.semAt_some
set_option linter.unusedVariables false

/-- What spots tells. -/
def SpotsR (zs : List Int) (ss : List Stm) (T : Tms) (N : Nat) (e : Ending) (w' : World) : Prop := if 1024 < (spK ss ss.length).length then e = .returned (.tuple #[.slice none 0 0, .int .i64 5]) else ∃ v B, e = .returned (.tuple #[v, .int .i64 0]) ∧ N ≤ B ∧ OutT w' B v ((spK ss ss.length).map (spOf zs ss T))
theorem spK_mono (ss : List Stm) : ∀ (n k : Nat), k ≤ n → (spK ss k).length ≤ (spK ss n).length
  | 0, k, h => by obtain rfl : k = 0 := (by omega); exact Nat.le_refl _
  | n + 1, k, h => by
    by_cases e : k = n + 1
    · rw [e]; exact Nat.le_refl _
    · rw [spK_succ, List.length_append]
      have := spK_mono ss n k (by omega)
      omega
theorem spS_map (zs : List Int) (ss : List Stm) (T : Tms) (k : Nat) : (spK ss (k + 1)).map (spOf zs ss T) = (spK ss k).map (spOf zs ss T) ++ (pts (ss[k]?.getD stmD).box (ss[k]?.getD stmD).rows).map (fun x => spOf zs ss T (k, x)) := by
  rw [spK_succ, List.map_append]
  unfold spS
  rw [List.map_map]
  rfl
theorem spS_map' {zs : List Int} {ss : List Stm} {T : Tms} {k : Nat} {s : Stm} (h : s = ss[k]?.getD stmD) : (spK ss (k + 1)).map (spOf zs ss T) = (spK ss k).map (spOf zs ss T) ++ (pts s.box s.rows).map (fun x => spOf zs ss T (k, x)) := by rw [h]; exact spS_map zs ss T k
/-- What stands when there are too many. -/
def SRet (w : World) (O : Nat) (Ds : List Nat) (W : World) : Prop := Below w.heap.size w W ∧ (W.heap[w.heap.size + 1 + 1]? = some (.cells #[.slice none 0 0] 76 (0, 0)) ∧ W.heap[w.heap.size + 1 + 1 + 1]? = some (.cells #[.int .i64 5] 32 (0, 0))) ∧ Marks (O + 1) Ds W
theorem keepF_put {N l : Nat} {W : World} {o o' : Obj} (ho : W.heap[l]? = some o) (hc : o.isCells = false) : KeepF N W (W.putObj l o') := ⟨fun b c t _ _ h => World.putObj_heap_other (fun e => by rw [e, ho] at h; cases h; cases hc), by simp⟩
theorem own_and {B : Nat} {I : List (List Int) → World → Prop} {p : List (List Int) → Prop} (h : OwnFrom B I) : OwnFrom B (fun pre W => I pre W ∧ p pre) := fun s W W' row hs hg hr => ⟨h s W W' row hs.1 hg hr, hs.2⟩
theorem sret_own {w : World} {O : Nat} {Ds : List Nat} {p : Prop} {B : Nat} (hw : w.heap.size ≤ B) (hD : ∀ D ∈ Ds, D < B) : OwnFrom B (fun (c : Code) W => c = .ret ∧ SRet w O Ds W ∧ p) := by
  rintro c W W' row ⟨rfl, ⟨h1, ⟨h2, h3⟩, h4⟩, h5⟩ hg hr
  have hc : ∀ (b : Nat) c t f, W.heap[b]? = some (Obj.cells c t f) → W'.heap[b]? = W.heap[b]? := fun b c t f e => hg.block b (Array.getElem?_eq_some_iff.1 e).1 (fun e' => by
    obtain ⟨_, o, ho, hcl⟩ := hr b e'.symm
    rw [e] at ho
    cases ho
    cases hcl)
  refine ⟨rfl, ⟨h1.grown hg h1.size (fun k e => Nat.le_trans hw (hr k e).1), ⟨(hc _ _ _ _ h2).trans h2, (hc _ _ _ _ h3).trans h3⟩, ⟨h4.nodup, fun D hD' => ⟨(h4.here D hD').1, ?_⟩⟩⟩, h5⟩
  refine (hg.block D (Array.getElem?_eq_some_iff.1 (h4.here D hD').2).1 (fun e' => ?_)).trans (h4.here D hD').2
  have h1 := (hr D e'.symm).1
  have h2 := hD D hD'
  omega
set_option maxRecDepth 100000 in
set_option maxHeartbeats 8000000 in
theorem spots_ok (za : Option Addr) (zl zc : Nat) (zs : List Int) (ta : Option Addr) (tl tc : Nat) (ss : List Stm) (ma : Option Addr) (ml mc : Nat) (T : Tms) (w : World) (hz : Ints w za zl zs) (hs : Stms w ta tl ss) (hT : TimesA w ma ml T) (hE : ordE zs ss T = 0) :
    CallsIn FW 8 Try.prog 37 #[.agg #[.slice za zl zc, .slice ta tl tc], .slice ma ml mc] w fun e w' => SpotsR zs ss T w.heap.size e w' ∧ Below w.heap.size w w' := by
  have hro : FW.round = none := rfl
  obtain ⟨W, hW⟩ : ∃ W, W = (((w.alloc (.cells #[.slice za zl zc, .slice ta tl tc] 25)).alloc (.cells #[.slice ma ml mc] 27)).alloc (.cells #[.slice none 0 0] 76)).alloc (.cells #[.int .i64 0] 32) := ⟨_, rfl⟩
  have B0 : Below w.heap.size w W := by rw [hW]; exact bl_on (bl_new _) (bl_on (bl_new _) (bl_on (bl_new _) (bl_new _)))
  have P0 : NsBlk W w.heap.size za zl zc ta tl tc := by rw [hW]; exact (((NsBlk.new w za zl zc ta tl tc).below (bl_new _)).below (bl_new _)).below (bl_new _)
  have G1 : W.heap[w.heap.size + 1]? = some (.cells #[.slice ma ml mc] 27 (0, 0)) := by
    rw [hW]
    refine (Below.heap_alloc _ _ _ (by simp <;> omega)).trans ((Below.heap_alloc _ _ _ (by simp)).trans ?_)
    have := World.alloc_heap_new (w.alloc (.cells #[.slice za zl zc, .slice ta tl tc] 25)) (.cells #[.slice ma ml mc] 27)
    rw [World.size_alloc] at this
    exact this
  have G2 : W.heap[w.heap.size + 1 + 1]? = some (.cells #[.slice none 0 0] 76 (0, 0)) := by
    rw [hW]
    refine (Below.heap_alloc _ _ _ (by simp)).trans ?_
    have := World.alloc_heap_new ((w.alloc (.cells #[.slice za zl zc, .slice ta tl tc] 25)).alloc (.cells #[.slice ma ml mc] 27)) (.cells #[.slice none 0 0] 76)
    rw [World.size_alloc, World.size_alloc] at this
    exact this
  have G3 : W.heap[w.heap.size + 1 + 1 + 1]? = some (.cells #[.int .i64 0] 32 (0, 0)) := by
    rw [hW]
    have := World.alloc_heap_new (((w.alloc (.cells #[.slice za zl zc, .slice ta tl tc] 25)).alloc (.cells #[.slice ma ml mc] 27)).alloc (.cells #[.slice none 0 0] 76)) (.cells #[.int .i64 0] 32)
    rw [World.size_alloc, World.size_alloc, World.size_alloc] at this
    exact this
  have HSW : Hid (W.heap.size = w.heap.size + 4) := by rw [Hid, hW]; simp
  have HOW := hide (oWrong_any za zl zc zs ta tl tc ss ma ml mc T W (hz.below B0) (hs.below B0) (hT.below B0))
  obtain ⟨n0, n1⟩ := P0.cells
  have zn := P0.lt
  have c1 := cell_of_one G1
  have z1 := lt_of_cell c1
  have HB := hide B0
  have HN := hide P0
  have HG := hide (And.intro G1 (And.intro G2 G3))
  have HW := hide hW
  have hok := ordE_ok hE
  have HOK := hide hok
  have HNO := hide (nestE_ok hok.nest)
  rw [hE] at HOW
  have HZ := hide hz
  have HS := hide hs
  have HT := hide hT
  have HSL := hide hs.1
  have HTL := hide hT.1
  have HZL := hide hz.1
  have h256 : tl ≤ 256 := by have := (nestE_ok hok.nest).many; have := hs.1; omega
  clear hz hs hT B0 P0 G1 G2 G3 hW hE hok
  refine callsIn_of_wp_marks Try.func37 rfl trivial ?_ hro
  simp only [Try.ntmps37, List.size_toArray, List.length_cons, List.length_nil, Nat.reduceAdd, Nat.reduceSub, Array.replicate_succ, Array.replicate_zero, List.push_toArray, List.append_toArray, List.nil_append, List.cons_append]
  gi_wp2_with (refine ⟨trivial, ?_⟩; gi_at_call 12; rw [← HW.out]; refine (callsIn_wide.2 HOW.out).mono ?_; rintro e w1 ⟨rfl, hb⟩; have HB1 := hide (bl_on HB.out hb); have HN1 := hide (HN.out.below hb); have HBb := hide hb; have m0 := (HN.out.below hb).cells.1; have m1 := (HN.out.below hb).cells.2; have zm := (HN.out.below hb).lt; clear hb)
  obtain ⟨W9, hW9⟩ : ∃ W9, W9 = w1.alloc (.cells #[.slice none 0 0] 76) := ⟨_, rfl⟩
  obtain ⟨O, hO⟩ : ∃ O, O = w1.heap.size := ⟨_, rfl⟩
  have hO3 : w.heap.size + 1 + 1 + 1 < O := by have := HSW.out; have := HBb.out.size; omega
  have I0 : SInv w za zl zc ta tl tc ma ml mc O [] ((spK ss 0).map (spOf zs ss T)) W9 := by
    have hb9 : Below w1.heap.size w1 W9 := by rw [hW9]; exact bl_new _
    have bb := bl_on HBb.out hb9
    obtain ⟨G1, G2, G3⟩ := HG.out
    refine ⟨bl_on HB1.out hb9, HN1.out.below hb9, (bb.block _ (Array.getElem?_eq_some_iff.1 G1).1).trans G1, (bb.block _ (Array.getElem?_eq_some_iff.1 G2).1).trans G2, (bb.block _ (Array.getElem?_eq_some_iff.1 G3).1).trans G3, ⟨.slice none 0 0, ?_, ?_⟩, Marks.nil _ _⟩
    · rw [hW9, hO]; exact World.alloc_heap_new _ _
    · exact OutT.nil _ _
  have HI0 := hide I0
  rw [← hW9, ← hO]
  clear I0 hW9 hO HB1 HN1 HBb m0 m1 zm n0 n1 zn c1 z1 HB HN HG HOW
  refine wpIn_loop (fun a' W' => ∃ u0 u1 u6 u8 u9 u10 u11 u12 u13 u14 u15 u16 u17 u18 u19 u20 u21 u25 u26 u27 u28 u29 u30 u31 u32 u33 u34 u35 u36 u37 u38 u39 u40 u41 u42 u43 u44 u45 u46 u47 u48 u49 u50 u51 u52 u53 u54 u55 u56 u57 u58 u59 u60 u61 u62 u63 u64 u65 u66 u67 u68 u69 u70 u71 u72 u73 u74 u75 : Value, ∃ (k : Nat) (Ds : List Nat), ((k ≤ tl ∧ (spK ss k).length ≤ 1024) ∧ SInv w za zl zc ta tl tc ma ml mc O Ds ((spK ss k).map (spOf zs ss T)) W') ∧ a' = ⟨#[u0, u1, .pointer (some ⟨w.heap.size, 0, none⟩), .pointer (some ⟨w.heap.size + 1, 0, none⟩), .pointer (some ⟨w.heap.size + 1 + 1, 0, none⟩), .pointer (some ⟨w.heap.size + 1 + 1 + 1, 0, none⟩), u6, .pointer (some ⟨O, 0, none⟩), u8, u9, u10, u11, u12, u13, u14, u15, u16, u17, u18, u19, u20, u21, .slice ta tl tc, .int .i64 (tl : Int), .int .i64 (k : Int), u25, u26, u27, u28, u29, u30, u31, u32, u33, u34, u35, u36, u37, u38, u39, u40, u41, u42, u43, u44, u45, u46, u47, u48, u49, u50, u51, u52, u53, u54, u55, u56, u57, u58, u59, u60, u61, u62, u63, u64, u65, u66, u67, u68, u69, u70, u71, u72, u73, u74, u75], Ds.map mark⟩) (fun a' _ => tl - (intOf (a'.tmps.getD 24 undef)).toNat) ?start ?round
  case start =>
    repeat apply Exists.intro
    exact ⟨⟨⟨Nat.zero_le _, by simp [spK]⟩, HI0.out⟩, rfl⟩
  case round =>
    intro a' wo hinv
    obtain ⟨u0, u1, u6, u8, u9, u10, u11, u12, u13, u14, u15, u16, u17, u18, u19, u20, u21, u25, u26, u27, u28, u29, u30, u31, u32, u33, u34, u35, u36, u37, u38, u39, u40, u41, u42, u43, u44, u45, u46, u47, u48, u49, u50, u51, u52, u53, u54, u55, u56, u57, u58, u59, u60, u61, u62, u63, u64, u65, u66, u67, u68, u69, u70, u71, u72, u73, u74, u75, k, Ds, ⟨⟨hk, hle⟩, hI⟩, rfl⟩ := hinv
    have HI := hide hI
    obtain ⟨n0, n1⟩ := hI.ns.cells
    have hOl : O < wo.heap.size := by obtain ⟨v, h1, _⟩ := hI.out; exact (Array.getElem?_eq_some_iff.1 h1).1
    clear hI HI0
    by_cases hlt : k < tl
    rotate_left
    · obtain rfl : tl = k := by omega
      obtain ⟨v, hv, hov⟩ := HI.out.out
      have cO := cell_of_one hv
      have G2 := HI.out.r1
      have G3 := HI.out.r2
      have y2 := cell_of_one G2
      have y3 := cell_of_one G3
      have f2 := free_of_one G2
      have f3 := free_of_one G3
      have z2 := lt_of_cell y2
      have z3 := lt_of_cell y3
      have HOV := hide hov
      obtain ⟨A, c, ev, _⟩ := hov.len
      obtain ⟨n9, hn9⟩ : ∃ n9, n9 = ((spK ss tl).map (spOf zs ss T)).length := ⟨_, rfl⟩
      rw [← hn9] at ev
      subst ev
      clear hv hov G2 G3 hn9
      have HLE := hide hle
      gi_wp2_with fail
      obtain ⟨Wf, hWf⟩ : ∃ Wf, Wf = (wo.setCell ⟨w.heap.size + 1 + 1, 0, none⟩ (.slice A n9 c)).setCell ⟨w.heap.size + 1 + 1 + 1, 0, none⟩ (.int .i64 0) := ⟨_, rfl⟩
      rw [← hWf]
      have oth : ∀ b, b ≠ w.heap.size + 1 + 1 → b ≠ w.heap.size + 1 + 1 + 1 → Wf.heap[b]? = wo.heap[b]? := fun b h1 h2 => by rw [hWf]; exact (Below.heap_setCell _ ⟨w.heap.size + 1 + 1 + 1, 0, none⟩ _ b h2).trans (Below.heap_setCell _ ⟨w.heap.size + 1 + 1, 0, none⟩ _ b h1)
      have e2 : Wf.heap[w.heap.size + 1 + 1]? = some (.cells #[.slice A n9 c] 76 (0, 0)) := by
        rw [hWf, Below.heap_setCell _ ⟨w.heap.size + 1 + 1 + 1, 0, none⟩ _ _ (by simp only; omega)]
        simp [World.setCell, Array.getElem?_modify, HI.out.r1]
      have e3 : Wf.heap[w.heap.size + 1 + 1 + 1]? = some (.cells #[.int .i64 0] 32 (0, 0)) := by
        have h : (wo.setCell ⟨w.heap.size + 1 + 1, 0, none⟩ (.slice A n9 c)).heap[w.heap.size + 1 + 1 + 1]? = some (.cells #[.int .i64 0] 32 (0, 0)) := (Below.heap_setCell _ ⟨w.heap.size + 1 + 1, 0, none⟩ _ _ (by simp only; omega)).trans HI.out.r2
        rw [hWf]
        generalize wo.setCell ⟨w.heap.size + 1 + 1, 0, none⟩ (.slice A n9 c) = V at h ⊢
        simp [World.setCell, Array.getElem?_modify, h]
      have hBf : Below w.heap.size w Wf := by rw [hWf]; exact (HI.out.below.setCell (p := ⟨w.heap.size + 1 + 1, 0, none⟩) (by simp only; omega) _).setCell (p := ⟨w.heap.size + 1 + 1 + 1, 0, none⟩) (by simp only; omega) _
      have hkf : KeepF (O + 1) wo Wf := by rw [hWf]; exact (KeepF.set (p := ⟨w.heap.size + 1 + 1, 0, none⟩) (by simp only; omega) _).trans (KeepF.set (p := ⟨w.heap.size + 1 + 1 + 1, 0, none⟩) (by simp only; omega) _)
      have hszf : Wf.heap.size = wo.heap.size := by rw [hWf, World.size_setCell, World.size_setCell]
      have hof : OutT Wf (O + 1) (.slice A n9 c) ((spK ss tl).map (spOf zs ss T)) := HOV.out.keep hkf (fun g e => by have := (HOV.out.lt g e).1.1; exact oth g (by omega) (by omega))
      refine leaves_marks (O + 1) Ds Wf ⟨HI.out.marks.nodup, fun D hD => ?_⟩ (by omega) (fun W' b1 b2 => ?_)
      · have := HI.out.marks.here D hD
        exact ⟨this.1, (oth D (by omega) (by omega)).trans this.2⟩
      · have x2 := cell_of_one ((b2 _ _ _ _ e2).trans e2)
        have x3 := cell_of_one ((b2 _ _ _ _ e3).trans e3)
        refine ⟨.tuple #[.slice A n9 c, .int .i64 0], by simp [results, Try.results37, go_sem, x2, x3], ?_⟩
        refine ⟨?_, hBf.trans (b1.mono (by omega))⟩
        unfold SpotsR
        rw [HSL.out, if_neg (by have := HLE.out; omega)]
        exact ⟨_, O + 1, rfl, by omega, hof.keep (keepF_of_cells _ b1.size b2) (fun g e => by obtain ⟨_, cur, hc⟩ := hof.lt g e; exact b2 _ _ _ _ hc)⟩
    · have hkl : k < ss.length := by rw [HSL.out]; exact hlt
      obtain ⟨b, off, rfl, hat⟩ := HS.out.at (by omega)
      obtain ⟨q, hq0, hc⟩ := hat k hlt
      obtain ⟨k0', k1', k2', k3', k4', k5', k6', k7'⟩ := hc
      have k0 := (HI.out.below.cell (p := ⟨b, off + k * 8, none⟩) (lt_of_cell k0')).trans k0'
      have k1 := (HI.out.below.cell (p := ⟨b, off + k * 8 + 1, none⟩) (lt_of_cell k1')).trans k1'
      have k2 := (HI.out.below.cell (p := ⟨b, off + k * 8 + 2, none⟩) (lt_of_cell k2')).trans k2'
      have k3 := (HI.out.below.cell (p := ⟨b, off + k * 8 + 3, none⟩) (lt_of_cell k3')).trans k3'
      have k4 := (HI.out.below.cell (p := ⟨b, off + k * 8 + 4, none⟩) (lt_of_cell k4')).trans k4'
      have k5 := (HI.out.below.cell (p := ⟨b, off + k * 8 + 5, none⟩) (lt_of_cell k5')).trans k5'
      have k6 := (HI.out.below.cell (p := ⟨b, off + k * 8 + 6, none⟩) (lt_of_cell k6')).trans k6'
      have k7 := (HI.out.below.cell (p := ⟨b, off + k * 8 + 7, none⟩) (lt_of_cell k7')).trans k7'
      have hq := hq0.below HI.out.below
      have z1 := lt_of_cell k0
      simp only at z1
      have BA : Below wo.heap.size wo ((wo.alloc (.cells #[.int .i64 (k : Int)] 3)).alloc (.cells q.cs 75)) := bl_on (bl_new _) (bl_new _)
      have QB := SW.new q (wo.alloc (.cells #[.int .i64 (k : Int)] 3))
      rw [World.size_alloc] at QB
      have KBK : ((wo.alloc (.cells #[.int .i64 (k : Int)] 3)).alloc (.cells q.cs 75)).heap[wo.heap.size]? = some (.cells #[.int .i64 (k : Int)] 3 (0, 0)) := (Below.heap_alloc _ _ _ (by simp)).trans (World.alloc_heap_new _ _)
      obtain ⟨V, hV⟩ : ∃ V, V = (wo.alloc (.cells #[.int .i64 (k : Int)] 3)).alloc (.cells q.cs 75) := ⟨_, rfl⟩
      have hVs : V.heap.size = wo.heap.size + 2 := by rw [hV]; simp
      rw [← hV] at BA QB KBK
      obtain ⟨s, hs⟩ : ∃ s, s = ss[k]?.getD stmD := ⟨_, rfl⟩
      have hso := HNO.out.stms _ (mem_getS ss k hkl)
      rw [← hs] at hq hq0 hso
      have h1 := hq.below BA
      have HALL := hide (all_ok q.ba q.bl q.bc s.box q.ra q.rl q.rc s.rows V h1.box.1 h1.rows hso.pt)
      obtain ⟨y0, y1, y2, y3, y4, y5, y6, y7⟩ := QB.cells
      have zq := QB.lt
      have HBA := hide BA
      have HQB := hide QB
      have HKB := hide KBK
      have HV := hide hV
      have HSG := hide hq0
      have HSO := hide hso
      have HSS := hide hs
      have HBL := hide hq.box.1.1
      have HRL := hide hq.rows.1
      clear hat hq hq0 hso BA QB KBK hs h1 hV k0' k1' k2' k3' k4' k5' k6' k7'
      unfold SW.cs at HV
      gi_wp2_with (refine ⟨trivial, ?_⟩; gi_at_call 62; rw [← HV.out]; refine (callsIn_wide.2 HALL.out).mono ?_; rintro e w4 ⟨⟨B, gb, RR, rfl, hN⟩, hb⟩; have HNW := hide hN; have HB4 := hide (bl_on HBA.out hb); have HQ5 := hide (HQB.out.below hb); have HK5 := hide ((hb.block _ (Array.getElem?_eq_some_iff.1 HKB.out).1).trans HKB.out); have zb4 := hb.size; clear hb hN)
      have HO := hide (ptE_ok HSO.out.pt)
      have hOw4 : O < w4.heap.size := by have := HB4.out.size; omega
      refine rangeFunc_tellsA (F := FW) (n := 8) hro (by omega) (gf := 114) (lb := #[.pointer (some ⟨B, 0, none⟩)]) rfl trivial (enters_of Try.func114 (by kernel_rfl) rfl) (L := pts s.box s.rows) (len := q.bl) (Kp := KeepF V.heap.size)
        (through1_tells 7 (by omega) B (some ⟨gb, 0, none⟩) q.bl q.bl s.box (some ⟨RR, 0, none⟩) q.rl q.rl s.rows HO.out (KeepF V.heap.size) (KeepF V.heap.size w4) (fun A hA => (HNW.out.keepF hA).good HO.out HBL.out HRL.out) (fun A A' hA hb => hA.trans (KeepF.below hb)) (fun A A' hk => hk.2) (fun A A' hk hA => hA.trans hk) w4 (KeepF.refl _ _))
        (fun h1 h2 => h1.trans h2) (fun W l o o' hl ho hc _ => keepF_put ho hc) (Below.refl _ _) rfl
        (fun pre W => SInvS w za zl zc (some ⟨b, off, none⟩) tl tc ma ml mc O Ds ((spK ss k).map (spOf zs ss T)) (fun x => spOf zs ss T (k, x)) k q wo.heap.size V.heap.size w4 pre W ∧ (spK ss k).length + pre.length ≤ 1024) (fun c W => c = .ret ∧ SRet w O Ds W ∧ 1024 < (spK ss ss.length).length)
        (own_and (SInvS.own (Nat.le_trans HI.out.below.size HB4.out.size) (fun D hD => by have := (Array.getElem?_eq_some_iff.1 (HI.out.marks.here D hD).2).1; have := HB4.out.size; omega))) (sret_own (Nat.le_trans HI.out.below.size HB4.out.size) (fun D hD => by have := (Array.getElem?_eq_some_iff.1 (HI.out.marks.here D hD).2).1; have := HB4.out.size; omega)) ⟨⟨by simpa using HI.out.grow HB4.out, ⟨HK5.out, HQ5.out⟩, KeepF.refl _ _⟩, by simpa using hle⟩ 22 (fun W o => KeepF.below (bl_new o)) ?a1 ?assign ?body ?done ?stop
      case assign =>
        intro l gx X W K hX hK
        gi_wp2
        rw [← hX]
        exact hK
      case stop =>
        rintro D c W hD ⟨rfl, hR, hTt⟩ hDD
        have HR := hide hR
        have HDD := hide hDD
        have HTt := hide hTt
        have hnew : D ∉ Ds := fun hD' => by
          have := (Array.getElem?_eq_some_iff.1 (HI.out.marks.here D hD').2).1
          have := HB4.out.size
          omega
        clear hR hDD hTt
        gi_wp2_with fail
        refine leaves_marks (O + 1) (D :: Ds) W ⟨List.nodup_cons.2 ⟨hnew, HR.out.2.2.nodup⟩, fun D' hD' => ?_⟩ (by have := HR.out.1.size; have := (Array.getElem?_eq_some_iff.1 HDD.out).1; omega) (fun W' b1 b2 => ?_)
        · rcases List.mem_cons.1 hD' with rfl | hD'
          · exact ⟨by omega, HDD.out⟩
          · exact HR.out.2.2.here D' hD'
        · have x2 := cell_of_one ((b2 _ _ _ _ HR.out.2.1.1).trans HR.out.2.1.1)
          have x3 := cell_of_one ((b2 _ _ _ _ HR.out.2.1.2).trans HR.out.2.1.2)
          refine ⟨.tuple #[.slice none 0 0, .int .i64 5], by simp [results, Try.results37, go_sem, x2, x3], ?_⟩
          refine ⟨?_, HR.out.1.trans (b1.mono (by omega))⟩
          unfold SpotsR
          rw [if_pos HTt.out]
      case done =>
        rintro D W hD ⟨hJ, hle2⟩ hK
        have hJ1 := hJ.1
        rw [← spS_map' HSS.out] at hJ1
        have hle3 : (spK ss (k + 1)).length ≤ 1024 := by
          rw [spK_succ, List.length_append]
          have h2 : (spS k (ss[k]?.getD stmD)).length = (pts s.box s.rows).length := by unfold spS; rw [List.length_map, ← HSS.out]
          omega
        have HJ1 : Hid (SInv w za zl zc (some ⟨b, off, none⟩) tl tc ma ml mc O (D :: Ds) ((spK ss (k + 1)).map (spOf zs ss T)) W) := by
          refine ⟨hJ1.below, hJ1.ns, hJ1.tb, hJ1.r1, hJ1.r2, hJ1.out, ⟨List.nodup_cons.2 ⟨fun hD' => ?_, hJ1.marks.nodup⟩, fun D' hD' => ?_⟩⟩
          · have := (Array.getElem?_eq_some_iff.1 (HI.out.marks.here D hD').2).1
            have := HB4.out.size
            omega
          · rcases List.mem_cons.1 hD' with rfl | hD'
            · exact ⟨by omega, hK⟩
            · exact hJ1.marks.here D' hD'
        clear hJ hJ1 hK
        gi_wp2_with fail
        refine ⟨?_, ?_⟩
        · repeat apply Exists.intro
          exact ⟨⟨⟨by omega, hle3⟩, HJ1.out⟩, by rfl⟩
        · simp [intOf]; omega
      case body =>
        rintro l pre x post gx X W hL ⟨hJ, hle2⟩ hTo hX hXc
        have HJ := hide hJ
        obtain ⟨v, hv, hov⟩ := hJ.1.out
        obtain ⟨A, c, ev, hlc⟩ := hov.len
        have elen : ((spK ss k).map (spOf zs ss T) ++ pre.map (fun x => spOf zs ss T (k, x))).length = (spK ss k).length + pre.length := by simp
        obtain ⟨N, hN⟩ : ∃ N, N = (spK ss k).length + pre.length := ⟨_, rfl⟩
        rw [elen, ← hN] at ev hlc
        subst ev
        have cO := cell_of_one hv
        have zO := lt_of_cell cO
        have HV0 := hide hv
        have HOV := hide hov
        have HN := hide hN
        have hN4 : N ≤ 1024 := by omega
        have hmem : x ∈ pts s.box s.rows := by rw [hL]; simp
        have HMEM := hide hmem
        have HTOT : Hid (N + 1 ≤ (spK ss ss.length).length) := by
          have h1 := spK_mono ss ss.length (k + 1) hkl
          rw [spK_succ, List.length_append] at h1
          have h2 : (spS k (ss[k]?.getD stmD)).length = (pts s.box s.rows).length := by unfold spS; rw [List.length_map, ← HSS.out]
          rw [h2, hL, List.length_append, List.length_cons] at h1
          rw [Hid, hN]
          omega
        clear hv hov hN elen hL hmem hle2
        by_cases h4 : (N : Int) = 1024
        · have G2 := hJ.1.r1
          have G3 := hJ.1.r2
          have y2 := cell_of_one G2
          have y3 := cell_of_one G3
          have f2 := free_of_one G2
          have f3 := free_of_one G3
          have z2 := lt_of_cell y2
          have z3 := lt_of_cell y3
          clear G2 G3 hJ
          gi_wp2_with fail
          have e2 : ((W.setCell ⟨w.heap.size + 1 + 1, 0, none⟩ (.slice none 0 0)).setCell ⟨w.heap.size + 1 + 1 + 1, 0, none⟩ (.int .i64 5)).heap[w.heap.size + 1 + 1]? = some (.cells #[.slice none 0 0] 76 (0, 0)) := by
            rw [Below.heap_setCell _ ⟨w.heap.size + 1 + 1 + 1, 0, none⟩ _ _ (by simp only; omega)]
            simp [World.setCell, Array.getElem?_modify, HJ.out.1.r1]
          have e3 : ((W.setCell ⟨w.heap.size + 1 + 1, 0, none⟩ (.slice none 0 0)).setCell ⟨w.heap.size + 1 + 1 + 1, 0, none⟩ (.int .i64 5)).heap[w.heap.size + 1 + 1 + 1]? = some (.cells #[.int .i64 5] 32 (0, 0)) := by
            have h : (W.setCell ⟨w.heap.size + 1 + 1, 0, none⟩ (.slice none 0 0)).heap[w.heap.size + 1 + 1 + 1]? = some (.cells #[.int .i64 0] 32 (0, 0)) := (Below.heap_setCell _ ⟨w.heap.size + 1 + 1, 0, none⟩ _ _ (by simp only; omega)).trans HJ.out.1.r2
            generalize W.setCell ⟨w.heap.size + 1 + 1, 0, none⟩ (.slice none 0 0) = V at h ⊢
            simp [World.setCell, Array.getElem?_modify, h]
          have oth : ∀ b, b ≠ w.heap.size + 1 + 1 → b ≠ w.heap.size + 1 + 1 + 1 → ((W.setCell ⟨w.heap.size + 1 + 1, 0, none⟩ (.slice none 0 0)).setCell ⟨w.heap.size + 1 + 1 + 1, 0, none⟩ (.int .i64 5)).heap[b]? = W.heap[b]? := fun b h1 h2 => (Below.heap_setCell _ ⟨w.heap.size + 1 + 1 + 1, 0, none⟩ _ b h2).trans (Below.heap_setCell _ ⟨w.heap.size + 1 + 1, 0, none⟩ _ b h1)
          refine ⟨⟨by simp, fun b o _ hb hcl => (oth b (fun e => ?_) (fun e => ?_)).trans hb⟩, rfl, ⟨?_, ⟨e2, e3⟩, ⟨HJ.out.1.marks.nodup, fun D hD => ?_⟩⟩, by have := HTOT.out; omega⟩
          · rw [e, HJ.out.1.r1] at hb; cases hb; cases hcl
          · rw [e, HJ.out.1.r2] at hb; cases hb; cases hcl
          · exact (HJ.out.1.below.setCell (p := ⟨w.heap.size + 1 + 1, 0, none⟩) (by simp only; omega) _).setCell (p := ⟨w.heap.size + 1 + 1 + 1, 0, none⟩) (by simp only; omega) _
          · have := HJ.out.1.marks.here D hD
            exact ⟨this.1, (oth D (by omega) (by omega)).trans this.2⟩
        · have hxl : x.length = q.bl := hTo.2.2.1
          have hx4 : q.bl ≤ 4 := hTo.2.2.2.1
          have hxb := hTo.2.2.2.2
          have hTI := hTo.ints
          have cK := cell_of_one hJ.2.1.1
          have cX := cell_of_one hXc
          obtain ⟨y0, y1, y2, y3, y4, y5, y6, y7⟩ := hJ.2.1.2.cells
          obtain ⟨n0', n1'⟩ := hJ.1.ns.cells
          have hbw := hJ.1.below
          have HTO := hide (fun U (hb : Below W.heap.size W U) => to_any q.pu s.put X w.heap.size (some ⟨gx, 0, none⟩) q.bl q.bl x za zl zc zs U (HSG.out.put.below (bl_on hbw hb)) ((hb.cell (p := ⟨X, 0, none⟩) (lt_of_cell cX)).trans cX) ((hb.cell (p := ⟨w.heap.size, 0, none⟩) (lt_of_cell n0')).trans n0') (hTI.below hb) (HZ.out.below (bl_on hbw hb)) (by rw [hxl, ← HBL.out]; exact HSO.out.put) (by omega) hxb)
          have HEA := hide (fun U (hb : Below W.heap.size W U) => eachTo q.ga q.gl q.gc s.gets X w.heap.size (some ⟨gx, 0, none⟩) q.bl q.bl x za zl zc zs U (HSG.out.gets.below (bl_on hbw hb)) (by have h1 := HSG.out.gets.1; have h2 := HSO.out.takes; have h3 := takes_bd s.kind; omega) ((hb.cell (p := ⟨X, 0, none⟩) (lt_of_cell cX)).trans cX) ((hb.cell (p := ⟨w.heap.size, 0, none⟩) (lt_of_cell n0')).trans n0') (hTI.below hb) (HZ.out.below (bl_on hbw hb)) (fun a ha => by rw [hxl, ← HBL.out]; exact HSO.out.gets a ha) (by omega) hxb)
          obtain ⟨pv, hpv⟩ : ∃ pv, pv = leadV zs s.put x := ⟨_, rfl⟩
          rw [← hpv] at HTO
          unfold AW.v PW.v at HTO
          have HPV := hide hpv
          have HTOL := hide hTo
          have HXC := hide hXc
          clear hTo hxl hxb hTI hpv hJ hXc n0' n1' y0 y1
          gi_wp2_with fail
          refine region_madeIn 17 26 [fIs (.int .i64 (k : Int)), fIs (.slice (some ⟨gx, 0, none⟩) q.bl q.bl), fIs (.agg #[.int .i64 (k : Int), .slice (some ⟨gx, 0, none⟩) q.bl q.bl]), fIs (.pointer (some ⟨wo.heap.size + 1, 2, none⟩)), fIs (.int .i64 q.kd), fIs (.pointer (some ⟨wo.heap.size + 1, 3, none⟩)), fIs (.int .i64 q.va), fIs (.func (.func 72) #[] #[.pointer (some ⟨X, 0, none⟩), .pointer (some ⟨w.heap.size, 0, none⟩)]), fIs (.pointer (some ⟨wo.heap.size + 1, 4, none⟩)), fIs (.agg #[.int .i64 q.pu.arr, .slice q.pu.ca q.pu.cl q.pu.cc, .int .i64 q.pu.con]), fIs (.agg #[.int .i64 pv.arr, .int .i64 pv.pos]), fIs (.pointer (some ⟨wo.heap.size + 1, 7, none⟩)), fIs (.slice q.ga q.gl q.gc), fIs (.func (.func 72) #[] #[.pointer (some ⟨X, 0, none⟩), .pointer (some ⟨w.heap.size, 0, none⟩)]), fPls W.heap.size q.gl (s.gets.map fun a => leadV zs a x), fSpot W.heap.size (fun R => ⟨(k : Int), some ⟨gx, 0, none⟩, q.bl, q.bl, fun _ => 0, q.kd, q.va, pv, some ⟨R, 0, none⟩, q.gl, q.gl⟩) q.gl (s.gets.map fun a => leadV zs a x), fNewSpot W.heap.size] (by kernel_rfl) (by kernel_rfl) (by kernel_rfl) (by kernel_rfl) (fun ⟨_, _, h⟩ => h) (fun _ ⟨_, _⟩ ⟨_, _⟩ _ e h => by cases e; exact h) ⟨fIs_good _, fIs_good _, fIs_good _, fIs_good _, fIs_good _, fIs_good _, fIs_good _, fIs_good _, fIs_good _, fIs_good _, fIs_good _, fIs_good _, fIs_good _, fIs_good _, fPls_good _ _ _, fSpot_good _ _ _ _, fNewSpot_good _, trivial⟩ ?mk ?rest
          case mk =>
            refine ⟨fun u wz hb hd => ?_, fun u wz hb hd => ?_, fun u wz hb hd => ?_, fun u wz hb hd => ?_, fun u wz hb hd => ?_, fun u wz hb hd => ?_, fun u wz hb hd => ?_, fun u wz hb hd => ?_, fun u wz hb hd => ?_, fun u wz hb hd => ?_, fun u wz hb hd => ?_, fun u wz hb hd => ?_, fun u wz hb hd => ?_, fun u wz hb hd => ?_, fun u wz hb hd => ?_, fun u wz hb hd => ?_, fun u wz hb hd => ?_, trivial⟩
            all_goals simp only [Act.put, List.setIfInBounds_toArray, List.set_cons_zero, List.set_cons_succ]
            · have cK' := (hb.cell (p := ⟨wo.heap.size, 0, none⟩) (lt_of_cell cK)).trans cK
              go_simp
              exact ⟨rfl, Below.refl _ _, fun h => by cases h⟩
            · have cX' := (hb.cell (p := ⟨X, 0, none⟩) (lt_of_cell cX)).trans cX
              go_simp
              exact ⟨rfl, Below.refl _ _, fun h => by cases h⟩
            · have e0 : u 0 = .int .i64 (k : Int) := hd 0 (by omega) (by kernel_rfl)
              have e1 : u 1 = .slice (some ⟨gx, 0, none⟩) q.bl q.bl := hd 1 (by omega) (by kernel_rfl)
              rw [e0, e1]
              go_simp
              exact ⟨rfl, Below.refl _ _, fun h => by cases h⟩
            · go_simp
              exact ⟨rfl, Below.refl _ _, fun h => by cases h⟩
            · have e3 : u 3 = .pointer (some ⟨wo.heap.size + 1, 2, none⟩) := hd 3 (by omega) (by kernel_rfl)
              rw [e3]
              have y2' := (hb.cell (p := ⟨wo.heap.size + 1, 2, none⟩) (lt_of_cell y2)).trans y2
              go_simp
              exact ⟨rfl, Below.refl _ _, fun h => by cases h⟩
            · go_simp
              exact ⟨rfl, Below.refl _ _, fun h => by cases h⟩
            · have e5 : u 5 = .pointer (some ⟨wo.heap.size + 1, 3, none⟩) := hd 5 (by omega) (by kernel_rfl)
              rw [e5]
              have y3' := (hb.cell (p := ⟨wo.heap.size + 1, 3, none⟩) (lt_of_cell y3)).trans y3
              go_simp
              exact ⟨rfl, Below.refl _ _, fun h => by cases h⟩
            · go_simp
              exact ⟨rfl, Below.refl _ _, fun h => by cases h⟩
            · go_simp
              exact ⟨rfl, Below.refl _ _, fun h => by cases h⟩
            · have e8 : u 8 = .pointer (some ⟨wo.heap.size + 1, 4, none⟩) := hd 8 (by omega) (by kernel_rfl)
              rw [e8]
              have y4' := (hb.cell (p := ⟨wo.heap.size + 1, 4, none⟩) (lt_of_cell y4)).trans y4
              have y5' := (hb.cell (p := ⟨wo.heap.size + 1, 5, none⟩) (lt_of_cell y5)).trans y5
              have y6' := (hb.cell (p := ⟨wo.heap.size + 1, 6, none⟩) (lt_of_cell y6)).trans y6
              go_simp
              exact ⟨rfl, Below.refl _ _, fun h => by cases h⟩
            · have e7 : u 7 = .func (.func 72) #[] #[.pointer (some ⟨X, 0, none⟩), .pointer (some ⟨w.heap.size, 0, none⟩)] := hd 7 (by omega) (by kernel_rfl)
              have e9 : u 9 = .agg #[.int .i64 q.pu.arr, .slice q.pu.ca q.pu.cl q.pu.cc, .int .i64 q.pu.con] := hd 9 (by omega) (by kernel_rfl)
              rw [e7, e9]
              go_simp
              refine (HTO.out wz hb).mono ?_
              rintro e w2 ⟨rfl, hb2⟩
              exact ⟨rfl, hb2, fun h => by cases h⟩
            · go_simp
              exact ⟨rfl, Below.refl _ _, fun h => by cases h⟩
            · have e11 : u 11 = .pointer (some ⟨wo.heap.size + 1, 7, none⟩) := hd 11 (by omega) (by kernel_rfl)
              rw [e11]
              have y7' := (hb.cell (p := ⟨wo.heap.size + 1, 7, none⟩) (lt_of_cell y7)).trans y7
              go_simp
              exact ⟨rfl, Below.refl _ _, fun h => by cases h⟩
            · go_simp
              exact ⟨rfl, Below.refl _ _, fun h => by cases h⟩
            · have e12 : u 12 = .slice q.ga q.gl q.gc := hd 12 (by omega) (by kernel_rfl)
              have e13 : u 13 = .func (.func 72) #[] #[.pointer (some ⟨X, 0, none⟩), .pointer (some ⟨w.heap.size, 0, none⟩)] := hd 13 (by omega) (by kernel_rfl)
              rw [e12, e13]
              go_simp
              refine (HEA.out wz hb).mono ?_
              rintro e w2 ⟨⟨R, rfl, hl⟩, hb2⟩
              exact ⟨⟨R, rfl, hl.mono hb.size⟩, hb2, fun h => by cases h⟩
            · have e2 : u 2 = .agg #[.int .i64 (k : Int), .slice (some ⟨gx, 0, none⟩) q.bl q.bl] := hd 2 (by omega) (by kernel_rfl)
              have e4 : u 4 = .int .i64 q.kd := hd 4 (by omega) (by kernel_rfl)
              have e6 : u 6 = .int .i64 q.va := hd 6 (by omega) (by kernel_rfl)
              have e10 : u 10 = .agg #[.int .i64 pv.arr, .int .i64 pv.pos] := hd 10 (by omega) (by kernel_rfl)
              obtain ⟨R4, e14, h14⟩ := hd 14 (by omega) (by kernel_rfl)
              rw [e2, e4, e6, e10, e14]
              go_simp
              exact ⟨⟨R4, rfl, h14⟩, Below.refl _ _, fun h => by cases h⟩
            · go_simp
              exact ⟨⟨_, rfl, World.alloc_heap_new _ _, hb.size⟩, bl_new _, fun h => by cases h⟩
          case rest =>
            intro u wz hb hf hp
            have f0 : u 0 = .int .i64 (k : Int) := hf 0 (by omega)
            have f1 : u 1 = .slice (some ⟨gx, 0, none⟩) q.bl q.bl := hf 1 (by omega)
            have f2 : u 2 = .agg #[.int .i64 (k : Int), .slice (some ⟨gx, 0, none⟩) q.bl q.bl] := hf 2 (by omega)
            have f3 : u 3 = .pointer (some ⟨wo.heap.size + 1, 2, none⟩) := hf 3 (by omega)
            have f4 : u 4 = .int .i64 q.kd := hf 4 (by omega)
            have f5 : u 5 = .pointer (some ⟨wo.heap.size + 1, 3, none⟩) := hf 5 (by omega)
            have f6 : u 6 = .int .i64 q.va := hf 6 (by omega)
            have f7 : u 7 = .func (.func 72) #[] #[.pointer (some ⟨X, 0, none⟩), .pointer (some ⟨w.heap.size, 0, none⟩)] := hf 7 (by omega)
            have f8 : u 8 = .pointer (some ⟨wo.heap.size + 1, 4, none⟩) := hf 8 (by omega)
            have f9 : u 9 = .agg #[.int .i64 q.pu.arr, .slice q.pu.ca q.pu.cl q.pu.cc, .int .i64 q.pu.con] := hf 9 (by omega)
            obtain f10 := hf 10 (by omega)
            have f11 : u 11 = .pointer (some ⟨wo.heap.size + 1, 7, none⟩) := hf 11 (by omega)
            have f12 : u 12 = .slice q.ga q.gl q.gc := hf 12 (by omega)
            have f13 : u 13 = .func (.func 72) #[] #[.pointer (some ⟨X, 0, none⟩), .pointer (some ⟨w.heap.size, 0, none⟩)] := hf 13 (by omega)
            obtain ⟨_, f14, _⟩ := hf 14 (by omega)
            obtain ⟨R, f15, hPl⟩ := hf 15 (by omega)
            obtain ⟨H, f16, hH, hHn⟩ := hf 16 (by omega)
            refine UptoW.rest 1 17 (by rfl) (by kernel_rfl) ?_
            simp only [List.take, List.drop, putOps, Act.put, List.setIfInBounds_toArray, List.set_cons_zero, List.set_cons_succ, Nat.reduceAdd, f0, f1, f2, f3, f4, f5, f6, f7, f8, f9, f11, f12, f13, f14, f15, f16]
            clear f0 f1 f2 f3 f4 f5 f6 f7 f8 f9 f10 f11 f12 f13 f14 f15 f16 hf hp
            have zH := hH.lt
            obtain ⟨t0, t1, t2, t3, t4, t5, t6, t7, t8, t9, t10, t11, t12, t13, t14⟩ := hH.cells
            have m0 := hH.free 0
            have m1 := hH.free 1
            have m2 := hH.free 2
            have m3 := hH.free 3
            have m4 := hH.free 4
            have m5 := hH.free 5
            have m6 := hH.free 6
            have m7 := hH.free 7
            have m8 := hH.free 8
            have m9 := hH.free 9
            have m10 := hH.free 10
            have m11 := hH.free 11
            have m12 := hH.free 12
            have m13 := hH.free 13
            have m14 := hH.free 14
            unfold twD at t0 t1 t2 t3 t4 t5 t6 t7 t8 t9 t10 t11 t12 t13 t14
            have HH := hide hH
            have HPL := hide hPl
            have HBZ := hide hb
            have HHN := hide hHn
            clear hH hPl hb cK cX y2 y3 y4 y5 y6 y7 cO zO HTO HEA
            unfold TW.v TW.cs
            go_wp2_with fail
            obtain ⟨u0, hu0⟩ : ∃ u0 : TW, u0 = ⟨(k : Int), some ⟨gx, 0, none⟩, q.bl, q.bl, fun _ => 0, q.kd, q.va, pv, some ⟨R, 0, none⟩, q.gl, q.gl⟩ := ⟨_, rfl⟩
            obtain ⟨Wh, hWh⟩ : ∃ Wh, Wh = putT wz H ⟨(k : Int), some ⟨gx, 0, none⟩, q.bl, q.bl, fun _ => 0, q.kd, q.va, pv, some ⟨R, 0, none⟩, q.gl, q.gl⟩ := ⟨_, rfl⟩
            have hWh' := hWh
            unfold putT at hWh'
            simp only at hWh'
            rw [← hWh']
            rw [← hu0] at hWh
            have BW : Below W.heap.size W Wh := by rw [hWh]; exact putT_below HBZ.out HHN.out _
            have HHh : Hid (u0.blk Wh H) := by rw [Hid, hWh]; exact putT_blk HH.out
            have HPh : Hid (Lies W.heap.size (fun V => PlsAt V (some ⟨R, 0, none⟩) q.gl (s.gets.map fun a => leadV zs a x)) Wh) := by rw [Hid, hWh]; exact HPL.out.keep (putT_keep HH.out u0)
            have HU0 := hide hu0
            have HBW := hide BW
            clear t0 t1 t2 t3 t4 t5 t6 t7 t8 t9 t10 t11 t12 t13 t14 m0 m1 m2 m3 m4 m5 m6 m7 m8 m9 m10 m11 m12 m13 m14 hWh hWh' HH HPL HBZ zH hu0
            have hkm : k < ml := by rw [← HTL.out, HOK.out.len]; exact hkl
            have hkmz : (k : Int) < (ml : Int) := by omega
            have bwh := bl_on HJ.out.1.below BW
            have cT0 := cell_of_one HJ.out.1.tb
            have cT := (BW.cell (p := ⟨w.heap.size + 1, 0, none⟩) (lt_of_cell cT0)).trans cT0
            have cK0 := cell_of_one HJ.out.2.1.1
            have cK := (BW.cell (p := ⟨wo.heap.size, 0, none⟩) (lt_of_cell cK0)).trans cK0
            obtain ⟨mb, mo, rfl, hat⟩ := HT.out.at (by omega)
            obtain ⟨ra, rl, rc, r1', r2⟩ := hat k hkm
            have r1 := (bwh.cell (p := ⟨mb, mo + k, none⟩) (lt_of_cell r1')).trans r1'
            have zr1 := lt_of_cell r1
            have zT := lt_of_cell cT
            have zK := lt_of_cell cK
            have HRK := hide (HOK.out.rows k (by rw [HTL.out]; exact hkm))
            obtain ⟨rows, hrows⟩ : ∃ rows, rows = T[k]?.getD [] := ⟨_, rfl⟩
            rw [← hrows] at r2 HRK
            have HROWS := hide hrows
            have HRW := hide r2
            have hrl8 : rl ≤ 8 := by have h1 := r2.1; have h2 := HRK.out.1; omega
            have hrlm := r2.2.1
            obtain ⟨f, hf⟩ : ∃ f, f = timeV rows x := ⟨_, rfl⟩
            have HF := hide hf
            have HHs : Hid ((u0.upto f 0).blk Wh H) := by
              have h := HHh.out
              rw [Hid]
              unfold TW.blk TW.cs TW.upto at *
              rw [HU0.out] at h ⊢
              simpa using h
            clear BW bwh cT0 cK0 hat r1' r2 hrows hf HHh
            gi_wp2_with fail
            clear cT cK r1 zr1 zT zK
            gi_loopw [58] (fun i U => ∃ j : Nat, j ≤ rl ∧ i = .int .i64 j ∧ Below W.heap.size W U ∧ (u0.upto f j).blk U H ∧ Lies W.heap.size (fun V => PlsAt V (some ⟨R, 0, none⟩) q.gl (s.gets.map fun a => leadV zs a x)) U) (fun i _ => rl - (intOf i).toNat)
            case atStart => exact ⟨0, Nat.zero_le _, rfl, HBW.out, HHs.out, HPh.out⟩
            case round =>
              obtain ⟨j, hj, rfl, hBU, hHU, hPU⟩ := hrel
              have HBU := hide hBU
              have HHU := hide hHU
              have HPU := hide hPU
              clear hBU hHU hPU HBW HHs HPh
              by_cases hlt2 : j < rl
              · have hjl : j < rows.length := by rw [HRW.out.1]; exact hlt2
                obtain ⟨rb, ro, rfl, hatr⟩ := HRW.out.at (by omega)
                obtain ⟨ca, cl, cc, e1', e2', e3, e4, e5⟩ := hatr j hlt2
                have bwu := bl_on HJ.out.1.below HBU.out
                have e1 := (bwu.cell (p := ⟨rb, ro + j * 2, none⟩) (lt_of_cell e1')).trans e1'
                have e2 := (bwu.cell (p := ⟨rb, ro + j * 2 + 1, none⟩) (lt_of_cell e2')).trans e2'
                have ze1 := lt_of_cell e1
                have ze2 := lt_of_cell e2
                obtain ⟨hrl1, hrc, hrcs⟩ := rowE_ok (HRK.out.2 _ (mem_getR rows j hjl))
                have hfj : f j = worthV (rows[j]?.getD ([], 0)) x := by
                  rw [HF.out]
                  unfold timeV
                  rw [if_pos hjl]
                obtain ⟨rr, hrr⟩ : ∃ rr, rr = rows[j]?.getD ([], 0) := ⟨_, rfl⟩
                rw [← hrr] at e2 e3 hrl1 hrc hrcs hfj
                obtain ⟨cs, K⟩ := rr
                simp only at e2 e3 hrl1 hrc hrcs
                have cX0 := cell_of_one HXC.out
                have cX1 := (HBU.out.cell (p := ⟨X, 0, none⟩) (lt_of_cell cX0)).trans cX0
                obtain ⟨Un, hUn⟩ : ∃ Un, Un = wr.alloc (.cells #[.slice ca cl cc, .int .i64 K] 51) := ⟨_, rfl⟩
                have Bn : Below wr.heap.size wr Un := by rw [hUn]; exact bl_new _
                have hnew : Un.heap[wr.heap.size]? = some (.cells #[.slice ca cl cc, .int .i64 K] 51 (0, 0)) := by rw [hUn]; exact World.alloc_heap_new _ _
                obtain ⟨x0, x1⟩ := cells_two hnew
                have zcX := lt_of_cell cX1
                have znew := (Array.getElem?_eq_some_iff.1 hnew).1
                have HC := hide (worth_any ca cl cc cs K (some ⟨gx, 0, none⟩) q.bl q.bl x Un (e3.below (bl_on bwu Bn)) ((HTOL.out.ints.below HBU.out).below Bn) (by have h1 := e3.1; have h2 := HTOL.out.2.2.1; have h3 := HBL.out; rw [← HSS.out] at hrl1; omega) (by have h1 := e3.1; rw [← HSS.out] at hrl1; have h3 := HBL.out; omega) hrc hrcs HTOL.out.2.2.2.2)
                rw [← hfj] at HC
                have HUn := hide hUn
                have HBn := hide Bn
                have hj8 : j < 8 := by omega
                clear hatr e1' e2' e3 e4 e5 bwu hrr hrl1 hrc hrcs hfj cX0 hUn Bn hnew x0 x1 znew
                gi_wp2_with (refine ⟨trivial, ?_⟩; gi_at_call 75; rw [← HUn.out]; refine (callsIn_wide.2 HC.out).mono ?_; rintro e w3 ⟨rfl, hb3⟩; have HB3 := hide (bl_on HBn.out hb3); have HH3 := hide ((HHU.out.below HBn.out).below hb3); have HP3 := hide ((HPU.out.below HBn.out).below hb3); have ch := upto_cell ((HHU.out.below HBn.out).below hb3) hj8; have cf := ((HHU.out.below HBn.out).below hb3).free (2 + j); have zh := ((HHU.out.below HBn.out).below hb3).lt; clear hb3)
                go_roundw
                case rel => exact ⟨j + 1, by omega, by go_num, (bl_on HBU.out HB3.out).setCell (p := ⟨H, 2 + j, none⟩) HHN.out _, upto_blk HH3.out hj8, HP3.out.keep (KeepF.sp (p := ⟨H, 2 + j, none⟩) HH3.out _)⟩
                case measure => simp [intOf]; omega
              · obtain rfl : j = rl := by omega
                obtain ⟨u1, hu1⟩ : ∃ u1, u1 = u0.upto f j := ⟨_, rfl⟩
                have hB1 : u1.blk wr H := by rw [hu1]; exact HHU.out
                obtain ⟨t0, t1, t2, t3, t4, t5, t6, t7, t8, t9, t10, t11, t12, t13, t14⟩ := hB1.cells
                have zH := hB1.lt
                have cO0 := cell_of_one HV0.out
                have cO := (HBU.out.cell (p := ⟨O, 0, none⟩) (lt_of_cell cO0)).trans cO0
                have zO := lt_of_cell cO
                have hW4 : w4.heap.size ≤ W.heap.size := HJ.out.2.2.2
                have hW5 : W.heap.size ≤ wr.heap.size := HBU.out.size
                have hTG : Lies (O + 1) (fun V => TG V u1 (spOf zs ss T (k, x))) wr := by
                  have hrow : wr.rowIs gx 3 q.bl (fun j => .int .i64 (x[j]?.getD 0)) := HTOL.out.2.1.of_block (HBU.out.block gx HTOL.out.lt)
                  have hgx : O + 1 ≤ gx := by have := HTOL.out.1; omega
                  refine ((lies_row hrow hgx).and (HPU.out.mono (by omega))).imp (fun V hV => ?_)
                  have hI : RowI V gx q.bl x := hV.1
                  rw [hu1, HU0.out]
                  refine ⟨rfl, ⟨ints_of_rowI hI HTOL.out.2.2.1 (Nat.le_trans HTOL.out.2.2.2.1 (by omega)) (fun y hy => by have := HTOL.out.2.2.2.2 y hy; omega), Nat.le_refl _, fun e => by cases e⟩, ?_, ?_, ?_, ?_, ?_, Nat.le_refl _, fun b o e => by cases e; obtain ⟨cur, hcur, _⟩ := hI; exact ⟨cur, _, hcur⟩⟩
                  · funext i
                    simp only [TW.upto, spOf]
                    rw [HF.out, HROWS.out]
                    unfold timeV
                    have hl : (T[k]?.getD []).length = j := by rw [← HROWS.out]; exact HRW.out.1
                    rw [hl]
                    by_cases h : i < j
                    · rw [if_pos h, if_pos h]
                    · rw [if_neg h, if_neg h]
                  · simp only [TW.upto, spOf]
                    rw [← HSS.out]
                    exact HSG.out.kd
                  · simp only [TW.upto, spOf]
                    rw [← HSS.out]
                    exact HSG.out.va
                  · simp only [TW.upto, spOf]
                    rw [← HSS.out]
                    exact HPV.out
                  · simp only [TW.upto, spOf]
                    rw [← HSS.out]
                    exact hV.2
                have HTG := hide hTG
                have hN2 : (N + 1) * 152 ≤ 140737488355328 := by omega
                have HLN : Hid (((spK ss k).map (spOf zs ss T) ++ pre.map (fun x => spOf zs ss T (k, x))).length = N) := by rw [Hid, HN.out]; simp
                have HOVU := hide (HOV.out.below HBU.out)
                have hOW : O < W.heap.size := by omega
                clear cO0 hTG hB1 hu1
                gi_wp2_with (gi_at_builtin; refine append_tw (by rfl) (.tmp 70) (.tmp 72) (by rfl) (O + 1) _ (by rfl) ((spK ss k).map (spOf zs ss T) ++ pre.map (fun x => spOf zs ss T (k, x))) u1 (spOf zs ss T (k, x)) HOVU.out HTG.out (by rfl) (by rw [HLN.out]; exact hN2) (by omega) ?_; intro v' w7 hout hb7 hk7 hot hbl; obtain ⟨A2, c2, ev2, _⟩ := hout.len; obtain ⟨n2, hn2⟩ : ∃ n2, n2 = ((spK ss k).map (spOf zs ss T) ++ pre.map (fun x => spOf zs ss T (k, x)) ++ [spOf zs ss T (k, x)]).length := ⟨_, rfl⟩; rw [← hn2] at ev2; subst ev2; clear hn2; have HOUT := hide hout; have HB7 := hide hb7; have HK7 := hide hk7; have HOT := hide hot; have HBL7 := hide hbl; have c7 := (hb7.cell (p := ⟨O, 0, none⟩) (by simp only; omega)).trans cO; have f7 : w7.frozen? ⟨O, 0, none⟩ = false := (hb7.frozen (p := ⟨O, 0, none⟩) (by simp only; omega)).trans ((HBU.out.frozen (p := ⟨O, 0, none⟩) (by simp only; omega)).trans (free_of_one HV0.out)); have z7 := lt_of_cell c7; clear hout hb7 hk7 hot hbl)
                obtain ⟨i1, i2, i3⟩ := HJ.out.step hO3 (by omega) (by omega) HBU.out HV0.out HOVU.out HOUT.out HB7.out HK7.out HOT.out HBL7.out
                rw [hVs] at i1 i3
                exact ⟨i2.from _, i3, i1, by have := HN.out; omega⟩
end Go.Proofs.Ytkbdnhchlkafnaa.V
namespace Go.Proofs.Ytkbdnhchlkafnaa.V
open Go Go.RowKit
set_option linter.unusedVariables false

theorem cmpT_neg (f g : Nat → Int) : decide (cmpT f g < 0) = befB f g := by
  unfold cmpT
  cases e : befB f g
  · cases e2 : befB g f <;> simp
  · simp
theorem cmpT_zero (f g : Nat → Int) : decide (cmpT g f = 0) = eq8 f g := by
  rw [Bool.eq_iff_iff, decide_eq_true_iff, eq8_iff]
  constructor
  · intro h
    unfold cmpT at h
    rcases befB_tri f g with c | c | c
    · rw [befB_asymm c, c] at h; simp at h
    · rw [c] at h; simp at h
    · exact c
  · intro h
    exact cmpT_same (fun j hj => (h j hj).symm)
set_option maxRecDepth 100000 in
set_option maxHeartbeats 2000000 in
theorem legal1_any (p q : TW) (w : World) : Calls Try.prog 29 #[p.v, q.v] w fun e w' => e = .returned (.bool (befB q.tm p.tm)) ∧ Below w.heap.size w w' := by
  have HB : Hid (Below w.heap.size w ((w.alloc (.cells p.cs 63)).alloc (.cells q.cs 63))) := bl_on (bl_new _) (bl_new _)
  have HC := hide (byTime_any q p ((w.alloc (.cells p.cs 63)).alloc (.cells q.cs 63)))
  rw [← cmpT_neg]
  obtain ⟨K, hK⟩ : ∃ K, K = cmpT q.tm p.tm := ⟨_, rfl⟩
  rw [← hK] at HC ⊢
  clear hK
  unfold TW.v TW.cs at *
  go_enter Try.func29, Try.ntmps29
  go_wp2_with (go_at_call 30; refine HC.out.mono ?_; rintro e w2 ⟨rfl, hb⟩; have HB2 := hide (bl_on HB.out hb); clear hb)
  go_ret
  exact ⟨rfl, HB2.out⟩
set_option maxRecDepth 100000 in
set_option maxHeartbeats 2000000 in
theorem free1_any (p q : TW) (w : World) : Calls Try.prog 36 #[p.v, q.v] w fun e w' => e = .returned (.bool (decide (cmpT q.tm p.tm = 0))) ∧ Below w.heap.size w w' := by
  have HB : Hid (Below w.heap.size w ((w.alloc (.cells p.cs 63)).alloc (.cells q.cs 63))) := bl_on (bl_new _) (bl_new _)
  have HC := hide (byTime_any q p ((w.alloc (.cells p.cs 63)).alloc (.cells q.cs 63)))
  obtain ⟨K, hK⟩ : ∃ K, K = cmpT q.tm p.tm := ⟨_, rfl⟩
  rw [← hK] at HC ⊢
  clear hK
  unfold TW.v TW.cs at *
  go_enter Try.func36, Try.ntmps36
  go_wp2_with (go_at_call 30; refine HC.out.mono ?_; rintro e w2 ⟨rfl, hb⟩; have HB2 := hide (bl_on HB.out hb); clear hb)
  go_ret
  refine ⟨?_, HB2.out⟩
  by_cases c : K = 0 <;> simp [c]
theorem flat_get : ∀ (us : List TW) (j i : Nat), i < 15 → j < us.length → (us.flatMap twCs)[j * 15 + i]? = (us[j]?.getD twD).cs[i]?
  | [], j, i, _, hj => by simp at hj
  | u :: us, 0, i, hi, _ => by
    rw [List.flatMap_cons, List.getElem?_append_left (by rw [twCs_len]; omega)]
    simp [twCs]
  | u :: us, j + 1, i, hi, hj => by
    rw [List.flatMap_cons, List.getElem?_append_right (by rw [twCs_len]; omega), twCs_len]
    have := flat_get us j i hi (by simpa using hj)
    rw [show (j + 1) * 15 + i - 15 = j * 15 + i by omega, this]
    simp
theorem OutT.at {W : World} {B : Nat} {v : Value} {S : List Sp} (h : OutT W B v S) : ∃ aa ac us, v = .slice aa S.length ac ∧ TAt W aa S.length us ∧ ∀ j, j < S.length → Lies B (fun V => TG V (us j) (S[j]?.getD spDD)) W := by
  obtain ⟨us, h1, h2, h3⟩ := h
  rcases h2.2 with ⟨e, e2⟩ | ⟨g, cap, cur, e, e2, e3, e4⟩
  · exact ⟨none, 0, fun j => us[j]?.getD twD, by rw [e, ← h1, e2], fun j hj => by omega, h3⟩
  · refine ⟨some ⟨g, 0, none⟩, cap, fun j => us[j]?.getD twD, by rw [e, h1], fun j hj => ⟨g, 0, rfl, fun i hi => ?_⟩, h3⟩
    have hs : (us[j]?.getD twD).cs[i]? = some ((us[j]?.getD twD).cs[i]'(by simpa [TW.cs] using hi)) := Array.getElem?_eq_getElem _
    have := h2.cells (g := g) (by rw [e]; rfl) (j * 15 + i) _ ((flat_get us j i hi (by omega)).trans hs)
    rw [Go.WideShapes.add_plain] at this
    rw [hs, ← this]
    congr 2
    omega
/-- The first one of a list that is amiss, up to place i; k where there is none. -/
structure First (am : Nat → Bool) (l : List Nat) (k i f : Nat) : Prop where
  le : f ≤ k
  hit : f < k → f ∈ l ∧ am f = true
  low : ∀ a ∈ l.take i, am a = true → f ≤ a
theorem First.zero (am : Nat → Bool) (l : List Nat) (k : Nat) : First am l k 0 k := ⟨Nat.le_refl _, fun h => by omega, fun a ha => by simp at ha⟩
theorem First.step {am : Nat → Bool} {l : List Nat} {k i f a : Nat} (h : First am l k i f) (ha : l[i]? = some a) : First am l k (i + 1) (if a < f ∧ am a = true then a else f) := by
  have hi := (List.getElem?_eq_some_iff.1 ha).1
  have hget := (List.getElem?_eq_some_iff.1 ha).2
  have ht : l.take (i + 1) = l.take i ++ [a] := by rw [List.take_succ_eq_append_getElem hi, hget]
  have hm : a ∈ l := by rw [← hget]; exact List.getElem_mem hi
  by_cases c : a < f ∧ am a = true
  · rw [if_pos c]
    refine ⟨by have := h.le; omega, fun _ => ⟨hm, c.2⟩, fun x hx hx2 => ?_⟩
    rw [ht, List.mem_append] at hx
    rcases hx with hx | hx
    · have := h.low x hx hx2
      omega
    · simp at hx
      omega
  · rw [if_neg c]
    refine ⟨h.le, h.hit, fun x hx hx2 => ?_⟩
    rw [ht, List.mem_append] at hx
    rcases hx with hx | hx
    · exact h.low x hx hx2
    · simp at hx
      subst hx
      rcases Nat.lt_or_ge x f with c2 | c2
      · exact absurd ⟨c2, hx2⟩ c
      · exact c2
/-- What is looked for. -/
def badA (am : (Nat → Int) → (Nat → Int) → Bool) (zs : List Int) (ss : List Stm) (T : Tms) (a b : Nat × List Int) : Bool := am (spOf zs ss T a).tm (spOf zs ss T b).tm && decide (clash (memZ zs) (ss[a.1]?.getD stmD) (ss[b.1]?.getD stmD) a.2 b.2)
theorem none_skip {am : (Nat → Int) → (Nat → Int) → Bool} {zs : List Int} {ss : List Stm} {T : Tms} (hok : NestOk zs ss) {l : List (Nat × List Int)} {k : Nat} (hk : (l[k]?.getD spD).1 < ss.length) (hb : (spOf zs ss T (l[k]?.getD spD)).put.pos = -1) (h : NoneTo (badA am zs ss T) l k) : NoneTo (badA am zs ss T) l (k + 1) := by
  intro j i hj hi
  rcases Nat.lt_or_ge j k with c | c
  · exact h j i c hi
  · obtain rfl : j = k := by omega
    unfold badA
    rw [decide_eq_false (clash_in T hok hk hb), Bool.and_false]
theorem bad_iff {am : (Nat → Int) → (Nat → Int) → Bool} {zs : List Int} {ss : List Stm} {T : Tms} (hok : NestOk zs ss) {l : List (Nat × List Int)} {i k : Nat} (hi : i < k) (hki : (l[i]?.getD spD).1 < ss.length) (hk : (l[k]?.getD spD).1 < ss.length) (hb : (spOf zs ss T (l[k]?.getD spD)).put.pos ≠ -1) (S : Nat → Sp) (hS : ∀ j, S j = spOf zs ss T (l[j]?.getD spD)) (kd : Nat → Int) (hkd : ∀ j, kd j = (S j).kd) :
    badA am zs ss T (l[i]?.getD spD) (l[k]?.getD spD) = true ↔ i ∈ aheadL (touchL S k) kd (S k).kd (S k).put (S k).gets ∧ am (S i).tm (S k).tm = true := by
  rw [mem_ahead S kd hkd, hS i, hS k, way_clash T hok hki hk hb]
  unfold badA
  rw [Bool.and_eq_true, decide_eq_true_iff]
  constructor
  · rintro ⟨h1, h2⟩; exact ⟨⟨hi, h2⟩, h1⟩
  · rintro ⟨⟨_, h2⟩, h1⟩; exact ⟨h1, h2⟩
theorem first_none {am : (Nat → Int) → (Nat → Int) → Bool} {zs : List Int} {ss : List Stm} {T : Tms} (hok : NestOk zs ss) {l : List (Nat × List Int)} {k : Nat} (hl : ∀ j, j < l.length → (l[j]?.getD spD).1 < ss.length) (hk : k < l.length) (hb : (spOf zs ss T (l[k]?.getD spD)).put.pos ≠ -1) (S : Nat → Sp) (hS : ∀ j, S j = spOf zs ss T (l[j]?.getD spD)) (kd : Nat → Int) (hkd : ∀ j, kd j = (S j).kd)
    (h : NoneTo (badA am zs ss T) l k) {n f : Nat} (hf : First (fun a => am (S a).tm (S k).tm) (aheadL (touchL S k) kd (S k).kd (S k).put (S k).gets) k n f) (hn : (aheadL (touchL S k) kd (S k).kd (S k).put (S k).gets).length ≤ n) : (f < k → FirstAt (badA am zs ss T) l f k) ∧ (¬ f < k → NoneTo (badA am zs ss T) l (k + 1)) := by
  have low := hf.low
  rw [List.take_of_length_le hn] at low
  have below : ∀ i, i < f → i < k → badA am zs ss T (l[i]?.getD spD) (l[k]?.getD spD) = false := fun i h1 h2 => by
    rw [Bool.eq_false_iff]
    intro hb'
    obtain ⟨e1, e2⟩ := (bad_iff hok h2 (hl i (by omega)) (hl k hk) hb S hS kd hkd).1 hb'
    have := low i e1 e2
    omega
  constructor
  · intro hlt
    obtain ⟨e1, e2⟩ := hf.hit hlt
    exact ⟨hk, hlt, (bad_iff hok hlt (hl f (by omega)) (hl k hk) hb S hS kd hkd).2 ⟨e1, e2⟩, h, fun i hi => below i hi (by omega)⟩
  · intro hge j i hj hi
    rcases Nat.lt_or_ge j k with c | c
    · exact h j i c hi
    · obtain rfl : j = k := by omega
      exact below i (by have := hf.le; omega) hi
end Go.Proofs.Ytkbdnhchlkafnaa.V
namespace Go.Proofs.Ytkbdnhchlkafnaa.V
open Go Go.RowKit
set_option linter.unusedVariables false

theorem spots_bad (za : Option Addr) (zl zc : Nat) (zs : List Int) (ta : Option Addr) (tl tc : Nat) (ss : List Stm) (ma : Option Addr) (ml mc : Nat) (T : Tms) (w : World) (hz : Ints w za zl zs) (hs : Stms w ta tl ss) (hT : TimesA w ma ml T) (hE : rightE zs ss T ≠ 0) :
    Calls Try.prog 37 #[.agg #[.slice za zl zc, .slice ta tl tc], .slice ma ml mc] w fun e w' => e = .returned (.tuple #[.slice none 0 0, .int .i64 (rightE zs ss T)]) ∧ Below w.heap.size w w' := by
  by_cases h : ordE zs ss T = 0
  · have h1 := callsIn_wide.1 (spots_ok za zl zc zs ta tl tc ss ma ml mc T w hz hs hT h)
    refine h1.mono ?_
    rintro e w' ⟨h2, h3⟩
    unfold rightE at hE ⊢
    rw [if_neg (by simpa using h)] at hE ⊢
    unfold SpotsR at h2
    by_cases c : 1024 < (spK ss ss.length).length
    · rw [if_pos c] at h2 ⊢
      exact ⟨h2, h3⟩
    · rw [if_neg c] at hE
      exact absurd rfl hE
  · unfold rightE
    rw [if_pos h]
    exact spots_no za zl zc zs ta tl tc ss ma ml mc T w hz hs hT h
theorem spots_good (za : Option Addr) (zl zc : Nat) (zs : List Int) (ta : Option Addr) (tl tc : Nat) (ss : List Stm) (ma : Option Addr) (ml mc : Nat) (T : Tms) (w : World) (hz : Ints w za zl zs) (hs : Stms w ta tl ss) (hT : TimesA w ma ml T) (hE : rightE zs ss T = 0) :
    Calls Try.prog 37 #[.agg #[.slice za zl zc, .slice ta tl tc], .slice ma ml mc] w fun e w' => (∃ v B, e = .returned (.tuple #[v, .int .i64 0]) ∧ w.heap.size ≤ B ∧ OutT w' B v ((spK ss ss.length).map (spOf zs ss T))) ∧ Below w.heap.size w w' := by
  have hR := rightE_ok hE
  have h0 : ordE zs ss T = 0 := by
    unfold rightE at hE
    by_cases h1 : ordE zs ss T ≠ 0
    · rw [if_pos h1] at hE; exact absurd hE h1
    · simpa using h1
  have h1 := callsIn_wide.1 (spots_ok za zl zc zs ta tl tc ss ma ml mc T w hz hs hT h0)
  refine h1.mono ?_
  rintro e w' ⟨h2, h3⟩
  unfold SpotsR at h2
  rw [if_neg (by have := hR.few; omega)] at h2
  exact ⟨h2, h3⟩
set_option maxRecDepth 100000 in
set_option maxHeartbeats 4000000 in
theorem look_bad (za : Option Addr) (zl zc : Nat) (zs : List Int) (ta : Option Addr) (tl tc : Nat) (ss : List Stm) (ma : Option Addr) (ml mc : Nat) (T : Tms) (gv : Value) (w : World) (hz : Ints w za zl zs) (hs : Stms w ta tl ss) (hT : TimesA w ma ml T) (hE : rightE zs ss T ≠ 0) :
    Calls Try.prog 28 #[.agg #[.slice za zl zc, .slice ta tl tc], .slice ma ml mc, gv] w fun e w' => e = .returned (.tuple #[zeroF, .int .i64 (rightE zs ss T)]) ∧ Below w.heap.size w w' := by
  obtain ⟨W, hW⟩ : ∃ W, W = (w.alloc (.cells #[.slice za zl zc, .slice ta tl tc] 25)).alloc (.cells #[.bool false, .int .i64 0, .slice none 0 0, .int .i64 0, .slice none 0 0] 31) := ⟨_, rfl⟩
  have BW : Below w.heap.size w W := by rw [hW]; exact bl_on (bl_new _) (bl_new _)
  have N1 : NsBlk W w.heap.size za zl zc ta tl tc := by rw [hW]; exact (Below.heap_alloc _ _ _ (by simp)).trans (World.alloc_heap_new w _)
  have F1 : W.heap[w.heap.size + 1]? = some (.cells #[.bool false, .int .i64 0, .slice none 0 0, .int .i64 0, .slice none 0 0] 31 (0, 0)) := by
    rw [hW]
    have := World.alloc_heap_new (w.alloc (.cells #[.slice za zl zc, .slice ta tl tc] 25)) (.cells #[.bool false, .int .i64 0, .slice none 0 0, .int .i64 0, .slice none 0 0] 31)
    rw [World.size_alloc] at this
    exact this
  obtain ⟨n0, n1⟩ := N1.cells
  have zn := N1.lt
  have HRI := hide (spots_bad za zl zc zs ta tl tc ss ma ml mc T W (hz.below BW) (hs.below BW) (hT.below BW) hE)
  have HW := hide hW
  have HBW := hide BW
  have HF := hide F1
  obtain ⟨E, hEE⟩ : ∃ E, E = rightE zs ss T := ⟨_, rfl⟩
  rw [← hEE] at hE HRI
  rw [← hEE]
  have hEb : (E != 0) = true := by simpa using hE
  clear hz hs hT hW BW F1 N1 hEE hE
  go_enter Try.func28, Try.ntmps28
  go_wp2_with fail
  rw [← HW.out]
  refine HRI.out.mono ?_
  rintro e w1 ⟨rfl, hb⟩
  have HB1 := hide (bl_on HBW.out hb)
  have F2 := (hb.block _ (Array.getElem?_eq_some_iff.1 HF.out).1).trans HF.out
  have RW5 := row5 (five (.bool false) (.int .i64 0) (.slice none 0 0) (.int .i64 0) (.slice none 0 0)) (F2)
  have f0 := RW5.cell (i := 0) (by omega)
  have g0 := RW5.frozen 0
  have f1 := RW5.cell (i := 1) (by omega)
  have g1 := RW5.frozen 1
  have f2 := RW5.cell (i := 2) (by omega)
  have g2 := RW5.frozen 2
  have f3 := RW5.cell (i := 3) (by omega)
  have g3 := RW5.frozen 3
  have f4 := RW5.cell (i := 4) (by omega)
  have g4 := RW5.frozen 4
  simp only [five] at f0 f1 f2 f3 f4
  clear RW5
  have zf := (Array.getElem?_eq_some_iff.1 F2).1
  have HF2 := hide F2
  clear hb n0 n1 zn F2
  go_wp2_with fail
  have RF := set5 (row5 (five (.bool false) (.int .i64 0) (.slice none 0 0) (.int .i64 0) (.slice none 0 0)) HF2.out) (five (.bool false) (.int .i64 0) (.slice none 0 0) (.int .i64 0) (.slice none 0 0))
  have BF := below5 HB1.out (b := w.heap.size + 1) (by omega) (five (.bool false) (.int .i64 0) (.slice none 0 0) (.int .i64 0) (.slice none 0 0))
  have hput : ((((w1.setCell ⟨w.heap.size + 1, 0, none⟩ (.bool false)).setCell ⟨w.heap.size + 1, 1, none⟩ (.int .i64 0)).setCell ⟨w.heap.size + 1, 2, none⟩ (.slice none 0 0)).setCell ⟨w.heap.size + 1, 3, none⟩ (.int .i64 0)).setCell ⟨w.heap.size + 1, 4, none⟩ (.slice none 0 0) = put5 w1 (w.heap.size + 1) (five (.bool false) (.int .i64 0) (.slice none 0 0) (.int .i64 0) (.slice none 0 0)) := rfl
  rw [hput]
  clear hput
  generalize put5 w1 (w.heap.size + 1) (five (.bool false) (.int .i64 0) (.slice none 0 0) (.int .i64 0) (.slice none 0 0)) = wf at RF BF ⊢
  have k0 := RF.cell (i := 0) (by omega)
  have k1 := RF.cell (i := 1) (by omega)
  have k2 := RF.cell (i := 2) (by omega)
  have k3 := RF.cell (i := 3) (by omega)
  have k4 := RF.cell (i := 4) (by omega)
  simp only [five] at k0 k1 k2 k3 k4
  refine bodyPost_ret (v := .tuple #[zeroF, .int .i64 E]) (by simp [results, Try.results28, go_sem, zeroF, k0, k1, k2, k3, k4]) rfl ⟨rfl, BF⟩

end Go.Proofs.Ytkbdnhchlkafnaa.V
namespace Go.Proofs.Ytkbdnhchlkafnaa.V
open Go Go.RowKit
set_option linter.unusedVariables false

theorem run_make_map (W : World) : (Instr.makeMap 112 none).run Try.prog W = .ok (.map (some W.heap.size)) (W.alloc (.map #[] 0)) := by
  rfl
theorem spK_fst (ss : List Stm) (k : Nat) : ∀ p ∈ spK ss k, p.1 < k := fun p hp => by
  unfold spK spS at hp
  simp only [List.mem_flatMap, List.mem_range, List.mem_map] at hp
  obtain ⟨i, hi, x, _, rfl⟩ := hp
  exact hi
theorem gets_len {zs : List Int} {ss : List Stm} (hok : NestOk zs ss) (T : Tms) (p : Nat × List Int) : (spOf zs ss T p).gets.length ≤ 3 := by
  unfold spOf
  rw [List.length_map]
  by_cases h : p.1 < ss.length
  · have h1 := (hok.stms (ss[p.1]?.getD stmD) (by simp [h])).takes
    have h2 := (takes_bd (ss[p.1]?.getD stmD).kind).2
    omega
  · have : ss[p.1]?.getD stmD = stmD := by simp [h]
    rw [this]
    decide
theorem own_slice {W : World} {B e n : Nat} {v : Value} {xs : List Value} (h : W.ownsRow B e 1 v n xs) : ∃ A c, v = .slice A n c := by
  rcases h.2 with ⟨h1, h2⟩ | ⟨g, cap, cur, h1, _⟩
  · exact ⟨none, 0, by rw [h1, h2]⟩
  · exact ⟨_, cap, h1⟩
theorem OutT.look {W : World} {B : Nat} {v : Value} {l : List (Nat × List Int)} {f : Nat × List Int → Sp} (h : OutT W B v (l.map f)) : ∃ aa ac us, v = .slice aa l.length ac ∧ TAt W aa l.length us ∧ (∀ j, j < l.length → Lies B (fun V => TG V (us j) (f (l[j]?.getD spD))) W) ∧ ∀ j, (us j).kd = (f (l[j]?.getD spD)).kd := by
  obtain ⟨aa, ac, us, h1, h2, h3⟩ := h.at
  rw [List.length_map] at h1 h2 h3
  have h4 : ∀ j, j < l.length → (l.map f)[j]?.getD spDD = f (l[j]?.getD spD) := fun j hj => by simp [hj]
  refine ⟨aa, ac, fun j => if j < l.length then us j else ⟨0, none, 0, 0, fun _ => 0, (f (l[j]?.getD spD)).kd, 0, ⟨0, 0⟩, none, 0, 0⟩, h1, fun j hj => ?_, fun j hj => ?_, fun j => ?_⟩
  · simp only [if_pos hj]
    exact h2 j hj
  · simp only [if_pos hj]
    have := h3 j hj
    rw [h4 j hj] at this
    exact this
  · by_cases hj : j < l.length
    · simp only [if_pos hj]
      have := (h3 j hj).out.kd
      rw [h4 j hj] at this
      exact this
    · simp only [if_neg hj]
theorem ahead_len (L : PW → Bool → List Nat) (kd : Nat → Int) (k : Int) (p : PW) (ps : List PW) (B : Nat) (hl : ∀ p s, (L p s).length ≤ B) : (aheadL L kd k p ps).length ≤ B + B + ps.length * B := by
  have h4 : ∀ xs : List PW, (xs.flatMap (fun r => L r false)).length ≤ xs.length * B := fun xs => by
    induction xs with
    | nil => simp
    | cons x xs ih =>
      have := hl x false
      simp only [List.flatMap_cons, List.length_append, List.length_cons, Nat.add_mul]
      omega
  unfold aheadL
  rw [List.length_append, List.length_append]
  have h1 := List.length_filter_le (wayB kd k) (L p false)
  have h2 := hl p false
  have h3 := hl p true
  have h5 := h4 ps
  omega
theorem tch_new (w : World) (S : Nat → Sp) : Tch (w.alloc (.map #[] 0)) w.heap.size [] (touchL S 0) := by
  refine ⟨⟨#[], 0, World.alloc_heap_new w _, rfl⟩, fun k s => ?_, fun k s k' s' b h => ?_⟩
  · cases s <;> exact World.ownsRow_nil _ _ _ _
  · cases s <;> cases h
set_option maxRecDepth 100000 in
set_option maxHeartbeats 4000000 in
theorem look_good (am : (Nat → Int) → (Nat → Int) → Bool) (g : Nat) (eg : ∀ args w, (callFunc g args).run Try.prog w = .ok (.enter g args) w) (hg : ∀ (u v : TW) (W : World), Calls Try.prog g #[u.v, v.v] W fun e W' => e = .returned (.bool (am u.tm v.tm)) ∧ Below W.heap.size W W')
    (za : Option Addr) (zl zc : Nat) (zs : List Int) (ta : Option Addr) (tl tc : Nat) (ss : List Stm) (ma : Option Addr) (ml mc : Nat) (T : Tms) (w : World) (hz : Ints w za zl zs) (hs : Stms w ta tl ss) (hT : TimesA w ma ml T) (hE : rightE zs ss T = 0) :
    Calls Try.prog 28 #[.agg #[.slice za zl zc, .slice ta tl tc], .slice ma ml mc, .func (.func g) #[] #[]] w fun e w' => (∃ v, e = .returned (.tuple #[v, .int .i64 0]) ∧ FoundV (badA am zs ss T) (spK ss ss.length) w' v) ∧ Below w.heap.size w w' := by
  obtain ⟨W, hW⟩ : ∃ W, W = (w.alloc (.cells #[.slice za zl zc, .slice ta tl tc] 25)).alloc (.cells #[.bool false, .int .i64 0, .slice none 0 0, .int .i64 0, .slice none 0 0] 31) := ⟨_, rfl⟩
  have BW : Below w.heap.size w W := by rw [hW]; exact bl_on (bl_new _) (bl_new _)
  have N1 : NsBlk W w.heap.size za zl zc ta tl tc := by rw [hW]; exact (Below.heap_alloc _ _ _ (by simp)).trans (World.alloc_heap_new w _)
  have F1 : W.heap[w.heap.size + 1]? = some (.cells #[.bool false, .int .i64 0, .slice none 0 0, .int .i64 0, .slice none 0 0] 31 (0, 0)) := by
    rw [hW]
    have := World.alloc_heap_new (w.alloc (.cells #[.slice za zl zc, .slice ta tl tc] 25)) (.cells #[.bool false, .int .i64 0, .slice none 0 0, .int .i64 0, .slice none 0 0] 31)
    rw [World.size_alloc] at this
    exact this
  obtain ⟨n0, n1⟩ := N1.cells
  have zn := N1.lt
  have HRI := hide (spots_good za zl zc zs ta tl tc ss ma ml mc T W (hz.below BW) (hs.below BW) (hT.below BW) hE)
  have HW := hide hW
  have HBW := hide BW
  have HF := hide F1
  have HG := hide hg
  have HOK := hide (rightE_ok hE)
  clear hz hs hT hW BW F1 N1 hg
  obtain ⟨l, hl⟩ : ∃ l, l = spK ss ss.length := ⟨_, rfl⟩
  rw [← hl] at HRI
  rw [← hl]
  have HLL := hide hl
  have HFEW : Hid (l.length ≤ 1024) := by rw [Hid, hl]; exact HOK.out.few
  clear hl
  go_enter Try.func28, Try.ntmps28
  go_wp2_with fail
  rw [← HW.out]
  refine HRI.out.mono ?_
  rintro e w1 ⟨⟨v, B, rfl, hBv, hout⟩, hb⟩
  obtain ⟨aa, ac, us, rfl, hAt, hLie, hkd⟩ := hout.look
  obtain ⟨Sf, hSf⟩ : ∃ Sf : Nat → Sp, ∀ j, Sf j = spOf zs ss T (l[j]?.getD spD) := ⟨_, fun _ => rfl⟩
  obtain ⟨n, hn⟩ : ∃ n, n = l.length := ⟨_, rfl⟩
  rw [← hn] at hAt hLie HFEW ⊢
  have hn24 := HFEW.out
  have HN := hide hn
  have HSF := hide hSf
  have HKD : Hid (∀ j, (us j).kd = (Sf j).kd) := fun j => by rw [hSf]; exact hkd j
  have HAT := hide hAt
  have HLIE : Hid (∀ j, j < n → Lies B (fun V => TG V (us j) (Sf j)) w1) := fun j hj => by rw [hSf]; exact hLie j hj
  have HB1 := hide (bl_on HBW.out hb)
  have HF2 := hide ((hb.block _ (Array.getElem?_eq_some_iff.1 HF.out).1).trans HF.out)
  have HT0 := hide (tch_new w1 Sf)
  clear hb n0 n1 zn hAt hLie hout hBv hn HRI hSf hkd
  have hmk := run_make_map w1
  go_wp2_with fail
  clear hmk
  go_loopw [29] (fun i wr => ∃ k : Nat, k ≤ n ∧ i = .int .i64 k ∧ (∃ M, Tch wr w1.heap.size M (touchL Sf k)) ∧ Below w1.heap.size w1 wr ∧ NoneTo (badA am zs ss T) l k) (fun i _ => n - (intOf i).toNat)
  case atStart => exact ⟨0, Nat.zero_le _, rfl, ⟨_, HT0.out⟩, bl_new _, fun j i hj => by omega⟩
  case round =>
    clear HT0
    obtain ⟨k, hk, rfl, ⟨M, hT⟩, hB, hNone⟩ := hrel
    have HT := hide hT
    have HB := hide hB
    have HNO := hide hNone
    clear hT hB hNone
    by_cases hlt : k < n
    · obtain ⟨b, off, hb, hc⟩ := (HAT.out.below HB.out) k hlt
      have hG := ((HLIE.out k hlt).below HB.out).out
      obtain ⟨u, hu⟩ : ∃ u, u = us k := ⟨_, rfl⟩
      rw [← hu] at hc hG
      have HC := hide hc
      have HU := hide hu
      have HTG := hide hG
      have hl1 : ∀ j, j < l.length → (l[j]?.getD spD).1 < ss.length := fun j hj => by
        rw [HLL.out] at hj ⊢
        exact spK_fst ss ss.length _ (by simp [hj])
      have HL1 := hide hl1
      clear hc hu hG hl1
      subst hb
      have c0 : wr.cell? ⟨b, off + k * 15, none⟩ = some (.int .i64 u.stm) := HC.out 0 (by omega)
      have cz0 := lt_of_cell c0
      have c1 : wr.cell? ⟨b, off + k * 15 + 1, none⟩ = some (.slice u.xa u.xl u.xc) := HC.out 1 (by omega)
      have cz1 := lt_of_cell c1
      have c2 : wr.cell? ⟨b, off + k * 15 + 2, none⟩ = some (.int .i64 (u.tm 0)) := HC.out 2 (by omega)
      have cz2 := lt_of_cell c2
      have c3 : wr.cell? ⟨b, off + k * 15 + 3, none⟩ = some (.int .i64 (u.tm 1)) := HC.out 3 (by omega)
      have cz3 := lt_of_cell c3
      have c4 : wr.cell? ⟨b, off + k * 15 + 4, none⟩ = some (.int .i64 (u.tm 2)) := HC.out 4 (by omega)
      have cz4 := lt_of_cell c4
      have c5 : wr.cell? ⟨b, off + k * 15 + 5, none⟩ = some (.int .i64 (u.tm 3)) := HC.out 5 (by omega)
      have cz5 := lt_of_cell c5
      have c6 : wr.cell? ⟨b, off + k * 15 + 6, none⟩ = some (.int .i64 (u.tm 4)) := HC.out 6 (by omega)
      have cz6 := lt_of_cell c6
      have c7 : wr.cell? ⟨b, off + k * 15 + 7, none⟩ = some (.int .i64 (u.tm 5)) := HC.out 7 (by omega)
      have cz7 := lt_of_cell c7
      have c8 : wr.cell? ⟨b, off + k * 15 + 8, none⟩ = some (.int .i64 (u.tm 6)) := HC.out 8 (by omega)
      have cz8 := lt_of_cell c8
      have c9 : wr.cell? ⟨b, off + k * 15 + 9, none⟩ = some (.int .i64 (u.tm 7)) := HC.out 9 (by omega)
      have cz9 := lt_of_cell c9
      have c10 : wr.cell? ⟨b, off + k * 15 + 10, none⟩ = some (.int .i64 u.kd) := HC.out 10 (by omega)
      have cz10 := lt_of_cell c10
      have c11 : wr.cell? ⟨b, off + k * 15 + 11, none⟩ = some (.int .i64 u.va) := HC.out 11 (by omega)
      have cz11 := lt_of_cell c11
      have c12 : wr.cell? ⟨b, off + k * 15 + 12, none⟩ = some (.int .i64 u.pu.arr) := HC.out 12 (by omega)
      have cz12 := lt_of_cell c12
      have c13 : wr.cell? ⟨b, off + k * 15 + 13, none⟩ = some (.int .i64 u.pu.pos) := HC.out 13 (by omega)
      have cz13 := lt_of_cell c13
      have c14 : wr.cell? ⟨b, off + k * 15 + 14, none⟩ = some (.slice u.ga u.gl u.gc) := HC.out 14 (by omega)
      have cz14 := lt_of_cell c14
      by_cases hpos : u.pu.pos = -1
      · have hpos' : (u.pu.pos == -1) = true := by simpa using hpos
        go_wp2_with fail
        have hsp : (spOf zs ss T (l[k]?.getD spD)).put.pos = -1 := by
          rw [← HSF.out k, ← HTG.out.put]
          exact hpos
        refine ⟨⟨k + 1, by omega, rfl, ⟨M, ?_⟩, ?_, none_skip (nestE_ok HOK.out.ord.nest) (HL1.out k (by rw [← HN.out]; exact hlt)) hsp HNO.out⟩, by simp [intOf]; omega⟩
        · have e9 : touchL Sf (k + 1) = touchL Sf k := by
            unfold touchL
            rw [if_pos (by rw [HSF.out k]; exact hsp)]
            cases k <;> rfl
          rw [e9]
          exact HT.out.below (bl_new _)
        · exact bl_on HB.out (bl_new _)
      · have hpos' : (u.pu.pos == -1) = false := by simpa using hpos
        have HAH := hide (fun W (hb : Below w1.heap.size w1 W) (hT : Tch W w1.heap.size M (touchL Sf k)) (hin : PlsAt W u.ga u.gl (Sf k).gets) (hlt : ∀ p s a, a ∈ touchL Sf k p s → a < n) (hl : ∀ p s, (touchL Sf k p s).length ≤ 1000000) (hgl : u.gl ≤ 1000) => ahead_any w1.heap.size M (touchL Sf k) (some ⟨b, off, none⟩) n ac us u (Sf k).gets W hT (HAT.out.below hb) hin hlt (by omega) hl hgl)
        go_wp2_with fail
        have hb8 : Below w1.heap.size w1 (wr.alloc (.cells u.cs 63)) := bl_on HB.out (bl_new _)
        have hin8 : PlsAt (wr.alloc (.cells u.cs 63)) u.ga u.gl (Sf k).gets := by
          have := ((HLIE.out k hlt).below hb8).out.gets
          rw [← HU.out] at this
          exact this
        have hg3 : ∀ j, (Sf j).gets.length ≤ 3 := fun j => by rw [HSF.out j]; exact gets_len (nestE_ok HOK.out.ord.nest) T _
        have HBK := hide (TW.new u wr)
        have HB8 := hide hb8
        have HT8 := hide (HT.out.below (V := wr.alloc (.cells u.cs 63)) (bl_new _))
        have HIN8 := hide hin8
        have HG3 := hide hg3
        refine (HAH.out (wr.alloc (.cells u.cs 63)) hb8 HT8.out hin8 (fun p s a ha => by have := ((mem_touch Sf a p s k).1 ha).1; omega) (fun p s => by have := touch_len Sf 3 hg3 p s k; omega) (by have := hin8.1; have := hg3 k; omega)).mono ?_
        rintro e w3 ⟨⟨v3, rfl, how⟩, hb3⟩
        obtain ⟨A3, q3, rfl⟩ := own_slice how
        obtain ⟨al, hal⟩ : ∃ al, al = aheadL (touchL Sf k) (fun a => (us a).kd) u.kd u.pu (Sf k).gets := ⟨_, rfl⟩
        rw [← hal] at how ⊢
        have HOW := hide how
        have HALE := hide hal
        have HB3 := hide hb3
        have HBK3 := hide (HBK.out.below hb3)
        clear how hal hb3 hb8 hin8 hg3 HAH
        go_wp2_with fail
        obtain ⟨ub, hub⟩ : ∃ ub, ub = u := ⟨_, rfl⟩
        subst hub
        obtain ⟨B8, hB8⟩ : ∃ B8, B8 = wr.heap.size := ⟨_, rfl⟩
        rw [← hB8] at HBK3
        rw [← hB8]
        have HB8N := hide hB8
        clear hB8 c0 c1 c2 c3 c4 c5 c6 c7 c8 c9 c10 c11 c12 c13 c14 cz0 cz1 cz2 cz3 cz4 cz5 cz6 cz7 cz8 cz9 cz10 cz11 cz12 cz13 cz14 HC
        have HB13 := hide (bl_on HB8.out HB3.out)
        have HT3 := hide (HT8.out.below HB3.out)
        have HAL : Hid (al = aheadL (touchL Sf k) (fun a => (us a).kd) (Sf k).kd (Sf k).put (Sf k).gets) := by rw [Hid, HALE.out, HTG.out.kd, HTG.out.put]
        have HMEM : Hid (∀ a, a ∈ al → a < k) := fun a ha => by
          rw [HAL.out] at ha
          exact ((mem_ahead Sf (fun a => (us a).kd) HKD.out a k).1 ha).1
        have HLEN : Hid (al.length ≤ 100000) := by
          rw [Hid, HAL.out]
          have h1 := ahead_len (touchL Sf k) (fun a => (us a).kd) (Sf k).kd (Sf k).put (Sf k).gets 4096 (fun p s => by have := touch_len Sf 3 HG3.out p s k; omega)
          have h2 := HG3.out k
          have h3 := Nat.mul_le_mul_right 4096 h2
          omega
        go_loopw [44, 13] (fun i' f' wq => ∃ (i f : Nat), i ≤ al.length ∧ i' = .int .i64 i ∧ f' = .int .i64 f ∧ First (fun a => am (Sf a).tm (Sf k).tm) al k i f ∧ Below w3.heap.size w3 wq) (fun i' _ _ => al.length - (intOf i').toNat)
        case atStart => exact ⟨0, k, Nat.zero_le _, rfl, rfl, First.zero _ _ _, Below.refl _ _⟩
        case round =>
          obtain ⟨i, f, hi, rfl, rfl, hFi, hBq⟩ := hrel
          have hlen := HLEN.out
          have hfk := hFi.le
          have HFI := hide hFi
          have HBQ := hide hBq
          clear hFi hBq
          by_cases hil : i < al.length
          · obtain ⟨a, ha⟩ : ∃ a, a = al[i]?.getD 0 := ⟨_, rfl⟩
            have hsome : al[i]? = some a := by rw [ha]; simp [hil]
            have hak : a < k := HMEM.out a (List.mem_of_getElem? hsome)
            obtain ⟨g3, hg3, hcg0⟩ := (row_read HOW.out).2 i hil
            rw [← ha] at hcg0
            unfold iv at hcg0
            have hcg := (HBQ.out.cell (p := ⟨g3, i, none⟩) (lt_of_cell hcg0)).trans hcg0
            have hgz := lt_of_cell hcg
            rw [hg3]
            obtain ⟨b2, off2, hb2, hc⟩ := (HAT.out.below (bl_on HB13.out HBQ.out)) a (by omega)
            simp only [Option.some.injEq, Addr.mk.injEq, and_true] at hb2
            obtain ⟨e1, e2⟩ := hb2
            rw [← e1, ← e2] at hc
            have hG2 := ((HLIE.out a (by omega)).below (bl_on HB13.out HBQ.out)).out
            obtain ⟨u2, hu2⟩ : ∃ u2, u2 = us a := ⟨_, rfl⟩
            rw [← hu2] at hc hG2
            have HC := hide hc
            have HST := hide (HFI.out.step hsome)
            have HTM2 := hide hG2.tm
            have HTM := hide HTG.out.tm
            clear ha hsome hcg0 hc e1 e2 hu2 hG2
            go_wp2_with fail
            clear hcg hgz
            by_cases haf : a < f
            · have hafz : (a : Int) < (f : Int) := by omega
              have hafd : decide ((a : Int) < (f : Int)) = true := decide_eq_true hafz
              obtain ⟨x, hx⟩ : ∃ x, x = am u2.tm ub.tm := ⟨_, rfl⟩
              have HGX := hide (fun W => HG.out u2 ub W)
              rw [← hx] at HGX
              have HX : Hid (x = am (Sf a).tm (Sf k).tm) := by rw [Hid, hx, HTM2.out, HTM.out]
              unfold TW.v TW.cs at HGX
              clear hx
              have c0 : wr.cell? ⟨b, off + a * 15, none⟩ = some (.int .i64 u2.stm) := HC.out 0 (by omega)
              have cz0 := lt_of_cell c0
              have c1 : wr.cell? ⟨b, off + a * 15 + 1, none⟩ = some (.slice u2.xa u2.xl u2.xc) := HC.out 1 (by omega)
              have cz1 := lt_of_cell c1
              have c2 : wr.cell? ⟨b, off + a * 15 + 2, none⟩ = some (.int .i64 (u2.tm 0)) := HC.out 2 (by omega)
              have cz2 := lt_of_cell c2
              have c3 : wr.cell? ⟨b, off + a * 15 + 3, none⟩ = some (.int .i64 (u2.tm 1)) := HC.out 3 (by omega)
              have cz3 := lt_of_cell c3
              have c4 : wr.cell? ⟨b, off + a * 15 + 4, none⟩ = some (.int .i64 (u2.tm 2)) := HC.out 4 (by omega)
              have cz4 := lt_of_cell c4
              have c5 : wr.cell? ⟨b, off + a * 15 + 5, none⟩ = some (.int .i64 (u2.tm 3)) := HC.out 5 (by omega)
              have cz5 := lt_of_cell c5
              have c6 : wr.cell? ⟨b, off + a * 15 + 6, none⟩ = some (.int .i64 (u2.tm 4)) := HC.out 6 (by omega)
              have cz6 := lt_of_cell c6
              have c7 : wr.cell? ⟨b, off + a * 15 + 7, none⟩ = some (.int .i64 (u2.tm 5)) := HC.out 7 (by omega)
              have cz7 := lt_of_cell c7
              have c8 : wr.cell? ⟨b, off + a * 15 + 8, none⟩ = some (.int .i64 (u2.tm 6)) := HC.out 8 (by omega)
              have cz8 := lt_of_cell c8
              have c9 : wr.cell? ⟨b, off + a * 15 + 9, none⟩ = some (.int .i64 (u2.tm 7)) := HC.out 9 (by omega)
              have cz9 := lt_of_cell c9
              have c10 : wr.cell? ⟨b, off + a * 15 + 10, none⟩ = some (.int .i64 u2.kd) := HC.out 10 (by omega)
              have cz10 := lt_of_cell c10
              have c11 : wr.cell? ⟨b, off + a * 15 + 11, none⟩ = some (.int .i64 u2.va) := HC.out 11 (by omega)
              have cz11 := lt_of_cell c11
              have c12 : wr.cell? ⟨b, off + a * 15 + 12, none⟩ = some (.int .i64 u2.pu.arr) := HC.out 12 (by omega)
              have cz12 := lt_of_cell c12
              have c13 : wr.cell? ⟨b, off + a * 15 + 13, none⟩ = some (.int .i64 u2.pu.pos) := HC.out 13 (by omega)
              have cz13 := lt_of_cell c13
              have c14 : wr.cell? ⟨b, off + a * 15 + 14, none⟩ = some (.slice u2.ga u2.gl u2.gc) := HC.out 14 (by omega)
              have cz14 := lt_of_cell c14
              obtain ⟨d0, d1, d2, d3, d4, d5, d6, d7, d8, d9, d10, d11, d12, d13, d14⟩ := (HBK3.out.below HBQ.out).cells
              have dz := (HBK3.out.below HBQ.out).lt
              have han : a < n := by omega
              refine region_madeG 12 12 [fIs (.int .i64 (a : Int)), fIs (.int .i64 (f : Int)), fIs (.bool true), fIs (.bool true), fIs (.func (.func g) #[] #[]), fIs (.slice (some ⟨b, off, none⟩) n ac), fIs (.int .i64 (a : Int)), fIs (.pointer (some ⟨b, off + a * 15, none⟩)), fIs (.agg #[.int .i64 u2.stm, .slice u2.xa u2.xl u2.xc, .int .i64 (u2.tm 0), .int .i64 (u2.tm 1), .int .i64 (u2.tm 2), .int .i64 (u2.tm 3), .int .i64 (u2.tm 4), .int .i64 (u2.tm 5), .int .i64 (u2.tm 6), .int .i64 (u2.tm 7), .int .i64 u2.kd, .int .i64 u2.va, .int .i64 u2.pu.arr, .int .i64 u2.pu.pos, .slice u2.ga u2.gl u2.gc]), fIs (.agg #[.int .i64 ub.stm, .slice ub.xa ub.xl ub.xc, .int .i64 (ub.tm 0), .int .i64 (ub.tm 1), .int .i64 (ub.tm 2), .int .i64 (ub.tm 3), .int .i64 (ub.tm 4), .int .i64 (ub.tm 5), .int .i64 (ub.tm 6), .int .i64 (ub.tm 7), .int .i64 ub.kd, .int .i64 ub.va, .int .i64 ub.pu.arr, .int .i64 ub.pu.pos, .slice ub.ga ub.gl ub.gc]), fIs (.bool x), fIs (.bool x)] [none, none, none, some true, none, none, none, none, none, none, none, none] [true, true, true, true, true, true, true, true, true, true, true, true] (by kernel_rfl) (by kernel_rfl) (by kernel_rfl) (fun ch p q w3 e h => by obtain ⟨t1, d1⟩ := p; obtain ⟨t2, d2⟩ := q; cases e; exact h) ⟨fIs_good _, fIs_good _, fIs_good _, fIs_good _, fIs_good _, fIs_good _, fIs_good _, fIs_good _, fIs_good _, fIs_good _, fIs_good _, fIs_good _, trivial⟩ ⟨fun _ _ h => h, rfl⟩ ?mkT ?restT
              case mkT =>
                refine ⟨fun u wz hb hd => ?_, fun u wz hb hd => ?_, fun u wz hb hd => ?_, fun u wz hb hd => ?_, fun u wz hb hd => ?_, fun u wz hb hd => ?_, fun u wz hb hd => ?_, fun u wz hb hd => ?_, fun u wz hb hd => ?_, fun u wz hb hd => ?_, fun u wz hb hd => ?_, fun u wz hb hd => ?_, trivial⟩
                all_goals simp only [Act.put, List.setIfInBounds_toArray, List.set_cons_zero, List.set_cons_succ]
                · go_simp
                  exact ⟨rfl, Below.refl _ _, fun h => by cases h⟩
                · go_simp
                  exact ⟨rfl, Below.refl _ _, fun h => by cases h⟩
                · have e0 : u 0 = .int .i64 (a : Int) := hd 0 (by omega) (by kernel_rfl)
                  have e1 : u 1 = .int .i64 (f : Int) := hd 1 (by omega) (by kernel_rfl)
                  rw [e0, e1]
                  go_simp
                  exact ⟨rfl, Below.refl _ _, fun h => by cases h⟩
                · have e2 : u 2 = .bool true := hd 2 (by omega) (by kernel_rfl)
                  rw [e2]
                  go_simp
                  exact ⟨rfl, Below.refl _ _, fun h => by cases h⟩
                · go_simp
                  exact ⟨rfl, Below.refl _ _, fun h => by cases h⟩
                · go_simp
                  exact ⟨rfl, Below.refl _ _, fun h => by cases h⟩
                · go_simp
                  exact ⟨rfl, Below.refl _ _, fun h => by cases h⟩
                · have e5 : u 5 = .slice (some ⟨b, off, none⟩) n ac := hd 5 (by omega) (by kernel_rfl)
                  have e6 : u 6 = .int .i64 (a : Int) := hd 6 (by omega) (by kernel_rfl)
                  rw [e5, e6]
                  go_simp
                  exact ⟨rfl, Below.refl _ _, fun h => by cases h⟩
                · have e7 : u 7 = .pointer (some ⟨b, off + a * 15, none⟩) := hd 7 (by omega) (by kernel_rfl)
                  rw [e7]
                  have c0' := (hb.cell (p := ⟨b, off + a * 15, none⟩) (lt_of_cell c0)).trans c0
                  have c1' := (hb.cell (p := ⟨b, off + a * 15 + 1, none⟩) (lt_of_cell c1)).trans c1
                  have c2' := (hb.cell (p := ⟨b, off + a * 15 + 2, none⟩) (lt_of_cell c2)).trans c2
                  have c3' := (hb.cell (p := ⟨b, off + a * 15 + 3, none⟩) (lt_of_cell c3)).trans c3
                  have c4' := (hb.cell (p := ⟨b, off + a * 15 + 4, none⟩) (lt_of_cell c4)).trans c4
                  have c5' := (hb.cell (p := ⟨b, off + a * 15 + 5, none⟩) (lt_of_cell c5)).trans c5
                  have c6' := (hb.cell (p := ⟨b, off + a * 15 + 6, none⟩) (lt_of_cell c6)).trans c6
                  have c7' := (hb.cell (p := ⟨b, off + a * 15 + 7, none⟩) (lt_of_cell c7)).trans c7
                  have c8' := (hb.cell (p := ⟨b, off + a * 15 + 8, none⟩) (lt_of_cell c8)).trans c8
                  have c9' := (hb.cell (p := ⟨b, off + a * 15 + 9, none⟩) (lt_of_cell c9)).trans c9
                  have c10' := (hb.cell (p := ⟨b, off + a * 15 + 10, none⟩) (lt_of_cell c10)).trans c10
                  have c11' := (hb.cell (p := ⟨b, off + a * 15 + 11, none⟩) (lt_of_cell c11)).trans c11
                  have c12' := (hb.cell (p := ⟨b, off + a * 15 + 12, none⟩) (lt_of_cell c12)).trans c12
                  have c13' := (hb.cell (p := ⟨b, off + a * 15 + 13, none⟩) (lt_of_cell c13)).trans c13
                  have c14' := (hb.cell (p := ⟨b, off + a * 15 + 14, none⟩) (lt_of_cell c14)).trans c14
                  go_simp
                  exact ⟨rfl, Below.refl _ _, fun h => by cases h⟩
                · have d0' := (hb.cell (p := ⟨B8, 0, none⟩) (lt_of_cell d0)).trans d0
                  have d1' := (hb.cell (p := ⟨B8, 1, none⟩) (lt_of_cell d1)).trans d1
                  have d2' := (hb.cell (p := ⟨B8, 2, none⟩) (lt_of_cell d2)).trans d2
                  have d3' := (hb.cell (p := ⟨B8, 3, none⟩) (lt_of_cell d3)).trans d3
                  have d4' := (hb.cell (p := ⟨B8, 4, none⟩) (lt_of_cell d4)).trans d4
                  have d5' := (hb.cell (p := ⟨B8, 5, none⟩) (lt_of_cell d5)).trans d5
                  have d6' := (hb.cell (p := ⟨B8, 6, none⟩) (lt_of_cell d6)).trans d6
                  have d7' := (hb.cell (p := ⟨B8, 7, none⟩) (lt_of_cell d7)).trans d7
                  have d8' := (hb.cell (p := ⟨B8, 8, none⟩) (lt_of_cell d8)).trans d8
                  have d9' := (hb.cell (p := ⟨B8, 9, none⟩) (lt_of_cell d9)).trans d9
                  have d10' := (hb.cell (p := ⟨B8, 10, none⟩) (lt_of_cell d10)).trans d10
                  have d11' := (hb.cell (p := ⟨B8, 11, none⟩) (lt_of_cell d11)).trans d11
                  have d12' := (hb.cell (p := ⟨B8, 12, none⟩) (lt_of_cell d12)).trans d12
                  have d13' := (hb.cell (p := ⟨B8, 13, none⟩) (lt_of_cell d13)).trans d13
                  have d14' := (hb.cell (p := ⟨B8, 14, none⟩) (lt_of_cell d14)).trans d14
                  go_simp
                  exact ⟨rfl, Below.refl _ _, fun h => by cases h⟩
                · have e4 : u 4 = .func (.func g) #[] #[] := hd 4 (by omega) (by kernel_rfl)
                  have e8 : u 8 = .agg #[.int .i64 u2.stm, .slice u2.xa u2.xl u2.xc, .int .i64 (u2.tm 0), .int .i64 (u2.tm 1), .int .i64 (u2.tm 2), .int .i64 (u2.tm 3), .int .i64 (u2.tm 4), .int .i64 (u2.tm 5), .int .i64 (u2.tm 6), .int .i64 (u2.tm 7), .int .i64 u2.kd, .int .i64 u2.va, .int .i64 u2.pu.arr, .int .i64 u2.pu.pos, .slice u2.ga u2.gl u2.gc] := hd 8 (by omega) (by kernel_rfl)
                  have e9 : u 9 = .agg #[.int .i64 ub.stm, .slice ub.xa ub.xl ub.xc, .int .i64 (ub.tm 0), .int .i64 (ub.tm 1), .int .i64 (ub.tm 2), .int .i64 (ub.tm 3), .int .i64 (ub.tm 4), .int .i64 (ub.tm 5), .int .i64 (ub.tm 6), .int .i64 (ub.tm 7), .int .i64 ub.kd, .int .i64 ub.va, .int .i64 ub.pu.arr, .int .i64 ub.pu.pos, .slice ub.ga ub.gl ub.gc] := hd 9 (by omega) (by kernel_rfl)
                  rw [e4, e8, e9]
                  go_simp
                  refine (HGX.out wz).mono ?_
                  rintro e w2 ⟨rfl, hb2⟩
                  exact ⟨rfl, hb2, fun h => by cases h⟩
                · have e3 : u 3 = .bool true := hd 3 (by omega) (by kernel_rfl)
                  have e10 : u 10 = .bool x := hd 10 (by omega) (by kernel_rfl)
                  rw [e3, e10]
                  go_simp
                  exact ⟨rfl, Below.refl _ _, fun h => by cases h⟩
              case restT =>
                intro u wz hb hf hp
                have f0 : u 0 = .int .i64 (a : Int) := hf 0 (by omega)
                have f1 : u 1 = .int .i64 (f : Int) := hf 1 (by omega)
                have f2 : u 2 = .bool true := hf 2 (by omega)
                have f3 : u 3 = .bool true := hf 3 (by omega)
                have f4 : u 4 = .func (.func g) #[] #[] := hf 4 (by omega)
                have f5 : u 5 = .slice (some ⟨b, off, none⟩) n ac := hf 5 (by omega)
                have f6 : u 6 = .int .i64 (a : Int) := hf 6 (by omega)
                have f7 : u 7 = .pointer (some ⟨b, off + a * 15, none⟩) := hf 7 (by omega)
                have f8 : u 8 = .agg #[.int .i64 u2.stm, .slice u2.xa u2.xl u2.xc, .int .i64 (u2.tm 0), .int .i64 (u2.tm 1), .int .i64 (u2.tm 2), .int .i64 (u2.tm 3), .int .i64 (u2.tm 4), .int .i64 (u2.tm 5), .int .i64 (u2.tm 6), .int .i64 (u2.tm 7), .int .i64 u2.kd, .int .i64 u2.va, .int .i64 u2.pu.arr, .int .i64 u2.pu.pos, .slice u2.ga u2.gl u2.gc] := hf 8 (by omega)
                have f9 : u 9 = .agg #[.int .i64 ub.stm, .slice ub.xa ub.xl ub.xc, .int .i64 (ub.tm 0), .int .i64 (ub.tm 1), .int .i64 (ub.tm 2), .int .i64 (ub.tm 3), .int .i64 (ub.tm 4), .int .i64 (ub.tm 5), .int .i64 (ub.tm 6), .int .i64 (ub.tm 7), .int .i64 ub.kd, .int .i64 ub.va, .int .i64 ub.pu.arr, .int .i64 ub.pu.pos, .slice ub.ga ub.gl ub.gc] := hf 9 (by omega)
                have f10 : u 10 = .bool x := hf 10 (by omega)
                have f11 : u 11 = .bool x := hf 11 (by omega)
                refine UptoW.rest 0 12 (by rfl) (by kernel_rfl) ?_
                simp only [List.take, List.drop, putOps, Act.put, List.setIfInBounds_toArray, List.set_cons_zero, List.set_cons_succ, Nat.reduceAdd, f0, f1, f2, f3, f4, f5, f6, f7, f8, f9, f10, f11]
                clear f0 f1 f2 f3 f4 f5 f6 f7 f8 f9 f10 f11 hf hp
                have HBZ := hide (bl_on HBQ.out hb)
                clear hb
                cases x with
                | true =>
                  have HST2 := HST.out
                  rw [if_pos ⟨haf, HX.out.symm⟩] at HST2
                  go_wp2_with fail
                  refine ⟨⟨i + 1, a, by omega, rfl, rfl, HST2, HBZ.out⟩, by simp [intOf]; omega⟩
                | false =>
                  have HST2 := HST.out
                  rw [if_neg (fun h => by have := h.2; rw [← HX.out] at this; cases this)] at HST2
                  go_wp2_with fail
                  refine ⟨⟨i + 1, f, by omega, rfl, rfl, HST2, HBZ.out⟩, by simp [intOf]; omega⟩
            · have hafz : ¬ (a : Int) < (f : Int) := by omega
              have hafd : decide ((a : Int) < (f : Int)) = false := decide_eq_false hafz
              refine region_madeG 12 12 [fIs (.int .i64 (a : Int)), fIs (.int .i64 (f : Int)), fIs (.bool false), fIs (.bool false), fIs undef, fIs undef, fIs undef, fIs undef, fIs undef, fIs undef, fIs undef, fIs (.bool false)] [none, none, none, some false, none, none, none, none, none, none, none, none] [true, true, true, true, false, false, false, false, false, false, false, true] (by kernel_rfl) (by kernel_rfl) (by kernel_rfl) (fun ch p q w3 e h => by obtain ⟨t1, d1⟩ := p; obtain ⟨t2, d2⟩ := q; cases e; exact h) ⟨fIs_good _, fIs_good _, fIs_good _, fIs_good _, fIs_good _, fIs_good _, fIs_good _, fIs_good _, fIs_good _, fIs_good _, fIs_good _, fIs_good _, trivial⟩ ⟨fun _ _ h => h, rfl⟩ ?mkU ?restU
              case mkU =>
                refine ⟨fun u wz hb hd => ?_, fun u wz hb hd => ?_, fun u wz hb hd => ?_, fun u wz hb hd => ?_, ⟨fun _ => rfl, rfl⟩, ⟨fun _ => rfl, rfl⟩, ⟨fun _ => rfl, rfl⟩, ⟨fun _ => rfl, rfl⟩, ⟨fun _ => rfl, rfl⟩, ⟨fun _ => rfl, rfl⟩, ⟨fun _ => rfl, rfl⟩, fun u wz hb hd => ?_, trivial⟩
                all_goals simp only [Act.put, List.setIfInBounds_toArray, List.set_cons_zero, List.set_cons_succ]
                · go_simp
                  exact ⟨rfl, Below.refl _ _, fun h => by cases h⟩
                · go_simp
                  exact ⟨rfl, Below.refl _ _, fun h => by cases h⟩
                · have e0 : u 0 = .int .i64 (a : Int) := hd 0 (by omega) (by kernel_rfl)
                  have e1 : u 1 = .int .i64 (f : Int) := hd 1 (by omega) (by kernel_rfl)
                  rw [e0, e1]
                  go_simp
                  exact ⟨rfl, Below.refl _ _, fun h => by cases h⟩
                · have e2 : u 2 = .bool false := hd 2 (by omega) (by kernel_rfl)
                  rw [e2]
                  go_simp
                  exact ⟨rfl, Below.refl _ _, fun h => by cases h⟩
                · have e3 : u 3 = .bool false := hd 3 (by omega) (by kernel_rfl)
                  rw [e3]
                  go_simp
                  exact ⟨rfl, Below.refl _ _, fun h => by cases h⟩
              case restU =>
                intro u wz hb hf hp
                have f0 : u 0 = .int .i64 (a : Int) := hf 0 (by omega)
                have f1 : u 1 = .int .i64 (f : Int) := hf 1 (by omega)
                have f2 : u 2 = .bool false := hf 2 (by omega)
                have f3 : u 3 = .bool false := hf 3 (by omega)
                have f4 : u 4 = undef := hf 4 (by omega)
                have f5 : u 5 = undef := hf 5 (by omega)
                have f6 : u 6 = undef := hf 6 (by omega)
                have f7 : u 7 = undef := hf 7 (by omega)
                have f8 : u 8 = undef := hf 8 (by omega)
                have f9 : u 9 = undef := hf 9 (by omega)
                have f10 : u 10 = undef := hf 10 (by omega)
                have f11 : u 11 = .bool false := hf 11 (by omega)
                refine UptoW.rest 0 12 (by rfl) (by kernel_rfl) ?_
                simp only [List.take, List.drop, putOps, Act.put, List.setIfInBounds_toArray, List.set_cons_zero, List.set_cons_succ, Nat.reduceAdd, f0, f1, f2, f3, f4, f5, f6, f7, f8, f9, f10, f11]
                clear f0 f1 f2 f3 f4 f5 f6 f7 f8 f9 f10 f11 hf hp
                have HBZ := hide (bl_on HBQ.out hb)
                clear hb
                have HST2 := HST.out
                rw [if_neg (fun h => haf h.1)] at HST2
                go_wp2_with fail
                refine ⟨⟨i + 1, f, by omega, rfl, rfl, HST2, HBZ.out⟩, by simp [intOf]; omega⟩
          · have e9 : i = al.length := by omega
            subst e9
            have HFN : Hid ((f < k → FirstAt (badA am zs ss T) l f k) ∧ (¬ f < k → NoneTo (badA am zs ss T) l (k + 1))) := by
              have h9 := HFI.out
              rw [HAL.out] at h9
              exact first_none (nestE_ok HOK.out.ord.nest) HL1.out (by rw [← HN.out]; exact hlt) (by rw [← HSF.out k, ← HTG.out.put]; exact hpos) Sf HSF.out (fun a => (us a).kd) HKD.out HNO.out h9 (Nat.le_refl _)
            have HBW1 := hide (bl_on HB13.out HBQ.out)
            by_cases hfk2 : f < k
            · have hfz : (f : Int) < (k : Int) := by omega
              go_wp2_with fail
              obtain ⟨b2, off2, hb2, hc⟩ := (HAT.out.below HBW1.out) f (by omega)
              simp only [Option.some.injEq, Addr.mk.injEq, and_true] at hb2
              obtain ⟨e1, e2⟩ := hb2
              rw [← e1, ← e2] at hc
              have HG2 := hide ((HLIE.out f (by omega)).below HBW1.out).out
              have HG1 := hide ((HLIE.out k hlt).below HBW1.out).out
              obtain ⟨u2, hu2⟩ : ∃ u2, u2 = us f := ⟨_, rfl⟩
              rw [← hu2] at hc HG2
              rw [← HU.out] at HG1
              have c0 : wr.cell? ⟨b, off + f * 15, none⟩ = some (.int .i64 u2.stm) := hc 0 (by omega)
              have c1 : wr.cell? ⟨b, off + f * 15 + 1, none⟩ = some (.slice u2.xa u2.xl u2.xc) := hc 1 (by omega)
              have cz0 := lt_of_cell c0
              obtain ⟨d0, d1, _, _, _, _, _, _, _, _, _, _, _, _, _⟩ := (HBK3.out.below HBQ.out).cells
              have dz := (HBK3.out.below HBQ.out).lt
              clear hc e1 e2 hu2
              have hfn : f < n := by omega
              refine region_made 8 10 [fIs (.slice (some ⟨b, off, none⟩) n ac), fIs (.int .i64 (f : Int)), fIs (.pointer (some ⟨b, off + f * 15, none⟩)), fIs (.pointer (some ⟨b, off + f * 15, none⟩)), fIs (.agg #[.int .i64 u2.stm, .slice u2.xa u2.xl u2.xc]), fIs (.pointer (some ⟨B8, 0, none⟩)), fIs (.agg #[.int .i64 ub.stm, .slice ub.xa ub.xl ub.xc]), fIs (.agg #[.bool true, .int .i64 u2.stm, .slice u2.xa u2.xl u2.xc, .int .i64 ub.stm, .slice ub.xa ub.xl ub.xc])] (by kernel_rfl) (by kernel_rfl) (by kernel_rfl) (fun ch p q w3 e h => by obtain ⟨t1, d1⟩ := p; obtain ⟨t2, d2⟩ := q; cases e; exact h) ⟨fIs_good _, fIs_good _, fIs_good _, fIs_good _, fIs_good _, fIs_good _, fIs_good _, fIs_good _, trivial⟩ ?mkV ?restV
              case mkV =>
                refine ⟨fun u wz hb hd => ?_, fun u wz hb hd => ?_, fun u wz hb hd => ?_, fun u wz hb hd => ?_, fun u wz hb hd => ?_, fun u wz hb hd => ?_, fun u wz hb hd => ?_, fun u wz hb hd => ?_, trivial⟩
                all_goals simp only [Act.put, List.setIfInBounds_toArray, List.set_cons_zero, List.set_cons_succ]
                · go_simp
                  exact ⟨rfl, Below.refl _ _, fun h => by cases h⟩
                · go_simp
                  exact ⟨rfl, Below.refl _ _, fun h => by cases h⟩
                · have e0 : u 0 = .slice (some ⟨b, off, none⟩) n ac := hd 0 (by omega) (by kernel_rfl)
                  have e1 : u 1 = .int .i64 (f : Int) := hd 1 (by omega) (by kernel_rfl)
                  rw [e0, e1]
                  go_simp
                  exact ⟨rfl, Below.refl _ _, fun h => by cases h⟩
                · have e2 : u 2 = .pointer (some ⟨b, off + f * 15, none⟩) := hd 2 (by omega) (by kernel_rfl)
                  rw [e2]
                  go_simp
                  exact ⟨rfl, Below.refl _ _, fun h => by cases h⟩
                · have e3 : u 3 = .pointer (some ⟨b, off + f * 15, none⟩) := hd 3 (by omega) (by kernel_rfl)
                  rw [e3]
                  have c0' := (hb.cell (p := ⟨b, off + f * 15, none⟩) (lt_of_cell c0)).trans c0
                  have c1' := (hb.cell (p := ⟨b, off + f * 15 + 1, none⟩) (lt_of_cell c1)).trans c1
                  go_simp
                  exact ⟨rfl, Below.refl _ _, fun h => by cases h⟩
                · go_simp
                  exact ⟨rfl, Below.refl _ _, fun h => by cases h⟩
                · have e5 : u 5 = .pointer (some ⟨B8, 0, none⟩) := hd 5 (by omega) (by kernel_rfl)
                  rw [e5]
                  have d0' := (hb.cell (p := ⟨B8, 0, none⟩) (lt_of_cell d0)).trans d0
                  have d1' := (hb.cell (p := ⟨B8, 1, none⟩) (lt_of_cell d1)).trans d1
                  go_simp
                  exact ⟨rfl, Below.refl _ _, fun h => by cases h⟩
                · have e4 : u 4 = .agg #[.int .i64 u2.stm, .slice u2.xa u2.xl u2.xc] := hd 4 (by omega) (by kernel_rfl)
                  have e6 : u 6 = .agg #[.int .i64 ub.stm, .slice ub.xa ub.xl ub.xc] := hd 6 (by omega) (by kernel_rfl)
                  rw [e4, e6]
                  go_simp
                  exact ⟨rfl, Below.refl _ _, fun h => by cases h⟩
              case restV =>
                intro u wz hb hf hp
                have f0 : u 0 = .slice (some ⟨b, off, none⟩) n ac := hf 0 (by omega)
                have f1 : u 1 = .int .i64 (f : Int) := hf 1 (by omega)
                have f2 : u 2 = .pointer (some ⟨b, off + f * 15, none⟩) := hf 2 (by omega)
                have f3 : u 3 = .pointer (some ⟨b, off + f * 15, none⟩) := hf 3 (by omega)
                have f4 : u 4 = .agg #[.int .i64 u2.stm, .slice u2.xa u2.xl u2.xc] := hf 4 (by omega)
                have f5 : u 5 = .pointer (some ⟨B8, 0, none⟩) := hf 5 (by omega)
                have f6 : u 6 = .agg #[.int .i64 ub.stm, .slice ub.xa ub.xl ub.xc] := hf 6 (by omega)
                have f7 : u 7 = .agg #[.bool true, .int .i64 u2.stm, .slice u2.xa u2.xl u2.xc, .int .i64 ub.stm, .slice ub.xa ub.xl ub.xc] := hf 7 (by omega)
                refine UptoW.rest 2 8 (by rfl) (by kernel_rfl) ?_
                simp only [List.take, List.drop, putOps, Act.put, List.setIfInBounds_toArray, List.set_cons_zero, List.set_cons_succ, Nat.reduceAdd, f0, f1, f2, f3, f4, f5, f6, f7]
                clear f0 f1 f2 f3 f4 f5 f6 f7 hf hp
                have HBZ := hide (bl_on HBW1.out hb)
                have HG2z := hide HG2.out
                have F2 := (HBZ.out.block _ (Array.getElem?_eq_some_iff.1 HF2.out).1).trans HF2.out
                have RW5 := row5 (five (.bool false) (.int .i64 0) (.slice none 0 0) (.int .i64 0) (.slice none 0 0)) (F2)
                have f0 := RW5.cell (i := 0) (by omega)
                have g0 := RW5.frozen 0
                have f1 := RW5.cell (i := 1) (by omega)
                have g1 := RW5.frozen 1
                have f2 := RW5.cell (i := 2) (by omega)
                have g2 := RW5.frozen 2
                have f3 := RW5.cell (i := 3) (by omega)
                have g3 := RW5.frozen 3
                have f4 := RW5.cell (i := 4) (by omega)
                have g4 := RW5.frozen 4
                simp only [five] at f0 f1 f2 f3 f4
                clear RW5
                have zf := (Array.getElem?_eq_some_iff.1 F2).1
                have HF3 := hide F2
                have HI1 := hide (HG1.out.pt.1.below hb)
                have HN1 : Hid (NumT wz ub.xa) := fun b9 o9 h9 => by
                  obtain ⟨cur, fz, h8⟩ := HG1.out.num b9 o9 h9
                  exact ⟨cur, fz, (hb.block b9 (Array.getElem?_eq_some_iff.1 h8).1).trans h8⟩
                have HI2 := hide (HG2.out.pt.1.below hb)
                have HN2 : Hid (NumT wz u2.xa) := fun b9 o9 h9 => by
                  obtain ⟨cur, fz, h8⟩ := HG2.out.num b9 o9 h9
                  exact ⟨cur, fz, (hb.block b9 (Array.getElem?_eq_some_iff.1 h8).1).trans h8⟩
                clear F2 hb c0 c1 cz0 d0 d1 dz
                go_wp2_with fail
                have RF := set5 (row5 (five (.bool false) (.int .i64 0) (.slice none 0 0) (.int .i64 0) (.slice none 0 0)) HF3.out) (five (.bool true) (.int .i64 u2.stm) (.slice u2.xa u2.xl u2.xc) (.int .i64 ub.stm) (.slice ub.xa ub.xl ub.xc))
                have BF := below5 (bl_on HB1.out HBZ.out) (b := w.heap.size + 1) (by omega) (five (.bool true) (.int .i64 u2.stm) (.slice u2.xa u2.xl u2.xc) (.int .i64 ub.stm) (.slice ub.xa ub.xl ub.xc))
                have i1 := ints_set5 HI2.out (HN2.out.ne HF3.out (by decide)) (five (.bool true) (.int .i64 u2.stm) (.slice u2.xa u2.xl u2.xc) (.int .i64 ub.stm) (.slice ub.xa ub.xl ub.xc))
                have i2 := HN2.out.set5 (HN2.out.ne HF3.out (by decide)) (five (.bool true) (.int .i64 u2.stm) (.slice u2.xa u2.xl u2.xc) (.int .i64 ub.stm) (.slice ub.xa ub.xl ub.xc))
                have i3 := ints_set5 HI1.out (HN1.out.ne HF3.out (by decide)) (five (.bool true) (.int .i64 u2.stm) (.slice u2.xa u2.xl u2.xc) (.int .i64 ub.stm) (.slice ub.xa ub.xl ub.xc))
                have i4 := HN1.out.set5 (HN1.out.ne HF3.out (by decide)) (five (.bool true) (.int .i64 u2.stm) (.slice u2.xa u2.xl u2.xc) (.int .i64 ub.stm) (.slice ub.xa ub.xl ub.xc))
                have hput : ((((wz.setCell ⟨w.heap.size + 1, 0, none⟩ (.bool true)).setCell ⟨w.heap.size + 1, 1, none⟩ (.int .i64 u2.stm)).setCell ⟨w.heap.size + 1, 2, none⟩ (.slice u2.xa u2.xl u2.xc)).setCell ⟨w.heap.size + 1, 3, none⟩ (.int .i64 ub.stm)).setCell ⟨w.heap.size + 1, 4, none⟩ (.slice ub.xa ub.xl ub.xc) = put5 wz (w.heap.size + 1) (five (.bool true) (.int .i64 u2.stm) (.slice u2.xa u2.xl u2.xc) (.int .i64 ub.stm) (.slice ub.xa ub.xl ub.xc)) := rfl
                rw [hput]
                clear hput
                generalize put5 wz (w.heap.size + 1) (five (.bool true) (.int .i64 u2.stm) (.slice u2.xa u2.xl u2.xc) (.int .i64 ub.stm) (.slice ub.xa ub.xl ub.xc)) = wf at RF BF i1 i2 i3 i4 ⊢
                have k0 := RF.cell (i := 0) (by omega)
                have k1 := RF.cell (i := 1) (by omega)
                have k2 := RF.cell (i := 2) (by omega)
                have k3 := RF.cell (i := 3) (by omega)
                have k4 := RF.cell (i := 4) (by omega)
                simp only [five] at k0 k1 k2 k3 k4
                have s1 := HG2.out.stm
                have s2 := HG1.out.stm
                rw [HSF.out f] at i1 s1
                rw [HSF.out k] at i3 s2
                refine bodyPost_ret (v := .tuple #[.agg #[.bool true, .int .i64 u2.stm, .slice u2.xa u2.xl u2.xc, .int .i64 ub.stm, .slice ub.xa ub.xl ub.xc], .int .i64 0]) (by simp [results, Try.results28, go_sem, k0, k1, k2, k3, k4]) rfl ⟨⟨.agg #[.bool true, .int .i64 u2.stm, .slice u2.xa u2.xl u2.xc, .int .i64 ub.stm, .slice ub.xa ub.xl ub.xc], rfl, .inr ⟨f, k, u2.xa, u2.xl, u2.xc, ub.xa, ub.xl, ub.xc, HFN.out.1 hfk2, by rw [s1, s2]; rfl, ⟨i1, i2⟩, ⟨i3, i4⟩⟩⟩, BF⟩
            · have hfz : ¬ (f : Int) < (k : Int) := by omega
              obtain ⟨d0, d1, d2, d3, d4, d5, d6, d7, d8, d9, d10, d11, d12, d13, d14⟩ := (HBK3.out.below HBQ.out).cells
              have dz := (HBK3.out.below HBQ.out).lt
              have HMK := hide (mark_any w1.heap.size M (touchL Sf k) k ub (Sf k).gets wr (HT3.out.below HBQ.out) (fun W hW => by have := ((HLIE.out k hlt).below (HBW1.out.trans hW)).out.gets; rw [← HU.out] at this; exact this) (fun p s => by have := touch_len Sf 3 HG3.out p s k; omega) (by have := HIN8.out.1; have := HG3.out k; omega))
              unfold TW.v TW.cs iv at HMK
              go_wp2_with fail
              refine HMK.out.mono ?_
              rintro e w9 ⟨⟨rfl, M9, hT9⟩, hb9⟩
              have HT9 := hide hT9
              have HB9 := hide hb9
              clear hT9 hb9 d0 d1 d2 d3 d4 d5 d6 d7 d8 d9 d10 d11 d12 d13 d14 dz HMK
              go_wp2_with fail
              have e9 : touchL Sf (k + 1) = markL (touchL Sf k) k ub.pu (Sf k).gets := by
                show (if (Sf k).put.pos = -1 then touchL Sf k else markL (touchL Sf k) k (Sf k).put (Sf k).gets) = _
                rw [if_neg (by rw [← HTG.out.put]; exact hpos), HTG.out.put]
              go_roundw
              case rel => exact ⟨k + 1, by omega, by go_num, ⟨M9, by rw [e9]; exact HT9.out⟩, HBW1.out.trans HB9.out, HFN.out.2 hfk2⟩
              case measure => simp [intOf]; omega
    · skip
      have HLN : Hid (k = l.length) := by rw [Hid, ← HN.out]; omega
      have e1 : k = n := by omega
      subst e1
      have F2 := (HB.out.block _ (Array.getElem?_eq_some_iff.1 HF2.out).1).trans HF2.out
      have RW5 := row5 (five (.bool false) (.int .i64 0) (.slice none 0 0) (.int .i64 0) (.slice none 0 0)) (F2)
      have f0 := RW5.cell (i := 0) (by omega)
      have g0 := RW5.frozen 0
      have f1 := RW5.cell (i := 1) (by omega)
      have g1 := RW5.frozen 1
      have f2 := RW5.cell (i := 2) (by omega)
      have g2 := RW5.frozen 2
      have f3 := RW5.cell (i := 3) (by omega)
      have g3 := RW5.frozen 3
      have f4 := RW5.cell (i := 4) (by omega)
      have g4 := RW5.frozen 4
      simp only [five] at f0 f1 f2 f3 f4
      clear RW5
      have zf := (Array.getElem?_eq_some_iff.1 F2).1
      have HF3 := hide F2
      clear F2
      go_wp2_with fail
      have RF := set5 (row5 (five (.bool false) (.int .i64 0) (.slice none 0 0) (.int .i64 0) (.slice none 0 0)) HF3.out) (five (.bool false) (.int .i64 0) (.slice none 0 0) (.int .i64 0) (.slice none 0 0))
      have BF := below5 (bl_on HB1.out HB.out) (b := w.heap.size + 1) (by omega) (five (.bool false) (.int .i64 0) (.slice none 0 0) (.int .i64 0) (.slice none 0 0))
      have hput : ((((wr.setCell ⟨w.heap.size + 1, 0, none⟩ (.bool false)).setCell ⟨w.heap.size + 1, 1, none⟩ (.int .i64 0)).setCell ⟨w.heap.size + 1, 2, none⟩ (.slice none 0 0)).setCell ⟨w.heap.size + 1, 3, none⟩ (.int .i64 0)).setCell ⟨w.heap.size + 1, 4, none⟩ (.slice none 0 0) = put5 wr (w.heap.size + 1) (five (.bool false) (.int .i64 0) (.slice none 0 0) (.int .i64 0) (.slice none 0 0)) := rfl
      rw [hput]
      clear hput
      generalize put5 wr (w.heap.size + 1) (five (.bool false) (.int .i64 0) (.slice none 0 0) (.int .i64 0) (.slice none 0 0)) = wf at RF BF ⊢
      have k0 := RF.cell (i := 0) (by omega)
      have k1 := RF.cell (i := 1) (by omega)
      have k2 := RF.cell (i := 2) (by omega)
      have k3 := RF.cell (i := 3) (by omega)
      have k4 := RF.cell (i := 4) (by omega)
      simp only [five] at k0 k1 k2 k3 k4
      rw [HLN.out] at HNO
      refine bodyPost_ret (v := .tuple #[zeroF, .int .i64 0]) (by simp [results, Try.results28, go_sem, zeroF, k0, k1, k2, k3, k4]) rfl ⟨⟨zeroF, rfl, .inl ⟨HNO.out, rfl⟩⟩, BF⟩
end Go.Proofs.Ytkbdnhchlkafnaa.V
