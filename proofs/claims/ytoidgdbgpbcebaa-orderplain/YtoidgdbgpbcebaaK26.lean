/-
  The contract of order.mark. The contract of order.ahead. Which spots are in each other's way: what the map tells is what the document says. What the map tells of a right nest is what the document says. Contract: order.spots.
-/
import Derived.Test.YtoidgdbgpbcebaaK25
import Derived.Deep.DeepCutAuto
import Derived.Test.YtoidgdbgpbcebaaK18
import Derived.Test.YtoidgdbgpbcebaaK15
namespace Go.Proofs.Ytoidgdbgpbcebaa.V
open Go Go.RowKit
set_option linter.unusedVariables false

def markL (L : PW → Bool → List Nat) (n : Nat) (p : PW) (ps : List PW) : PW → Bool → List Nat := ps.foldl (fun L q => addL L q true n) (addL L p false n)
theorem fold_len (n : Nat) : ∀ (ps : List PW) (L : PW → Bool → List Nat) (k : PW) (s : Bool), (ps.foldl (fun L q => addL L q true n) L k s).length ≤ (L k s).length + ps.length
  | [], L, k, s => by simp
  | q :: ps, L, k, s => by
    have h1 := fold_len n ps (addL L q true n) k s
    have h2 := addL_len L q true n k s
    simp only [List.foldl_cons, List.length_cons]
    omega
theorem markL_len (L : PW → Bool → List Nat) (n : Nat) (p : PW) (ps : List PW) (k : PW) (s : Bool) : (markL L n p ps k s).length ≤ (L k s).length + 1 + ps.length := by
  have h1 := fold_len n ps (addL L p false n) k s
  have h2 := addL_len L p false n k s
  unfold markL
  omega
theorem markL_snoc (L : PW → Bool → List Nat) (n : Nat) (p : PW) (ps : List PW) (q : PW) : markL L n p (ps ++ [q]) = addL (markL L n p ps) q true n := by simp [markL, List.foldl_append]
theorem tch_blk {w w2 w' : World} {mb Y : Nat} {M : List Ent} {L : PW → Bool → List Nat} (hT : Tch w mb M L) (k : PW) (s : Bool) (hg : w2.grownBy w' ((lookE k M).side s).ownBlock) (hY : w.heap.size ≤ Y) (hY2 : Y < w2.heap.size) {cs : Array Value} {t : TypeId} (h : w2.heap[Y]? = some (.cells cs t (0, 0))) :
    Y < w'.heap.size ∧ (∀ i, w'.frozen? ⟨Y, i, none⟩ = false) ∧ ∀ i, w'.cell? ⟨Y, i, none⟩ = cs[i]? := by
  have h1 := (hT.blk k s hg hY hY2).trans h
  exact ⟨Nat.lt_of_lt_of_le hY2 hg.size, fun i => by simp [World.frozen?, h1], fun i => by simp [World.cell?, h1]⟩
set_option maxRecDepth 100000 in
set_option maxHeartbeats 4000000 in
theorem mark_any (mb : Nat) (M : List Ent) (L : PW → Bool → List Nat) (n : Nat) (q : TW) (ps : List PW) (w : World) (hT : Tch w mb M L) (hin : ∀ W, Below mb w W → PlsAt W q.ga q.gl ps) (hl : ∀ k s, (L k s).length ≤ 1000000000) (hgl : q.gl ≤ 1000000000) :
    Calls Try.prog 61 #[.map (some mb), iv n, q.v] w fun e w' => (e = .returned (.tuple #[]) ∧ ∃ M', Tch w' mb M' (markL L n q.pu ps)) ∧ Below mb w w' := by
  have HIN := hide hin
  have HL := hide hl
  have HMB := hide hT.map.lt
  obtain ⟨e0, he0⟩ : ∃ e0, lookE q.pu M = e0 := ⟨_, rfl⟩
  have HT1 := hide (hT.below (V := w.alloc (.cells q.cs 59)) (bl_new _))
  have B2 : Below w.heap.size w ((w.alloc (.cells q.cs 59)).alloc (.cells #[.slice e0.pa e0.pl e0.pc, .slice e0.ga e0.gl e0.gc] 139)) := bl_on (bl_new _) (bl_new _)
  have HB2 := hide B2
  have HX : Hid (((w.alloc (.cells q.cs 59)).alloc (.cells #[.slice e0.pa e0.pl e0.pc, .slice e0.ga e0.gl e0.gc] 139)).heap[w.heap.size]? = some (.cells q.cs 59 (0, 0))) := (Below.heap_alloc _ _ _ (by simp)).trans (World.alloc_heap_new w _)
  have HY : Hid (((w.alloc (.cells q.cs 59)).alloc (.cells #[.slice e0.pa e0.pl e0.pc, .slice e0.ga e0.gl e0.gc] 139)).heap[w.heap.size + 1]? = some (.cells #[.slice e0.pa e0.pl e0.pc, .slice e0.ga e0.gl e0.gc] 139 (0, 0))) := by
    have := World.alloc_heap_new (w.alloc (.cells q.cs 59)) (.cells #[.slice e0.pa e0.pl e0.pc, .slice e0.ga e0.gl e0.gc] 139)
    rwa [World.size_alloc] at this
  have HOW := hide (show Go.World.ownsRow _ mb 3 1 (.slice e0.pa e0.pl e0.pc) (L q.pu false).length ((L q.pu false).map iv) from by
    have := (hT.below B2).own q.pu false
    rw [he0] at this
    exact this)
  have HT := hide hT
  clear hin hl B2 hT
  unfold iv TW.v
  go_enter Try.func61, Try.ntmps61
  unfold TW.cs
  go_wp2_with (first
    | (at_lookup; refine wp_look rfl (.tmp 10) (.tmp 12) rfl mb M q.pu e0 he0 rfl HT1.out.map rfl ?_)
    | (at_builtin; refine append_at rfl (.tmp 15) (.tmp 17) rfl mb (.slice e0.pa e0.pl e0.pc) rfl (L q.pu false) n HOW.out (w.heap.size + 1 + 1) rfl (by simp) (by have := HL.out q.pu false; omega) (by have := HMB.out; simp; omega) ?_; intro g c w1 hown hgr hat
       rw [show Value.ownBlock (.slice e0.pa e0.pl e0.pc) = ((lookE q.pu M).side false).ownBlock from by rw [he0]; rfl] at hgr hat
       obtain ⟨x1, x2, x3⟩ := tch_blk HT.out q.pu false hgr (Nat.le_refl _) (by simp only [World.size_alloc]; omega) HX.out
       obtain ⟨y1, y2, y3⟩ := tch_blk HT.out q.pu false hgr (by omega) (by simp only [World.size_alloc]; omega) HY.out
       have x12 : w1.cell? ⟨w.heap.size, 12, none⟩ = some (.int .i64 q.pu.arr) := x3 12
       have x13 : w1.cell? ⟨w.heap.size, 13, none⟩ = some (.int .i64 q.pu.pos) := x3 13
       have x14 : w1.cell? ⟨w.heap.size, 14, none⟩ = some (.slice q.ga q.gl q.gc) := x3 14
       have y0 := y3 0
       have y01 := y3 1
       have HOWN := hide hown
       have HGR := hide hgr
       have HAT := hide hat
       have HMA := hide (fun v => HT.out.app q.pu false HB2.out hgr (Y := w.heap.size + 1) (by omega) 0 v)
       clear x3 y3 hown hgr hat)
    | (at_mapUpdate; refine wp_put rfl (.tmp 20) (.tmp 22) (.tmp 23) rfl mb M ⟨q.pu, some ⟨g, 0, none⟩, (L q.pu false).length + 1, c, e0.ga, e0.gl, e0.gc⟩ rfl (HMA.out _) rfl rfl ?_; intro w4 hm4 hb4 hg4
       have hmk := HT.out.mark q.pu false n g c ⟨q.pu, some ⟨g, 0, none⟩, (L q.pu false).length + 1, c, e0.ga, e0.gl, e0.gc⟩ rfl rfl (by rw [he0]; rfl) HB2.out HOWN.out HGR.out HAT.out (Y := w.heap.size + 1) (by omega) (by simp only [World.size_alloc]; omega) _ 0 hm4 hb4 hg4
       have x14' : w4.cell? ⟨w.heap.size, 14, none⟩ = some (.slice q.ga q.gl q.gc) := by
         have h1 := hb4 w.heap.size (by have := HMB.out; omega)
         rw [Below.heap_setCell _ ⟨w.heap.size + 1, 0, none⟩ _ _ (by simp only; omega)] at h1
         exact (World.cell?_of_block (a := ⟨w.heap.size, 14, none⟩) h1).trans x14
       have x1' : w.heap.size < w4.heap.size := by
         have h1 := hg4.size
         rw [World.size_setCell] at h1
         omega
       have HTM : Hid (∃ M', Tch w4 mb M' (markL L n q.pu (ps.take 0))) := ⟨_, hmk.1⟩
       have HBM := hide hmk.2
       clear hmk hm4 hb4 hg4 x1 x2 x12 x13 x14 y1 y2 y0 y01 HOWN HGR HAT HMA)
    | fail)
  clear HT1 HB2 HX HY HOW
  have HPS : Hid (ps.length = q.gl) := (HIN.out w (Below.refl _ _)).1
  go_loopw [27] (fun i wr => ∃ k : Nat, k ≤ q.gl ∧ i = .int .i64 k ∧ (∃ M', Tch wr mb M' (markL L n q.pu (ps.take k))) ∧ Below mb w wr) (fun i _ => q.gl - (intOf i).toNat)
  case atStart => exact ⟨0, Nat.zero_le _, rfl, HTM.out, HBM.out⟩
  case round =>
    obtain ⟨k, hk, rfl, ⟨M', hT'⟩, hB'⟩ := hrel
    clear HTM HBM x14' x1'
    have HT' := hide hT'
    have HB' := hide hB'
    by_cases hlt : k < q.gl
    · obtain ⟨p1, p2, p3⟩ := HIN.out wr HB'.out
      obtain ⟨b, off, hga, hat⟩ := p3.resolve_left (by omega)
      obtain ⟨c0, c1⟩ := hat k hlt
      obtain ⟨p, hp⟩ : ∃ p : PW, p = (ps[k]?.getD ⟨0, 0⟩) := ⟨_, rfl⟩
      rw [← hp] at c0 c1
      have z0 := lt_of_cell c0
      have z1 := lt_of_cell c1
      obtain ⟨e1, he1⟩ : ∃ e1, lookE p M' = e1 := ⟨_, rfl⟩
      obtain ⟨L', hL'⟩ : ∃ L', L' = markL L n q.pu (ps.take k) := ⟨_, rfl⟩
      have hlen : (L' p true).length ≤ 1000000000000 := by
        have h1 := markL_len L n q.pu (ps.take k) p true
        have h2 := HL.out p true
        rw [List.length_take] at h1
        rw [hL']
        omega
      rw [← hL'] at hT'
      have HT1 := hide (hT'.below (V := (wr.alloc (.cells #[.int .i64 p.arr, .int .i64 p.pos] 56))) (bl_new _))
      have B2 : Below wr.heap.size wr ((wr.alloc (.cells #[.int .i64 p.arr, .int .i64 p.pos] 56)).alloc (.cells #[.slice e1.pa e1.pl e1.pc, .slice e1.ga e1.gl e1.gc] 139)) := bl_on (bl_new _) (bl_new _)
      have HB2 := hide B2
      have HX : Hid (((wr.alloc (.cells #[.int .i64 p.arr, .int .i64 p.pos] 56)).alloc (.cells #[.slice e1.pa e1.pl e1.pc, .slice e1.ga e1.gl e1.gc] 139)).heap[wr.heap.size]? = some (.cells #[.int .i64 p.arr, .int .i64 p.pos] 56 (0, 0))) := (Below.heap_alloc _ _ _ (by simp)).trans (World.alloc_heap_new wr _)
      have HY : Hid (((wr.alloc (.cells #[.int .i64 p.arr, .int .i64 p.pos] 56)).alloc (.cells #[.slice e1.pa e1.pl e1.pc, .slice e1.ga e1.gl e1.gc] 139)).heap[wr.heap.size + 1]? = some (.cells #[.slice e1.pa e1.pl e1.pc, .slice e1.ga e1.gl e1.gc] 139 (0, 0))) := by
        have := World.alloc_heap_new (wr.alloc (.cells #[.int .i64 p.arr, .int .i64 p.pos] 56)) (.cells #[.slice e1.pa e1.pl e1.pc, .slice e1.ga e1.gl e1.gc] 139)
        rwa [World.size_alloc] at this
      have HOW := hide (show Go.World.ownsRow ((wr.alloc (.cells #[.int .i64 p.arr, .int .i64 p.pos] 56)).alloc (.cells #[.slice e1.pa e1.pl e1.pc, .slice e1.ga e1.gl e1.gc] 139)) mb 3 1 (.slice e1.ga e1.gl e1.gc) (L' p true).length ((L' p true).map iv) from by
        have := (hT'.below B2).own p true
        rw [he1] at this
        exact this)
      have HMB' := hide hT'.map.lt
      have HTT := hide hT'
      have HLT := hide hL'
      have HLE := hide hlen
      have HPP := hide hp
      clear hT' HT' B2 hL' hlen hp hat p1 p2 p3 hB'
      rw [hga]
      go_wp2_with (first
        | (at_lookup; refine wp_look rfl (.tmp 31) (.tmp 32) rfl mb M' p e1 he1 rfl HT1.out.map rfl ?_)
        | (at_builtin; refine append_at rfl (.tmp 35) (.tmp 37) rfl mb (.slice e1.ga e1.gl e1.gc) rfl (L' p true) n HOW.out (wr.heap.size + 1 + 1) rfl (by simp) HLE.out (by have := HMB'.out; simp only [World.size_alloc]; omega) ?_; intro g c w1 hown hgr hat
           rw [show Value.ownBlock (.slice e1.ga e1.gl e1.gc) = ((lookE p M').side true).ownBlock from by rw [he1]; rfl] at hgr hat
           obtain ⟨x1, x2, x3⟩ := tch_blk HTT.out p true hgr (Nat.le_refl _) (by simp only [World.size_alloc]; omega) HX.out
           obtain ⟨y1, y2, y3⟩ := tch_blk HTT.out p true hgr (by omega) (by simp only [World.size_alloc]; omega) HY.out
           have x12 : w1.cell? ⟨wr.heap.size, 0, none⟩ = some (.int .i64 p.arr) := x3 0
           have x13 : w1.cell? ⟨wr.heap.size, 1, none⟩ = some (.int .i64 p.pos) := x3 1
           have y0 := y3 0
           have y01 := y3 1
           have HOWN := hide hown
           have HGR := hide hgr
           have HAT := hide hat
           have HMA := hide (fun v => HTT.out.app p true HB2.out hgr (Y := wr.heap.size + 1) (by omega) 1 v)
           clear x3 y3 hown hgr hat)
        | (at_mapUpdate; refine wp_put rfl (.tmp 40) (.tmp 41) (.tmp 42) rfl mb M' ⟨p, e1.pa, e1.pl, e1.pc, some ⟨g, 0, none⟩, (L' p true).length + 1, c⟩ rfl (HMA.out _) rfl rfl ?_; intro w4 hm4 hb4 hg4
           have hmk := HTT.out.mark p true n g c ⟨p, e1.pa, e1.pl, e1.pc, some ⟨g, 0, none⟩, (L' p true).length + 1, c⟩ rfl rfl (by rw [he1]; rfl) HB2.out HOWN.out HGR.out HAT.out (Y := wr.heap.size + 1) (by omega) (by simp only [World.size_alloc]; omega) _ 1 hm4 hb4 hg4
           have HTM : Hid (∃ M', Tch w4 mb M' (addL L' p true n)) := ⟨_, hmk.1⟩
           have HBM := hide hmk.2
           clear hmk hm4 hb4 hg4 x1 x2 x12 x13 y1 y2 y0 y01 HOWN HGR HAT HMA)
        | fail)
      refine ⟨⟨k + 1, by omega, rfl, ?_, HB'.out.trans HBM.out⟩, by simp [intOf]; omega⟩
      have hk' : k < ps.length := by rw [HPS.out]; exact hlt
      have e2 : ps.take (k + 1) = ps.take k ++ [p] := by
        rw [List.take_succ_eq_append_getElem hk', HPP.out]
        simp [hk']
      rw [e2, markL_snoc, ← HLT.out]
      exact HTM.out
    · have e1 : k = q.gl := by omega
      subst e1
      go_wp2_with fail
      go_end0
      rw [List.take_of_length_le (by rw [HPS.out]; exact Nat.le_refl _)] at HT'
      exact ⟨⟨rfl, M', HT'.out⟩, HB'.out⟩
end Go.Proofs.Ytoidgdbgpbcebaa.V
namespace Go.Proofs.Ytoidgdbgpbcebaa.V
open Go Go.RowKit
set_option linter.unusedVariables false

theorem own_mono {W : World} {B B' e size n : Nat} {v : Value} {xs : List Value} (h : W.ownsRow B e size v n xs) (hB : B' ≤ B) : W.ownsRow B' e size v n xs := by
  refine ⟨h.1, ?_⟩
  rcases h.2 with e | ⟨g, cap, cur, e1, e2, e3, e4⟩
  · exact .inl e
  · exact .inr ⟨g, cap, cur, e1, Nat.le_trans hB e2, e3, e4⟩
theorem row_read {W : World} {B m c : Nat} {A : Option Addr} {l : List Nat} (h : W.ownsRow B 3 1 (.slice A m c) l.length (l.map iv)) : m = l.length ∧ ∀ j, j < l.length → ∃ g, A = some ⟨g, 0, none⟩ ∧ W.cell? ⟨g, j, none⟩ = some (iv (l[j]?.getD 0)) := by
  have hl := h.1
  rcases h.2 with ⟨e, e2⟩ | ⟨g, cap, cur, e, e2, e3, e4⟩
  · cases e
    exact ⟨by omega, fun j hj => by omega⟩
  · cases e
    refine ⟨rfl, fun j hj => ⟨g, rfl, ?_⟩⟩
    have := h.cells (g := g) rfl j (iv (l[j]?.getD 0)) (by simp [hj])
    rw [Go.WideShapes.add_plain, Nat.zero_add] at this
    exact this
set_option maxRecDepth 100000 in
/-- The first field, at the operation. -/
theorem wp_field0 {w : World} {ops : Array Oper} {rest : List Oper} {o : Oper} {a : Act} {Q : Exit → Act → World → Prop} (hg : o.guard = none) (x : Operand) (hop : o.op = Op.field 139 x 0) (e : Ent) (hx : a.eval x = .agg #[.slice e.pa e.pl e.pc, .slice e.ga e.gl e.gc])
    (h : wpList Try.prog ops Q rest (a.put o.dst (.slice e.pa e.pl e.pc)) w) : wpList Try.prog ops Q (o :: rest) a w := by
  refine wpList_plain hg fun K' hK' => ?_
  have hf : Try.prog.fieldsOf 139 = #[{ name := "put", type := 22, offset := 0, embedded := false, tag := "", pkgPath := "adjoint/order", byteOffset := 0 }, { name := "got", type := 22, offset := 1, embedded := false, tag := "", pkgPath := "adjoint/order", byteOffset := 24 }] := by kernel_rfl
  have hu := Try.underlying139
  have hz := Try.sizeOf22
  have ha := Try.isAgg22
  unfold Oper.wp
  simp only [execOp, hop, hx]
  go_simp
  exact hK' _ _ h
/-- append(list, list...), at the operation. -/
theorem append_row {w : World} {ops : Array Oper} {rest : List Oper} {op : Oper} {a : Act} {Q : Exit → Act → World → Prop} (hgd : op.guard = none) (s x : Operand)
    (ho : op.op = .call { callee := .builtin .append, args := #[s, x], argTypes := #[22, 22] }) (B : Nat) (v : Value) (hs : a.eval s = v) (l l2 : List Nat) (hown : w.ownsRow B 3 1 v l.length (l.map iv))
    (A : Option Addr) (m c B2 : Nat) (hx : a.eval x = .slice A m c) (hrow : w.ownsRow B2 3 1 (.slice A m c) l2.length (l2.map iv)) (hl : l.length + l2.length ≤ 1000000000000) (hB : B ≤ w.heap.size)
    (h : ∀ v' w', w'.ownsRow B 3 1 v' (l ++ l2).length ((l ++ l2).map iv) → w.grownBy w' v.ownBlock → wpList Try.prog ops Q rest (a.put op.dst v') w') :
    wpList Try.prog ops Q (op :: rest) a w := by
  obtain ⟨i0, hi, hz0, hz1, hz2⟩ := info_parts info_I
  rcases hrow.2 with ⟨e, e2⟩ | ⟨g, cap, cur, e, e2, e3, e4⟩
  · cases e
    have hn : l2 = [] := List.eq_nil_of_length_eq_zero e2
    subst hn
    refine wpList_append_own_none hgd s x 22 ho B 3 i0 1 Try.underlying22 hi v l.length (l.map iv) hs hown hx ?_
    exact h v w (by simpa using hown) (World.grownBy.refl w _)
  · cases e
    refine wpList_append_own _ hgd s x 22 ho B 3 i0 (.int .i64 0) 1 8 Try.underlying22 hi hz0 hz1 hz2 rfl (by decide) v l.length (l.map iv) hs hown ⟨g, 0, none⟩ l2.length c (l2.map iv) hx (by simp) (hrow.cells (g := g) rfl) (fun u hu => ?_) (by unfold maxLen; omega) (by omega) hB (fun v' w' k1 k2 _ => h v' w' (by simpa using k1) k2)
    simp at hu
    obtain ⟨j, _, rfl⟩ := hu
    rfl
/-- What stands while 'ahead' gathers. -/
structure AInv (w : World) (q : TW) (e : Ent) (v : Value) (l : List Nat) (W : World) : Prop where
  below : Below w.heap.size w W
  spot : q.blk W w.heap.size
  tch : W.heap[w.heap.size + 1]? = some (.cells #[.slice e.pa e.pl e.pc, .slice e.ga e.gl e.gc] 139 (0, 0))
  own : W.ownsRow (w.heap.size + 1 + 1) 3 1 v l.length (l.map iv)
theorem AInv.grow {w W V : World} {q : TW} {e : Ent} {v : Value} {l : List Nat} (h : AInv w q e v l W) (hb : Below W.heap.size W V) : AInv w q e v l V :=
  ⟨bl_on h.below hb, h.spot.below hb, (hb.block _ (Array.getElem?_eq_some_iff.1 h.tch).1).trans h.tch, own_keep h.own (fun g eg => hb.block g (own_lt h.own g eg).1.2)⟩
theorem AInv.lt {w W : World} {q : TW} {e : Ent} {v : Value} {l : List Nat} (h : AInv w q e v l W) : w.heap.size + 1 + 1 ≤ W.heap.size := by
  have := (Array.getElem?_eq_some_iff.1 h.tch).1
  omega
theorem AInv.app {w W V : World} {q : TW} {e : Ent} {v v' : Value} {l l' : List Nat} (h : AInv w q e v l W) (ho : V.ownsRow (w.heap.size + 1 + 1) 3 1 v' l'.length (l'.map iv)) (hg : W.grownBy V v.ownBlock) : AInv w q e v' l' V := by
  have hl := h.lt
  have low : ∀ b, b < w.heap.size + 1 + 1 → V.heap[b]? = W.heap[b]? := fun b hb => hg.block b (by omega) (fun e => by have := (own_lt h.own b e.symm).1.1; omega)
  exact ⟨h.below.grown hg (by omega) (fun j ej => by have := (own_lt h.own j ej).1.1; omega), (low _ (by omega)).trans h.spot, (low _ (by omega)).trans h.tch, ho⟩
/-- Spots in a list that is handed in. -/
def TAt (W : World) (a : Option Addr) (len : Nat) (us : Nat → TW) : Prop := ∀ j, j < len → ∃ b off, a = some ⟨b, off, none⟩ ∧ ∀ i, i < 15 → W.cell? ⟨b, off + j * 15 + i, none⟩ = (us j).cs[i]?
theorem TAt.below {W V : World} {a : Option Addr} {len : Nat} {us : Nat → TW} (h : TAt W a len us) (hb : Below W.heap.size W V) : TAt V a len us := fun j hj => by
  obtain ⟨b, off, e, h1⟩ := h j hj
  refine ⟨b, off, e, fun i hi => ?_⟩
  have h2 := h1 i hi
  have hs : (us j).cs[i]? = some ((us j).cs[i]'(by simpa [TW.cs] using hi)) := Array.getElem?_eq_getElem _
  rw [hs] at h2 ⊢
  exact (hb.cell (p := ⟨b, off + j * 15 + i, none⟩) (lt_of_cell h2)).trans h2
/-- The numbers of those that are in a spot's way. -/
def wayB (kd : Nat → Int) (k : Int) (a : Nat) : Bool := !addsB (kd a) || !addsB k
def aheadL (L : PW → Bool → List Nat) (kd : Nat → Int) (k : Int) (p : PW) (ps : List PW) : List Nat := (L p false).filter (wayB kd k) ++ L p true ++ ps.flatMap (fun r => L r false)
set_option maxRecDepth 100000 in
set_option maxHeartbeats 4000000 in
theorem ahead_any (mb : Nat) (M : List Ent) (L : PW → Bool → List Nat) (aa : Option Addr) (al ac : Nat) (us : Nat → TW) (q : TW) (ps : List PW) (w : World) (hT : Tch w mb M L) (hA : TAt w aa al us) (hin : PlsAt w q.ga q.gl ps) (hlt : ∀ k s a, a ∈ L k s → a < al) (hal : al ≤ 9223372036854775807) (hl : ∀ k s, (L k s).length ≤ 1000000) (hgl : q.gl ≤ 1000) :
    Calls Try.prog 60 #[.map (some mb), .slice aa al ac, q.v] w fun e w' => (∃ v, e = .returned v ∧ w'.ownsRow w.heap.size 3 1 v (aheadL L (fun a => (us a).kd) q.kd q.pu ps).length ((aheadL L (fun a => (us a).kd) q.kd q.pu ps).map iv)) ∧ Below w.heap.size w w' := by
  have HIN := hide hin
  have HL := hide hl
  have HA := hide hA
  have HLT := hide hlt
  obtain ⟨e0, he0⟩ : ∃ e0, lookE q.pu M = e0 := ⟨_, rfl⟩
  have HT1 := hide (hT.below (V := w.alloc (.cells q.cs 59)) (bl_new _))
  have HI : Hid (AInv w q e0 (.slice none 0 0) [] ((w.alloc (.cells q.cs 59)).alloc (.cells #[.slice e0.pa e0.pl e0.pc, .slice e0.ga e0.gl e0.gc] 139))) := ⟨bl_on (bl_new _) (bl_new _), (TW.new q w).below (bl_new _), by
    have := World.alloc_heap_new (w.alloc (.cells q.cs 59)) (.cells #[.slice e0.pa e0.pl e0.pc, .slice e0.ga e0.gl e0.gc] 139)
    rwa [World.size_alloc] at this, World.ownsRow_nil _ _ _ _⟩
  have own0 : ∀ W, Below w.heap.size w W → ∀ s, W.ownsRow mb 3 1 (e0.side s) (L q.pu s).length ((L q.pu s).map iv) := fun W hb s => by
    have := (hT.below hb).own q.pu s
    rw [he0] at this
    exact this
  have HOW := hide own0
  have hpl : e0.pl = (L q.pu false).length := (row_read (own0 w (Below.refl _ _) false)).1
  have HT := hide hT
  obtain ⟨l, hl1⟩ : ∃ l, l = L q.pu false := ⟨_, rfl⟩
  have HLL : Hid (l.length ≤ 1000000) := by rw [Hid, hl1]; exact hl _ _
  have HL1 := hide hl1
  rw [← hl1] at hpl
  clear hin hl hA hlt hT own0 hl1
  unfold TW.v
  go_enter Try.func60, Try.ntmps60
  unfold TW.cs
  go_wp2_with (first
    | (at_lookup; refine wp_look rfl (.tmp 13) (.tmp 15) rfl mb M q.pu e0 he0 rfl HT1.out.map rfl ?_)
    | fail)
  clear HT1
  go_loopw [20, 8] (fun i v wr => ∃ k : Nat, k ≤ l.length ∧ i = .int .i64 k ∧ AInv w q e0 v ((l.take k).filter (wayB (fun a => (us a).kd) q.kd)) wr) (fun i _ _ => l.length - (intOf i).toNat)
  case atStart => exact ⟨0, Nat.zero_le _, rfl, by rw [List.take_zero, List.filter_nil]; have := HI.out; rw [hpl] at this; exact this⟩
  case round =>
    obtain ⟨k, hk, rfl, hI⟩ := hrel
    clear HI
    have HI := hide hI
    by_cases hlt : k < l.length
    · have hk64 : k < 1000000 := by have := HLL.out; omega
      obtain ⟨a, ha⟩ : ∃ a, a = l[k]?.getD 0 := ⟨_, rfl⟩
      have hmem : a ∈ l := by rw [ha]; simp [hlt]
      have hal2 : a < al := HLT.out q.pu false a (by rw [← HL1.out]; exact hmem)
      have htk : l.take (k + 1) = l.take k ++ [a] := by
        rw [List.take_succ_eq_append_getElem hlt, ha]
        simp [hlt]
      obtain ⟨g, hg, hcg⟩ := (row_read (HOW.out wr HI.out.below false)).2 k (by rw [← HL1.out]; exact hlt)
      rw [← HL1.out, ← ha] at hcg
      unfold iv at hcg
      have hgz := lt_of_cell hcg
      obtain ⟨b, off, hb, hc⟩ := (HA.out.below HI.out.below) a hal2
      obtain ⟨u, hu⟩ : ∃ u, u = us a := ⟨_, rfl⟩
      rw [← hu] at hc
      have HC := hide hc
      have HU := hide hu
      have HTK := hide htk
      clear ha hmem htk hc hu hI
      subst hb
      rw [hg]
      have c0 : wr.cell? ⟨b, off + a * 15, none⟩ = some (.int .i64 u.stm) := HC.out 0 (by omega)
      have cz0 := lt_of_cell c0
      have c1 : wr.cell? ⟨b, off + a * 15 + 1, none⟩ = some (.slice u.xa u.xl u.xc) := HC.out 1 (by omega)
      have cz1 := lt_of_cell c1
      have c2 : wr.cell? ⟨b, off + a * 15 + 2, none⟩ = some (.int .i64 (u.tm 0)) := HC.out 2 (by omega)
      have cz2 := lt_of_cell c2
      have c3 : wr.cell? ⟨b, off + a * 15 + 3, none⟩ = some (.int .i64 (u.tm 1)) := HC.out 3 (by omega)
      have cz3 := lt_of_cell c3
      have c4 : wr.cell? ⟨b, off + a * 15 + 4, none⟩ = some (.int .i64 (u.tm 2)) := HC.out 4 (by omega)
      have cz4 := lt_of_cell c4
      have c5 : wr.cell? ⟨b, off + a * 15 + 5, none⟩ = some (.int .i64 (u.tm 3)) := HC.out 5 (by omega)
      have cz5 := lt_of_cell c5
      have c6 : wr.cell? ⟨b, off + a * 15 + 6, none⟩ = some (.int .i64 (u.tm 4)) := HC.out 6 (by omega)
      have cz6 := lt_of_cell c6
      have c7 : wr.cell? ⟨b, off + a * 15 + 7, none⟩ = some (.int .i64 (u.tm 5)) := HC.out 7 (by omega)
      have cz7 := lt_of_cell c7
      have c8 : wr.cell? ⟨b, off + a * 15 + 8, none⟩ = some (.int .i64 (u.tm 6)) := HC.out 8 (by omega)
      have cz8 := lt_of_cell c8
      have c9 : wr.cell? ⟨b, off + a * 15 + 9, none⟩ = some (.int .i64 (u.tm 7)) := HC.out 9 (by omega)
      have cz9 := lt_of_cell c9
      have c10 : wr.cell? ⟨b, off + a * 15 + 10, none⟩ = some (.int .i64 u.kd) := HC.out 10 (by omega)
      have cz10 := lt_of_cell c10
      have c11 : wr.cell? ⟨b, off + a * 15 + 11, none⟩ = some (.int .i64 u.va) := HC.out 11 (by omega)
      have cz11 := lt_of_cell c11
      have c12 : wr.cell? ⟨b, off + a * 15 + 12, none⟩ = some (.int .i64 u.pu.arr) := HC.out 12 (by omega)
      have cz12 := lt_of_cell c12
      have c13 : wr.cell? ⟨b, off + a * 15 + 13, none⟩ = some (.int .i64 u.pu.pos) := HC.out 13 (by omega)
      have cz13 := lt_of_cell c13
      have c14 : wr.cell? ⟨b, off + a * 15 + 14, none⟩ = some (.slice u.ga u.gl u.gc) := HC.out 14 (by omega)
      have cz14 := lt_of_cell c14
      have HFL : Hid (((l.take k).filter (wayB (fun a => (us a).kd) q.kd)).length ≤ 1000000000000) := by
        have h1 := List.length_filter_le (wayB (fun a => (us a).kd) q.kd) (l.take k)
        have h2 := HLL.out
        rw [List.length_take] at h1
        rw [Hid]
        omega
      cases hadd : addsB u.kd with
      | false => 
          go_wp2_with fail
          refine (adds_any u wr).mono ?_
          rintro e w3 ⟨rfl, hb3⟩
          rw [hadd]
          have HIW := hide (HI.out.grow hb3)
          clear c0 cz0 c1 cz1 c2 cz2 c3 cz3 c4 cz4 c5 cz5 c6 cz6 c7 cz7 c8 cz8 c9 cz9 c10 cz10 c11 cz11 c12 cz12 c13 cz13 c14 cz14
          clear hb3 hcg hgz HC
          go_wp2_with (first
            | (at_builtin; refine append_at rfl (.tmp 35) (.tmp 37) rfl (w.heap.size + 1 + 1) _ rfl ((l.take k).filter (wayB (fun a => (us a).kd) q.kd)) a HIW.out.own w3.heap.size rfl rfl ?_ HIW.out.lt ?_; exact HFL.out; intro g2 c2 w9 hown hgr hat
               have HI9 := hide (HIW.out.app (l' := ((l.take k).filter (wayB (fun a => (us a).kd) q.kd)) ++ [a]) (by simpa using hown) hgr)
               clear hown hgr hat)
            | fail)
          refine ⟨⟨k + 1, by omega, rfl, ?_⟩, by simp [intOf]; omega⟩
          have e9 : (l.take (k + 1)).filter (wayB (fun a => (us a).kd) q.kd) = ((l.take k).filter (wayB (fun a => (us a).kd) q.kd)) ++ [a] := by
            rw [HTK.out, List.filter_append]
            congr 1
            simp [wayB, ← HU.out, hadd]
          rw [e9]
          exact HI9.out
      | true =>
        cases hadq : addsB q.kd with
        | false => 
            go_wp2_with fail
            refine (adds_any u wr).mono ?_
            rintro e w3 ⟨rfl, hb3⟩
            rw [hadd]
            have HIV := hide (HI.out.grow hb3)
            clear c0 cz0 c1 cz1 c2 cz2 c3 cz3 c4 cz4 c5 cz5 c6 cz6 c7 cz7 c8 cz8 c9 cz9 c10 cz10 c11 cz11 c12 cz12 c13 cz13 c14 cz14
            clear hb3 hcg hgz HC
            obtain ⟨d0, d1, d2, d3, d4, d5, d6, d7, d8, d9, d10, d11, d12, d13, d14⟩ := HIV.out.spot.cells
            have dz := HIV.out.spot.lt
            go_wp2_with fail
            refine (adds_any q w3).mono ?_
            rintro e w5 ⟨rfl, hb5⟩
            rw [hadq]
            have HIW := hide (HIV.out.grow hb5)
            clear hb5 d0 d1 d2 d3 d4 d5 d6 d7 d8 d9 d10 d11 d12 d13 d14 dz
            go_wp2_with (first
              | (at_builtin; refine append_at rfl (.tmp 35) (.tmp 37) rfl (w.heap.size + 1 + 1) _ rfl ((l.take k).filter (wayB (fun a => (us a).kd) q.kd)) a HIW.out.own w5.heap.size rfl rfl ?_ HIW.out.lt ?_; exact HFL.out; intro g2 c2 w9 hown hgr hat
                 have HI9 := hide (HIW.out.app (l' := ((l.take k).filter (wayB (fun a => (us a).kd) q.kd)) ++ [a]) (by simpa using hown) hgr)
                 clear hown hgr hat)
              | fail)
            refine ⟨⟨k + 1, by omega, rfl, ?_⟩, by simp [intOf]; omega⟩
            have e9 : (l.take (k + 1)).filter (wayB (fun a => (us a).kd) q.kd) = ((l.take k).filter (wayB (fun a => (us a).kd) q.kd)) ++ [a] := by
              rw [HTK.out, List.filter_append]
              congr 1
              simp [wayB, ← HU.out, hadd, hadq]
            rw [e9]
            exact HI9.out
        | true => 
            go_wp2_with fail
            refine (adds_any u wr).mono ?_
            rintro e w3 ⟨rfl, hb3⟩
            rw [hadd]
            have HIV := hide (HI.out.grow hb3)
            clear c0 cz0 c1 cz1 c2 cz2 c3 cz3 c4 cz4 c5 cz5 c6 cz6 c7 cz7 c8 cz8 c9 cz9 c10 cz10 c11 cz11 c12 cz12 c13 cz13 c14 cz14
            clear hb3 hcg hgz HC
            obtain ⟨d0, d1, d2, d3, d4, d5, d6, d7, d8, d9, d10, d11, d12, d13, d14⟩ := HIV.out.spot.cells
            have dz := HIV.out.spot.lt
            go_wp2_with fail
            refine (adds_any q w3).mono ?_
            rintro e w5 ⟨rfl, hb5⟩
            rw [hadq]
            have HIW := hide (HIV.out.grow hb5)
            clear hb5 d0 d1 d2 d3 d4 d5 d6 d7 d8 d9 d10 d11 d12 d13 d14 dz
            go_wp2_with fail
            refine ⟨⟨k + 1, by omega, rfl, ?_⟩, by simp [intOf]; omega⟩
            have e9 : (l.take (k + 1)).filter (wayB (fun a => (us a).kd) q.kd) = ((l.take k).filter (wayB (fun a => (us a).kd) q.kd)) := by
              rw [HTK.out, List.filter_append]
              have : [a].filter (wayB (fun a => (us a).kd) q.kd) = [] := by simp [wayB, ← HU.out, hadd, hadq]
              rw [this, List.append_nil]
            rw [e9]
            exact HIW.out
    · have e1 : k = l.length := by omega
      subst e1
      rw [List.take_length] at HI
      obtain ⟨fl, hfl⟩ : ∃ fl, fl = l.filter (wayB (fun a => (us a).kd) q.kd) := ⟨_, rfl⟩
      rw [← hfl] at HI
      have HFL : Hid (fl.length ≤ 1000000) := by
        have h1 := List.length_filter_le (wayB (fun a => (us a).kd) q.kd) l
        have h2 := HLL.out
        rw [Hid, hfl]
        omega
      have HFE := hide hfl
      have y0 : wr.cell? ⟨w.heap.size + 1, 0, none⟩ = some (.slice e0.pa e0.pl e0.pc) := by simp [World.cell?, HI.out.tch]
      have y1 : wr.cell? ⟨w.heap.size + 1, 1, none⟩ = some (.slice e0.ga e0.gl e0.gc) := by simp [World.cell?, HI.out.tch]
      have yz := lt_of_cell y0
      have HRW := hide (HOW.out wr HI.out.below true)
      have HLG := hide (HL.out q.pu true)
      clear hfl hI
      go_wp2_with (first
        | (at_builtin; refine append_row rfl (.tmp 40) (.tmp 42) rfl (w.heap.size + 1 + 1) _ rfl fl (L q.pu true) HI.out.own e0.ga e0.gl e0.gc mb rfl HRW.out ?_ HI.out.lt ?_; (have h1 := HFL.out; have h2 := HLG.out; omega); intro v2 w2 hown hgr
           have HI2 := hide (HI.out.app (l' := fl ++ L q.pu true) hown hgr)
           obtain ⟨d0, d1, d2, d3, d4, d5, d6, d7, d8, d9, d10, d11, d12, d13, d14⟩ := HI2.out.spot.cells
           have dz := HI2.out.spot.lt
           clear hown hgr)
        | fail)
      clear d0 d1 d2 d3 d4 d5 d6 d7 d8 d9 d10 d11 d12 d13 d14 dz y0 y1 yz HRW
      have HPS : Hid (ps.length = q.gl) := HIN.out.1
      go_loopw [47, 8] (fun i v w4 => ∃ k : Nat, k ≤ q.gl ∧ i = .int .i64 k ∧ AInv w q e0 v (fl ++ L q.pu true ++ (ps.take k).flatMap (fun r => L r false)) w4) (fun i _ _ => q.gl - (intOf i).toNat)
      case atStart => exact ⟨0, Nat.zero_le _, rfl, by simpa using HI2.out⟩
      case round =>
        clear HI2 HI
        obtain ⟨k, hk, rfl, hI⟩ := hrel
        have HI := hide hI
        by_cases hlt : k < q.gl
        · obtain ⟨p1, p2, p3⟩ := HIN.out
          obtain ⟨b, off, hga, hat⟩ := p3.resolve_left (by omega)
          obtain ⟨c0, c1⟩ := hat k hlt
          obtain ⟨p, hp⟩ : ∃ p : PW, p = (ps[k]?.getD ⟨0, 0⟩) := ⟨_, rfl⟩
          rw [← hp] at c0 c1
          have c0' := (HI.out.below.cell (p := ⟨b, off + k * 2, none⟩) (lt_of_cell c0)).trans c0
          have c1' := (HI.out.below.cell (p := ⟨b, off + k * 2 + 1, none⟩) (lt_of_cell c1)).trans c1
          have z0 := lt_of_cell c0'
          have z1 := lt_of_cell c1'
          obtain ⟨e1, he1⟩ : ∃ e1, lookE p M = e1 := ⟨_, rfl⟩
          have hT1 := HT.out.below (V := (wr.alloc (.cells #[.int .i64 p.arr, .int .i64 p.pos] 56))) (bl_on HI.out.below (bl_new _))
          have HT1 := hide hT1
          have HRW := hide (show Go.World.ownsRow (wr.alloc (.cells #[.int .i64 p.arr, .int .i64 p.pos] 56)) mb 3 1 (.slice e1.pa e1.pl e1.pc) (L p false).length ((L p false).map iv) from by
            have := hT1.own p false
            rw [he1] at this
            exact this)
          have HI3 := hide (HI.out.grow (V := (wr.alloc (.cells #[.int .i64 p.arr, .int .i64 p.pos] 56))) (bl_new _))
          have HLE : Hid ((fl ++ L q.pu true ++ (ps.take k).flatMap (fun r => L r false)).length + (L p false).length ≤ 1000000000000) := by
            have h1 := HFL.out
            have h2 := HL.out q.pu true
            have h3 := HL.out p false
            have h4 : ∀ xs : List PW, (xs.flatMap (fun r => L r false)).length ≤ xs.length * 1000000 := fun xs => by
              induction xs with
              | nil => simp
              | cons x xs ih =>
                have := HL.out x false
                simp only [List.flatMap_cons, List.length_append, List.length_cons]
                omega
            have h5 := h4 (ps.take k)
            rw [List.length_take] at h5
            rw [Hid, List.length_append, List.length_append]
            omega
          have HPP := hide hp
          clear hT1 hI hat c0 c1 hp p1 p2 p3
          rw [hga]
          go_wp2_with (first
            | (at_lookup; refine wp_look rfl (.tmp 52) (.tmp 53) rfl mb M p e1 he1 rfl HT1.out.map rfl ?_)
            | (refine wp_field0 rfl (.tmp 54) rfl e1 rfl ?_)
            | (at_builtin; refine append_row rfl (.tmp 51) (.tmp 55) rfl (w.heap.size + 1 + 1) _ rfl (fl ++ L q.pu true ++ (ps.take k).flatMap (fun r => L r false)) (L p false) HI3.out.own e1.pa e1.pl e1.pc mb rfl HRW.out HLE.out HI3.out.lt ?_; intro v6 w6 hown hgr
               have HI6 := hide (HI3.out.app hown hgr)
               clear hown hgr)
            | fail)
          refine ⟨⟨k + 1, by omega, rfl, ?_⟩, by simp [intOf]; omega⟩
          have hk' : k < ps.length := by rw [HPS.out]; exact hlt
          have e2 : ps.take (k + 1) = ps.take k ++ [p] := by
            rw [List.take_succ_eq_append_getElem hk', HPP.out]
            simp [hk']
          have e3 : fl ++ L q.pu true ++ (ps.take (k + 1)).flatMap (fun r => L r false) = fl ++ L q.pu true ++ (ps.take k).flatMap (fun r => L r false) ++ L p false := by
            rw [e2, List.flatMap_append]
            simp
          rw [e3]
          exact HI6.out
        · have e1 : k = q.gl := by omega
          subst e1
          rw [List.take_of_length_le (by rw [HPS.out]; exact Nat.le_refl _)] at HI
          go_wp2_with fail
          go_ret
          refine ⟨⟨_, rfl, ?_⟩, HI.out.below⟩
          have e2 : aheadL L (fun a => (us a).kd) q.kd q.pu ps = fl ++ L q.pu true ++ ps.flatMap (fun r => L r false) := by
            unfold aheadL
            rw [← HL1.out, ← HFE.out]
          rw [e2]
          exact own_mono HI.out.own (by omega)
end Go.Proofs.Ytoidgdbgpbcebaa.V
namespace Go.Proofs.Ytoidgdbgpbcebaa.V
open Go Go.RowKit
set_option linter.unusedVariables false

/-- Who touched what, when k spots have been gone through. -/
def touchL (S : Nat → Sp) : Nat → PW → Bool → List Nat
  | 0 => fun _ _ => []
  | k + 1 => if (S k).put.pos = -1 then touchL S k else markL (touchL S k) k (S k).put (S k).gets
theorem mem_addL (L : PW → Bool → List Nat) (p : PW) (s : Bool) (n a : Nat) (p' : PW) (s' : Bool) : a ∈ addL L p s n p' s' ↔ a ∈ L p' s' ∨ (a = n ∧ p' = p ∧ s' = s) := by
  unfold addL
  by_cases h : p' = p ∧ s' = s
  · obtain ⟨rfl, rfl⟩ := h
    simp
  · rw [if_neg h]
    constructor
    · exact fun h' => .inl h'
    · rintro (h' | ⟨_, h'⟩)
      · exact h'
      · exact absurd h' h
theorem mem_fold (n a : Nat) (p' : PW) (s' : Bool) : ∀ (ps : List PW) (L : PW → Bool → List Nat), a ∈ ps.foldl (fun L q => addL L q true n) L p' s' ↔ a ∈ L p' s' ∨ (a = n ∧ p' ∈ ps ∧ s' = true)
  | [], L => by simp
  | q :: ps, L => by
    rw [List.foldl_cons, mem_fold n a p' s' ps, mem_addL]
    simp only [List.mem_cons]
    constructor
    · rintro ((h | ⟨h1, h2, h3⟩) | ⟨h1, h2, h3⟩)
      · exact .inl h
      · exact .inr ⟨h1, .inl h2, h3⟩
      · exact .inr ⟨h1, .inr h2, h3⟩
    · rintro (h | ⟨h1, h2 | h2, h3⟩)
      · exact .inl (.inl h)
      · exact .inl (.inr ⟨h1, h2, h3⟩)
      · exact .inr ⟨h1, h2, h3⟩
theorem mem_markL (L : PW → Bool → List Nat) (n a : Nat) (p : PW) (ps : List PW) (p' : PW) (s' : Bool) : a ∈ markL L n p ps p' s' ↔ a ∈ L p' s' ∨ (a = n ∧ ((s' = false ∧ p' = p) ∨ (s' = true ∧ p' ∈ ps))) := by
  unfold markL
  rw [mem_fold, mem_addL]
  constructor
  · rintro ((h | ⟨h1, h2, h3⟩) | ⟨h1, h2, h3⟩)
    · exact .inl h
    · exact .inr ⟨h1, .inl ⟨h3, h2⟩⟩
    · exact .inr ⟨h1, .inr ⟨h3, h2⟩⟩
  · rintro (h | ⟨h1, ⟨h2, h3⟩ | ⟨h2, h3⟩⟩)
    · exact .inl (.inl h)
    · exact .inl (.inr ⟨h1, h3, h2⟩)
    · exact .inr ⟨h1, h3, h2⟩
theorem mem_touch (S : Nat → Sp) (a : Nat) (p : PW) (s : Bool) : ∀ k, a ∈ touchL S k p s ↔ a < k ∧ (S a).put.pos ≠ -1 ∧ ((s = false ∧ p = (S a).put) ∨ (s = true ∧ p ∈ (S a).gets))
  | 0 => by simp [touchL]
  | k + 1 => by
    unfold touchL
    by_cases h : (S k).put.pos = -1
    · rw [if_pos h, mem_touch S a p s k]
      constructor
      · rintro ⟨h1, h2⟩; exact ⟨by omega, h2⟩
      · rintro ⟨h1, h2, h3⟩
        refine ⟨?_, h2, h3⟩
        rcases Nat.lt_or_ge a k with c | c
        · exact c
        · obtain rfl : a = k := by omega
          exact absurd h h2
    · rw [if_neg h, mem_markL, mem_touch S a p s k]
      constructor
      · rintro (⟨h1, h2⟩ | ⟨rfl, h2⟩)
        · exact ⟨by omega, h2⟩
        · exact ⟨by omega, h, h2⟩
      · rintro ⟨h1, h2, h3⟩
        rcases Nat.lt_or_ge a k with c | c
        · exact .inl ⟨c, h2, h3⟩
        · obtain rfl : a = k := by omega
          exact .inr ⟨rfl, h3⟩
theorem touch_len (S : Nat → Sp) (g : Nat) (hg : ∀ j, (S j).gets.length ≤ g) (p : PW) (s : Bool) : ∀ k, (touchL S k p s).length ≤ k * (g + 1)
  | 0 => by simp [touchL]
  | k + 1 => by
    have ih := touch_len S g hg p s k
    have h1 := hg k
    rw [Nat.succ_mul]
    unfold touchL
    by_cases h : (S k).put.pos = -1
    · rw [if_pos h]; omega
    · rw [if_neg h]
      have := markL_len (touchL S k) k (S k).put (S k).gets p s
      omega
/-- In each other's way. -/
def wayP (a b : Sp) : Prop := a.put.pos ≠ -1 ∧ ((a.put = b.put ∧ ¬ (addsB a.kd = true ∧ addsB b.kd = true)) ∨ a.put ∈ b.gets ∨ b.put ∈ a.gets)
theorem mem_ahead (S : Nat → Sp) (kd : Nat → Int) (hkd : ∀ j, kd j = (S j).kd) (a k : Nat) : a ∈ aheadL (touchL S k) kd (S k).kd (S k).put (S k).gets ↔ a < k ∧ wayP (S a) (S k) := by
  unfold aheadL wayP
  simp only [List.mem_append, List.mem_filter, List.mem_flatMap, mem_touch, wayB, hkd]
  constructor
  · rintro ((⟨⟨h1, h2, h3⟩, h4⟩ | ⟨h1, h2, h3⟩) | ⟨r, hr, h1, h2, h3⟩)
    · refine ⟨h1, h2, .inl ⟨?_, ?_⟩⟩
      · rcases h3 with h3 | h3
        · exact h3.2.symm
        · cases h3.1
      · rintro ⟨e1, e2⟩
        simp [e1, e2] at h4
    · refine ⟨h1, h2, .inr (.inr ?_)⟩
      rcases h3 with h3 | h3
      · cases h3.1
      · exact h3.2
    · refine ⟨h1, h2, .inr (.inl ?_)⟩
      rcases h3 with h3 | h3
      · rw [← h3.2]; exact hr
      · cases h3.1
  · rintro ⟨h1, h2, (⟨h3, h4⟩ | h3 | h3)⟩
    · refine .inl (.inl ⟨⟨h1, h2, .inl ⟨trivial, h3.symm⟩⟩, ?_⟩)
      cases e1 : addsB (S a).kd <;> cases e2 : addsB (S k).kd <;> simp_all
    · exact .inr ⟨(S a).put, h3, h1, h2, .inl ⟨trivial, rfl⟩⟩
    · exact .inl (.inr ⟨h1, h2, .inr ⟨trivial, h3⟩⟩)
end Go.Proofs.Ytoidgdbgpbcebaa.V
namespace Go.Proofs.Ytoidgdbgpbcebaa.V
open Go Go.RowKit
set_option linter.unusedVariables false

theorem lead_pos {zs : List Int} (hz : ∀ z ∈ zs, 0 ≤ z) {a : Acc} (h0 : 0 ≤ a.1) (h1 : a.1 < (zs.length : Int)) (x : List Int) : ((leadV zs a x).pos ≠ -1 ↔ inM (memZ zs) a x) ∧ (inM (memZ zs) a x → (leadV zs a x).pos = worthV a.2 x) := by
  have hl := memZ_arr hz a.1.toNat (by omega)
  unfold inM leadV
  rw [hl]
  simp only
  constructor
  · constructor
    · intro h
      by_cases c : worthV a.2 x < 0 ∨ zs[a.1.toNat]?.getD 0 ≤ worthV a.2 x
      · rw [if_pos c] at h; exact absurd rfl h
      · omega
    · intro h
      rw [if_neg (by omega)]
      omega
  · intro h
    rw [if_neg (by omega)]
theorem lead_same {zs : List Int} (hz : ∀ z ∈ zs, 0 ≤ z) {a b : Acc} (a0 : 0 ≤ a.1) (a1 : a.1 < (zs.length : Int)) (b0 : 0 ≤ b.1) (b1 : b.1 < (zs.length : Int)) {x y : List Int} (hin : inM (memZ zs) a x) : leadV zs a x = leadV zs b y ↔ a.1 = b.1 ∧ inM (memZ zs) b y ∧ worthV a.2 x = worthV b.2 y := by
  obtain ⟨p1, p2⟩ := lead_pos hz a0 a1 x
  obtain ⟨q1, q2⟩ := lead_pos hz b0 b1 y
  rw [pw_ext]
  have e1 : (leadV zs a x).arr = a.1 := rfl
  have e2 : (leadV zs b y).arr = b.1 := rfl
  rw [e1, e2, p2 hin]
  constructor
  · rintro ⟨h1, h2⟩
    have h3 : inM (memZ zs) b y := q1.1 (by rw [← h2, ← p2 hin]; exact p1.2 hin)
    exact ⟨h1, h3, by rw [h2, q2 h3]⟩
  · rintro ⟨h1, h2, h3⟩
    exact ⟨h1, by rw [q2 h2, h3]⟩
theorem adds_kind {k : Int} (h : 0 ≤ takesV k) : addsB k = true ↔ 9 ≤ k := by
  rcases kind_cases k with rfl | rfl | rfl | rfl | rfl | rfl | rfl | rfl | rfl | rfl | hk
  all_goals first | (simp [addsB]; done) | (rw [takes_none hk] at h; omega)
theorem way_clash {zs : List Int} {ss : List Stm} (T : Tms) (hok : NestOk zs ss) {p r : Nat × List Int} (hp : p.1 < ss.length) (hr : r.1 < ss.length) (hb : (spOf zs ss T r).put.pos ≠ -1) : wayP (spOf zs ss T p) (spOf zs ss T r) ↔ clash (memZ zs) (ss[p.1]?.getD stmD) (ss[r.1]?.getD stmD) p.2 r.2 := by
  obtain ⟨s, hs⟩ : ∃ s, s = ss[p.1]?.getD stmD := ⟨_, rfl⟩
  obtain ⟨t, ht⟩ : ∃ t, t = ss[r.1]?.getD stmD := ⟨_, rfl⟩
  have hsm : StmOk zs.length s := hok.stms s (by rw [hs]; simp [hp])
  have htm : StmOk zs.length t := hok.stms t (by rw [ht]; simp [hr])
  have hz : ∀ z ∈ zs, 0 ≤ z := fun z hz => (hok.sizes z hz).1
  have ks := adds_kind (k := s.kind) (by rw [hsm.takes]; omega)
  have kt := adds_kind (k := t.kind) (by rw [htm.takes]; omega)
  have sp := hsm.put
  have tp := htm.put
  unfold spOf at hb ⊢
  unfold wayP clash
  simp only [← hs, ← ht] at hb ⊢
  obtain ⟨s1, s2⟩ := lead_pos hz sp.arr.1 sp.arr.2 p.2
  obtain ⟨t1, t2⟩ := lead_pos hz tp.arr.1 tp.arr.2 r.2
  have htin := t1.1 hb
  rw [s1, ks, kt]
  constructor
  · rintro ⟨h1, h2⟩
    refine ⟨⟨h1, htin⟩, ?_⟩
    rcases h2 with ⟨h2, h3⟩ | h2 | h2
    · obtain ⟨e1, e2, e3⟩ := (lead_same hz sp.arr.1 sp.arr.2 tp.arr.1 tp.arr.2 h1).1 h2
      exact .inl ⟨e1, e3, h3⟩
    · simp only [List.mem_map] at h2
      obtain ⟨g, hg, e⟩ := h2
      have gp := htm.gets g hg
      obtain ⟨e1, e2, e3⟩ := (lead_same hz sp.arr.1 sp.arr.2 gp.arr.1 gp.arr.2 h1).1 e.symm
      exact .inr (.inl ⟨g, hg, e1.symm, e2, e3.symm⟩)
    · simp only [List.mem_map] at h2
      obtain ⟨g, hg, e⟩ := h2
      have gp := hsm.gets g hg
      obtain ⟨e1, e2, e3⟩ := (lead_same hz tp.arr.1 tp.arr.2 gp.arr.1 gp.arr.2 htin).1 e.symm
      exact .inr (.inr ⟨g, hg, e1.symm, e2, e3.symm⟩)
  · rintro ⟨⟨h1, _⟩, h2⟩
    refine ⟨h1, ?_⟩
    rcases h2 with ⟨h2, h3, h4⟩ | ⟨g, hg, e1, e2, e3⟩ | ⟨g, hg, e1, e2, e3⟩
    · exact .inl ⟨(lead_same hz sp.arr.1 sp.arr.2 tp.arr.1 tp.arr.2 h1).2 ⟨h2, htin, h3⟩, h4⟩
    · have gp := htm.gets g hg
      exact .inr (.inl (List.mem_map.2 ⟨g, hg, ((lead_same hz sp.arr.1 sp.arr.2 gp.arr.1 gp.arr.2 h1).2 ⟨e1.symm, e2, e3.symm⟩).symm⟩))
    · have gp := hsm.gets g hg
      exact .inr (.inr (List.mem_map.2 ⟨g, hg, ((lead_same hz tp.arr.1 tp.arr.2 gp.arr.1 gp.arr.2 htin).2 ⟨e1.symm, e2, e3.symm⟩).symm⟩))
theorem clash_in {zs : List Int} {ss : List Stm} (T : Tms) (hok : NestOk zs ss) {p r : Nat × List Int} (hr : r.1 < ss.length) (hb : (spOf zs ss T r).put.pos = -1) : ¬ clash (memZ zs) (ss[p.1]?.getD stmD) (ss[r.1]?.getD stmD) p.2 r.2 := by
  have htm : StmOk zs.length (ss[r.1]?.getD stmD) := hok.stms _ (by simp [hr])
  have hz : ∀ z ∈ zs, 0 ≤ z := fun z hz => (hok.sizes z hz).1
  rintro ⟨⟨_, h1⟩, _⟩
  exact (lead_pos hz htm.put.arr.1 htm.put.arr.2 r.2).1.2 h1 hb
end Go.Proofs.Ytoidgdbgpbcebaa.V
namespace Go.Proofs.Ytoidgdbgpbcebaa.V
open Go Go.RowKit Go.Shelf
attribute [local go_sem] Oper.semAt_some
set_option linter.unusedVariables false

theorem cell_of_one {W : World} {b : Nat} {v : Value} {t : TypeId} (h : W.heap[b]? = some (.cells #[v] t (0, 0))) : W.cell? ⟨b, 0, none⟩ = some v := by simp only [World.cell?, h]; rfl
theorem free_of_one {W : World} {b : Nat} {c : Array Value} {t : TypeId} (h : W.heap[b]? = some (.cells c t (0, 0))) : W.frozen? ⟨b, 0, none⟩ = false := by simp [World.frozen?, h]
set_option maxRecDepth 100000 in
set_option maxHeartbeats 4000000 in
theorem spots_no (za : Option Addr) (zl zc : Nat) (zs : List Int) (ta : Option Addr) (tl tc : Nat) (ss : List Stm) (ma : Option Addr) (ml mc : Nat) (T : Tms) (w : World) (hz : Ints w za zl zs) (hs : Stms w ta tl ss) (hT : TimesA w ma ml T) (hE : ordE zs ss T ≠ 0) :
    Calls Try.prog 17 #[.agg #[.slice za zl zc, .slice ta tl tc], .slice ma ml mc] w fun e w' => e = .returned (.tuple #[.slice none 0 0, .int .i64 (ordE zs ss T)]) ∧ Below w.heap.size w w' := by
  obtain ⟨W, hW⟩ : ∃ W, W = (((w.alloc (.cells #[.slice za zl zc, .slice ta tl tc] 25)).alloc (.cells #[.slice ma ml mc] 27)).alloc (.cells #[.slice none 0 0] 48)).alloc (.cells #[.int .i64 0] 29) := ⟨_, rfl⟩
  have B0 : Below w.heap.size w W := by rw [hW]; exact bl_on (bl_new _) (bl_on (bl_new _) (bl_on (bl_new _) (bl_new _)))
  have P0 : NsBlk W w.heap.size za zl zc ta tl tc := by rw [hW]; exact (((NsBlk.new w za zl zc ta tl tc).below (bl_new _)).below (bl_new _)).below (bl_new _)
  have G1 : W.heap[w.heap.size + 1]? = some (.cells #[.slice ma ml mc] 27 (0, 0)) := by
    rw [hW]
    refine (Below.heap_alloc _ _ _ (by simp <;> omega)).trans ((Below.heap_alloc _ _ _ (by simp)).trans ?_)
    have := World.alloc_heap_new (w.alloc (.cells #[.slice za zl zc, .slice ta tl tc] 25)) (.cells #[.slice ma ml mc] 27)
    rw [World.size_alloc] at this
    exact this
  have G2 : W.heap[w.heap.size + 1 + 1]? = some (.cells #[.slice none 0 0] 48 (0, 0)) := by
    rw [hW]
    refine (Below.heap_alloc _ _ _ (by simp)).trans ?_
    have := World.alloc_heap_new ((w.alloc (.cells #[.slice za zl zc, .slice ta tl tc] 25)).alloc (.cells #[.slice ma ml mc] 27)) (.cells #[.slice none 0 0] 48)
    rw [World.size_alloc, World.size_alloc] at this
    exact this
  have G3 : W.heap[w.heap.size + 1 + 1 + 1]? = some (.cells #[.int .i64 0] 29 (0, 0)) := by
    rw [hW]
    have := World.alloc_heap_new (((w.alloc (.cells #[.slice za zl zc, .slice ta tl tc] 25)).alloc (.cells #[.slice ma ml mc] 27)).alloc (.cells #[.slice none 0 0] 48)) (.cells #[.int .i64 0] 29)
    rw [World.size_alloc, World.size_alloc, World.size_alloc] at this
    exact this
  have HSW : Hid (W.heap.size = w.heap.size + 4) := by rw [Hid, hW]; simp
  have HOW := hide (oWrong_any za zl zc zs ta tl tc ss ma ml mc T W (hz.below B0) (hs.below B0) (hT.below B0))
  obtain ⟨n0, n1⟩ := P0.cells
  have zn := P0.lt
  have c1 := cell_of_one G1
  have z1 := lt_of_cell c1
  have HB := hide B0
  have HN := hide P0
  have HG := hide (And.intro G1 (And.intro G2 G3))
  have HW := hide hW
  obtain ⟨E, hEE⟩ : ∃ E, E = ordE zs ss T := ⟨_, rfl⟩
  rw [← hEE] at hE HOW ⊢
  have qE : (E != 0) = true := by simpa using hE
  clear hz hs hT B0 P0 G1 G2 G3 hW hE hEE
  go_enter Try.func17, Try.ntmps17
  go_upto_region 1 with fail
  rw [← HW.out]
  go_wp2_with fail
  refine HOW.out.mono ?_
  rintro e w1 ⟨rfl, hb⟩
  have HB1 := hide (bl_on HB.out hb)
  obtain ⟨G1, G2, G3⟩ := HG.out
  have G2' := (hb.block _ (Array.getElem?_eq_some_iff.1 G2).1).trans G2
  have G3' := (hb.block _ (Array.getElem?_eq_some_iff.1 G3).1).trans G3
  have y2 := cell_of_one G2'
  have y3 := cell_of_one G3'
  have f2 := free_of_one G2'
  have f3 := free_of_one G3'
  have z2 := lt_of_cell y2
  have z3 := lt_of_cell y3
  have HG2 := hide G2'
  have HG3 := hide G3'
  clear G1 G2 G3 G2' G3' hb n0 n1 zn c1 z1
  go_wp2_with fail
  have e2 : ((w1.setCell ⟨w.heap.size + 1 + 1, 0, none⟩ (.slice none 0 0)).setCell ⟨w.heap.size + 1 + 1 + 1, 0, none⟩ (.int .i64 E)).heap[w.heap.size + 1 + 1]? = some (.cells #[.slice none 0 0] 48 (0, 0)) := by
    rw [Below.heap_setCell _ ⟨w.heap.size + 1 + 1 + 1, 0, none⟩ _ _ (by simp only; omega)]
    simp [World.setCell, Array.getElem?_modify, HG2.out]
  have e3 : ((w1.setCell ⟨w.heap.size + 1 + 1, 0, none⟩ (.slice none 0 0)).setCell ⟨w.heap.size + 1 + 1 + 1, 0, none⟩ (.int .i64 E)).heap[w.heap.size + 1 + 1 + 1]? = some (.cells #[.int .i64 E] 29 (0, 0)) := by
    have h : (w1.setCell ⟨w.heap.size + 1 + 1, 0, none⟩ (.slice none 0 0)).heap[w.heap.size + 1 + 1 + 1]? = some (.cells #[.int .i64 0] 29 (0, 0)) := (Below.heap_setCell _ ⟨w.heap.size + 1 + 1, 0, none⟩ _ _ (by simp only; omega)).trans HG3.out
    generalize w1.setCell ⟨w.heap.size + 1 + 1, 0, none⟩ (.slice none 0 0) = V at h ⊢
    simp [World.setCell, Array.getElem?_modify, h]
  have x2 := cell_of_one e2
  have x3 := cell_of_one e3
  refine bodyPost_ret (v := .tuple #[.slice none 0 0, .int .i64 E]) (by simp [results, Try.results17, go_sem, x2, x3]) rfl ⟨rfl, ?_⟩
  exact (HB1.out.setCell (p := ⟨w.heap.size + 1 + 1, 0, none⟩) (by simp only; omega) _).setCell (p := ⟨w.heap.size + 1 + 1 + 1, 0, none⟩) (by simp only; omega) _
end Go.Proofs.Ytoidgdbgpbcebaa.V
