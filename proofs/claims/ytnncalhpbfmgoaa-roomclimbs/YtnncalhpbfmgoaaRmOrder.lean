/-
  Contract: room.tree.order (a function that calls itself through its variable).
-/
import Derived.Test.YtnncalhpbfmgoaaRmPeak
namespace Go.Proofs.Ytnncalhpbfmgoaa.V
open Go.RowKit
set_option linter.unusedVariables false

/-- All nodes of the tree below a node, each behind those below it. -/
def climbF (T : Nat → List Nat) : Nat → Nat → List Nat
  | 0, k => [k]
  | f + 1, k => (T k).flatMap (climbF T f) ++ [k]
theorem flatMap_take (g : Nat → List Nat) (l : List Nat) (j : Nat) (h : j < l.length) : (l.take (j + 1)).flatMap g = (l.take j).flatMap g ++ g (l[j]?.getD 0) := by
  rw [List.take_succ_eq_append_getElem h, List.flatMap_append]
  simp [h]
theorem flatMap_take_len (g : Nat → List Nat) (l : List Nat) (j : Nat) : ((l.take j).flatMap g).length ≤ (l.flatMap g).length := by
  conv => rhs; rw [← List.take_append_drop j l, List.flatMap_append]
  simp
abbrev climbV (B : Nat) : Value := .func (.func 50) #[] #[.pointer (some ⟨B, 0, none⟩), .pointer (some ⟨B + 3, 0, none⟩), .pointer (some ⟨B + 2, 0, none⟩)]
/-- While it is climbed. -/
structure OrdSt (w : World) (L n : Nat) (b : Option Addr) (cap' : Nat) (u : Value) (xs : List Nat) (W : World) : Prop where
  bel : Below w.heap.size w W
  own : W.heap[w.heap.size]? = some (.cells #[.slice (some ⟨L, 0, none⟩) n n, .slice b n cap'] 57 (0, 0))
  cell : W.heap[w.heap.size + 2]? = some (.cells #[u] 27 (0, 0))
  fn : W.heap[w.heap.size + 3]? = some (.cells #[climbV w.heap.size] 51 (0, 0))
  row : OwnN W w.heap.size u xs
theorem OwnN.apart2 {w : World} {B L g : Nat} {u : Value} {l : List Nat} {cs : Array Value} {t : TypeId} {fr : Nat × Nat} (h : OwnN w B u l) (hr : w.heap[L]? = some (.cells cs t fr)) (ht : t ≠ 3) (e : u.ownBlock = some g) : g ≠ L := by
  obtain ⟨_, _, cur, hc⟩ := h.at e
  rintro rfl
  rw [hc] at hr
  simp at hr
  exact ht hr.2.1.symm
theorem OrdSt.put {w : World} {L n : Nat} {b : Option Addr} {cap' : Nat} {u u' : Value} {xs ys : List Nat} {W W1 W2 : World} (h : OrdSt w L n b cap' u xs W) (h1 : Below W.heap.size W W1) (hg : W1.grownBy W2 u.ownBlock) (hr : OwnN W2 w.heap.size u' ys) :
    OrdSt w L n b cap' u' ys (W2.setCell ⟨w.heap.size + 2, 0, none⟩ u') := by
  have o1 := (h1.block _ (Array.getElem?_eq_some_iff.1 h.own).1).trans h.own
  have o2 := (h1.block _ (Array.getElem?_eq_some_iff.1 h.cell).1).trans h.cell
  have o3 := (h1.block _ (Array.getElem?_eq_some_iff.1 h.fn).1).trans h.fn
  have r1 := h.row.below h1
  have k1 := (hg.block _ (Array.getElem?_eq_some_iff.1 o1).1 (fun e => r1.apart2 o1 (by decide) e.symm rfl)).trans o1
  have k2 := (hg.block _ (Array.getElem?_eq_some_iff.1 o2).1 (fun e => r1.apart2 o2 (by decide) e.symm rfl)).trans o2
  have k3 := (hg.block _ (Array.getElem?_eq_some_iff.1 o3).1 (fun e => r1.apart2 o3 (by decide) e.symm rfl)).trans o3
  have hb := h.bel.trans (h1.mono h.bel.size)
  refine ⟨(hb.grown hg hb.size (fun j e => (r1.at e).1)).setCell (p := ⟨w.heap.size + 2, 0, none⟩) (by simp) _, ?_, ?_, ?_, ?_⟩
  · exact (heap_setCell_other _ _ _ _ (by simp)).trans k1
  · exact heap_setCell_same _ _ _ _ _ _ k2
  · exact (heap_setCell_other _ _ _ _ (by simp)).trans k3
  · exact hr.keep fun g e _ => heap_setCell_other _ _ _ _ (hr.apart2 k2 (by decide) e)
/-- append(row, number), at the operation: the number lies in the newest block. -/
theorem append_nvL {w : World} {ops : Array Oper} {rest : List Oper} {op : Oper} {a : Act} {Q : Exit → Act → World → Prop} (hgd : op.guard = none) (s x : Operand)
    (ho : op.op = .call { callee := .builtin .append, args := #[s, x], argTypes := #[27, 27] }) (B : Nat) (v : Value) (l : List Nat) (hs : a.eval s = v) (k : Nat) (hS : OwnN w B v l)
    (hx : a.eval x = .slice (some ⟨w.heap.size, 0, none⟩) 1 1) (hl : l.length ≤ 65536) (hB : B ≤ w.heap.size)
    (h : ∀ g c w', OwnN w' B (.slice (some ⟨g, 0, none⟩) (l.length + 1) c) (l ++ [k]) → (w.alloc (.cells #[.int .i64 (k : Int)] 3)).grownBy w' v.ownBlock → wpList Try.prog ops Q rest (a.put op.dst (.slice (some ⟨g, 0, none⟩) (l.length + 1) c)) w') :
    wpList Try.prog ops Q (op :: rest) a (w.alloc (.cells #[.int .i64 (k : Int)] 3)) := by
  obtain ⟨i0, hi, hz0, hz1, hz2⟩ := info_parts info_int
  refine wpList_append_own _ hgd s x 27 ho B 3 i0 (.int .i64 0) 1 8 Try.underlying27 hi hz0 hz1 hz2 rfl (by decide) v l.length (l.map nv) hs (World.ownsRow.alloc hS _) ⟨w.heap.size, 0, none⟩ 1 1 [nv k] hx rfl ?_ ?_ (by unfold maxLen; omega) (by omega) (by simp; omega) (fun v' w' k1 k2 _ => ?_)
  · intro j u hj
    have hjl : j = 0 := by have := (List.getElem?_eq_some_iff.1 hj).1; simp at this; exact this
    subst hjl
    simp at hj
    rw [← hj, Go.WideShapes.add_plain]
    show (w.alloc (.cells #[.int .i64 (k : Int)] 3)).cell? ⟨w.heap.size, 0 + 0, none⟩ = _
    unfold World.cell?
    rw [World.alloc_heap_new w (.cells #[.int .i64 (k : Int)] 3)]
    rfl
  · intro u hu; simp at hu; subst hu; rfl
  · rcases k1.2 with ⟨_, e⟩ | ⟨g, cap, cur, rfl, e2, e3, e4⟩
    · omega
    · refine h g cap w' ?_ k2
      unfold OwnN
      rw [List.length_append, List.map_append]
      exact k1
theorem OrdSt.kept {w : World} {L n : Nat} {b : Option Addr} {cap' : Nat} {u : Value} {xs : List Nat} {W W1 W2 : World} (h : OrdSt w L n b cap' u xs W) (h1 : Below W.heap.size W W1) (hg : W1.grownBy W2 u.ownBlock) :
    W2.cell? ⟨w.heap.size + 2, 0, none⟩ = some u ∧ W2.frozen? ⟨w.heap.size + 2, 0, none⟩ = false ∧ w.heap.size + 2 < W2.heap.size := by
  have o2 := (h1.block _ (Array.getElem?_eq_some_iff.1 h.cell).1).trans h.cell
  have k2 := (hg.block _ (Array.getElem?_eq_some_iff.1 o2).1 (fun e => (h.row.below h1).apart2 o2 (by decide) e.symm rfl)).trans o2
  exact ⟨by simp [World.cell?, k2], by simp [World.frozen?, k2], (Array.getElem?_eq_some_iff.1 k2).1⟩
set_option maxHeartbeats 8000000 in
theorem climb_any (B L n : Nat) (v : Nat → Value) (T : Nat → List Nat) (b : Option Addr) (cap' : Nat) (w : World) (hB : Bel w B L n v T) (hn4 : n ≤ 4096) (hT : ∀ s, s < n → ∀ q ∈ T s, q < s) (hTl : ∀ s, s < n → (T s).length ≤ 4096) :
    ∀ (f k : Nat) (u : Value) (xs : List Nat) (W : World), k < f → k < n → OrdSt w L n b cap' u xs W → xs.length + (climbF T f k).length ≤ 65536 →
    Calls Try.prog 50 #[.int .i64 (k : Int), .pointer (some ⟨w.heap.size, 0, none⟩), .pointer (some ⟨w.heap.size + 3, 0, none⟩), .pointer (some ⟨w.heap.size + 2, 0, none⟩)] W fun e w' => e = .returned (.tuple #[]) ∧ ∃ u', OrdSt w L n b cap' u' (xs ++ climbF T f k) w' := by
  intro f
  induction f with
  | zero => intro k u xs W hk; omega
  | succ f ih =>
    intro k u xs W hkf hkn hS hle
    have HI := hide ih
    have HB := hide hB
    have HT := hide hT
    have HS := hide hS
    have HLE : Hid (xs.length + ((T k).flatMap (climbF T f)).length + 1 ≤ 65536) := by rw [Hid]; have h := hle; rw [climbF, List.length_append] at h; simp only [List.length_cons, List.length_nil] at h; omega
    have hl4 := hTl k hkn
    obtain ⟨ra, rc, rv, rr⟩ := own_row0 ((HB.out.below hS.bel).side k hkn)
    have RV := hide rv
    have c4 := (HB.out.below hS.bel).row.cell (i := k) hkn
    have z4 := (HB.out.below hS.bel).row.lt
    rw [rv] at c4
    obtain ⟨t1, t2, _, _, t5⟩ := tree_cells hS.own
    have hkz : (k : Int) < (n : Int) := by omega
    have HRR : Hid (∀ W', Below w.heap.size w W' → RowN0 W' ra (T k)) := fun W' hW => by
      obtain ⟨ra', rc', rv', rr'⟩ := own_row0 ((HB.out.below hW).side k hkn)
      rw [RV.out] at rv'
      cases rv'
      exact rr'
    clear ih hB hT hTl hS rv rr hle
    go_enter Try.func50, Try.ntmps50
    go_wp2
    go_loopw [13] (fun i wr => ∃ (j : Nat) (u' : Value), j ≤ (T k).length ∧ i = .int .i64 j ∧ OrdSt w L n b cap' u' (xs ++ ((T k).take j).flatMap (climbF T f)) wr) (fun i _ => (T k).length - (intOf i).toNat)
    case atStart => exact ⟨0, u, Nat.zero_le _, rfl, by simpa using HS.out⟩
    case round =>
      clear t1 t2 t5 c4
      obtain ⟨j, u', hj, rfl, hst⟩ := hrel
      have HST := hide hst
      obtain ⟨p1, p5⟩ := pk_cell hst.fn
      clear hst
      by_cases hjl : j < (T k).length
      · rcases HRR.out _ HST.out.bel with h0 | ⟨g, rfl, hc⟩
        · exfalso; rw [h0] at hjl; simp at hjl
        have c5 := hc j hjl
        obtain ⟨y, hy⟩ : ∃ y, y = (T k)[j]?.getD 0 := ⟨_, rfl⟩
        have hyk : y < k := HT.out k hkn y (by rw [hy]; simp [hjl])
        have HF := hide (flatMap_take (climbF T f) (T k) j hjl)
        rw [← hy] at c5 HF
        have hlen : (xs ++ ((T k).take j).flatMap (climbF T f)).length + (climbF T f y).length ≤ 65536 := by
          have h1 := flatMap_take_len (climbF T f) (T k) (j + 1)
          have h2 := HLE.out
          rw [HF.out, List.length_append] at h1
          rw [List.length_append]
          omega
        have HC := hide (HI.out y u' _ wr (by omega) (by omega) HST.out hlen)
        unfold nv at c5
        have z5 := lt_of_cell c5
        simp only at z5
        have hjz : (j : Int) < ((T k).length : Int) := by omega
        clear hc hy hlen
        go_wp2_with (go_at_call 50; refine HC.out.mono ?_; rintro e w1 ⟨rfl, u2, hs2⟩; have HS2 := hide hs2; clear hs2)
        go_roundw
        case rel => exact ⟨j + 1, u2, by omega, by go_num, by rw [HF.out, ← List.append_assoc]; exact HS2.out⟩
        case measure => simp [intOf]; omega
      · have hall : (T k).take j = T k := List.take_of_length_le (by omega)
        have hst := HST.out
        rw [hall] at hst
        have HS3 := hide hst
        obtain ⟨aa, cc, eu, _⟩ := hst.row.slice
        subst eu
        obtain ⟨v1, v5⟩ := pk_cell hst.cell
        have hjz : ¬ (j : Int) < ((T k).length : Int) := by omega
        have HLL : Hid ((xs ++ (T k).flatMap (climbF T f)).length ≤ 65536) := by rw [Hid, List.length_append]; have := HLE.out; omega
        obtain ⟨ys, hys⟩ : ∃ ys, ys = xs ++ (T k).flatMap (climbF T f) := ⟨_, rfl⟩
        rw [← hys] at HS3 HLL v1
        have HYS : Hid (xs ++ climbF T (f + 1) k = ys ++ [k]) := by rw [Hid, hys, climbF, List.append_assoc]
        clear hst hall HST p1 p5 hys
        go_wp2_with (at_builtin; refine append_nvL rfl (.tmp 21) (.tmp 23) rfl w.heap.size _ ys rfl k HS3.out.row rfl HLL.out HS3.out.bel.size ?_; intro g3 c3 w3 hown hg3; have hkp := HS3.out.kept (bl_new _) hg3; have y1 := hkp.1; have y2 := hkp.2.1; have y3 := hkp.2.2; have HP := hide (HS3.out.put (bl_new _) hg3 hown); clear hkp hown hg3)
        exact bodyPost_end (v := .tuple #[]) (by simp [results, Try.results50, go_sem]) rfl ⟨rfl, _, by rw [HYS.out]; exact HP.out⟩
end Go.Proofs.Ytnncalhpbfmgoaa.V
