/-
  Contract: view.Index. Contracts: view.fresh, view.blank, view.reached, adjointref1.made. Contracts: view.reached, adjointref1.made. Contracts: view.permutes, view.rises, adjointref1.Rising; what a permutation is, said in two ways. Contract: view.permutes. Contract: view.Turn. Contracts: adjointref2.SameList, slices.Equal, array.Wrong, adjointref2.Wrong, array.inner. A world of which all but one block is as it was. Contracts: array.ofTwo and its closures, array.fill. Contract: view.Turn, whatever it is asked.
-/
import Derived.Test.YtoabffmiedbkkaaGreatRJ3
import Derived.Test.YtoabffmiedbkkaaGreatRJ30
import Derived.Test.YtoabffmiedbkkaaGreatRJ6
import Derived.Deep.OwnRows
import Derived.Test.YtoabffmiedbkkaaGreatRJ2
import Derived.Laws.CopyOwn
import Derived.Deep.RegionWith
import Derived.BigRegion
namespace Go.Proofs.YtoabffmiedbkkaaGreat.V
set_option maxRecDepth 20000
open Go.RowKit Go.Shelf
attribute [local go_sem] Oper.semAt_some


end Go.Proofs.YtoabffmiedbkkaaGreat.V
namespace Go.Proofs.YtoabffmiedbkkaaGreat.V
set_option maxRecDepth 20000
open Go.RowKit



end Go.Proofs.YtoabffmiedbkkaaGreat.V
namespace Go.Proofs.YtoabffmiedbkkaaGreat.V
set_option maxRecDepth 20000
open Go.RowKit

end Go.Proofs.YtoabffmiedbkkaaGreat.V
namespace Go.Proofs.YtoabffmiedbkkaaGreat.V
set_option maxRecDepth 20000
open Go.RowKit

end Go.Proofs.YtoabffmiedbkkaaGreat.V
namespace Go.Proofs.YtoabffmiedbkkaaGreat.V
set_option maxRecDepth 20000
open Go.RowKit

end Go.Proofs.YtoabffmiedbkkaaGreat.V
namespace Go.Proofs.YtoabffmiedbkkaaGreat.V
set_option maxRecDepth 20000
open Go.RowKit

/-- A block that holds a View. -/
def ViewAt (w : World) (b : Nat) (c0 c1 c2 : Value) : Prop := w.heap[b]? = some (.cells #[c0, c1, c2] 123 (0, 0))
theorem ViewAt.lt {w : World} {b : Nat} {c0 c1 c2 : Value} (h : ViewAt w b c0 c1 c2) : b < w.heap.size := (Array.getElem?_eq_some_iff.1 h).1
theorem ViewAt.below {w w' : World} {b : Nat} {c0 c1 c2 : Value} (h : ViewAt w b c0 c1 c2) (hb : Below w.heap.size w w') : ViewAt w' b c0 c1 c2 := (hb.block b h.lt).trans h
theorem ViewAt.alloc {w : World} {b : Nat} {c0 c1 c2 : Value} (h : ViewAt w b c0 c1 c2) (o : Obj) : ViewAt (w.alloc o) b c0 c1 c2 := (Below.heap_alloc _ _ _ h.lt).trans h
theorem ViewAt.set {w : World} {b : Nat} {c0 c1 c2 : Value} (h : ViewAt w b c0 c1 c2) {p : Addr} (hne : b ≠ p.block) (u : Value) : ViewAt (w.setCell p u) b c0 c1 c2 := (Below.heap_setCell _ _ _ _ hne).trans h
theorem ViewAt.cells {w : World} {b : Nat} {c0 c1 c2 : Value} (h : ViewAt w b c0 c1 c2) : (w.cell? ⟨b, 0, none⟩ = some c0 ∧ w.cell? ⟨b, 1, none⟩ = some c1 ∧ w.cell? ⟨b, 2, none⟩ = some c2) ∧ (w.frozen? ⟨b, 0, none⟩ = false ∧ w.frozen? ⟨b, 1, none⟩ = false ∧ w.frozen? ⟨b, 2, none⟩ = false) := by
  unfold ViewAt at h
  refine ⟨⟨?_, ?_, ?_⟩, ?_, ?_, ?_⟩ <;> simp [World.cell?, World.frozen?, h]
theorem ViewAt.new (w : World) (c0 c1 c2 : Value) : ViewAt (w.alloc (.cells #[c0, c1, c2] 123)) w.heap.size c0 c1 c2 := World.alloc_heap_new w _

/-- A row on its way: the first k are as they are to be, the others as they were. -/
def onWay (xs ys : List Int) (k j : Nat) : Value := .int .i64 (if j < k then xs[j]?.getD 0 else ys[j]?.getD 0)
theorem onWay_succ (xs ys : List Int) (k j : Nat) : (if j = k then .int .i64 (xs[k]?.getD 0) else onWay xs ys k j) = onWay xs ys (k + 1) j := by
  unfold onWay
  by_cases e : j = k
  · subst e; simp
  · by_cases h : j < k
    · rw [if_neg e, if_pos h, if_pos (by omega)]
    · rw [if_neg e, if_neg h, if_neg (by omega)]
theorem onWay_all {w : World} {g t len : Nat} {xs ys : List Int} (h : w.rowIs g t len (onWay xs ys len)) : w.rowIs g t len (fun j => .int .i64 (xs[j]?.getD 0)) := h.congr (fun j hj => by simp [onWay, hj])
end Go.Proofs.YtoabffmiedbkkaaGreat.V
namespace Go.Proofs.YtoabffmiedbkkaaGreat.V
set_option maxRecDepth 20000
open Go.RowKit

/-- A block that holds an Array. -/
def ArrAt (w : World) (b : Nat) (c0 c1 : Value) : Prop := w.heap[b]? = some (.cells #[c0, c1] 101 (0, 0))
theorem ArrAt.lt {w : World} {b : Nat} {c0 c1 : Value} (h : ArrAt w b c0 c1) : b < w.heap.size := (Array.getElem?_eq_some_iff.1 h).1
theorem ArrAt.below {w w' : World} {b : Nat} {c0 c1 : Value} (h : ArrAt w b c0 c1) (hb : Below w.heap.size w w') : ArrAt w' b c0 c1 := (hb.block b h.lt).trans h
theorem ArrAt.alloc {w : World} {b : Nat} {c0 c1 : Value} (h : ArrAt w b c0 c1) (o : Obj) : ArrAt (w.alloc o) b c0 c1 := (Below.heap_alloc _ _ _ h.lt).trans h
theorem ArrAt.cells {w : World} {b : Nat} {c0 c1 : Value} (h : ArrAt w b c0 c1) : (w.cell? ⟨b, 0, none⟩ = some c0 ∧ w.cell? ⟨b, 1, none⟩ = some c1) ∧ (w.frozen? ⟨b, 0, none⟩ = false ∧ w.frozen? ⟨b, 1, none⟩ = false) := by
  unfold ArrAt at h
  refine ⟨⟨?_, ?_⟩, ?_, ?_⟩ <;> simp [World.cell?, World.frozen?, h]
theorem ArrAt.new (w : World) (c0 c1 : Value) : ArrAt (w.alloc (.cells #[c0, c1] 101)) w.heap.size c0 c1 := World.alloc_heap_new w _

/-- What is wrong with an array of these dimensions and so many numbers. -/
def arrE (ds : List Int) (n : Nat) : Int := if sizeE ds ≠ 0 then sizeE ds else if (n : Int) ≠ sizeN ds then 6 else 0

set_option maxHeartbeats 1000000 in
theorem awrong_any (da : Option Addr) (dl dc : Nat) (ds : List Int) (xa : Option Addr) (xl xc : Nat) (w : World) (hd : Ints w da dl ds) :
    Calls Tryz.prog 59 #[.agg #[.slice da dl dc, .slice xa xl xc]] w fun e w' => e = .returned (.int .i64 (arrE ds xl)) ∧ Below w.heap.size w w' := by
  have HD := hide hd
  clear hd
  have hb1 : Below w.heap.size w (w.alloc (.cells #[.slice da dl dc, .slice xa xl xc] 101)) := (Below.refl _ _).alloc (Nat.le_refl _) _
  have HB1 := hide hb1
  clear hb1
  by_cases c1 : sizeE ds = 0
  · have HE := hide c1
    by_cases c2 : (xl : Int) = sizeN ds
    · have e : arrE ds xl = 0 := by unfold arrE; rw [if_neg (by simp [c1]), if_neg (by simp [c2])]
      rw [e]
      have q : ((xl : Int) != sizeN ds) = false := by simp [c2]
      clear c1 c2 e
      go_enter Tryz.func59, Tryz.ntmps59
      go_wp2_with (go_at_call 65; refine (size_any _ _ _ ds _ (HD.out.below HB1.out)).mono ?_; rintro e w' ⟨rfl, hw'⟩; obtain rfl := hw'.symm; rw [HE.out])
      go_ret
      exact ⟨rfl, HB1.out⟩
    · have e : arrE ds xl = 6 := by unfold arrE; rw [if_neg (by simp [c1]), if_pos c2]
      rw [e]
      have q : ((xl : Int) != sizeN ds) = true := by simp [c2]
      clear c1 c2 e
      go_enter Tryz.func59, Tryz.ntmps59
      go_wp2_with (go_at_call 65; refine (size_any _ _ _ ds _ (HD.out.below HB1.out)).mono ?_; rintro e w' ⟨rfl, hw'⟩; obtain rfl := hw'.symm; rw [HE.out])
      go_ret
      exact ⟨rfl, HB1.out⟩
  · have e : arrE ds xl = sizeE ds := by unfold arrE; rw [if_pos c1]
    rw [e]
    have q : (sizeE ds != 0) = true := by simp [c1]
    clear c1 e
    go_enter Tryz.func59, Tryz.ntmps59
    go_wp2_with (go_at_call 65; refine (size_any _ _ _ ds _ (HD.out.below HB1.out)).mono ?_; rintro e w' ⟨rfl, hw'⟩; obtain rfl := hw'.symm)
    go_ret
    exact ⟨rfl, HB1.out⟩

/-- The sum of the products of the first k pairs, as it wraps round. -/
def innS (xs ys : List Int) : Nat → Int
  | 0 => 0
  | k + 1 => wrap64 (innS xs ys k + wrap64 (xs[k]?.getD 0 * ys[k]?.getD 0))

set_option maxHeartbeats 1000000 in
theorem inner_any (a : Option Addr) (len cap : Nat) (xs : List Int) (a' : Option Addr) (len' cap' : Nat) (ys : List Int) (w : World) (h : Ints w a len xs) (h' : Ints w a' len' ys) (hle : len ≤ len') :
    Calls Tryz.prog 64 #[.slice a len cap, .slice a' len' cap'] w fun e w' => e = .returned (.int .i64 (innS xs ys len)) ∧ w' = w := by
  have hm := h.2.1
  have hm' := h'.2.1
  have H := hide h
  have H' := hide h'
  clear h h'
  go_enter Tryz.func64, Tryz.ntmps64
  go_wp2
  go_loop [5, 10] (fun n i => ∃ k : Nat, k ≤ len ∧ i = .int .i64 k ∧ n = .int .i64 (innS xs ys k)) (fun _ i => len - (intOf i).toNat)
  case atStart => exact ⟨0, Nat.zero_le _, rfl, rfl⟩
  case round =>
    obtain ⟨k, hk, rfl, rfl⟩ := hrel
    by_cases hlt : k < len
    · obtain ⟨b, off, rfl, hb, hc⟩ := H.out.at (by omega)
      obtain ⟨b', off', rfl, hb', hc'⟩ := H'.out.at (by omega)
      have hck := hc k hlt
      have hck' := hc' k (by omega)
      clear hc hc'
      go_wp2
      go_round
      case rel => exact ⟨k + 1, by omega, by go_num, rfl⟩
      case measure => simp [intOf]; omega
    · go_wp2
      go_ret
      obtain rfl : k = len := by omega
      exact ⟨rfl, rfl⟩
end Go.Proofs.YtoabffmiedbkkaaGreat.V
namespace Go.Proofs.YtoabffmiedbkkaaGreat.V
set_option maxRecDepth 20000
open Go.RowKit

/-- All but block g is as it was. -/
def But (g : Nat) (W W' : World) : Prop := (∀ x, x ≠ g → W'.heap[x]? = W.heap[x]?) ∧ W'.heap.size = W.heap.size
theorem But.refl (g : Nat) (W : World) : But g W W := ⟨fun _ _ => rfl, rfl⟩
theorem But.set {g : Nat} {W W' : World} (h : But g W W') (i : Nat) (v : Value) : But g W (W'.setCell ⟨g, i, none⟩ v) := ⟨fun x hx => (Below.heap_setCell _ ⟨g, i, none⟩ _ x hx).trans (h.1 x hx), by rw [World.size_setCell]; exact h.2⟩
theorem But.drew {g : Nat} {W W' : World} (h : But g W W') : But g W W'.drew := h
theorem But.ints {g n : Nat} {W W' : World} {a : Option Addr} {xs : List Int} (h : But g W W') (hi : Ints W a n xs) (hne : ∀ b o, a = some ⟨b, o, none⟩ → b ≠ g) : Ints W' a n xs := by
  obtain ⟨h1, h2, h3, h4⟩ := hi
  refine ⟨h1, h2, h3, ?_⟩
  rcases h4 with h4 | ⟨b, off, e, hc⟩
  · exact .inl h4
  · exact .inr ⟨b, off, e, fun j hj => (World.cell?_of_block (w := W) (h.1 b (hne b off e))).trans (hc j hj)⟩
end Go.Proofs.YtoabffmiedbkkaaGreat.V
namespace Go.Proofs.YtoabffmiedbkkaaGreat.V
set_option maxRecDepth 20000
open Go.RowKit

/-- What Add, Sub, Mul make of two numbers. -/
def twoV (k a b : Int) : Int := wrap64 (if k = 3 then a + b else if k = 4 then a - b else a * b)
/-- The function that ofTwo answers. -/
def twoF (k : Int) : Nat := if k = 3 then 119 else if k = 4 then 120 else 121

theorem two_any (k a b : Int) (hk : k = 3 ∨ k = 4 ∨ k = 5) (w : World) : Calls Tryz.prog (twoF k) #[.int .i64 a, .int .i64 b] w fun e w' => e = .returned (.int .i64 (twoV k a b)) ∧ w' = w := by
  rcases hk with rfl | rfl | rfl
  · show Calls Tryz.prog 119 _ _ _
    go_enter Tryz.func119, Tryz.ntmps119
    go_wp2
    go_ret
    exact ⟨rfl, rfl⟩
  · show Calls Tryz.prog 120 _ _ _
    go_enter Tryz.func120, Tryz.ntmps120
    go_wp2
    go_ret
    exact ⟨rfl, rfl⟩
  · show Calls Tryz.prog 121 _ _ _
    go_enter Tryz.func121, Tryz.ntmps121
    go_wp2
    go_ret
    exact ⟨rfl, rfl⟩
theorem ofTwo_any (k : Int) (hk : k = 3 ∨ k = 4 ∨ k = 5) (w : World) : Calls Tryz.prog 100 #[.int .i64 k] w fun e w' => e = .returned (.func (Fn.func (twoF k)) #[] #[]) ∧ w' = w := by
  rcases hk with rfl | rfl | rfl
  all_goals
    go_enter Tryz.func100, Tryz.ntmps100
    go_wp2
    go_ret
    exact ⟨rfl, rfl⟩

theorem But.heap {g : Nat} {W W' W'' : World} (h : But g W W') (e : W''.heap = W'.heap) : But g W W'' := ⟨fun x hx => by rw [e]; exact h.1 x hx, by rw [e]; exact h.2⟩
theorem rowIs_heap {W W' : World} {g : Nat} {t : TypeId} {n : Nat} {f : Nat → Value} (h : W.rowIs g t n f) (e : W'.heap = W.heap) : W'.rowIs g t n f := h.of_block (by rw [e])

/-- A call of a function with a body enters it. -/
theorem enters {f : FuncId} {fn : Func} (hf : Tryz.prog.funcs[f]? = some fn) (hn : (fn.name == "runtime.NumGoroutine") = false) (hb : fn.body.isNone = false) (args : Array Value) (w : World) : (callFunc f args).run Tryz.prog w = .ok (.enter f args) w := by
  simp [callFunc, go_sem, hf]
  rw [if_neg (by intro e; rw [e] at hn; simp at hn), if_neg (by intro e; rw [e] at hb; simp at hb)]

set_option maxHeartbeats 1000000 in
theorem fill_any (f : FuncId) (caps : Array Value) (g n : Nat) (vs zs : List Int) (hvs : vs.length = n) (w : World) (hn : n ≤ 9223372036854775807) (hcf : ∀ (args : Array Value) (w : World), (callFunc f args).run Tryz.prog w = .ok (.enter f args) w) (hrow : w.rowIs g 2 n (onWay vs zs 0))
    (hcall : ∀ (i : Nat) (W : World), i < n → But g w W → Calls Tryz.prog f (#[.int .i64 i] ++ caps) W fun e W' => e = .returned (.int .i64 (vs[i]?.getD 0)) ∧ W'.heap = W.heap ∧ Below 0 W W') :
    Calls Tryz.prog 73 #[.slice (some ⟨g, 0, none⟩) n n, .func (Fn.func f) #[] caps] w fun e w' => e = .returned (.tuple #[]) ∧ w'.rowIs g 2 n (onWay vs zs n) ∧ But g w w' ∧ Below 0 w w' := by
  have HC := hide hcall
  have HR0 := hide hrow
  clear hcall hrow
  go_enter Tryz.func73, Tryz.ntmps73
  go_wp2
  go_loopw [7] (fun i wr => ∃ k : Nat, k ≤ n ∧ i = .int .i64 k ∧ wr.rowIs g 2 n (onWay vs zs k) ∧ But g w wr ∧ Below 0 w wr) (fun i _ => n - (intOf i).toNat)
  case atStart => exact ⟨0, Nat.zero_le _, rfl, HR0.out, But.refl _ _, Below.refl _ _⟩
  case round =>
    obtain ⟨k, hk, rfl, hrow, hB, h0⟩ := hrel
    have HR := hide hrow
    have HB := hide hB
    have H0 := hide h0
    clear hrow hB h0
    by_cases hlt : k < n
    · have HCK := hide (HC.out k wr hlt HB.out)
      obtain ⟨X, hX⟩ : ∃ X, X = vs[k]?.getD 0 := ⟨_, rfl⟩
      rw [← hX] at HCK
      have HX := hide hX
      clear hX
      go_wp2_with (refine HCK.out.mono ?_; rintro e w1 ⟨rfl, hw1, h01⟩; have H01 := hide (H0.out.trans h01); have HB1 := hide (HB.out.heap hw1); have HR1 := hide (rowIs_heap HR.out hw1); have hr := HR1.out.cell hlt; have hf := HR1.out.frozen k; clear hw1 h01)
      go_roundw
      case rel =>
        refine ⟨k + 1, by omega, by go_num, (HR1.out.set k (.int .i64 X)).congr (fun j _ => ?_), HB1.out.set k _, H01.out.setCell (p := ⟨g, k, none⟩) (Nat.zero_le _) _⟩
        rw [HX.out]; exact onWay_succ _ _ k j
      case measure => simp [intOf]; omega
    · obtain rfl : k = n := by omega
      go_wp2
      exact bodyPost_end (v := .tuple #[]) (by simp [results, Tryz.results73, go_sem]) rfl ⟨rfl, HR.out, HB.out, H0.out⟩
end Go.Proofs.YtoabffmiedbkkaaGreat.V
namespace Go.Proofs.YtoabffmiedbkkaaGreat.V
set_option maxRecDepth 20000
open Go.RowKit

end Go.Proofs.YtoabffmiedbkkaaGreat.V
