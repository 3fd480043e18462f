/-
  Contracts: adjointref2.SameList, slices.Equal, array.Wrong, adjointref2.Wrong, array.inner. Contracts: array.ofTwo and its closures, array.fill.
-/
import Derived.Test.YtcidhbkdaleomaaK3
import Derived.Test.YtcidhbkdaleomaaK6
import Derived.BigRegion
namespace Go.Proofs.Ytcidhbkdaleomaa.V
set_option maxRecDepth 20000
open Go.RowKit

/-- A block that holds an Array. -/
def ArrAt (w : World) (b : Nat) (c0 c1 : Value) : Prop := w.heap[b]? = some (.cells #[c0, c1] 28 (0, 0))
theorem ArrAt.lt {w : World} {b : Nat} {c0 c1 : Value} (h : ArrAt w b c0 c1) : b < w.heap.size := (Array.getElem?_eq_some_iff.1 h).1
theorem ArrAt.below {w w' : World} {b : Nat} {c0 c1 : Value} (h : ArrAt w b c0 c1) (hb : Below w.heap.size w w') : ArrAt w' b c0 c1 := (hb.block b h.lt).trans h
theorem ArrAt.alloc {w : World} {b : Nat} {c0 c1 : Value} (h : ArrAt w b c0 c1) (o : Obj) : ArrAt (w.alloc o) b c0 c1 := (Below.heap_alloc _ _ _ h.lt).trans h
theorem ArrAt.cells {w : World} {b : Nat} {c0 c1 : Value} (h : ArrAt w b c0 c1) : (w.cell? ⟨b, 0, none⟩ = some c0 ∧ w.cell? ⟨b, 1, none⟩ = some c1) ∧ (w.frozen? ⟨b, 0, none⟩ = false ∧ w.frozen? ⟨b, 1, none⟩ = false) := by
  unfold ArrAt at h
  refine ⟨⟨?_, ?_⟩, ?_, ?_⟩ <;> simp [World.cell?, World.frozen?, h]
theorem ArrAt.new (w : World) (c0 c1 : Value) : ArrAt (w.alloc (.cells #[c0, c1] 28)) w.heap.size c0 c1 := World.alloc_heap_new w _

/-- What is wrong with an array of these dimensions and so many numbers. -/
def arrE (ds : List Int) (n : Nat) : Int := if sizeE ds ≠ 0 then sizeE ds else if (n : Int) ≠ sizeN ds then 6 else 0

set_option maxHeartbeats 1000000 in
theorem awrong_any (da : Option Addr) (dl dc : Nat) (ds : List Int) (xa : Option Addr) (xl xc : Nat) (w : World) (hd : Ints w da dl ds) :
    Calls Try.prog 10 #[.agg #[.slice da dl dc, .slice xa xl xc]] w fun e w' => e = .returned (.int .i64 (arrE ds xl)) ∧ Below w.heap.size w w' := by
  have HD := hide hd
  clear hd
  have hb1 : Below w.heap.size w (w.alloc (.cells #[.slice da dl dc, .slice xa xl xc] 28)) := (Below.refl _ _).alloc (Nat.le_refl _) _
  have HB1 := hide hb1
  clear hb1
  by_cases c1 : sizeE ds = 0
  · have HE := hide c1
    by_cases c2 : (xl : Int) = sizeN ds
    · have e : arrE ds xl = 0 := by unfold arrE; rw [if_neg (by simp [c1]), if_neg (by simp [c2])]
      rw [e]
      have q : ((xl : Int) != sizeN ds) = false := by simp [c2]
      clear c1 c2 e
      go_enter Try.func10, Try.ntmps10
      go_wp2_with (go_at_call 27; refine (size_any _ _ _ ds _ (HD.out.below HB1.out)).mono ?_; rintro e w' ⟨rfl, hw'⟩; obtain rfl := hw'.symm; rw [HE.out])
      go_ret
      exact ⟨rfl, HB1.out⟩
    · have e : arrE ds xl = 6 := by unfold arrE; rw [if_neg (by simp [c1]), if_pos c2]
      rw [e]
      have q : ((xl : Int) != sizeN ds) = true := by simp [c2]
      clear c1 c2 e
      go_enter Try.func10, Try.ntmps10
      go_wp2_with (go_at_call 27; refine (size_any _ _ _ ds _ (HD.out.below HB1.out)).mono ?_; rintro e w' ⟨rfl, hw'⟩; obtain rfl := hw'.symm; rw [HE.out])
      go_ret
      exact ⟨rfl, HB1.out⟩
  · have e : arrE ds xl = sizeE ds := by unfold arrE; rw [if_pos c1]
    rw [e]
    have q : (sizeE ds != 0) = true := by simp [c1]
    clear c1 e
    go_enter Try.func10, Try.ntmps10
    go_wp2_with (go_at_call 27; refine (size_any _ _ _ ds _ (HD.out.below HB1.out)).mono ?_; rintro e w' ⟨rfl, hw'⟩; obtain rfl := hw'.symm)
    go_ret
    exact ⟨rfl, HB1.out⟩

set_option maxHeartbeats 1000000 in
theorem rawrong_any (da : Option Addr) (dl dc : Nat) (ds : List Int) (xa : Option Addr) (xl xc : Nat) (w : World) (hd : Ints w da dl ds) :
    Calls Try.prog 11 #[.agg #[.slice da dl dc, .slice xa xl xc]] w fun e w' => e = .returned (.int .i64 (arrE ds xl)) ∧ Below w.heap.size w w' := by
  have HD := hide hd
  clear hd
  have hb1 : Below w.heap.size w (w.alloc (.cells #[.slice da dl dc, .slice xa xl xc] 28)) := (Below.refl _ _).alloc (Nat.le_refl _) _
  have HB1 := hide hb1
  clear hb1
  by_cases c1 : sizeE ds = 0
  · have HE := hide c1
    by_cases c2 : (xl : Int) = sizeN ds
    · have e : arrE ds xl = 0 := by unfold arrE; rw [if_neg (by simp [c1]), if_neg (by simp [c2])]
      rw [e]
      have q : ((xl : Int) != sizeN ds) = false := by simp [c2]
      clear c1 c2 e
      go_enter Try.func11, Try.ntmps11
      go_wp2_with (go_at_call 30; refine (rsize_any _ _ _ ds _ (HD.out.below HB1.out)).mono ?_; rintro e w' ⟨rfl, hw'⟩; obtain rfl := hw'.symm; rw [HE.out])
      go_ret
      exact ⟨rfl, HB1.out⟩
    · have e : arrE ds xl = 6 := by unfold arrE; rw [if_neg (by simp [c1]), if_pos c2]
      rw [e]
      have q : ((xl : Int) != sizeN ds) = true := by simp [c2]
      clear c1 c2 e
      go_enter Try.func11, Try.ntmps11
      go_wp2_with (go_at_call 30; refine (rsize_any _ _ _ ds _ (HD.out.below HB1.out)).mono ?_; rintro e w' ⟨rfl, hw'⟩; obtain rfl := hw'.symm; rw [HE.out])
      go_ret
      exact ⟨rfl, HB1.out⟩
  · have e : arrE ds xl = sizeE ds := by unfold arrE; rw [if_pos c1]
    rw [e]
    have q : (sizeE ds != 0) = true := by simp [c1]
    clear c1 e
    go_enter Try.func11, Try.ntmps11
    go_wp2_with (go_at_call 30; refine (rsize_any _ _ _ ds _ (HD.out.below HB1.out)).mono ?_; rintro e w' ⟨rfl, hw'⟩; obtain rfl := hw'.symm)
    go_ret
    exact ⟨rfl, HB1.out⟩

/-- The sum of the products of the first k pairs, as it wraps round. -/
def innS (xs ys : List Int) : Nat → Int
  | 0 => 0
  | k + 1 => wrap64 (innS xs ys k + wrap64 (xs[k]?.getD 0 * ys[k]?.getD 0))

set_option maxHeartbeats 1000000 in
theorem inner_any (a : Option Addr) (len cap : Nat) (xs : List Int) (a' : Option Addr) (len' cap' : Nat) (ys : List Int) (w : World) (h : Ints w a len xs) (h' : Ints w a' len' ys) (hle : len ≤ len') :
    Calls Try.prog 90 #[.slice a len cap, .slice a' len' cap'] w fun e w' => e = .returned (.int .i64 (innS xs ys len)) ∧ w' = w := by
  have hm := h.2.1
  have hm' := h'.2.1
  have H := hide h
  have H' := hide h'
  clear h h'
  go_enter Try.func90, Try.ntmps90
  go_wp2
  go_loop [5, 10] (fun n i => ∃ k : Nat, k ≤ len ∧ i = .int .i64 k ∧ n = .int .i64 (innS xs ys k)) (fun _ i => len - (intOf i).toNat)
  case atStart => exact ⟨0, Nat.zero_le _, rfl, rfl⟩
  case round =>
    obtain ⟨k, hk, rfl, rfl⟩ := hrel
    by_cases hlt : k < len
    · obtain ⟨b, off, rfl, hb, hc⟩ := H.out.at (by omega)
      obtain ⟨b', off', rfl, hb', hc'⟩ := H'.out.at (by omega)
      have hck := hc k hlt
      have hck' := hc' k (by omega)
      clear hc hc'
      go_wp2
      go_round
      case rel => exact ⟨k + 1, by omega, by go_num, rfl⟩
      case measure => simp [intOf]; omega
    · go_wp2
      go_ret
      obtain rfl : k = len := by omega
      exact ⟨rfl, rfl⟩
end Go.Proofs.Ytcidhbkdaleomaa.V
namespace Go.Proofs.Ytcidhbkdaleomaa.V
set_option maxRecDepth 20000
open Go.RowKit

/-- What Add, Sub, Mul make of two numbers. -/
def twoV (k a b : Int) : Int := wrap64 (if k = 3 then a + b else if k = 4 then a - b else a * b)
/-- The function that ofTwo answers. -/
def twoF (k : Int) : Nat := if k = 3 then 110 else if k = 4 then 111 else 112

theorem two_any (k a b : Int) (hk : k = 3 ∨ k = 4 ∨ k = 5) (w : World) : Calls Try.prog (twoF k) #[.int .i64 a, .int .i64 b] w fun e w' => e = .returned (.int .i64 (twoV k a b)) ∧ w' = w := by
  rcases hk with rfl | rfl | rfl
  · show Calls Try.prog 110 _ _ _
    go_enter Try.func110, Try.ntmps110
    go_wp2
    go_ret
    exact ⟨rfl, rfl⟩
  · show Calls Try.prog 111 _ _ _
    go_enter Try.func111, Try.ntmps111
    go_wp2
    go_ret
    exact ⟨rfl, rfl⟩
  · show Calls Try.prog 112 _ _ _
    go_enter Try.func112, Try.ntmps112
    go_wp2
    go_ret
    exact ⟨rfl, rfl⟩
theorem ofTwo_any (k : Int) (hk : k = 3 ∨ k = 4 ∨ k = 5) (w : World) : Calls Try.prog 94 #[.int .i64 k] w fun e w' => e = .returned (.func (Fn.func (twoF k)) #[] #[]) ∧ w' = w := by
  rcases hk with rfl | rfl | rfl
  all_goals
    go_enter Try.func94, Try.ntmps94
    go_wp2
    go_ret
    exact ⟨rfl, rfl⟩

theorem But.heap {g : Nat} {W W' W'' : World} (h : But g W W') (e : W''.heap = W'.heap) : But g W W'' := ⟨fun x hx => by rw [e]; exact h.1 x hx, by rw [e]; exact h.2⟩
theorem rowIs_heap {W W' : World} {g : Nat} {t : TypeId} {n : Nat} {f : Nat → Value} (h : W.rowIs g t n f) (e : W'.heap = W.heap) : W'.rowIs g t n f := h.of_block (by rw [e])

/-- A call of a function with a body enters it. -/
theorem enters {f : FuncId} {fn : Func} (hf : Try.prog.funcs[f]? = some fn) (hn : (fn.name == "runtime.NumGoroutine") = false) (hb : fn.body.isNone = false) (args : Array Value) (w : World) : (callFunc f args).run Try.prog w = .ok (.enter f args) w := by
  simp [callFunc, go_sem, hf]
  rw [if_neg (by intro e; rw [e] at hn; simp at hn), if_neg (by intro e; rw [e] at hb; simp at hb)]

set_option maxHeartbeats 1000000 in
theorem fill_any (f : FuncId) (caps : Array Value) (g n : Nat) (vs zs : List Int) (hvs : vs.length = n) (w : World) (hn : n ≤ 9223372036854775807) (hcf : ∀ (args : Array Value) (w : World), (callFunc f args).run Try.prog w = .ok (.enter f args) w) (hrow : w.rowIs g 2 n (onWay vs zs 0))
    (hcall : ∀ (i : Nat) (W : World), i < n → But g w W → Calls Try.prog f (#[.int .i64 i] ++ caps) W fun e W' => e = .returned (.int .i64 (vs[i]?.getD 0)) ∧ W'.heap = W.heap ∧ Below 0 W W') :
    Calls Try.prog 66 #[.slice (some ⟨g, 0, none⟩) n n, .func (Fn.func f) #[] caps] w fun e w' => e = .returned (.tuple #[]) ∧ w'.rowIs g 2 n (onWay vs zs n) ∧ But g w w' ∧ Below 0 w w' := by
  have HC := hide hcall
  have HR0 := hide hrow
  clear hcall hrow
  go_enter Try.func66, Try.ntmps66
  go_wp2
  go_loopw [7] (fun i wr => ∃ k : Nat, k ≤ n ∧ i = .int .i64 k ∧ wr.rowIs g 2 n (onWay vs zs k) ∧ But g w wr ∧ Below 0 w wr) (fun i _ => n - (intOf i).toNat)
  case atStart => exact ⟨0, Nat.zero_le _, rfl, HR0.out, But.refl _ _, Below.refl _ _⟩
  case round =>
    obtain ⟨k, hk, rfl, hrow, hB, h0⟩ := hrel
    have HR := hide hrow
    have HB := hide hB
    have H0 := hide h0
    clear hrow hB h0
    by_cases hlt : k < n
    · have HCK := hide (HC.out k wr hlt HB.out)
      obtain ⟨X, hX⟩ : ∃ X, X = vs[k]?.getD 0 := ⟨_, rfl⟩
      rw [← hX] at HCK
      have HX := hide hX
      clear hX
      go_wp2_with (refine HCK.out.mono ?_; rintro e w1 ⟨rfl, hw1, h01⟩; have H01 := hide (H0.out.trans h01); have HB1 := hide (HB.out.heap hw1); have HR1 := hide (rowIs_heap HR.out hw1); have hr := HR1.out.cell hlt; have hf := HR1.out.frozen k; clear hw1 h01)
      go_roundw
      case rel =>
        refine ⟨k + 1, by omega, by go_num, (HR1.out.set k (.int .i64 X)).congr (fun j _ => ?_), HB1.out.set k _, H01.out.setCell (p := ⟨g, k, none⟩) (Nat.zero_le _) _⟩
        rw [HX.out]; exact onWay_succ _ _ k j
      case measure => simp [intOf]; omega
    · obtain rfl : k = n := by omega
      go_wp2
      exact bodyPost_end (v := .tuple #[]) (by simp [results, Try.results66, go_sem]) rfl ⟨rfl, HR.out, HB.out, H0.out⟩
end Go.Proofs.Ytcidhbkdaleomaa.V
