/-
  Contract: order.instead.
-/
import Derived.Test.YtoidgdbgpbcebaaK17
import Derived.Test.YtoidgdbgpbcebaaK42
namespace Go.Proofs.Ytoidgdbgpbcebaa.V
open Go.RowKit
set_option linter.unusedVariables false

/-- A list. -/
def fLst (xs : List Int) : Fact := ⟨fun v w => ∃ X n c, v = .slice X n c ∧ Lst w X n c xs, false⟩
theorem fLst_good (xs : List Int) : (fLst xs).Good := ⟨fun _ _ _ ⟨X, n, c, h1, h2⟩ hb => ⟨X, n, c, h1, h2.below hb⟩, fun h => by cases h⟩
def fLs (xss : List (List Int)) : Fact := ⟨fun v w => ∃ g : Nat, v = .slice (some ⟨g, 0, none⟩) xss.length xss.length ∧ Ls w g 0 xss, false⟩
theorem fLs_good (xss : List (List Int)) : (fLs xss).Good := ⟨fun _ _ _ ⟨g, h1, h2⟩ hb => ⟨g, h1, h2.below hb⟩, fun h => by cases h⟩
theorem lst_two (w : World) (x y : Int) (hx : B64 x) (hy : B64 y) (t : TypeId) : Lst (w.alloc (.cells #[.int .i64 x, .int .i64 y] t)) (some ⟨w.heap.size, 0, none⟩) 2 2 [x, y] := by
  refine ⟨⟨rfl, by omega, fun z hz => ?_, .inr ⟨_, _, rfl, fun j hj => ?_⟩⟩, Nat.le_refl _, fun e => by cases e⟩
  · simp at hz
    rcases hz with rfl | rfl
    · exact hx
    · exact hy
  · unfold World.cell?
    rw [World.alloc_heap_new w (.cells #[.int .i64 x, .int .i64 y] t)]
    have : j = 0 ∨ j = 1 := by omega
    rcases this with rfl | rfl <;> simp
theorem ls_three (w : World) (X1 : Option Addr) (n1 c1 : Nat) (X2 : Option Addr) (n2 c2 : Nat) (X3 : Option Addr) (n3 c3 : Nat) (a b c : List Int) (h1 : Lst w X1 n1 c1 a) (h2 : Lst w X2 n2 c2 b) (h3 : Lst w X3 n3 c3 c) (t : TypeId) : Ls (w.alloc (.cells #[.slice X1 n1 c1, .slice X2 n2 c2, .slice X3 n3 c3] t)) w.heap.size 0 [a, b, c] := by
  have hb : Below w.heap.size w (w.alloc (.cells #[.slice X1 n1 c1, .slice X2 n2 c2, .slice X3 n3 c3] t)) := bl_new _
  intro j hj
  unfold World.cell?
  rw [World.alloc_heap_new w (.cells #[.slice X1 n1 c1, .slice X2 n2 c2, .slice X3 n3 c3] t)]
  have : j = 0 ∨ j = 1 ∨ j = 2 := by simp at hj; omega
  rcases this with rfl | rfl | rfl
  · exact ⟨X1, n1, c1, by simp, h1.below hb⟩
  · exact ⟨X2, n2, c2, by simp, h2.below hb⟩
  · exact ⟨X3, n3, c3, by simp, h3.below hb⟩
theorem lst_take {w : World} {b off l c : Nat} {xs : List Int} (h : Lst w (some ⟨b, off, none⟩) l c xs) {k : Nat} (hk : k ≤ l) : Lst w (some ⟨b, off, none⟩) k c (xs.take k) := by
  obtain ⟨⟨h1, h2, h3, h4⟩, h5, h6⟩ := h
  refine ⟨⟨by simp; omega, by omega, fun x hx => h3 x (List.mem_of_mem_take hx), ?_⟩, by omega, fun e => by cases e⟩
  rcases h4 with h4 | ⟨b', off', e, hc⟩
  · exact .inl (by omega)
  · cases e
    exact .inr ⟨b, off, rfl, fun j hj => by rw [hc j (by omega), List.getElem?_take_of_lt hj]⟩
theorem lst_drop {w : World} {b off l c : Nat} {xs : List Int} (h : Lst w (some ⟨b, off, none⟩) l c xs) {k : Nat} (hk : k ≤ l) : Lst w (if c = k then some ⟨b, off, none⟩ else some ⟨b, off + k, none⟩) (l - k) (c - k) (xs.drop k) := by
  obtain ⟨⟨h1, h2, h3, h4⟩, h5, h6⟩ := h
  refine ⟨⟨by simp; omega, by omega, fun x hx => h3 x (List.mem_of_mem_drop hx), ?_⟩, by omega, fun e => by split at e <;> cases e⟩
  by_cases e0 : l - k = 0
  · exact .inl e0
  · rw [if_neg (by omega)]
    rcases h4 with h4 | ⟨b', off', e, hc⟩
    · exact .inl (by omega)
    · cases e
      exact .inr ⟨b, off + k, rfl, fun j hj => by
        rw [Nat.add_assoc, hc (k + j) (by omega), List.getElem?_drop]⟩
set_option maxRecDepth 100000 in
set_option maxHeartbeats 4000000 in
theorem instead_any (a : Option Addr) (l c : Nat) (xs : List Int) (k : Nat) (x y : Int) (w : World) (h : Lst w a l c xs) (hk : k < l) (h4 : l ≤ 1000) (hx : B64 x) (hy : B64 y) :
    Calls Try.prog 75 #[.slice a l c, .int .i64 (k : Int), .int .i64 x, .int .i64 y] w fun e w' => (∃ a l c, e = .returned (.slice a l c) ∧ Lies w.heap.size (fun V => Lst V a l c (xs.take k ++ x :: y :: xs.drop (k + 1))) w') ∧ Below w.heap.size w w' := by
  obtain ⟨b, off, rfl, _, _⟩ := h.1.at (by omega)
  have HT := hide (lst_take h (k := k) (by omega))
  have HD := hide (lst_drop h (k := k + 1) (by omega))
  have hlc : l ≤ c := h.2.1
  have hxl : xs.length = l := h.1.1
  obtain ⟨SX, hSX⟩ : ∃ SX : Option Addr, SX = (if c = k + 1 then some ⟨b, off, none⟩ else some ⟨b, off + (k + 1), none⟩) := ⟨_, rfl⟩
  rw [← hSX] at HD
  have HSX := hide hSX
  clear h hSX
  go_enter Try.func75, Try.ntmps75
  go_wp2_with fail
  refine region_made 12 18 [fIs (.slice (some ⟨b, off, none⟩) l c), fIs (.int .i64 (k : Int)), fIs (.slice (some ⟨b, off, none⟩) k c), fIs (.int .i64 x), fIs (.int .i64 y), fLst [x, y], fIs (.slice (some ⟨b, off, none⟩) l c), fIs (.int .i64 (k : Int)), fIs (.int .i64 ((k : Int) + 1)), fIs (.slice SX (l - (k + 1)) (c - (k + 1))), fLs [xs.take k, [x, y], xs.drop (k + 1)], fBox w.heap.size (xs.take k ++ x :: y :: xs.drop (k + 1))] (by kernel_rfl) (by kernel_rfl) (by kernel_rfl) (fun _ ⟨_, _⟩ ⟨_, _⟩ _ e h => by cases e; exact h) ⟨fIs_good _, fIs_good _, fIs_good _, fIs_good _, fIs_good _, fLst_good _, fIs_good _, fIs_good _, fIs_good _, fIs_good _, fLs_good _, fBox_good _ _, trivial⟩ ?mk ?rest
  case mk =>
    refine ⟨fun u wz hb hd => ?_, fun u wz hb hd => ?_, fun u wz hb hd => ?_, fun u wz hb hd => ?_, fun u wz hb hd => ?_, fun u wz hb hd => ?_, fun u wz hb hd => ?_, fun u wz hb hd => ?_, fun u wz hb hd => ?_, fun u wz hb hd => ?_, fun u wz hb hd => ?_, fun u wz hb hd => ?_, trivial⟩
    all_goals simp only [Act.put, List.setIfInBounds_toArray, List.set_cons_zero, List.set_cons_succ]
    · go_simp
      exact ⟨rfl, Below.refl _ _, fun h => by cases h⟩
    · go_simp
      exact ⟨rfl, Below.refl _ _, fun h => by cases h⟩
    · have e0 : u 0 = .slice (some ⟨b, off, none⟩) l c := hd 0 (by omega) (by kernel_rfl)
      have e1 : u 1 = .int .i64 (k : Int) := hd 1 (by omega) (by kernel_rfl)
      rw [e0, e1]
      have hkc : k ≤ c := by omega
      go_simp
      exact ⟨rfl, Below.refl _ _, fun h => by cases h⟩
    · go_simp
      exact ⟨rfl, Below.refl _ _, fun h => by cases h⟩
    · go_simp
      exact ⟨rfl, Below.refl _ _, fun h => by cases h⟩
    · have e3 : u 3 = .int .i64 x := hd 3 (by omega) (by kernel_rfl)
      have e4 : u 4 = .int .i64 y := hd 4 (by omega) (by kernel_rfl)
      rw [e3, e4]
      go_simp
      exact ⟨⟨_, _, _, rfl, lst_two wz x y hx hy _⟩, bl_new _, fun h => by cases h⟩
    · go_simp
      exact ⟨rfl, Below.refl _ _, fun h => by cases h⟩
    · go_simp
      exact ⟨rfl, Below.refl _ _, fun h => by cases h⟩
    · have e7 : u 7 = .int .i64 (k : Int) := hd 7 (by omega) (by kernel_rfl)
      rw [e7]
      go_simp
      rw [show IntKind.i64.wrap ((k : Int) + 1) = (k : Int) + 1 by rw [IntKind.wrap_i64]; omega]
      exact ⟨rfl, Below.refl _ _, fun h => by cases h⟩
    · have e6 : u 6 = .slice (some ⟨b, off, none⟩) l c := hd 6 (by omega) (by kernel_rfl)
      have e8 : u 8 = .int .i64 ((k : Int) + 1) := hd 8 (by omega) (by kernel_rfl)
      rw [e6, e8]
      have hkl : 0 ≤ (k : Int) + 1 ∧ (k : Int) + 1 ≤ (l : Int) := by omega
      go_simp
      rw [← HSX.out]
      exact ⟨rfl, Below.refl _ _, fun h => by cases h⟩
    · have e2 : u 2 = .slice (some ⟨b, off, none⟩) k c := hd 2 (by omega) (by kernel_rfl)
      obtain ⟨X5, n5, c5, e5, h5⟩ := hd 5 (by omega) (by kernel_rfl)
      have e9 : u 9 = .slice SX (l - (k + 1)) (c - (k + 1)) := hd 9 (by omega) (by kernel_rfl)
      rw [e2, e5, e9]
      go_simp
      exact ⟨⟨_, rfl, ls_three wz _ _ _ _ _ _ _ _ _ _ _ _ (HT.out.below hb) h5 (HD.out.below hb) _⟩, bl_new _, fun h => by cases h⟩
    · obtain ⟨g, e10, h10⟩ := hd 10 (by omega) (by kernel_rfl)
      rw [e10]
      go_simp
      have ef : ([xs.take k, [x, y], xs.drop (k + 1)] : List (List Int)).flatten = xs.take k ++ x :: y :: xs.drop (k + 1) := by simp
      refine (concat_any g 0 3 [xs.take k, [x, y], xs.drop (k + 1)] wz h10 (by rw [ef, List.length_append, List.length_cons]; omega) (by rw [ef, List.length_append, List.length_cons, List.length_cons, List.length_take, List.length_drop]; omega) (by simp only [List.length_cons, List.length_nil]; omega)).mono ?_
      rintro e w2 ⟨⟨a, l2, c2, rfl, hl⟩, hb2⟩
      rw [ef] at hl
      exact ⟨⟨a, l2, c2, rfl, hl.mono hb.size⟩, hb2, fun h => by cases h⟩
  case rest =>
    intro u wz hb hf hp
    have f0 : u 0 = .slice (some ⟨b, off, none⟩) l c := hf 0 (by omega)
    have f1 : u 1 = .int .i64 (k : Int) := hf 1 (by omega)
    have f2 : u 2 = .slice (some ⟨b, off, none⟩) k c := hf 2 (by omega)
    have f3 : u 3 = .int .i64 x := hf 3 (by omega)
    have f4 : u 4 = .int .i64 y := hf 4 (by omega)
    obtain ⟨_, _, _, f5, _⟩ := hf 5 (by omega)
    have f6 : u 6 = .slice (some ⟨b, off, none⟩) l c := hf 6 (by omega)
    have f7 : u 7 = .int .i64 (k : Int) := hf 7 (by omega)
    have f8 : u 8 = .int .i64 ((k : Int) + 1) := hf 8 (by omega)
    have f9 : u 9 = .slice SX (l - (k + 1)) (c - (k + 1)) := hf 9 (by omega)
    obtain ⟨_, f10, _⟩ := hf 10 (by omega)
    obtain ⟨a, l2, c2, f11, hl⟩ := hf 11 (by omega)
    refine UptoW.rest 1 12 (by rfl) (by kernel_rfl) ?_
    simp only [List.take, List.drop, putOps, Act.put, List.setIfInBounds_toArray, List.set_cons_zero, List.set_cons_succ, Nat.reduceAdd, f0, f1, f2, f3, f4, f5, f6, f7, f8, f9, f10, f11]
    clear f0 f1 f2 f3 f4 f5 f6 f7 f8 f9 f10 f11 hf hp
    have HL := hide hl
    have HB := hide hb
    clear hl hb
    go_wp2_with fail
    go_ret
    exact ⟨⟨a, l2, c2, rfl, HL.out⟩, HB.out⟩
end Go.Proofs.Ytoidgdbgpbcebaa.V
