/-
  Contract: order.instead. Contracts: the closures of order.stripped.
-/
import Derived.Test.YtmmigbkilbfheaaK19
import Derived.Test.YtmmigbkilbfheaaK20
import Derived.Test.YtmmigbkilbfheaaK10
import Derived.Deep.DeepCutAuto
namespace Go.Proofs.Ytmmigbkilbfheaa.V
open Go.RowKit
set_option linter.unusedVariables false

/-- A list. -/
def fLst (xs : List Int) : Fact := ⟨fun v w => ∃ X n c, v = .slice X n c ∧ Lst w X n c xs, false⟩
theorem fLst_good (xs : List Int) : (fLst xs).Good := ⟨fun _ _ _ ⟨X, n, c, h1, h2⟩ hb => ⟨X, n, c, h1, h2.below hb⟩, fun h => by cases h⟩
def fLs (xss : List (List Int)) : Fact := ⟨fun v w => ∃ g : Nat, v = .slice (some ⟨g, 0, none⟩) xss.length xss.length ∧ Ls w g 0 xss, false⟩
theorem fLs_good (xss : List (List Int)) : (fLs xss).Good := ⟨fun _ _ _ ⟨g, h1, h2⟩ hb => ⟨g, h1, h2.below hb⟩, fun h => by cases h⟩
theorem lst_two (w : World) (x y : Int) (hx : B64 x) (hy : B64 y) (t : TypeId) : Lst (w.alloc (.cells #[.int .i64 x, .int .i64 y] t)) (some ⟨w.heap.size, 0, none⟩) 2 2 [x, y] := by
  refine ⟨⟨rfl, by omega, fun z hz => ?_, .inr ⟨_, _, rfl, fun j hj => ?_⟩⟩, Nat.le_refl _, fun e => by cases e⟩
  · simp at hz
    rcases hz with rfl | rfl
    · exact hx
    · exact hy
  · unfold World.cell?
    rw [World.alloc_heap_new w (.cells #[.int .i64 x, .int .i64 y] t)]
    have : j = 0 ∨ j = 1 := by omega
    rcases this with rfl | rfl <;> simp
theorem ls_three (w : World) (X1 : Option Addr) (n1 c1 : Nat) (X2 : Option Addr) (n2 c2 : Nat) (X3 : Option Addr) (n3 c3 : Nat) (a b c : List Int) (h1 : Lst w X1 n1 c1 a) (h2 : Lst w X2 n2 c2 b) (h3 : Lst w X3 n3 c3 c) (t : TypeId) : Ls (w.alloc (.cells #[.slice X1 n1 c1, .slice X2 n2 c2, .slice X3 n3 c3] t)) w.heap.size 0 [a, b, c] := by
  have hb : Below w.heap.size w (w.alloc (.cells #[.slice X1 n1 c1, .slice X2 n2 c2, .slice X3 n3 c3] t)) := bl_new _
  intro j hj
  unfold World.cell?
  rw [World.alloc_heap_new w (.cells #[.slice X1 n1 c1, .slice X2 n2 c2, .slice X3 n3 c3] t)]
  have : j = 0 ∨ j = 1 ∨ j = 2 := by simp at hj; omega
  rcases this with rfl | rfl | rfl
  · exact ⟨X1, n1, c1, by simp, h1.below hb⟩
  · exact ⟨X2, n2, c2, by simp, h2.below hb⟩
  · exact ⟨X3, n3, c3, by simp, h3.below hb⟩
theorem lst_take {w : World} {b off l c : Nat} {xs : List Int} (h : Lst w (some ⟨b, off, none⟩) l c xs) {k : Nat} (hk : k ≤ l) : Lst w (some ⟨b, off, none⟩) k c (xs.take k) := by
  obtain ⟨⟨h1, h2, h3, h4⟩, h5, h6⟩ := h
  refine ⟨⟨by simp; omega, by omega, fun x hx => h3 x (List.mem_of_mem_take hx), ?_⟩, by omega, fun e => by cases e⟩
  rcases h4 with h4 | ⟨b', off', e, hc⟩
  · exact .inl (by omega)
  · cases e
    exact .inr ⟨b, off, rfl, fun j hj => by rw [hc j (by omega), List.getElem?_take_of_lt hj]⟩
theorem lst_drop {w : World} {b off l c : Nat} {xs : List Int} (h : Lst w (some ⟨b, off, none⟩) l c xs) {k : Nat} (hk : k ≤ l) : Lst w (if c = k then some ⟨b, off, none⟩ else some ⟨b, off + k, none⟩) (l - k) (c - k) (xs.drop k) := by
  obtain ⟨⟨h1, h2, h3, h4⟩, h5, h6⟩ := h
  refine ⟨⟨by simp; omega, by omega, fun x hx => h3 x (List.mem_of_mem_drop hx), ?_⟩, by omega, fun e => by split at e <;> cases e⟩
  by_cases e0 : l - k = 0
  · exact .inl e0
  · rw [if_neg (by omega)]
    rcases h4 with h4 | ⟨b', off', e, hc⟩
    · exact .inl (by omega)
    · cases e
      exact .inr ⟨b, off + k, rfl, fun j hj => by
        rw [Nat.add_assoc, hc (k + j) (by omega), List.getElem?_drop]⟩
set_option maxRecDepth 100000 in
set_option maxHeartbeats 4000000 in
theorem instead_any (a : Option Addr) (l c : Nat) (xs : List Int) (k : Nat) (x y : Int) (w : World) (h : Lst w a l c xs) (hk : k < l) (h4 : l ≤ 1000) (hx : B64 x) (hy : B64 y) :
    Calls Try.prog 88 #[.slice a l c, .int .i64 (k : Int), .int .i64 x, .int .i64 y] w fun e w' => (∃ a l c, e = .returned (.slice a l c) ∧ Lies w.heap.size (fun V => Lst V a l c (xs.take k ++ x :: y :: xs.drop (k + 1))) w') ∧ Below w.heap.size w w' := by
  obtain ⟨b, off, rfl, _, _⟩ := h.1.at (by omega)
  have HT := hide (lst_take h (k := k) (by omega))
  have HD := hide (lst_drop h (k := k + 1) (by omega))
  have hlc : l ≤ c := h.2.1
  have hxl : xs.length = l := h.1.1
  obtain ⟨SX, hSX⟩ : ∃ SX : Option Addr, SX = (if c = k + 1 then some ⟨b, off, none⟩ else some ⟨b, off + (k + 1), none⟩) := ⟨_, rfl⟩
  rw [← hSX] at HD
  have HSX := hide hSX
  clear h hSX
  go_enter Try.func88, Try.ntmps88
  go_wp2_with fail
  refine region_made 12 18 [fIs (.slice (some ⟨b, off, none⟩) l c), fIs (.int .i64 (k : Int)), fIs (.slice (some ⟨b, off, none⟩) k c), fIs (.int .i64 x), fIs (.int .i64 y), fLst [x, y], fIs (.slice (some ⟨b, off, none⟩) l c), fIs (.int .i64 (k : Int)), fIs (.int .i64 ((k : Int) + 1)), fIs (.slice SX (l - (k + 1)) (c - (k + 1))), fLs [xs.take k, [x, y], xs.drop (k + 1)], fBox w.heap.size (xs.take k ++ x :: y :: xs.drop (k + 1))] (by kernel_rfl) (by kernel_rfl) (by kernel_rfl) (fun _ ⟨_, _⟩ ⟨_, _⟩ _ e h => by cases e; exact h) ⟨fIs_good _, fIs_good _, fIs_good _, fIs_good _, fIs_good _, fLst_good _, fIs_good _, fIs_good _, fIs_good _, fIs_good _, fLs_good _, fBox_good _ _, trivial⟩ ?mk ?rest
  case mk =>
    refine ⟨fun u wz hb hd => ?_, fun u wz hb hd => ?_, fun u wz hb hd => ?_, fun u wz hb hd => ?_, fun u wz hb hd => ?_, fun u wz hb hd => ?_, fun u wz hb hd => ?_, fun u wz hb hd => ?_, fun u wz hb hd => ?_, fun u wz hb hd => ?_, fun u wz hb hd => ?_, fun u wz hb hd => ?_, trivial⟩
    all_goals simp only [Act.put, List.setIfInBounds_toArray, List.set_cons_zero, List.set_cons_succ]
    · go_simp
      exact ⟨rfl, Below.refl _ _, fun h => by cases h⟩
    · go_simp
      exact ⟨rfl, Below.refl _ _, fun h => by cases h⟩
    · have e0 : u 0 = .slice (some ⟨b, off, none⟩) l c := hd 0 (by omega) (by kernel_rfl)
      have e1 : u 1 = .int .i64 (k : Int) := hd 1 (by omega) (by kernel_rfl)
      rw [e0, e1]
      have hkc : k ≤ c := by omega
      go_simp
      exact ⟨rfl, Below.refl _ _, fun h => by cases h⟩
    · go_simp
      exact ⟨rfl, Below.refl _ _, fun h => by cases h⟩
    · go_simp
      exact ⟨rfl, Below.refl _ _, fun h => by cases h⟩
    · have e3 : u 3 = .int .i64 x := hd 3 (by omega) (by kernel_rfl)
      have e4 : u 4 = .int .i64 y := hd 4 (by omega) (by kernel_rfl)
      rw [e3, e4]
      go_simp
      exact ⟨⟨_, _, _, rfl, lst_two wz x y hx hy _⟩, bl_new _, fun h => by cases h⟩
    · go_simp
      exact ⟨rfl, Below.refl _ _, fun h => by cases h⟩
    · go_simp
      exact ⟨rfl, Below.refl _ _, fun h => by cases h⟩
    · have e7 : u 7 = .int .i64 (k : Int) := hd 7 (by omega) (by kernel_rfl)
      rw [e7]
      go_simp
      rw [show IntKind.i64.wrap ((k : Int) + 1) = (k : Int) + 1 by rw [IntKind.wrap_i64]; omega]
      exact ⟨rfl, Below.refl _ _, fun h => by cases h⟩
    · have e6 : u 6 = .slice (some ⟨b, off, none⟩) l c := hd 6 (by omega) (by kernel_rfl)
      have e8 : u 8 = .int .i64 ((k : Int) + 1) := hd 8 (by omega) (by kernel_rfl)
      rw [e6, e8]
      have hkl : 0 ≤ (k : Int) + 1 ∧ (k : Int) + 1 ≤ (l : Int) := by omega
      go_simp
      rw [← HSX.out]
      exact ⟨rfl, Below.refl _ _, fun h => by cases h⟩
    · have e2 : u 2 = .slice (some ⟨b, off, none⟩) k c := hd 2 (by omega) (by kernel_rfl)
      obtain ⟨X5, n5, c5, e5, h5⟩ := hd 5 (by omega) (by kernel_rfl)
      have e9 : u 9 = .slice SX (l - (k + 1)) (c - (k + 1)) := hd 9 (by omega) (by kernel_rfl)
      rw [e2, e5, e9]
      go_simp
      exact ⟨⟨_, rfl, ls_three wz _ _ _ _ _ _ _ _ _ _ _ _ (HT.out.below hb) h5 (HD.out.below hb) _⟩, bl_new _, fun h => by cases h⟩
    · obtain ⟨g, e10, h10⟩ := hd 10 (by omega) (by kernel_rfl)
      rw [e10]
      go_simp
      have ef : ([xs.take k, [x, y], xs.drop (k + 1)] : List (List Int)).flatten = xs.take k ++ x :: y :: xs.drop (k + 1) := by simp
      refine (concat_any g 0 3 [xs.take k, [x, y], xs.drop (k + 1)] wz h10 (by rw [ef, List.length_append, List.length_cons]; omega) (by rw [ef, List.length_append, List.length_cons, List.length_cons, List.length_take, List.length_drop]; omega) (by simp only [List.length_cons, List.length_nil]; omega)).mono ?_
      rintro e w2 ⟨⟨a, l2, c2, rfl, hl⟩, hb2⟩
      rw [ef] at hl
      exact ⟨⟨a, l2, c2, rfl, hl.mono hb.size⟩, hb2, fun h => by cases h⟩
  case rest =>
    intro u wz hb hf hp
    have f0 : u 0 = .slice (some ⟨b, off, none⟩) l c := hf 0 (by omega)
    have f1 : u 1 = .int .i64 (k : Int) := hf 1 (by omega)
    have f2 : u 2 = .slice (some ⟨b, off, none⟩) k c := hf 2 (by omega)
    have f3 : u 3 = .int .i64 x := hf 3 (by omega)
    have f4 : u 4 = .int .i64 y := hf 4 (by omega)
    obtain ⟨_, _, _, f5, _⟩ := hf 5 (by omega)
    have f6 : u 6 = .slice (some ⟨b, off, none⟩) l c := hf 6 (by omega)
    have f7 : u 7 = .int .i64 (k : Int) := hf 7 (by omega)
    have f8 : u 8 = .int .i64 ((k : Int) + 1) := hf 8 (by omega)
    have f9 : u 9 = .slice SX (l - (k + 1)) (c - (k + 1)) := hf 9 (by omega)
    obtain ⟨_, f10, _⟩ := hf 10 (by omega)
    obtain ⟨a, l2, c2, f11, hl⟩ := hf 11 (by omega)
    refine UptoW.rest 1 12 (by rfl) (by kernel_rfl) ?_
    simp only [List.take, List.drop, putOps, Act.put, List.setIfInBounds_toArray, List.set_cons_zero, List.set_cons_succ, Nat.reduceAdd, f0, f1, f2, f3, f4, f5, f6, f7, f8, f9, f10, f11]
    clear f0 f1 f2 f3 f4 f5 f6 f7 f8 f9 f10 f11 hf hp
    have HL := hide hl
    have HB := hide hb
    clear hl hb
    go_wp2_with fail
    go_ret
    exact ⟨⟨a, l2, c2, rfl, HL.out⟩, HB.out⟩
end Go.Proofs.Ytmmigbkilbfheaa.V
namespace Go.Proofs.Ytmmigbkilbfheaa.V
open Go.RowKit
set_option linter.unusedVariables false

theorem ceil_tdiv (E : Int) (n : Nat) (hE : 0 ≤ E) (hn : 1 ≤ n) : (E + (n : Int) - 1).tdiv n = (ceilN E.toNat n : Int) := by
  unfold ceilN
  obtain ⟨e, rfl⟩ : ∃ e : Nat, E = (e : Int) := ⟨E.toNat, by omega⟩
  have h : (e : Int) + (n : Int) - 1 = ((e + n - 1 : Nat) : Int) := by omega
  rw [h, Int.toNat_natCast]
  rfl
theorem tdiv_bd (E : Int) (n : Nat) (hE : 0 ≤ E ∧ E ≤ 4096) (hn : 1 ≤ n ∧ n ≤ 4096) : 0 ≤ (E + (n : Int) - 1).tdiv n ∧ (E + (n : Int) - 1).tdiv n ≤ 8192 := by
  rw [ceil_tdiv E n hE.1 hn.1]
  have h1 : ceilN E.toNat n ≤ E.toNat + n - 1 := Nat.div_le_self _ _
  omega
set_option maxRecDepth 100000 in
set_option maxHeartbeats 4000000 in
theorem twice_any (a : Option Addr) (l c : Nat) (box : List Int) (Bk Be Bn k : Nat) (E : Int) (n : Nat) (w : World) (h : Lst w a l c box) (hk : k < l) (h4 : l ≤ 1000) (c1 : w.cell? ⟨Bk, 0, none⟩ = some (.int .i64 (k : Int))) (c2 : w.cell? ⟨Be, 0, none⟩ = some (.int .i64 E)) (c3 : w.cell? ⟨Bn, 0, none⟩ = some (.int .i64 (n : Int))) (hE : 0 ≤ E ∧ E ≤ 4096) (hn : 1 ≤ n ∧ n ≤ 4096) :
    Calls Try.prog 87 #[.slice a l c, .pointer (some ⟨Bk, 0, none⟩), .pointer (some ⟨Be, 0, none⟩), .pointer (some ⟨Bn, 0, none⟩)] w fun e w' => (∃ a l c, e = .returned (.slice a l c) ∧ Lies w.heap.size (fun V => Lst V a l c (box.take k ++ (ceilN E.toNat n : Int) :: (n : Int) :: box.drop (k + 1))) w') ∧ Below w.heap.size w w' := by
  have hq := tdiv_bd E n hE hn
  have HI := hide (fun W (hb : Below w.heap.size w W) => instead_any a l c box k ((E + (n : Int) - 1).tdiv n) (n : Int) W (h.below hb) hk h4 (by unfold B64; omega) (by unfold B64; omega))
  rw [← ceil_tdiv E n hE.1 hn.1]
  clear h
  go_enter Try.func87, Try.ntmps87
  go_wp2_with fail
  refine region_made 10 16 [fIs (.slice a l c), fIs (.int .i64 (k : Int)), fIs (.int .i64 E), fIs (.int .i64 (n : Int)), fIs (.int .i64 (E + (n : Int))), fIs (.int .i64 (E + (n : Int) - 1)), fIs (.int .i64 (n : Int)), fIs (.int .i64 ((E + (n : Int) - 1).tdiv n)), fIs (.int .i64 (n : Int)), fBox w.heap.size (box.take k ++ ((E + (n : Int) - 1).tdiv n) :: (n : Int) :: box.drop (k + 1))] (by kernel_rfl) (by kernel_rfl) (by kernel_rfl) (fun _ ⟨_, _⟩ ⟨_, _⟩ _ e h => by cases e; exact h) ⟨fIs_good _, fIs_good _, fIs_good _, fIs_good _, fIs_good _, fIs_good _, fIs_good _, fIs_good _, fIs_good _, fBox_good _ _, trivial⟩ ?mk ?rest
  case mk =>
    refine ⟨fun u wz hb hd => ?_, fun u wz hb hd => ?_, fun u wz hb hd => ?_, fun u wz hb hd => ?_, fun u wz hb hd => ?_, fun u wz hb hd => ?_, fun u wz hb hd => ?_, fun u wz hb hd => ?_, fun u wz hb hd => ?_, fun u wz hb hd => ?_, trivial⟩
    all_goals simp only [Act.put, List.setIfInBounds_toArray, List.set_cons_zero, List.set_cons_succ]
    · go_simp
      exact ⟨rfl, Below.refl _ _, fun h => by cases h⟩
    · have c1' := (hb.cell (p := ⟨Bk, 0, none⟩) (lt_of_cell c1)).trans c1
      go_simp
      exact ⟨rfl, Below.refl _ _, fun h => by cases h⟩
    · have c2' := (hb.cell (p := ⟨Be, 0, none⟩) (lt_of_cell c2)).trans c2
      go_simp
      exact ⟨rfl, Below.refl _ _, fun h => by cases h⟩
    · have c3' := (hb.cell (p := ⟨Bn, 0, none⟩) (lt_of_cell c3)).trans c3
      go_simp
      exact ⟨rfl, Below.refl _ _, fun h => by cases h⟩
    · have e2 : u 2 = .int .i64 E := hd 2 (by omega) (by kernel_rfl)
      have e3 : u 3 = .int .i64 (n : Int) := hd 3 (by omega) (by kernel_rfl)
      rw [e2, e3]
      go_simp
      rw [show IntKind.i64.wrap (E + (n : Int)) = E + (n : Int) by rw [IntKind.wrap_i64]; omega]
      exact ⟨rfl, Below.refl _ _, fun h => by cases h⟩
    · have e4 : u 4 = .int .i64 (E + (n : Int)) := hd 4 (by omega) (by kernel_rfl)
      rw [e4]
      go_simp
      rw [show IntKind.i64.wrap (E + (n : Int) - 1) = E + (n : Int) - 1 by rw [IntKind.wrap_i64]; omega]
      exact ⟨rfl, Below.refl _ _, fun h => by cases h⟩
    · have c3' := (hb.cell (p := ⟨Bn, 0, none⟩) (lt_of_cell c3)).trans c3
      go_simp
      exact ⟨rfl, Below.refl _ _, fun h => by cases h⟩
    · have e5 : u 5 = .int .i64 (E + (n : Int) - 1) := hd 5 (by omega) (by kernel_rfl)
      have e6 : u 6 = .int .i64 (n : Int) := hd 6 (by omega) (by kernel_rfl)
      rw [e5, e6]
      have hn0 : ¬ n = 0 := by omega
      go_simp
      rw [show IntKind.i64.wrap ((E + (n : Int) - 1).tdiv n) = (E + (n : Int) - 1).tdiv n by rw [IntKind.wrap_i64]; omega]
      exact ⟨rfl, Below.refl _ _, fun h => by cases h⟩
    · have c3' := (hb.cell (p := ⟨Bn, 0, none⟩) (lt_of_cell c3)).trans c3
      go_simp
      exact ⟨rfl, Below.refl _ _, fun h => by cases h⟩
    · have e0 : u 0 = .slice a l c := hd 0 (by omega) (by kernel_rfl)
      have e1 : u 1 = .int .i64 (k : Int) := hd 1 (by omega) (by kernel_rfl)
      have e7 : u 7 = .int .i64 ((E + (n : Int) - 1).tdiv n) := hd 7 (by omega) (by kernel_rfl)
      have e8 : u 8 = .int .i64 (n : Int) := hd 8 (by omega) (by kernel_rfl)
      rw [e0, e1, e7, e8]
      go_simp
      refine (HI.out wz hb).mono ?_
      rintro e w2 ⟨⟨x, m, d, rfl, hl⟩, hb2⟩
      exact ⟨⟨x, m, d, rfl, hl.mono hb.size⟩, hb2, fun h => by cases h⟩
  case rest =>
    intro u wz hb hf hp
    have f0 : u 0 = .slice a l c := hf 0 (by omega)
    have f1 : u 1 = .int .i64 (k : Int) := hf 1 (by omega)
    have f2 : u 2 = .int .i64 E := hf 2 (by omega)
    have f3 : u 3 = .int .i64 (n : Int) := hf 3 (by omega)
    have f4 : u 4 = .int .i64 (E + (n : Int)) := hf 4 (by omega)
    have f5 : u 5 = .int .i64 (E + (n : Int) - 1) := hf 5 (by omega)
    have f6 : u 6 = .int .i64 (n : Int) := hf 6 (by omega)
    have f7 : u 7 = .int .i64 ((E + (n : Int) - 1).tdiv n) := hf 7 (by omega)
    have f8 : u 8 = .int .i64 (n : Int) := hf 8 (by omega)
    obtain ⟨x, m, d, f9, hl⟩ := hf 9 (by omega)
    refine UptoW.rest 1 10 (by rfl) (by kernel_rfl) ?_
    simp only [List.take, List.drop, putOps, Act.put, List.setIfInBounds_toArray, List.set_cons_zero, List.set_cons_succ, Nat.reduceAdd, f0, f1, f2, f3, f4, f5, f6, f7, f8, f9]
    clear f0 f1 f2 f3 f4 f5 f6 f7 f8 f9 hf hp
    have HL := hide hl
    have HB := hide hb
    clear hl hb
    go_wp2_with fail
    go_ret
    exact ⟨⟨x, m, d, rfl, HL.out⟩, HB.out⟩
set_option maxRecDepth 100000 in
set_option maxHeartbeats 4000000 in
theorem strip2_any (q : RW) (x : List Int × Int) (Bk Bn k n : Nat) (w : World) (h : RG w q x) (hk : k < q.cl) (h4 : q.cl ≤ 1000) (hc : ∀ c ∈ x.1, -1048576 ≤ c ∧ c ≤ 1048576) (hn : n ≤ 4096) (c1 : w.cell? ⟨Bk, 0, none⟩ = some (.int .i64 (k : Int))) (c3 : w.cell? ⟨Bn, 0, none⟩ = some (.int .i64 (n : Int))) :
    Calls Try.prog 89 #[q.v, .pointer (some ⟨Bk, 0, none⟩), .pointer (some ⟨Bn, 0, none⟩)] w fun e w' => (∃ u : RW, e = .returned u.v ∧ Lies w.heap.size (fun V => RG V u (stripR k n x)) w') ∧ Below w.heap.size w w' := by
  obtain ⟨b, off, ea, hb0, hcells⟩ := h.coef.at (by omega)
  have hkl : k < x.1.length := by rw [h.coef.1]; exact hk
  obtain ⟨C, hC⟩ : ∃ C, C = x.1[k]?.getD 0 := ⟨_, rfl⟩
  have hCb := hc _ (mem_getD x.1 k hkl)
  rw [← hC] at hCb
  have ck0 := hcells k hk
  rw [← hC] at ck0
  have hmul : -4294967296 ≤ (n : Int) * C ∧ (n : Int) * C ≤ 4294967296 := by
    have := Int.mul_le_mul_of_nonneg_left hCb.1 (show (0 : Int) ≤ n by omega)
    have := Int.mul_le_mul_of_nonneg_left hCb.2 (show (0 : Int) ≤ n by omega)
    omega
  have B1 : Below w.heap.size w ((w.alloc (.cells #[.slice q.ca q.cl q.cc, .int .i64 q.con] 51)).alloc (.cells #[.slice none 0 0, .int .i64 0] 51)) := bl_on (bl_new _) (bl_new _)
  have P1 : ((w.alloc (.cells #[.slice q.ca q.cl q.cc, .int .i64 q.con] 51)).alloc (.cells #[.slice none 0 0, .int .i64 0] 51)).heap[w.heap.size]? = some (.cells #[.slice q.ca q.cl q.cc, .int .i64 q.con] 51 (0, 0)) := (Below.heap_alloc _ _ _ (by simp)).trans (World.alloc_heap_new _ _)
  have P2 : ((w.alloc (.cells #[.slice q.ca q.cl q.cc, .int .i64 q.con] 51)).alloc (.cells #[.slice none 0 0, .int .i64 0] 51)).heap[w.heap.size + 1]? = some (.cells #[.slice none 0 0, .int .i64 0] 51 (0, 0)) := by have := World.alloc_heap_new (w.alloc (.cells #[.slice q.ca q.cl q.cc, .int .i64 q.con] 51)) (.cells #[.slice none 0 0, .int .i64 0] 51); simpa using this
  obtain ⟨W1, hW1⟩ : ∃ W1, W1 = (w.alloc (.cells #[.slice q.ca q.cl q.cc, .int .i64 q.con] 51)).alloc (.cells #[.slice none 0 0, .int .i64 0] 51) := ⟨_, rfl⟩
  rw [← hW1] at B1 P1 P2
  have HZ : Hid (W1.heap.size = w.heap.size + 2) := by rw [Hid, hW1]; simp
  have HI := hide (fun W (hb : Below W1.heap.size W1 W) => instead_any q.ca q.cl q.cc x.1 k ((n : Int) * C) C W (⟨h.coef.below (bl_on B1 hb), h.cap⟩) hk h4 (by unfold B64; omega) (by unfold B64; omega))
  rw [ea] at HI P1 hW1
  have p0 : W1.cell? ⟨w.heap.size, 0, none⟩ = some (.slice (some ⟨b, off, none⟩) q.cl q.cc) := by simp only [World.cell?, P1]; rfl
  have p1 : W1.cell? ⟨w.heap.size, 1, none⟩ = some (.int .i64 q.con) := by simp only [World.cell?, P1]; rfl
  have ck := (B1.cell (p := ⟨b, off + k, none⟩) hb0).trans ck0
  have c1' := (B1.cell (p := ⟨Bk, 0, none⟩) (lt_of_cell c1)).trans c1
  have c3' := (B1.cell (p := ⟨Bn, 0, none⟩) (lt_of_cell c3)).trans c3
  have HX : Hid (stripR k n x = (x.1.take k ++ ((n : Int) * C) :: C :: x.1.drop (k + 1), x.2)) := by
    rw [Hid, stripR, ← hC, Int.mul_comm]
  rw [HX.out]
  have HCON := hide (And.intro h.con h.bd)
  have HP2 := hide P2
  have HB := hide B1
  have HW1 := hide hW1
  clear h hcells hkl hC hc B1 P1 P2 hW1 c1 c3 ck0
  have c1 := c1'
  have c3 := c3'
  clear c1' c3'
  unfold RW.v
  rw [ea]
  clear ea
  go_enter Try.func89, Try.ntmps89
  go_wp2_with fail
  rw [← HW1.out]
  refine region_made 18 26 [fIs (.pointer (some ⟨w.heap.size, 0, none⟩)), fIs (.slice (some ⟨b, off, none⟩) q.cl q.cc), fIs (.int .i64 (k : Int)), fIs (.int .i64 (n : Int)), fIs (.pointer (some ⟨w.heap.size, 0, none⟩)), fIs (.slice (some ⟨b, off, none⟩) q.cl q.cc), fIs (.int .i64 (k : Int)), fIs (.pointer (some ⟨b, off + k, none⟩)), fIs (.int .i64 C), fIs (.int .i64 ((n : Int) * C)), fIs (.pointer (some ⟨w.heap.size, 0, none⟩)), fIs (.slice (some ⟨b, off, none⟩) q.cl q.cc), fIs (.int .i64 (k : Int)), fIs (.pointer (some ⟨b, off + k, none⟩)), fIs (.int .i64 C), fBox W1.heap.size (x.1.take k ++ ((n : Int) * C) :: C :: x.1.drop (k + 1)), fIs (.pointer (some ⟨w.heap.size, 1, none⟩)), fIs (.int .i64 q.con)] (by kernel_rfl) (by kernel_rfl) (by kernel_rfl) (fun _ ⟨_, _⟩ ⟨_, _⟩ _ e h => by cases e; exact h) ⟨fIs_good _, fIs_good _, fIs_good _, fIs_good _, fIs_good _, fIs_good _, fIs_good _, fIs_good _, fIs_good _, fIs_good _, fIs_good _, fIs_good _, fIs_good _, fIs_good _, fIs_good _, fBox_good _ _, fIs_good _, fIs_good _, trivial⟩ ?mk ?rest
  case mk =>
    refine ⟨fun u wz hb hd => ?_, fun u wz hb hd => ?_, fun u wz hb hd => ?_, fun u wz hb hd => ?_, fun u wz hb hd => ?_, fun u wz hb hd => ?_, fun u wz hb hd => ?_, fun u wz hb hd => ?_, fun u wz hb hd => ?_, fun u wz hb hd => ?_, fun u wz hb hd => ?_, fun u wz hb hd => ?_, fun u wz hb hd => ?_, fun u wz hb hd => ?_, fun u wz hb hd => ?_, fun u wz hb hd => ?_, fun u wz hb hd => ?_, fun u wz hb hd => ?_, trivial⟩
    all_goals simp only [Act.put, List.setIfInBounds_toArray, List.set_cons_zero, List.set_cons_succ]
    · go_simp
      exact ⟨rfl, Below.refl _ _, fun h => by cases h⟩
    · have e0 : u 0 = .pointer (some ⟨w.heap.size, 0, none⟩) := hd 0 (by omega) (by kernel_rfl)
      rw [e0]
      have p0' := (hb.cell (p := ⟨w.heap.size, 0, none⟩) (lt_of_cell p0)).trans p0
      go_simp
      exact ⟨rfl, Below.refl _ _, fun h => by cases h⟩
    · have c1' := (hb.cell (p := ⟨Bk, 0, none⟩) (lt_of_cell c1)).trans c1
      go_simp
      exact ⟨rfl, Below.refl _ _, fun h => by cases h⟩
    · have c3' := (hb.cell (p := ⟨Bn, 0, none⟩) (lt_of_cell c3)).trans c3
      go_simp
      exact ⟨rfl, Below.refl _ _, fun h => by cases h⟩
    · go_simp
      exact ⟨rfl, Below.refl _ _, fun h => by cases h⟩
    · have e4 : u 4 = .pointer (some ⟨w.heap.size, 0, none⟩) := hd 4 (by omega) (by kernel_rfl)
      rw [e4]
      have p0' := (hb.cell (p := ⟨w.heap.size, 0, none⟩) (lt_of_cell p0)).trans p0
      go_simp
      exact ⟨rfl, Below.refl _ _, fun h => by cases h⟩
    · have c1' := (hb.cell (p := ⟨Bk, 0, none⟩) (lt_of_cell c1)).trans c1
      go_simp
      exact ⟨rfl, Below.refl _ _, fun h => by cases h⟩
    · have e5 : u 5 = .slice (some ⟨b, off, none⟩) q.cl q.cc := hd 5 (by omega) (by kernel_rfl)
      have e6 : u 6 = .int .i64 (k : Int) := hd 6 (by omega) (by kernel_rfl)
      rw [e5, e6]
      have hkz : (k : Int) < (q.cl : Int) := by omega
      go_simp
      exact ⟨rfl, Below.refl _ _, fun h => by cases h⟩
    · have e7 : u 7 = .pointer (some ⟨b, off + k, none⟩) := hd 7 (by omega) (by kernel_rfl)
      rw [e7]
      have ck' := (hb.cell (p := ⟨b, off + k, none⟩) (lt_of_cell ck)).trans ck
      go_simp
      exact ⟨rfl, Below.refl _ _, fun h => by cases h⟩
    · have e3 : u 3 = .int .i64 (n : Int) := hd 3 (by omega) (by kernel_rfl)
      have e8 : u 8 = .int .i64 C := hd 8 (by omega) (by kernel_rfl)
      rw [e3, e8]
      go_simp
      rw [show IntKind.i64.wrap ((n : Int) * C) = (n : Int) * C by rw [IntKind.wrap_i64]; omega]
      exact ⟨rfl, Below.refl _ _, fun h => by cases h⟩
    · go_simp
      exact ⟨rfl, Below.refl _ _, fun h => by cases h⟩
    · have e10 : u 10 = .pointer (some ⟨w.heap.size, 0, none⟩) := hd 10 (by omega) (by kernel_rfl)
      rw [e10]
      have p0' := (hb.cell (p := ⟨w.heap.size, 0, none⟩) (lt_of_cell p0)).trans p0
      go_simp
      exact ⟨rfl, Below.refl _ _, fun h => by cases h⟩
    · have c1' := (hb.cell (p := ⟨Bk, 0, none⟩) (lt_of_cell c1)).trans c1
      go_simp
      exact ⟨rfl, Below.refl _ _, fun h => by cases h⟩
    · have e11 : u 11 = .slice (some ⟨b, off, none⟩) q.cl q.cc := hd 11 (by omega) (by kernel_rfl)
      have e12 : u 12 = .int .i64 (k : Int) := hd 12 (by omega) (by kernel_rfl)
      rw [e11, e12]
      have hkz : (k : Int) < (q.cl : Int) := by omega
      go_simp
      exact ⟨rfl, Below.refl _ _, fun h => by cases h⟩
    · have e13 : u 13 = .pointer (some ⟨b, off + k, none⟩) := hd 13 (by omega) (by kernel_rfl)
      rw [e13]
      have ck' := (hb.cell (p := ⟨b, off + k, none⟩) (lt_of_cell ck)).trans ck
      go_simp
      exact ⟨rfl, Below.refl _ _, fun h => by cases h⟩
    · have e1 : u 1 = .slice (some ⟨b, off, none⟩) q.cl q.cc := hd 1 (by omega) (by kernel_rfl)
      have e2 : u 2 = .int .i64 (k : Int) := hd 2 (by omega) (by kernel_rfl)
      have e9 : u 9 = .int .i64 ((n : Int) * C) := hd 9 (by omega) (by kernel_rfl)
      have e14 : u 14 = .int .i64 C := hd 14 (by omega) (by kernel_rfl)
      rw [e1, e2, e9, e14]
      go_simp
      refine (HI.out wz hb).mono ?_
      rintro e w2 ⟨⟨x, m, d, rfl, hl⟩, hb2⟩
      exact ⟨⟨x, m, d, rfl, hl.mono (Nat.le_trans (Nat.le_of_eq HZ.out) (Nat.le_trans (Nat.le_of_eq HZ.out.symm) hb.size))⟩, hb2, fun h => by cases h⟩
    · go_simp
      exact ⟨rfl, Below.refl _ _, fun h => by cases h⟩
    · have e16 : u 16 = .pointer (some ⟨w.heap.size, 1, none⟩) := hd 16 (by omega) (by kernel_rfl)
      rw [e16]
      have p1' := (hb.cell (p := ⟨w.heap.size, 1, none⟩) (lt_of_cell p1)).trans p1
      go_simp
      exact ⟨rfl, Below.refl _ _, fun h => by cases h⟩
  case rest =>
    intro u wz hb hf hp
    have f0 : u 0 = .pointer (some ⟨w.heap.size, 0, none⟩) := hf 0 (by omega)
    have f1 : u 1 = .slice (some ⟨b, off, none⟩) q.cl q.cc := hf 1 (by omega)
    have f2 : u 2 = .int .i64 (k : Int) := hf 2 (by omega)
    have f3 : u 3 = .int .i64 (n : Int) := hf 3 (by omega)
    have f4 : u 4 = .pointer (some ⟨w.heap.size, 0, none⟩) := hf 4 (by omega)
    have f5 : u 5 = .slice (some ⟨b, off, none⟩) q.cl q.cc := hf 5 (by omega)
    have f6 : u 6 = .int .i64 (k : Int) := hf 6 (by omega)
    have f7 : u 7 = .pointer (some ⟨b, off + k, none⟩) := hf 7 (by omega)
    have f8 : u 8 = .int .i64 C := hf 8 (by omega)
    have f9 : u 9 = .int .i64 ((n : Int) * C) := hf 9 (by omega)
    have f10 : u 10 = .pointer (some ⟨w.heap.size, 0, none⟩) := hf 10 (by omega)
    have f11 : u 11 = .slice (some ⟨b, off, none⟩) q.cl q.cc := hf 11 (by omega)
    have f12 : u 12 = .int .i64 (k : Int) := hf 12 (by omega)
    have f13 : u 13 = .pointer (some ⟨b, off + k, none⟩) := hf 13 (by omega)
    have f14 : u 14 = .int .i64 C := hf 14 (by omega)
    obtain ⟨X, m, d, f15, hl⟩ := hf 15 (by omega)
    have f16 : u 16 = .pointer (some ⟨w.heap.size, 1, none⟩) := hf 16 (by omega)
    have f17 : u 17 = .int .i64 q.con := hf 17 (by omega)
    refine UptoW.rest 2 18 (by rfl) (by kernel_rfl) ?_
    simp only [List.take, List.drop, putOps, Act.put, List.setIfInBounds_toArray, List.set_cons_zero, List.set_cons_succ, Nat.reduceAdd, f0, f1, f2, f3, f4, f5, f6, f7, f8, f9, f10, f11, f12, f13, f14, f15, f16, f17]
    clear f0 f1 f2 f3 f4 f5 f6 f7 f8 f9 f10 f11 f12 f13 f14 f15 f16 f17 hf hp
    have HL := hide hl
    have e5 : wz.heap[w.heap.size + 1]? = some (.cells #[.slice none 0 0, .int .i64 0] 51 (0, 0)) := (hb.block _ (by have := HZ.out; omega)).trans HP2.out
    have y0 : wz.cell? ⟨w.heap.size + 1, 0, none⟩ = some (.slice none 0 0) := by simp only [World.cell?, e5]; rfl
    have y1 : wz.cell? ⟨w.heap.size + 1, 1, none⟩ = some (.int .i64 0) := by simp only [World.cell?, e5]; rfl
    have g0 : wz.frozen? ⟨w.heap.size + 1, 0, none⟩ = false := by simp [World.frozen?, e5]
    have g1 : wz.frozen? ⟨w.heap.size + 1, 1, none⟩ = false := by simp [World.frozen?, e5]
    have z5 : w.heap.size + 1 < wz.heap.size := by have := hb.size; have := HZ.out; omega
    have HE5 := hide e5
    have HB3 := hide (bl_on HB.out hb)
    clear hl hb e5 p0 p1 ck c1 c3
    go_wp2_with fail
    obtain ⟨W6, hW6⟩ : ∃ W6, W6 = (wz.setCell ⟨w.heap.size + 1, 0, none⟩ (.slice X m d)).setCell ⟨w.heap.size + 1, 1, none⟩ (.int .i64 q.con) := ⟨_, rfl⟩
    rw [← hW6]
    have e6 : W6.heap[w.heap.size + 1]? = some (.cells #[.slice X m d, .int .i64 q.con] 51 (0, 0)) := by
      rw [hW6]
      simp [World.setCell, Array.getElem?_modify, HE5.out]
    have x0 : W6.cell? ⟨w.heap.size + 1, 0, none⟩ = some (.slice X m d) := by simp only [World.cell?, e6]; rfl
    have x1 : W6.cell? ⟨w.heap.size + 1, 1, none⟩ = some (.int .i64 q.con) := by simp only [World.cell?, e6]; rfl
    have hLs := (HL.out.set (p := ⟨w.heap.size + 1, 0, none⟩) (by have := HZ.out; simp only; omega) (.slice X m d)).set (p := ⟨w.heap.size + 1, 1, none⟩) (by have := HZ.out; simp only; omega) (.int .i64 q.con)
    rw [← hW6] at hLs
    refine bodyPost_ret (v := (⟨X, m, d, q.con⟩ : RW).v) (by simp [results, Try.results89, go_sem, x0, x1, RW.v]) rfl ⟨⟨⟨X, m, d, q.con⟩, rfl, ?_⟩, ?_⟩
    · have hz := HZ.out
      refine (hLs.mono (by omega)).imp (fun V hV => ⟨HCON.out.1, hV.1, hV.2, HCON.out.2⟩)
    · rw [hW6]
      exact (HB3.out.setCell (p := ⟨w.heap.size + 1, 0, none⟩) (by simp only; omega) _).setCell (p := ⟨w.heap.size + 1, 1, none⟩) (by simp only; omega) _
end Go.Proofs.Ytmmigbkilbfheaa.V
