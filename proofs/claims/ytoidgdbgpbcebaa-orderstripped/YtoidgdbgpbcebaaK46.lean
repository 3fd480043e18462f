/-
  Contracts: the closures of order.stripped. Contracts: order.fresh, order.stripped. Contract: order.stripped.
-/
import Derived.Test.YtoidgdbgpbcebaaK43
import Derived.Test.YtoidgdbgpbcebaaK45
import Derived.Deep.DeepCutAuto
import Derived.Test.YtoidgdbgpbcebaaK22
import Derived.ArgAppend
namespace Go.Proofs.Ytoidgdbgpbcebaa.V
open Go.RowKit
set_option linter.unusedVariables false

theorem ceil_tdiv (E : Int) (n : Nat) (hE : 0 ≤ E) (hn : 1 ≤ n) : (E + (n : Int) - 1).tdiv n = (ceilN E.toNat n : Int) := by
  unfold ceilN
  obtain ⟨e, rfl⟩ : ∃ e : Nat, E = (e : Int) := ⟨E.toNat, by omega⟩
  have h : (e : Int) + (n : Int) - 1 = ((e + n - 1 : Nat) : Int) := by omega
  rw [h, Int.toNat_natCast]
  rfl
theorem tdiv_bd (E : Int) (n : Nat) (hE : 0 ≤ E ∧ E ≤ 4096) (hn : 1 ≤ n ∧ n ≤ 4096) : 0 ≤ (E + (n : Int) - 1).tdiv n ∧ (E + (n : Int) - 1).tdiv n ≤ 8192 := by
  rw [ceil_tdiv E n hE.1 hn.1]
  have h1 : ceilN E.toNat n ≤ E.toNat + n - 1 := Nat.div_le_self _ _
  omega
set_option maxRecDepth 100000 in
set_option maxHeartbeats 4000000 in
theorem twice_any (a : Option Addr) (l c : Nat) (box : List Int) (Bk Be Bn k : Nat) (E : Int) (n : Nat) (w : World) (h : Lst w a l c box) (hk : k < l) (h4 : l ≤ 1000) (c1 : w.cell? ⟨Bk, 0, none⟩ = some (.int .i64 (k : Int))) (c2 : w.cell? ⟨Be, 0, none⟩ = some (.int .i64 E)) (c3 : w.cell? ⟨Bn, 0, none⟩ = some (.int .i64 (n : Int))) (hE : 0 ≤ E ∧ E ≤ 4096) (hn : 1 ≤ n ∧ n ≤ 4096) :
    Calls Try.prog 74 #[.slice a l c, .pointer (some ⟨Bk, 0, none⟩), .pointer (some ⟨Be, 0, none⟩), .pointer (some ⟨Bn, 0, none⟩)] w fun e w' => (∃ a l c, e = .returned (.slice a l c) ∧ Lies w.heap.size (fun V => Lst V a l c (box.take k ++ (ceilN E.toNat n : Int) :: (n : Int) :: box.drop (k + 1))) w') ∧ Below w.heap.size w w' := by
  have hq := tdiv_bd E n hE hn
  have HI := hide (fun W (hb : Below w.heap.size w W) => instead_any a l c box k ((E + (n : Int) - 1).tdiv n) (n : Int) W (h.below hb) hk h4 (by unfold B64; omega) (by unfold B64; omega))
  rw [← ceil_tdiv E n hE.1 hn.1]
  clear h
  go_enter Try.func74, Try.ntmps74
  go_wp2_with fail
  refine region_made 10 16 [fIs (.slice a l c), fIs (.int .i64 (k : Int)), fIs (.int .i64 E), fIs (.int .i64 (n : Int)), fIs (.int .i64 (E + (n : Int))), fIs (.int .i64 (E + (n : Int) - 1)), fIs (.int .i64 (n : Int)), fIs (.int .i64 ((E + (n : Int) - 1).tdiv n)), fIs (.int .i64 (n : Int)), fBox w.heap.size (box.take k ++ ((E + (n : Int) - 1).tdiv n) :: (n : Int) :: box.drop (k + 1))] (by kernel_rfl) (by kernel_rfl) (by kernel_rfl) (fun _ ⟨_, _⟩ ⟨_, _⟩ _ e h => by cases e; exact h) ⟨fIs_good _, fIs_good _, fIs_good _, fIs_good _, fIs_good _, fIs_good _, fIs_good _, fIs_good _, fIs_good _, fBox_good _ _, trivial⟩ ?mk ?rest
  case mk =>
    refine ⟨fun u wz hb hd => ?_, fun u wz hb hd => ?_, fun u wz hb hd => ?_, fun u wz hb hd => ?_, fun u wz hb hd => ?_, fun u wz hb hd => ?_, fun u wz hb hd => ?_, fun u wz hb hd => ?_, fun u wz hb hd => ?_, fun u wz hb hd => ?_, trivial⟩
    all_goals simp only [Act.put, List.setIfInBounds_toArray, List.set_cons_zero, List.set_cons_succ]
    · go_simp
      exact ⟨rfl, Below.refl _ _, fun h => by cases h⟩
    · have c1' := (hb.cell (p := ⟨Bk, 0, none⟩) (lt_of_cell c1)).trans c1
      go_simp
      exact ⟨rfl, Below.refl _ _, fun h => by cases h⟩
    · have c2' := (hb.cell (p := ⟨Be, 0, none⟩) (lt_of_cell c2)).trans c2
      go_simp
      exact ⟨rfl, Below.refl _ _, fun h => by cases h⟩
    · have c3' := (hb.cell (p := ⟨Bn, 0, none⟩) (lt_of_cell c3)).trans c3
      go_simp
      exact ⟨rfl, Below.refl _ _, fun h => by cases h⟩
    · have e2 : u 2 = .int .i64 E := hd 2 (by omega) (by kernel_rfl)
      have e3 : u 3 = .int .i64 (n : Int) := hd 3 (by omega) (by kernel_rfl)
      rw [e2, e3]
      go_simp
      rw [show IntKind.i64.wrap (E + (n : Int)) = E + (n : Int) by rw [IntKind.wrap_i64]; omega]
      exact ⟨rfl, Below.refl _ _, fun h => by cases h⟩
    · have e4 : u 4 = .int .i64 (E + (n : Int)) := hd 4 (by omega) (by kernel_rfl)
      rw [e4]
      go_simp
      rw [show IntKind.i64.wrap (E + (n : Int) - 1) = E + (n : Int) - 1 by rw [IntKind.wrap_i64]; omega]
      exact ⟨rfl, Below.refl _ _, fun h => by cases h⟩
    · have c3' := (hb.cell (p := ⟨Bn, 0, none⟩) (lt_of_cell c3)).trans c3
      go_simp
      exact ⟨rfl, Below.refl _ _, fun h => by cases h⟩
    · have e5 : u 5 = .int .i64 (E + (n : Int) - 1) := hd 5 (by omega) (by kernel_rfl)
      have e6 : u 6 = .int .i64 (n : Int) := hd 6 (by omega) (by kernel_rfl)
      rw [e5, e6]
      have hn0 : ¬ n = 0 := by omega
      go_simp
      rw [show IntKind.i64.wrap ((E + (n : Int) - 1).tdiv n) = (E + (n : Int) - 1).tdiv n by rw [IntKind.wrap_i64]; omega]
      exact ⟨rfl, Below.refl _ _, fun h => by cases h⟩
    · have c3' := (hb.cell (p := ⟨Bn, 0, none⟩) (lt_of_cell c3)).trans c3
      go_simp
      exact ⟨rfl, Below.refl _ _, fun h => by cases h⟩
    · have e0 : u 0 = .slice a l c := hd 0 (by omega) (by kernel_rfl)
      have e1 : u 1 = .int .i64 (k : Int) := hd 1 (by omega) (by kernel_rfl)
      have e7 : u 7 = .int .i64 ((E + (n : Int) - 1).tdiv n) := hd 7 (by omega) (by kernel_rfl)
      have e8 : u 8 = .int .i64 (n : Int) := hd 8 (by omega) (by kernel_rfl)
      rw [e0, e1, e7, e8]
      go_simp
      refine (HI.out wz hb).mono ?_
      rintro e w2 ⟨⟨x, m, d, rfl, hl⟩, hb2⟩
      exact ⟨⟨x, m, d, rfl, hl.mono hb.size⟩, hb2, fun h => by cases h⟩
  case rest =>
    intro u wz hb hf hp
    have f0 : u 0 = .slice a l c := hf 0 (by omega)
    have f1 : u 1 = .int .i64 (k : Int) := hf 1 (by omega)
    have f2 : u 2 = .int .i64 E := hf 2 (by omega)
    have f3 : u 3 = .int .i64 (n : Int) := hf 3 (by omega)
    have f4 : u 4 = .int .i64 (E + (n : Int)) := hf 4 (by omega)
    have f5 : u 5 = .int .i64 (E + (n : Int) - 1) := hf 5 (by omega)
    have f6 : u 6 = .int .i64 (n : Int) := hf 6 (by omega)
    have f7 : u 7 = .int .i64 ((E + (n : Int) - 1).tdiv n) := hf 7 (by omega)
    have f8 : u 8 = .int .i64 (n : Int) := hf 8 (by omega)
    obtain ⟨x, m, d, f9, hl⟩ := hf 9 (by omega)
    refine UptoW.rest 1 10 (by rfl) (by kernel_rfl) ?_
    simp only [List.take, List.drop, putOps, Act.put, List.setIfInBounds_toArray, List.set_cons_zero, List.set_cons_succ, Nat.reduceAdd, f0, f1, f2, f3, f4, f5, f6, f7, f8, f9]
    clear f0 f1 f2 f3 f4 f5 f6 f7 f8 f9 hf hp
    have HL := hide hl
    have HB := hide hb
    clear hl hb
    go_wp2_with fail
    go_ret
    exact ⟨⟨x, m, d, rfl, HL.out⟩, HB.out⟩
set_option maxRecDepth 100000 in
set_option maxHeartbeats 4000000 in
theorem strip2_any (q : RW) (x : List Int × Int) (Bk Bn k n : Nat) (w : World) (h : RG w q x) (hk : k < q.cl) (h4 : q.cl ≤ 1000) (hc : ∀ c ∈ x.1, -1048576 ≤ c ∧ c ≤ 1048576) (hn : n ≤ 4096) (c1 : w.cell? ⟨Bk, 0, none⟩ = some (.int .i64 (k : Int))) (c3 : w.cell? ⟨Bn, 0, none⟩ = some (.int .i64 (n : Int))) :
    Calls Try.prog 76 #[q.v, .pointer (some ⟨Bk, 0, none⟩), .pointer (some ⟨Bn, 0, none⟩)] w fun e w' => (∃ u : RW, e = .returned u.v ∧ Lies w.heap.size (fun V => RG V u (stripR k n x)) w') ∧ Below w.heap.size w w' := by
  obtain ⟨b, off, ea, hb0, hcells⟩ := h.coef.at (by omega)
  have hkl : k < x.1.length := by rw [h.coef.1]; exact hk
  obtain ⟨C, hC⟩ : ∃ C, C = x.1[k]?.getD 0 := ⟨_, rfl⟩
  have hCb := hc _ (mem_getD x.1 k hkl)
  rw [← hC] at hCb
  have ck0 := hcells k hk
  rw [← hC] at ck0
  have hmul : -4294967296 ≤ (n : Int) * C ∧ (n : Int) * C ≤ 4294967296 := by
    have := Int.mul_le_mul_of_nonneg_left hCb.1 (show (0 : Int) ≤ n by omega)
    have := Int.mul_le_mul_of_nonneg_left hCb.2 (show (0 : Int) ≤ n by omega)
    omega
  have B1 : Below w.heap.size w ((w.alloc (.cells #[.slice q.ca q.cl q.cc, .int .i64 q.con] 66)).alloc (.cells #[.slice none 0 0, .int .i64 0] 66)) := bl_on (bl_new _) (bl_new _)
  have P1 : ((w.alloc (.cells #[.slice q.ca q.cl q.cc, .int .i64 q.con] 66)).alloc (.cells #[.slice none 0 0, .int .i64 0] 66)).heap[w.heap.size]? = some (.cells #[.slice q.ca q.cl q.cc, .int .i64 q.con] 66 (0, 0)) := (Below.heap_alloc _ _ _ (by simp)).trans (World.alloc_heap_new _ _)
  have P2 : ((w.alloc (.cells #[.slice q.ca q.cl q.cc, .int .i64 q.con] 66)).alloc (.cells #[.slice none 0 0, .int .i64 0] 66)).heap[w.heap.size + 1]? = some (.cells #[.slice none 0 0, .int .i64 0] 66 (0, 0)) := by have := World.alloc_heap_new (w.alloc (.cells #[.slice q.ca q.cl q.cc, .int .i64 q.con] 66)) (.cells #[.slice none 0 0, .int .i64 0] 66); simpa using this
  obtain ⟨W1, hW1⟩ : ∃ W1, W1 = (w.alloc (.cells #[.slice q.ca q.cl q.cc, .int .i64 q.con] 66)).alloc (.cells #[.slice none 0 0, .int .i64 0] 66) := ⟨_, rfl⟩
  rw [← hW1] at B1 P1 P2
  have HZ : Hid (W1.heap.size = w.heap.size + 2) := by rw [Hid, hW1]; simp
  have HI := hide (fun W (hb : Below W1.heap.size W1 W) => instead_any q.ca q.cl q.cc x.1 k ((n : Int) * C) C W (⟨h.coef.below (bl_on B1 hb), h.cap⟩) hk h4 (by unfold B64; omega) (by unfold B64; omega))
  rw [ea] at HI P1 hW1
  have p0 : W1.cell? ⟨w.heap.size, 0, none⟩ = some (.slice (some ⟨b, off, none⟩) q.cl q.cc) := by simp only [World.cell?, P1]; rfl
  have p1 : W1.cell? ⟨w.heap.size, 1, none⟩ = some (.int .i64 q.con) := by simp only [World.cell?, P1]; rfl
  have ck := (B1.cell (p := ⟨b, off + k, none⟩) hb0).trans ck0
  have c1' := (B1.cell (p := ⟨Bk, 0, none⟩) (lt_of_cell c1)).trans c1
  have c3' := (B1.cell (p := ⟨Bn, 0, none⟩) (lt_of_cell c3)).trans c3
  have HX : Hid (stripR k n x = (x.1.take k ++ ((n : Int) * C) :: C :: x.1.drop (k + 1), x.2)) := by
    rw [Hid, stripR, ← hC, Int.mul_comm]
  rw [HX.out]
  have HCON := hide (And.intro h.con h.bd)
  have HP2 := hide P2
  have HB := hide B1
  have HW1 := hide hW1
  clear h hcells hkl hC hc B1 P1 P2 hW1 c1 c3 ck0
  have c1 := c1'
  have c3 := c3'
  clear c1' c3'
  unfold RW.v
  rw [ea]
  clear ea
  go_enter Try.func76, Try.ntmps76
  go_wp2_with fail
  rw [← HW1.out]
  refine region_made 18 26 [fIs (.pointer (some ⟨w.heap.size, 0, none⟩)), fIs (.slice (some ⟨b, off, none⟩) q.cl q.cc), fIs (.int .i64 (k : Int)), fIs (.int .i64 (n : Int)), fIs (.pointer (some ⟨w.heap.size, 0, none⟩)), fIs (.slice (some ⟨b, off, none⟩) q.cl q.cc), fIs (.int .i64 (k : Int)), fIs (.pointer (some ⟨b, off + k, none⟩)), fIs (.int .i64 C), fIs (.int .i64 ((n : Int) * C)), fIs (.pointer (some ⟨w.heap.size, 0, none⟩)), fIs (.slice (some ⟨b, off, none⟩) q.cl q.cc), fIs (.int .i64 (k : Int)), fIs (.pointer (some ⟨b, off + k, none⟩)), fIs (.int .i64 C), fBox W1.heap.size (x.1.take k ++ ((n : Int) * C) :: C :: x.1.drop (k + 1)), fIs (.pointer (some ⟨w.heap.size, 1, none⟩)), fIs (.int .i64 q.con)] (by kernel_rfl) (by kernel_rfl) (by kernel_rfl) (fun _ ⟨_, _⟩ ⟨_, _⟩ _ e h => by cases e; exact h) ⟨fIs_good _, fIs_good _, fIs_good _, fIs_good _, fIs_good _, fIs_good _, fIs_good _, fIs_good _, fIs_good _, fIs_good _, fIs_good _, fIs_good _, fIs_good _, fIs_good _, fIs_good _, fBox_good _ _, fIs_good _, fIs_good _, trivial⟩ ?mk ?rest
  case mk =>
    refine ⟨fun u wz hb hd => ?_, fun u wz hb hd => ?_, fun u wz hb hd => ?_, fun u wz hb hd => ?_, fun u wz hb hd => ?_, fun u wz hb hd => ?_, fun u wz hb hd => ?_, fun u wz hb hd => ?_, fun u wz hb hd => ?_, fun u wz hb hd => ?_, fun u wz hb hd => ?_, fun u wz hb hd => ?_, fun u wz hb hd => ?_, fun u wz hb hd => ?_, fun u wz hb hd => ?_, fun u wz hb hd => ?_, fun u wz hb hd => ?_, fun u wz hb hd => ?_, trivial⟩
    all_goals simp only [Act.put, List.setIfInBounds_toArray, List.set_cons_zero, List.set_cons_succ]
    · go_simp
      exact ⟨rfl, Below.refl _ _, fun h => by cases h⟩
    · have e0 : u 0 = .pointer (some ⟨w.heap.size, 0, none⟩) := hd 0 (by omega) (by kernel_rfl)
      rw [e0]
      have p0' := (hb.cell (p := ⟨w.heap.size, 0, none⟩) (lt_of_cell p0)).trans p0
      go_simp
      exact ⟨rfl, Below.refl _ _, fun h => by cases h⟩
    · have c1' := (hb.cell (p := ⟨Bk, 0, none⟩) (lt_of_cell c1)).trans c1
      go_simp
      exact ⟨rfl, Below.refl _ _, fun h => by cases h⟩
    · have c3' := (hb.cell (p := ⟨Bn, 0, none⟩) (lt_of_cell c3)).trans c3
      go_simp
      exact ⟨rfl, Below.refl _ _, fun h => by cases h⟩
    · go_simp
      exact ⟨rfl, Below.refl _ _, fun h => by cases h⟩
    · have e4 : u 4 = .pointer (some ⟨w.heap.size, 0, none⟩) := hd 4 (by omega) (by kernel_rfl)
      rw [e4]
      have p0' := (hb.cell (p := ⟨w.heap.size, 0, none⟩) (lt_of_cell p0)).trans p0
      go_simp
      exact ⟨rfl, Below.refl _ _, fun h => by cases h⟩
    · have c1' := (hb.cell (p := ⟨Bk, 0, none⟩) (lt_of_cell c1)).trans c1
      go_simp
      exact ⟨rfl, Below.refl _ _, fun h => by cases h⟩
    · have e5 : u 5 = .slice (some ⟨b, off, none⟩) q.cl q.cc := hd 5 (by omega) (by kernel_rfl)
      have e6 : u 6 = .int .i64 (k : Int) := hd 6 (by omega) (by kernel_rfl)
      rw [e5, e6]
      have hkz : (k : Int) < (q.cl : Int) := by omega
      go_simp
      exact ⟨rfl, Below.refl _ _, fun h => by cases h⟩
    · have e7 : u 7 = .pointer (some ⟨b, off + k, none⟩) := hd 7 (by omega) (by kernel_rfl)
      rw [e7]
      have ck' := (hb.cell (p := ⟨b, off + k, none⟩) (lt_of_cell ck)).trans ck
      go_simp
      exact ⟨rfl, Below.refl _ _, fun h => by cases h⟩
    · have e3 : u 3 = .int .i64 (n : Int) := hd 3 (by omega) (by kernel_rfl)
      have e8 : u 8 = .int .i64 C := hd 8 (by omega) (by kernel_rfl)
      rw [e3, e8]
      go_simp
      rw [show IntKind.i64.wrap ((n : Int) * C) = (n : Int) * C by rw [IntKind.wrap_i64]; omega]
      exact ⟨rfl, Below.refl _ _, fun h => by cases h⟩
    · go_simp
      exact ⟨rfl, Below.refl _ _, fun h => by cases h⟩
    · have e10 : u 10 = .pointer (some ⟨w.heap.size, 0, none⟩) := hd 10 (by omega) (by kernel_rfl)
      rw [e10]
      have p0' := (hb.cell (p := ⟨w.heap.size, 0, none⟩) (lt_of_cell p0)).trans p0
      go_simp
      exact ⟨rfl, Below.refl _ _, fun h => by cases h⟩
    · have c1' := (hb.cell (p := ⟨Bk, 0, none⟩) (lt_of_cell c1)).trans c1
      go_simp
      exact ⟨rfl, Below.refl _ _, fun h => by cases h⟩
    · have e11 : u 11 = .slice (some ⟨b, off, none⟩) q.cl q.cc := hd 11 (by omega) (by kernel_rfl)
      have e12 : u 12 = .int .i64 (k : Int) := hd 12 (by omega) (by kernel_rfl)
      rw [e11, e12]
      have hkz : (k : Int) < (q.cl : Int) := by omega
      go_simp
      exact ⟨rfl, Below.refl _ _, fun h => by cases h⟩
    · have e13 : u 13 = .pointer (some ⟨b, off + k, none⟩) := hd 13 (by omega) (by kernel_rfl)
      rw [e13]
      have ck' := (hb.cell (p := ⟨b, off + k, none⟩) (lt_of_cell ck)).trans ck
      go_simp
      exact ⟨rfl, Below.refl _ _, fun h => by cases h⟩
    · have e1 : u 1 = .slice (some ⟨b, off, none⟩) q.cl q.cc := hd 1 (by omega) (by kernel_rfl)
      have e2 : u 2 = .int .i64 (k : Int) := hd 2 (by omega) (by kernel_rfl)
      have e9 : u 9 = .int .i64 ((n : Int) * C) := hd 9 (by omega) (by kernel_rfl)
      have e14 : u 14 = .int .i64 C := hd 14 (by omega) (by kernel_rfl)
      rw [e1, e2, e9, e14]
      go_simp
      refine (HI.out wz hb).mono ?_
      rintro e w2 ⟨⟨x, m, d, rfl, hl⟩, hb2⟩
      exact ⟨⟨x, m, d, rfl, hl.mono (Nat.le_trans (Nat.le_of_eq HZ.out) (Nat.le_trans (Nat.le_of_eq HZ.out.symm) hb.size))⟩, hb2, fun h => by cases h⟩
    · go_simp
      exact ⟨rfl, Below.refl _ _, fun h => by cases h⟩
    · have e16 : u 16 = .pointer (some ⟨w.heap.size, 1, none⟩) := hd 16 (by omega) (by kernel_rfl)
      rw [e16]
      have p1' := (hb.cell (p := ⟨w.heap.size, 1, none⟩) (lt_of_cell p1)).trans p1
      go_simp
      exact ⟨rfl, Below.refl _ _, fun h => by cases h⟩
  case rest =>
    intro u wz hb hf hp
    have f0 : u 0 = .pointer (some ⟨w.heap.size, 0, none⟩) := hf 0 (by omega)
    have f1 : u 1 = .slice (some ⟨b, off, none⟩) q.cl q.cc := hf 1 (by omega)
    have f2 : u 2 = .int .i64 (k : Int) := hf 2 (by omega)
    have f3 : u 3 = .int .i64 (n : Int) := hf 3 (by omega)
    have f4 : u 4 = .pointer (some ⟨w.heap.size, 0, none⟩) := hf 4 (by omega)
    have f5 : u 5 = .slice (some ⟨b, off, none⟩) q.cl q.cc := hf 5 (by omega)
    have f6 : u 6 = .int .i64 (k : Int) := hf 6 (by omega)
    have f7 : u 7 = .pointer (some ⟨b, off + k, none⟩) := hf 7 (by omega)
    have f8 : u 8 = .int .i64 C := hf 8 (by omega)
    have f9 : u 9 = .int .i64 ((n : Int) * C) := hf 9 (by omega)
    have f10 : u 10 = .pointer (some ⟨w.heap.size, 0, none⟩) := hf 10 (by omega)
    have f11 : u 11 = .slice (some ⟨b, off, none⟩) q.cl q.cc := hf 11 (by omega)
    have f12 : u 12 = .int .i64 (k : Int) := hf 12 (by omega)
    have f13 : u 13 = .pointer (some ⟨b, off + k, none⟩) := hf 13 (by omega)
    have f14 : u 14 = .int .i64 C := hf 14 (by omega)
    obtain ⟨X, m, d, f15, hl⟩ := hf 15 (by omega)
    have f16 : u 16 = .pointer (some ⟨w.heap.size, 1, none⟩) := hf 16 (by omega)
    have f17 : u 17 = .int .i64 q.con := hf 17 (by omega)
    refine UptoW.rest 2 18 (by rfl) (by kernel_rfl) ?_
    simp only [List.take, List.drop, putOps, Act.put, List.setIfInBounds_toArray, List.set_cons_zero, List.set_cons_succ, Nat.reduceAdd, f0, f1, f2, f3, f4, f5, f6, f7, f8, f9, f10, f11, f12, f13, f14, f15, f16, f17]
    clear f0 f1 f2 f3 f4 f5 f6 f7 f8 f9 f10 f11 f12 f13 f14 f15 f16 f17 hf hp
    have HL := hide hl
    have e5 : wz.heap[w.heap.size + 1]? = some (.cells #[.slice none 0 0, .int .i64 0] 66 (0, 0)) := (hb.block _ (by have := HZ.out; omega)).trans HP2.out
    have y0 : wz.cell? ⟨w.heap.size + 1, 0, none⟩ = some (.slice none 0 0) := by simp only [World.cell?, e5]; rfl
    have y1 : wz.cell? ⟨w.heap.size + 1, 1, none⟩ = some (.int .i64 0) := by simp only [World.cell?, e5]; rfl
    have g0 : wz.frozen? ⟨w.heap.size + 1, 0, none⟩ = false := by simp [World.frozen?, e5]
    have g1 : wz.frozen? ⟨w.heap.size + 1, 1, none⟩ = false := by simp [World.frozen?, e5]
    have z5 : w.heap.size + 1 < wz.heap.size := by have := hb.size; have := HZ.out; omega
    have HE5 := hide e5
    have HB3 := hide (bl_on HB.out hb)
    clear hl hb e5 p0 p1 ck c1 c3
    go_wp2_with fail
    obtain ⟨W6, hW6⟩ : ∃ W6, W6 = (wz.setCell ⟨w.heap.size + 1, 0, none⟩ (.slice X m d)).setCell ⟨w.heap.size + 1, 1, none⟩ (.int .i64 q.con) := ⟨_, rfl⟩
    rw [← hW6]
    have e6 : W6.heap[w.heap.size + 1]? = some (.cells #[.slice X m d, .int .i64 q.con] 66 (0, 0)) := by
      rw [hW6]
      simp [World.setCell, Array.getElem?_modify, HE5.out]
    have x0 : W6.cell? ⟨w.heap.size + 1, 0, none⟩ = some (.slice X m d) := by simp only [World.cell?, e6]; rfl
    have x1 : W6.cell? ⟨w.heap.size + 1, 1, none⟩ = some (.int .i64 q.con) := by simp only [World.cell?, e6]; rfl
    have hLs := (HL.out.set (p := ⟨w.heap.size + 1, 0, none⟩) (by have := HZ.out; simp only; omega) (.slice X m d)).set (p := ⟨w.heap.size + 1, 1, none⟩) (by have := HZ.out; simp only; omega) (.int .i64 q.con)
    rw [← hW6] at hLs
    refine bodyPost_ret (v := (⟨X, m, d, q.con⟩ : RW).v) (by simp [results, Try.results76, go_sem, x0, x1, RW.v]) rfl ⟨⟨⟨X, m, d, q.con⟩, rfl, ?_⟩, ?_⟩
    · have hz := HZ.out
      refine (hLs.mono (by omega)).imp (fun V hV => ⟨HCON.out.1, hV.1, hV.2, HCON.out.2⟩)
    · rw [hW6]
      exact (HB3.out.setCell (p := ⟨w.heap.size + 1, 0, none⟩) (by simp only; omega) _).setCell (p := ⟨w.heap.size + 1, 1, none⟩) (by simp only; omega) _
end Go.Proofs.Ytoidgdbgpbcebaa.V
namespace Go.Proofs.Ytoidgdbgpbcebaa.V
open Go.RowKit
set_option linter.unusedVariables false

theorem rowFresh_fn (r : RW) (x : List Int × Int) (W : World) (h : RG W r x) (h4 : x.1.length ≤ 4) : RowFn 73 #[] r x W := fun V hV => by
  have hx := h.below hV
  have hl := hx.coef.1
  rw [Array.append_empty]
  refine (fresh1_any r.ca r.cl r.cc x.1 r.con V hx.coef (by omega)).mono ?_
  rintro e w' ⟨⟨g, rfl, hr, hg⟩, hb⟩
  refine ⟨⟨⟨some ⟨g, 0, none⟩, r.cl, r.cl, r.con⟩, rfl, ?_⟩, hb⟩
  exact (lies_row hr (by omega)).imp (fun U hU => ⟨hx.con, ints_of_rowI hU hl hx.coef.2.1 hx.coef.2.2.1, ⟨Nat.le_refl _, fun e => by cases e⟩, hx.bd⟩)
theorem remS_id (s : Stm) : remS s s.box (fun x => x) = s := by
  cases s
  simp [remS]
theorem stm_sizes {w : World} {q : SW} {s : Stm} {n : Nat} (hq : SG w q s) (ho : StmOk n s) : q.rl ≤ 8 ∧ q.gl ≤ 3 ∧ q.bl ≤ 4 ∧ ∀ x, (x ∈ s.rows ∨ x = s.put.2 ∨ ∃ a ∈ s.gets, x = a.2) → x.1.length = s.box.length ∧ ∀ c ∈ x.1, -1048576 ≤ c ∧ c ≤ 1048576 := by
  have hp := ptE_ok ho.pt
  have h1 := hp.many
  have h2 := hp.rank
  have h3 := takes_bd s.kind
  have h4 := ho.takes
  have h5 := hq.rows.1
  have h6 := hq.gets.1
  have h7 := hq.box.1.1
  refine ⟨by omega, by omega, by omega, fun x hx => ?_⟩
  rcases hx with hx | rfl | ⟨a, ha, rfl⟩
  · exact ⟨(hp.rows x hx).1, (hp.rows x hx).2.2⟩
  · exact ⟨ho.put.len, ho.put.coef⟩
  · exact ⟨(ho.gets a ha).len, (ho.gets a ha).coef⟩
set_option maxRecDepth 100000 in
set_option maxHeartbeats 4000000 in
theorem sFresh_any (q : SW) (s : Stm) (n : Nat) (w : World) (hq : SG w q s) (ho : StmOk n s) :
    Calls Try.prog 40 #[q.v] w fun e w' => (∃ u : SW, e = .returned u.v ∧ Lies w.heap.size (fun V => SG V u s) w') ∧ Below w.heap.size w w' := by
  obtain ⟨z1, z2, z3, z4⟩ := stm_sizes hq ho
  have h4 := (ptE_ok ho.pt).rank
  have B1 : Below w.heap.size w ((w.alloc (.cells q.cs 71)).alloc (.cells swD.cs 71)) := bl_on (bl_new _) (bl_new _)
  have P1 : q.blk ((w.alloc (.cells q.cs 71)).alloc (.cells swD.cs 71)) w.heap.size := (q.new w).below (bl_new _)
  have P2 := SW.new swD (w.alloc (.cells q.cs 71))
  rw [World.size_alloc] at P2
  obtain ⟨W1, hW1⟩ : ∃ W1, W1 = (w.alloc (.cells q.cs 71)).alloc (.cells swD.cs 71) := ⟨_, rfl⟩
  rw [← hW1] at B1 P1 P2
  have HZ : Hid (W1.heap.size = w.heap.size + 2) := by rw [Hid, hW1]; simp
  have HC := hide (remade_any q s s.box (fun x => x) 38 #[] 73 #[] (enters_of Try.func38 (by kernel_rfl) rfl) (enters_of Try.func73 (by kernel_rfl) rfl) W1 (hq.below B1) z1 z2 (fun W hb => by
    rw [Array.append_empty]
    refine (fresh_any q.ba q.bl q.bc s.box W ((hq.box.below (bl_on B1 hb)).1) (by omega)).mono ?_
    rintro e w' ⟨⟨g, rfl, hr, hg⟩, hb'⟩
    refine ⟨⟨_, _, _, rfl, (lies_row hr hg).imp (fun V hV => ⟨ints_of_rowI hV hq.box.1.1 hq.box.1.2.1 hq.box.1.2.2.1, Nat.le_refl _, fun e => by cases e⟩)⟩, hb'⟩) (fun W hb r x hx hr => rowFresh_fn r x W hr (by rw [(z4 x hx).1]; omega)))
  obtain ⟨p0, p1, p2, p3, p4, p5, p6, p7⟩ := P1.cells
  have zz := P1.lt
  have HP2 := hide P2
  have HB := hide B1
  have HW1 := hide hW1
  clear hq ho z1 z2 z3 z4 h4 B1 P1 P2 hW1
  unfold SW.v SW.cs at HC
  unfold SW.v SW.cs
  unfold SW.cs swD at HW1
  go_enter Try.func40, Try.ntmps40
  go_wp2_with fail
  rw [← HW1.out]
  go_wp2_with fail
  refine HC.out.mono ?_
  rintro e w2 ⟨⟨u, rfl, hR⟩, hb⟩
  have HR := hide hR
  have HB2 := hide (bl_on HB.out hb)
  have P7 := HP2.out.below hb
  have HP7 := hide P7
  have hs := hb.size
  clear hR hb p0 p1 p2 p3 p4 p5 p6 p7
  obtain ⟨y0, y1, y2, y3, y4, y5, y6, y7⟩ := P7.cells
  have g0 := P7.free 0
  have g1 := P7.free 1
  have g2 := P7.free 2
  have g3 := P7.free 3
  have g4 := P7.free 4
  have g5 := P7.free 5
  have g6 := P7.free 6
  have g7 := P7.free 7
  have z6 := P7.lt
  unfold swD at y0 y1 y2 y3 y4 y5 y6 y7
  clear P7
  go_wp2_with fail
  obtain ⟨W5, hW5⟩ : ∃ W5, W5 = putS8 w2 (w.heap.size + 1) u := ⟨_, rfl⟩
  have hW5' := hW5
  unfold putS8 at hW5'
  rw [← hW5']
  have P9 : u.blk W5 (w.heap.size + 1) := by rw [hW5]; exact putS8_blk HP7.out
  obtain ⟨x0, x1, x2, x3, x4, x5, x6, x7⟩ := P9.cells
  refine bodyPost_ret (v := u.v) (by simp [results, Try.results40, go_sem, x0, x1, x2, x3, x4, x5, x6, x7, SW.v, SW.cs]) rfl ⟨⟨u, rfl, ?_⟩, ?_⟩
  · obtain ⟨R, us, _, _, hl⟩ := HR.out
    have hz := HZ.out
    have hL := hl.keep (putS8_keep (b := w.heap.size + 1) (by omega) u)
    rw [← hW5] at hL
    refine (hL.mono (by omega)).imp (fun V hV => ?_)
    have := hV.1
    rw [remS_id] at this
    exact this
  · rw [hW5]
    exact putS8_below HB2.out (by omega) _
end Go.Proofs.Ytoidgdbgpbcebaa.V
namespace Go.Proofs.Ytoidgdbgpbcebaa.V
open Go.RowKit
set_option linter.unusedVariables false

/-- Noughts in a row of the call's own. -/
def fZero (N l : Nat) : Fact := ⟨fun v w => ∃ g : Nat, v = .slice (some ⟨g, 0, none⟩) l l ∧ w.rowIs g 3 l (fun _ => .int .i64 0) ∧ N ≤ g, false⟩
theorem fZero_good (N l : Nat) : (fZero N l).Good := ⟨fun _ _ _ ⟨g, h1, h2, h3⟩ hb => ⟨g, h1, h2.of_block (hb.block g h2.lt), h3⟩, fun h => by cases h⟩
def fZeroR (N l : Nat) (K : Int) : Fact := ⟨fun v w => ∃ g : Nat, v = .agg #[.slice (some ⟨g, 0, none⟩) l l, .int .i64 K] ∧ w.rowIs g 3 l (fun _ => .int .i64 0) ∧ N ≤ g, false⟩
theorem fZeroR_good (N l : Nat) (K : Int) : (fZeroR N l K).Good := ⟨fun _ _ _ ⟨g, h1, h2, h3⟩ hb => ⟨g, h1, h2.of_block (hb.block g h2.lt), h3⟩, fun h => by cases h⟩
def fNewRow (N : Nat) : Fact := ⟨fun v w => ∃ g : Nat, v = .pointer (some ⟨g, 0, none⟩) ∧ w.heap[g]? = some (.cells #[.slice none 0 0, .int .i64 0] 66 (0, 0)) ∧ N ≤ g, false⟩
theorem fNewRow_good (N : Nat) : (fNewRow N).Good := ⟨fun _ _ _ ⟨g, h1, h2, h3⟩ hb => ⟨g, h1, (hb.block g (Array.getElem?_eq_some_iff.1 h2).1).trans h2, h3⟩, fun h => by cases h⟩
theorem cell_of_blk {W : World} {b : Nat} {v : Value} {t : TypeId} (h : W.heap[b]? = some (.cells #[v] t (0, 0))) : W.cell? ⟨b, 0, none⟩ = some v := by simp only [World.cell?, h]; rfl
/-- The last row's numbers. -/
theorem last_row {W : World} {g k l n : Nat} {xs : List Int} (h : W.rowIs g 3 l (fun j => if j = k + 1 then .int .i64 (-1) else if j = k then .int .i64 (-(n : Int)) else .int .i64 0)) (hl : xs.length + 1 = l) (hk : k < xs.length) : RowI W g l ((xs.take k).map (fun _ => 0) ++ (-(n : Int)) :: (-1) :: (xs.drop (k + 1)).map (fun _ => 0)) := by
  unfold RowI
  obtain ⟨c, h1, h2, h3⟩ := h
  refine ⟨c, h1, h2, fun i hi => ?_⟩
  rw [h3 i hi]
  dsimp only
  have hlt : ((xs.take k).map (fun _ => (0 : Int))).length = k := by simp; omega
  by_cases e1 : i = k + 1
  · subst e1
    rw [if_pos rfl, List.getElem?_append_right (by rw [hlt]; omega), hlt]
    simp
  · rw [if_neg e1]
    by_cases e2 : i = k
    · subst e2
      rw [if_pos rfl, List.getElem?_append_right (by rw [hlt]; omega), hlt]
      simp
    · rw [if_neg e2]
      by_cases e3 : i < k
      · rw [List.getElem?_append_left (by rw [hlt]; exact e3), List.getElem?_map]
        cases (xs.take k)[i]? <;> rfl
      · rw [List.getElem?_append_right (by rw [hlt]; omega), hlt]
        obtain ⟨j, rfl⟩ : ∃ j, i = k + 2 + j := ⟨i - (k + 2), by omega⟩
        rw [show k + 2 + j - k = j + 2 by omega, List.getElem?_cons_succ, List.getElem?_cons_succ, List.getElem?_map]
        cases (xs.drop (k + 1))[j]? <;> rfl
theorem out_cells {V : World} {R l : Nat} {us : Nat → RW} (h : OutR V R l us l) : ∀ j v, (rowCs us l)[j]? = some v → V.cell? ⟨R, j, none⟩ = some v := by
  obtain ⟨f, h1, h2⟩ := h
  intro j v hj
  have hlt : j < l * 2 := by have := (List.getElem?_eq_some_iff.1 hj).1; rwa [rowCs_len] at this
  rw [h1.cell hlt, ← hj]
  obtain ⟨e0, e1⟩ := h2 (j / 2) (by omega)
  obtain ⟨k0, k1⟩ := rowCs_at us l (j / 2) (by omega)
  by_cases e : j % 2 = 0
  · have ej : j = j / 2 * 2 := by omega
    rw [ej, k0, e0]
  · have ej : j = j / 2 * 2 + 1 := by omega
    rw [ej, k1, e1]
/-- Rows with one more behind them. -/
theorem own_rws {W : World} {B l : Nat} {us : Nat → RW} {v : Value} {rs : List (List Int × Int)} {u : RW} {r : List Int × Int} (h : W.ownsRow B 66 2 v (l + 1) (rowCs us l ++ [.slice u.ca u.cl u.cc, .int .i64 u.con])) (hl : rs.length = l) (hm : l + 1 ≤ 9223372036854775807) :
    ∃ g c, v = .slice (some ⟨g, 0, none⟩) (l + 1) c ∧ (B ≤ g ∧ ∃ cur, W.heap[g]? = some (.cells cur 66 (0, 0))) ∧ ∀ V : World, V.heap[g]? = W.heap[g]? → (∀ j, j < l → RG V (us j) (rs[j]?.getD ([], 0))) → RG V u r → Rws V (some ⟨g, 0, none⟩) (l + 1) (rs ++ [r]) := by
  rcases h.2 with ⟨_, e⟩ | ⟨g, cap, cur, rfl, hg, hbk, hcap, _, hsz, ht⟩
  · omega
  refine ⟨g, cap, rfl, ⟨hg, cur, hbk⟩, fun V hV h1 h2 => ?_⟩
  have hbk' := hV.trans hbk
  have hc : ∀ j, j < (l + 1) * 2 → V.cell? ⟨g, j, none⟩ = (rowCs us l ++ [.slice u.ca u.cl u.cc, .int .i64 u.con])[j]? := fun j hj => by
    have := congrArg (fun l => l[j]?) ht
    simp only [List.getElem?_take, if_pos hj] at this
    simp only [World.cell?, hbk']
    simpa using this
  refine ⟨by simp [hl], hm, .inr ⟨g, 0, rfl, fun j hj => ?_⟩⟩
  by_cases e : j < l
  · have g1 := h1 j e
    obtain ⟨k0, k1⟩ := rowCs_at us l j e
    have c0 := hc (j * 2) (by omega)
    have c1 := hc (j * 2 + 1) (by omega)
    rw [List.getElem?_append_left (by rw [rowCs_len]; omega), k0] at c0
    rw [List.getElem?_append_left (by rw [rowCs_len]; omega), k1, g1.con] at c1
    have er : (rs ++ [r])[j]?.getD ([], 0) = rs[j]?.getD ([], 0) := by rw [List.getElem?_append_left (by omega)]
    rw [er]
    exact ⟨_, _, _, by rw [Nat.zero_add]; exact c0, by rw [Nat.zero_add]; exact c1, g1.coef, g1.cap, g1.bd⟩
  · obtain rfl : j = l := by omega
    have g1 := h2
    have c0 := hc (j * 2) (by omega)
    have c1 := hc (j * 2 + 1) (by omega)
    rw [List.getElem?_append_right (by rw [rowCs_len]; omega), rowCs_len, show j * 2 - j * 2 = 0 by omega] at c0
    rw [List.getElem?_append_right (by rw [rowCs_len]; omega), rowCs_len, show j * 2 + 1 - j * 2 = 1 by omega] at c1
    simp only [List.getElem?_cons_zero, List.getElem?_cons_succ, g1.con] at c0 c1
    have er : (rs ++ [r])[j]?.getD ([], 0) = r := by rw [List.getElem?_append_right (by omega), hl]; simp
    rw [er]
    exact ⟨_, _, _, by rw [Nat.zero_add]; exact c0, by rw [Nat.zero_add]; exact c1, g1.coef, g1.cap, g1.bd⟩
/-- append(rows, row), where the rows are all that there is room for. -/
theorem append_full {w : World} {ops : Array Oper} {rest : List Oper} {op : Oper} {a : Act} {Q : Exit → Act → World → Prop} (hgd : op.guard = none) (s x : Operand)
    (ho : op.op = .call { callee := .builtin .append, args := #[s, x], argTypes := #[62, 62] }) (R l : Nat) (us : Nat → RW) (rs : List (List Int × Int)) (u : RW) (r : List Int × Int)
    (hs : a.eval s = .slice (some ⟨R, 0, none⟩) l l) (hx : a.eval x = .slice (some ⟨w.heap.size, 0, none⟩) 1 1) (hl : l ≤ 1000) (hX : OutR w R l us l) (hrs : rs.length = l)
    (h : ∀ (g c : Nat) (w' : World), (∀ V : World, V.heap[g]? = w'.heap[g]? → (∀ j, j < l → RG V (us j) (rs[j]?.getD ([], 0))) → RG V u r → Rws V (some ⟨g, 0, none⟩) (l + 1) (rs ++ [r])) → (w.heap.size ≤ g ∧ ∃ cur, w'.heap[g]? = some (.cells cur 66 (0, 0))) → Below w.heap.size w w' → wpList Try.prog ops Q rest (a.put op.dst (.slice (some ⟨g, 0, none⟩) (l + 1) c)) w') :
    wpList Try.prog ops Q (op :: rest) a (w.alloc (.cells #[.slice u.ca u.cl u.cc, .int .i64 u.con] 66)) := by
  obtain ⟨i0, hi, hz0, hz1, hz2⟩ := info_parts info_R
  have hb : Below w.heap.size w (w.alloc (.cells #[.slice u.ca u.cl u.cc, .int .i64 u.con] 66)) := bl_new _
  refine wpList_append_grows _ hgd s x 62 ho 66 i0 (.agg #[.slice none 0 0, .int .i64 0]) 2 32 Try.underlying62 hi hz0 hz1 hz2 rfl (by decide) (some ⟨R, 0, none⟩) l l (rowCs us l) hs (fun e => by cases e) (rowCs_len us l) ?_ ⟨w.heap.size, 0, none⟩ 1 1 [.slice u.ca u.cl u.cc, .int .i64 u.con] hx rfl ?_ ?_ (by omega) (by unfold maxLen; omega) (by omega) ?_
  · intro b e j v hj
    cases e
    rw [Go.WideShapes.add_plain]
    show (w.alloc (.cells #[.slice u.ca u.cl u.cc, .int .i64 u.con] 66)).cell? ⟨R, 0 + j, none⟩ = _
    rw [Nat.zero_add]
    exact out_cells (hX.below hb) j v hj
  · intro j v hj
    have hjl : j = 0 ∨ j = 1 := by have := (List.getElem?_eq_some_iff.1 hj).1; simp at this; omega
    rw [Go.WideShapes.add_plain]
    show (w.alloc (.cells #[.slice u.ca u.cl u.cc, .int .i64 u.con] 66)).cell? ⟨w.heap.size, 0 + j, none⟩ = _
    unfold World.cell?
    rw [World.alloc_heap_new w (.cells #[.slice u.ca u.cl u.cc, .int .i64 u.con] 66)]
    rcases hjl with rfl | rfl <;> simpa using hj
  · intro v hv
    simp at hv
    rcases hv with rfl | rfl <;> rfl
  · intro v' w' hown hg
    have hb2 := (Below.refl (w.alloc (.cells #[.slice u.ca u.cl u.cc, .int .i64 u.con] 66)).heap.size (w.alloc (.cells #[.slice u.ca u.cl u.cc, .int .i64 u.con] 66))).grown hg (Nat.le_refl _) (fun j e => by cases e)
    have hbb := bl_on hb hb2
    obtain ⟨g, c, rfl, hg2, hL⟩ := own_rws hown (rs := rs) (r := r) hrs (by omega)
    rw [World.size_alloc] at hg2
    exact h g c w' hL ⟨by omega, hg2.2⟩ hbb
theorem sw_row {q : SW} {W : World} {b : Nat} (h : q.blk W b) (a' : Option Addr) (l' c' : Nat) : (⟨q.ba, q.bl, q.bc, a', l', c', q.kd, q.va, q.pu, q.ga, q.gl, q.gc⟩ : SW).blk (W.setCell ⟨b, 1, none⟩ (.slice a' l' c')) b := by
  unfold SW.blk SW.cs at h ⊢
  simp [World.setCell, Array.getElem?_modify, h]
set_option maxRecDepth 100000 in
set_option maxHeartbeats 8000000 in
theorem stripped_any (q : SW) (s : Stm) (k n m : Nat) (w : World) (hq : SG w q s) (ho : StmOk m s) (hk : k < s.box.length) (hn : 1 ≤ n ∧ n ≤ 4096) :
    Calls Try.prog 41 #[q.v, .int .i64 (k : Int), .int .i64 (n : Int)] w fun e w' => (∃ u : SW, e = .returned u.v ∧ Lies w.heap.size (fun V => SG V u (stripS s k n)) w') ∧ Below w.heap.size w w' := by
  obtain ⟨z1, z2, z3, z4⟩ := stm_sizes hq ho
  have hp := ptE_ok ho.pt
  have h4 := hp.rank
  obtain ⟨E, hE⟩ : ∃ E, E = s.box[k]?.getD 0 := ⟨_, rfl⟩
  have hEb := hp.dims _ (mem_getD s.box k hk)
  rw [← hE] at hEb
  have hkl : k < q.bl := by rw [← hq.box.1.1]; exact hk
  obtain ⟨bb, boff, eba, hbb, hbc⟩ := hq.box.1.at (by omega)
  have cE0 := hbc k hkl
  rw [← hE] at cE0
  have B1 : Below w.heap.size w (((((w.alloc (.cells q.cs 71)).alloc (.cells #[.int .i64 (k : Int)] 3)).alloc (.cells #[.int .i64 (n : Int)] 3)).alloc (.cells swD.cs 71)).alloc (.cells #[.int .i64 E] 3)) := bl_on (bl_new _) (bl_on (bl_new _) (bl_on (bl_new _) (bl_on (bl_new _) (bl_new _))))
  have P1 : q.blk (((((w.alloc (.cells q.cs 71)).alloc (.cells #[.int .i64 (k : Int)] 3)).alloc (.cells #[.int .i64 (n : Int)] 3)).alloc (.cells swD.cs 71)).alloc (.cells #[.int .i64 E] 3)) w.heap.size := ((((q.new w).below (bl_new _)).below (bl_new _)).below (bl_new _)).below (bl_new _)
  obtain ⟨V1, hV1⟩ : ∃ V1, V1 = w.alloc (.cells q.cs 71) := ⟨_, rfl⟩
  rw [← hV1] at B1 P1
  have s1 : V1.heap.size = w.heap.size + 1 := by rw [hV1]; simp
  have K1 := World.alloc_heap_new V1 (.cells #[.int .i64 (k : Int)] 3)
  obtain ⟨V2, hV2⟩ : ∃ V2, V2 = V1.alloc (.cells #[.int .i64 (k : Int)] 3) := ⟨_, rfl⟩
  rw [← hV2] at B1 P1 K1
  have s2 : V2.heap.size = w.heap.size + 1 + 1 := by rw [hV2, World.size_alloc, s1]
  have K2 := World.alloc_heap_new V2 (.cells #[.int .i64 (n : Int)] 3)
  obtain ⟨V3, hV3⟩ : ∃ V3, V3 = V2.alloc (.cells #[.int .i64 (n : Int)] 3) := ⟨_, rfl⟩
  rw [← hV3] at B1 P1 K2
  have s3 : V3.heap.size = w.heap.size + 1 + 1 + 1 := by rw [hV3, World.size_alloc, s2]
  have K3 := SW.new swD V3
  obtain ⟨V4, hV4⟩ : ∃ V4, V4 = V3.alloc (.cells swD.cs 71) := ⟨_, rfl⟩
  rw [← hV4] at B1 P1 K3
  have s4 : V4.heap.size = w.heap.size + 1 + 1 + 1 + 1 := by rw [hV4, World.size_alloc, s3]
  have K4 := World.alloc_heap_new V4 (.cells #[.int .i64 E] 3)
  obtain ⟨W1, hW1⟩ : ∃ W1, W1 = V4.alloc (.cells #[.int .i64 E] 3) := ⟨_, rfl⟩
  rw [← hW1] at B1 P1 K4
  have s5 : W1.heap.size = w.heap.size + 1 + 1 + 1 + 1 + 1 := by rw [hW1, World.size_alloc, s4]
  have b45 : Below V4.heap.size V4 W1 := by rw [hW1]; exact bl_new _
  have b34 : Below V3.heap.size V3 V4 := by rw [hV4]; exact bl_new _
  have b23 : Below V2.heap.size V2 V3 := by rw [hV3]; exact bl_new _
  have b35 := bl_on b34 b45
  have b25 := bl_on b23 b35
  rw [s1] at K1
  rw [s2] at K2
  rw [s3] at K3
  rw [s4] at K4
  have K1' := (b25.block _ (by rw [s2]; omega)).trans K1
  have K2' := (b35.block _ (by rw [s3]; omega)).trans K2
  have K3' := K3.below b45
  have cK := cell_of_blk K1'
  have cN := cell_of_blk K2'
  have cE := cell_of_blk K4
  have b24 := bl_on b23 b34
  have cK4 := cell_of_blk ((b24.block _ (by rw [s2]; omega)).trans K1)
  have P14 : q.blk V4 w.heap.size := by
    rw [hV4, hV3, hV2, hV1]
    exact (((q.new w).below (bl_new _)).below (bl_new _)).below (bl_new _)
  have B4 : Below w.heap.size w V4 := by
    rw [hV4, hV3, hV2, hV1]
    exact bl_on (bl_new _) (bl_on (bl_new _) (bl_on (bl_new _) (bl_new _)))
  have hW4 : V4 = (((w.alloc (.cells q.cs 71)).alloc (.cells #[.int .i64 (k : Int)] 3)).alloc (.cells #[.int .i64 (n : Int)] 3)).alloc (.cells swD.cs 71) := by rw [hV4, hV3, hV2, hV1]
  have HC := hide (remade_any q s (s.box.take k ++ (ceilN E.toNat n : Int) :: (n : Int) :: s.box.drop (k + 1)) (stripR k n) 74 #[.pointer (some ⟨w.heap.size + 1, 0, none⟩), .pointer (some ⟨w.heap.size + 1 + 1 + 1 + 1, 0, none⟩), .pointer (some ⟨w.heap.size + 1 + 1, 0, none⟩)] 76 #[.pointer (some ⟨w.heap.size + 1, 0, none⟩), .pointer (some ⟨w.heap.size + 1 + 1, 0, none⟩)] (enters_of Try.func74 (by kernel_rfl) rfl) (enters_of Try.func76 (by kernel_rfl) rfl) W1 (hq.below B1) z1 z2
    (fun W hb => twice_any q.ba q.bl q.bc s.box (w.heap.size + 1) (w.heap.size + 1 + 1 + 1 + 1) (w.heap.size + 1 + 1) k E n W (hq.box.below (bl_on B1 hb)) hkl (by omega) ((hb.cell (p := ⟨w.heap.size + 1, 0, none⟩) (lt_of_cell cK)).trans cK) ((hb.cell (p := ⟨w.heap.size + 1 + 1 + 1 + 1, 0, none⟩) (lt_of_cell cE)).trans cE) ((hb.cell (p := ⟨w.heap.size + 1 + 1, 0, none⟩) (lt_of_cell cN)).trans cN) hEb hn)
    (fun W hb r x hx hr V hV => strip2_any r x (w.heap.size + 1) (w.heap.size + 1 + 1) k n V (hr.below hV) (by have := hr.coef.1; have := (z4 x hx).1; omega) (by have := hr.coef.1; have := (z4 x hx).1; omega) (z4 x hx).2 hn.2 (((bl_on hb hV).cell (p := ⟨w.heap.size + 1, 0, none⟩) (lt_of_cell cK)).trans cK) (((bl_on hb hV).cell (p := ⟨w.heap.size + 1 + 1, 0, none⟩) (lt_of_cell cN)).trans cN)))
  have HFIN : Hid (∀ (V : World) (u : SW) (a' : Option Addr) (l' c' : Nat), SG V u (remS s (s.box.take k ++ (ceilN E.toNat n : Int) :: (n : Int) :: s.box.drop (k + 1)) (stripR k n)) → Rws V a' l' (s.rows.map (stripR k n) ++ [lastR (s.box.take k) (s.box.drop (k + 1)) E n]) → SG V ⟨u.ba, u.bl, u.bc, a', l', c', u.kd, u.va, u.pu, u.ga, u.gl, u.gc⟩ (stripS s k n)) := fun V u a' l' c' hg hr => by
    rw [hE] at hg hr
    exact ⟨hg.box, hr, hg.kd, hg.va, hg.put, hg.gets, hg.bd⟩
  have HLEN : Hid (∀ (V : World) (a : Option Addr) (l c : Nat), Lst V a l c (s.box.take k ++ (ceilN E.toNat n : Int) :: (n : Int) :: s.box.drop (k + 1)) → s.box.length + 1 = l) := fun V a l c h => by
    have := h.1.1
    rw [List.length_append, List.length_cons, List.length_cons, List.length_take, List.length_drop] at this
    omega
  have HRL : Hid (s.rows.length ≤ 8) := hp.many
  have HQ4 : Hid (s.box.length ≤ 4) := hp.rank
  obtain ⟨p0, p1, p2, p3, p4, p5, p6, p7⟩ := P1.cells
  have zz := P1.lt
  have cE1 := (B4.cell (p := ⟨bb, boff + k, none⟩) hbb).trans cE0
  obtain ⟨v0, _⟩ := P14.cells
  have HK3 := hide K3'
  have HB := hide B1
  have HW4 := hide hW4
  have HW1 := hide hW1
  have HS4 := hide s4
  have HZ := hide s5
  have HCC := hide (And.intro cK (And.intro cN cE))
  have HBX := hide hk
  have HEB := hide hEb
  clear hq ho z1 z2 z3 z4 h4 hp B1 P1 hV1 hV2 hV3 hV4 hW1 K1 K2 K3 K4 K1' K2' K3' b45 b34 b23 b35 b25 b24 s1 s2 s3 s4 s5 hW4 B4 P14 hbc hbb cE0 hE
  have HP := hide (And.intro p0 (And.intro p1 (And.intro p2 (And.intro p3 (And.intro p4 (And.intro p5 (And.intro p6 p7)))))))
  clear p0 p1 p2 p3 p4 p5 p6 p7 cK cN cE
  unfold SW.v SW.cs at HC
  unfold SW.v SW.cs
  unfold SW.cs swD at HW4
  rw [eba] at v0 HP HC HW4 ⊢
  have HEA := hide eba
  clear eba
  have hkz : (k : Int) < (q.bl : Int) := by omega
  have zk := lt_of_cell cK4
  have zc := lt_of_cell cE1
  go_enter Try.func41, Try.ntmps41
  go_upto_region 1 with fail
  rw [← HW4.out]
  go_upto_region 4 with fail
  rw [HS4.out]
  rw [← HW1.out]
  clear v0 cE1 cK4 zk zc
  obtain ⟨p0, p1, p2, p3, p4, p5, p6, p7⟩ := HP.out
  go_wp2_with fail
  refine HC.out.mono ?_
  rintro e w2 ⟨⟨uu, rfl, hR⟩, hb⟩
  obtain ⟨R, us, er1, er2, hL⟩ := hR
  have HL := hide hL
  have HB2 := hide (bl_on HB.out hb)
  have HBW := hide hb
  have HR1 := hide er1
  have HR2 := hide er2
  have hs2 := hb.size
  clear p0 p1 p2 p3 p4 p5 p6 p7 hL hb er1 er2 zz HP
  go_upto_region 5 with fail
  obtain ⟨w3, hw3⟩ : ∃ w3, w3 = w2.alloc (.cells uu.cs 71) := ⟨_, rfl⟩
  have B3 : Below w2.heap.size w2 w3 := by rw [hw3]; exact bl_new _
  have PD : uu.blk w3 w2.heap.size := by rw [hw3]; exact SW.new uu w2
  have hs3 : w3.heap.size = w2.heap.size + 1 := by rw [hw3]; simp
  have hw3' := hw3
  unfold SW.cs at hw3'
  rw [← hw3']
  obtain ⟨D, hD⟩ : ∃ D, D = w2.heap.size := ⟨_, rfl⟩
  rw [← hD] at PD ⊢
  have hbl : s.box.length + 1 = uu.bl := HLEN.out w2 _ _ _ (HL.out.out.1.box)
  have hrl : uu.rl ≤ 8 := by have h := HL.out.out.2.len; rw [List.length_map] at h; have := HRL.out; omega
  have h4 := HEB.out
  have hb5 : uu.bl ≤ 5 := by have h := HQ4.out; omega
  obtain ⟨cK0, cN0, cE0⟩ := HCC.out
  have B13 := bl_on HBW.out B3
  have cE := (B13.cell (p := ⟨w.heap.size + 1 + 1 + 1 + 1, 0, none⟩) (lt_of_cell cE0)).trans cE0
  have cK := (B13.cell (p := ⟨w.heap.size + 1, 0, none⟩) (lt_of_cell cK0)).trans cK0
  have cN := (B13.cell (p := ⟨w.heap.size + 1 + 1, 0, none⟩) (lt_of_cell cN0)).trans cN0
  have K33 := (HK3.out.below HBW.out).below B3
  have hmk := run_make_row' (P := Try.prog) 22 3 (.int .i64 0) 8 Try.underlying22 info_int rfl .i64 .i64 uu.bl (by omega) (by omega)
  obtain ⟨d0, d1, d2, d3, d4, d5, d6, d7⟩ := PD.cells
  have HPD := hide PD
  have HBB := hide (bl_on HB2.out B3)
  have HB3 := hide B3
  have HK := hide (And.intro cK cN)
  have HK33 := hide K33
  have HSZ := hide (And.intro hD (And.intro hs3 hs2))
  clear cK0 cN0 cE0 B13 B3 PD K33 hw3 hw3' hs3 d1 d2 d3 d4 d5 d6 d7 cK cN hD HB HC HK3 HCC hs2 HBW
  refine region_made 9 14 [fIs (.pointer (some ⟨D, 0, none⟩)), fIs (.pointer (some ⟨D, 0, none⟩)), fIs (.slice uu.ba uu.bl uu.bc), fIs (.int .i64 (uu.bl : Int)), fZero w3.heap.size uu.bl, fIs (.int .i64 E), fIs (.int .i64 (E - 1)), fZeroR w3.heap.size uu.bl (E - 1), fNewRow w3.heap.size] (by kernel_rfl) (by kernel_rfl) (by kernel_rfl) (fun _ ⟨_, _⟩ ⟨_, _⟩ _ e h => by cases e; exact h) ⟨fIs_good _, fIs_good _, fIs_good _, fIs_good _, fZero_good _ _, fIs_good _, fIs_good _, fZeroR_good _ _ _, fNewRow_good _, trivial⟩ ?mk ?rest
  case mk =>
    refine ⟨fun u wz hb hd => ?_, fun u wz hb hd => ?_, fun u wz hb hd => ?_, fun u wz hb hd => ?_, fun u wz hb hd => ?_, fun u wz hb hd => ?_, fun u wz hb hd => ?_, fun u wz hb hd => ?_, fun u wz hb hd => ?_, trivial⟩
    all_goals simp only [Act.put, List.setIfInBounds_toArray, List.set_cons_zero, List.set_cons_succ]
    · go_simp
      exact ⟨rfl, Below.refl _ _, fun h => by cases h⟩
    · have e0 : u 0 = .pointer (some ⟨D, 0, none⟩) := hd 0 (by omega) (by kernel_rfl)
      rw [e0]
      go_simp
      exact ⟨rfl, Below.refl _ _, fun h => by cases h⟩
    · have e1 : u 1 = .pointer (some ⟨D, 0, none⟩) := hd 1 (by omega) (by kernel_rfl)
      rw [e1]
      have d0' := (hb.cell (p := ⟨D, 0, none⟩) (lt_of_cell d0)).trans d0
      go_simp
      exact ⟨rfl, Below.refl _ _, fun h => by cases h⟩
    · have e2 : u 2 = .slice uu.ba uu.bl uu.bc := hd 2 (by omega) (by kernel_rfl)
      rw [e2]
      go_simp
      exact ⟨rfl, Below.refl _ _, fun h => by cases h⟩
    · have e3 : u 3 = .int .i64 (uu.bl : Int) := hd 3 (by omega) (by kernel_rfl)
      rw [e3]
      go_simp
      exact ⟨⟨_, rfl, ⟨_, World.alloc_heap_new _ _, size_madeCells _ _, fun i hi => by simp [madeCells, hi, Nat.mod_one]⟩, hb.size⟩, bl_new _, fun h => by cases h⟩
    · have cE' := (hb.cell (p := ⟨w.heap.size + 1 + 1 + 1 + 1, 0, none⟩) (lt_of_cell cE)).trans cE
      go_simp
      exact ⟨rfl, Below.refl _ _, fun h => by cases h⟩
    · have e5 : u 5 = .int .i64 E := hd 5 (by omega) (by kernel_rfl)
      rw [e5]
      go_simp
      rw [show IntKind.i64.wrap (E - 1) = E - 1 by rw [IntKind.wrap_i64]; omega]
      exact ⟨rfl, Below.refl _ _, fun h => by cases h⟩
    · obtain ⟨g4, e4, h4, h4n⟩ := hd 4 (by omega) (by kernel_rfl)
      have e6 : u 6 = .int .i64 (E - 1) := hd 6 (by omega) (by kernel_rfl)
      rw [e4, e6]
      go_simp
      exact ⟨⟨g4, rfl, h4, h4n⟩, Below.refl _ _, fun h => by cases h⟩
    · go_simp
      exact ⟨⟨_, rfl, World.alloc_heap_new _ _, hb.size⟩, bl_new _, fun h => by cases h⟩
  case rest =>
    intro u wz hb hf hp
    have f0 : u 0 = .pointer (some ⟨D, 0, none⟩) := hf 0 (by omega)
    have f1 : u 1 = .pointer (some ⟨D, 0, none⟩) := hf 1 (by omega)
    have f2 : u 2 = .slice uu.ba uu.bl uu.bc := hf 2 (by omega)
    have f3 : u 3 = .int .i64 (uu.bl : Int) := hf 3 (by omega)
    obtain ⟨_, f4, _, _⟩ := hf 4 (by omega)
    have f5 : u 5 = .int .i64 E := hf 5 (by omega)
    have f6 : u 6 = .int .i64 (E - 1) := hf 6 (by omega)
    obtain ⟨g, f7, hg, hgn⟩ := hf 7 (by omega)
    obtain ⟨L, f8, hL, hLn⟩ := hf 8 (by omega)
    refine UptoW.rest 1 9 (by rfl) (by kernel_rfl) ?_
    simp only [List.take, List.drop, putOps, Act.put, List.setIfInBounds_toArray, List.set_cons_zero, List.set_cons_succ, Nat.reduceAdd, f0, f1, f2, f3, f4, f5, f6, f7, f8]
    clear f0 f1 f2 f3 f4 f5 f6 f7 f8 hf hp
    have PD := HPD.out.below hb
    have cK := (hb.cell (p := ⟨w.heap.size + 1, 0, none⟩) (lt_of_cell HK.out.1)).trans HK.out.1
    have cN := (hb.cell (p := ⟨w.heap.size + 1 + 1, 0, none⟩) (lt_of_cell HK.out.2)).trans HK.out.2
    have K33 := HK33.out.below hb
    have BB := bl_on HBB.out hb
    have B23 := bl_on HB3.out hb
    have HG := hide (And.intro hg hgn)
    have HGL := hide (And.intro hL hLn)
    have l0 : wz.cell? ⟨L, 0, none⟩ = some (.slice none 0 0) := by simp only [World.cell?, hL]; rfl
    have l1 : wz.cell? ⟨L, 1, none⟩ = some (.int .i64 0) := by simp only [World.cell?, hL]; rfl
    have g0 : wz.frozen? ⟨L, 0, none⟩ = false := by simp [World.frozen?, hL]
    have g1 : wz.frozen? ⟨L, 1, none⟩ = false := by simp [World.frozen?, hL]
    have zL := (Array.getElem?_eq_some_iff.1 hL).1
    clear hL hLn
    have hs4 := hb.size
    clear d0 hmk hb hg hgn cE HK HK33 HPD HBB HB3
    go_upto_region 6 with fail
    obtain ⟨w5, hw5⟩ : ∃ w5, w5 = (wz.setCell ⟨L, 0, none⟩ (.slice (some ⟨g, 0, none⟩) uu.bl uu.bl)).setCell ⟨L, 1, none⟩ (.int .i64 (E - 1)) := ⟨_, rfl⟩
    rw [← hw5]
    obtain ⟨hD, hs3, hs2⟩ := HSZ.out
    have hz5 := HZ.out
    have hLn := HGL.out.2
    have hgL : g ≠ L := fun e => by
      obtain ⟨c, hc, _⟩ := HG.out.1
      have := HGL.out.1
      rw [← e, hc] at this
      cases this
    have oth : ∀ b, b ≠ L → w5.heap[b]? = wz.heap[b]? := fun b hb => by
      rw [hw5]
      exact (Below.heap_setCell _ ⟨L, 1, none⟩ _ b hb).trans (Below.heap_setCell _ ⟨L, 0, none⟩ _ b hb)
    have hL5 : w5.heap[L]? = some (.cells #[.slice (some ⟨g, 0, none⟩) uu.bl uu.bl, .int .i64 (E - 1)] 66 (0, 0)) := by
      rw [hw5]
      simp [World.setCell, Array.getElem?_modify, HGL.out.1]
    have hG5 := HG.out.1.of_block (oth g hgL)
    have cK5 := (World.cell?_of_block (w := wz) (a := ⟨w.heap.size + 1, 0, none⟩) (oth _ (by simp only; omega))).trans cK
    have cN5 := (World.cell?_of_block (w := wz) (a := ⟨w.heap.size + 1 + 1, 0, none⟩) (oth _ (by simp only; omega))).trans cN
    have PD5 : uu.blk w5 D := (oth D (by omega)).trans PD
    have K35 : swD.blk w5 (w.heap.size + 1 + 1 + 1) := (oth _ (by omega)).trans K33
    have BB5 : Below w.heap.size w w5 := by
      rw [hw5]
      exact (BB.setCell (p := ⟨L, 0, none⟩) (by simp only; omega) _).setCell (p := ⟨L, 1, none⟩) (by simp only; omega) _
    have B25 : Below w2.heap.size w2 w5 := by
      rw [hw5]
      exact (B23.setCell (p := ⟨L, 0, none⟩) (by simp only; omega) _).setCell (p := ⟨L, 1, none⟩) (by simp only; omega) _
    have hgn := HG.out.2
    have H5 := hide (And.intro (And.intro hL5 hG5) (And.intro (And.intro PD5 K35) (And.intro BB5 B25)))
    have HN := hide (And.intro (And.intro hgn hLn) (And.intro (And.intro hD hs3) (And.intro hs2 hz5)))
    have HGL2 := hide hgL
    clear l0 l1 g0 g1 zL cK cN PD K33 BB B23 HG HGL oth hw5 hs4 HSZ PD5 K35 BB5 B25 hD hs3 hs2 hz5 hLn hgn
    have l0 : w5.cell? ⟨L, 0, none⟩ = some (.slice (some ⟨g, 0, none⟩) uu.bl uu.bl) := by simp only [World.cell?, hL5]; rfl
    have cK := cK5
    have cN := cN5
    clear cK5 cN5 hL5
    have c0 := H5.out.1.2
    have k0 := c0.cell (i := k) (by omega)
    have k1 := c0.cell (i := k + 1) (by omega)
    have k2 := c0.frozen k
    have k3 := c0.frozen (k + 1)
    have zg := c0.lt
    have zL := lt_of_cell l0
    have zK := lt_of_cell cK
    have zN := lt_of_cell cN
    have hkz : (k : Int) < (uu.bl : Int) := by omega
    have hk1z : 0 ≤ (k : Int) + 1 ∧ (k : Int) + 1 < (uu.bl : Int) := by omega
    have ngL : ¬ g = L := HGL2.out
    have ngK : ¬ g = w.heap.size + 1 := by have := HN.out; omega
    have ngN : ¬ g = w.heap.size + 1 + 1 := by have := HN.out; omega
    clear c0
    go_region
    go_upto_region 7 with fail
    obtain ⟨w6, hw6⟩ : ∃ w6, w6 = ((w5.setCell ⟨g, k, none⟩ (.int .i64 (-(n : Int)))).setCell ⟨g, k + 1, none⟩ (.int .i64 (-1))).drew := ⟨_, rfl⟩
    rw [← hw6]
    have oth : ∀ b, b ≠ g → w6.heap[b]? = w5.heap[b]? := fun b hb => by
      rw [hw6]
      exact (Below.heap_setCell _ ⟨g, k + 1, none⟩ _ b hb).trans (Below.heap_setCell _ ⟨g, k, none⟩ _ b hb)
    obtain ⟨⟨hL5, hG5⟩, ⟨PD5, K35⟩, BB5, B25⟩ := H5.out
    obtain ⟨⟨hgn, hLn⟩, ⟨hD, hs3⟩, hs2, hz5⟩ := HN.out
    have hL6 := (oth L (fun e => ngL e.symm)).trans hL5
    have PD6 : uu.blk w6 D := (oth D (by omega)).trans PD5
    have K36 : swD.blk w6 (w.heap.size + 1 + 1 + 1) := (oth _ (by omega)).trans K35
    have hG6 : w6.rowIs g 3 uu.bl (fun j => if j = k + 1 then .int .i64 (-1) else if j = k then .int .i64 (-(n : Int)) else .int .i64 0) := by
      rw [hw6]
      exact (hG5.set k _).set (k + 1) _
    have BB6 : Below w.heap.size w w6 := by
      rw [hw6]
      exact ((BB5.setCell (p := ⟨g, k, none⟩) (by simp only; omega) _).setCell (p := ⟨g, k + 1, none⟩) (by simp only; omega) _).drew
    have B26 : Below w2.heap.size w2 w6 := by
      rw [hw6]
      exact ((B25.setCell (p := ⟨g, k, none⟩) (by simp only; omega) _).setCell (p := ⟨g, k + 1, none⟩) (by simp only; omega) _).drew
    have hI6 := last_row hG6 hbl HBX.out
    have hU : ∀ V : World, V.heap[g]? = w6.heap[g]? → RG V ⟨some ⟨g, 0, none⟩, uu.bl, uu.bl, E - 1⟩ (lastR (s.box.take k) (s.box.drop (k + 1)) E n) := by
      intro V hV
      refine ⟨rfl, ints_of_rowI (World.rowIs.of_block hI6 hV) ?_ (by simp only; omega) ?_, ⟨Nat.le_refl _, fun e => by cases e⟩, ?_⟩
      · show ((s.box.take k).map (fun _ => (0 : Int)) ++ (-(n : Int)) :: (-1) :: (s.box.drop (k + 1)).map (fun _ => (0 : Int))).length = uu.bl
        rw [List.length_append, List.length_cons, List.length_cons, List.length_map, List.length_map, List.length_take, List.length_drop]
        have := HBX.out
        omega
      · intro x hx
        simp only [lastR, List.mem_append, List.mem_map, List.mem_cons] at hx
        rcases hx with ⟨_, _, rfl⟩ | rfl | rfl | ⟨_, _, rfl⟩ <;> omega
      · have := HEB.out
        unfold B64 lastR
        simp only
        omega
    have hgl6 := hI6.lt
    have HI6 := hide hG6
    have HX6 := hide ((HL.out.below B26).out.2)
    have HU6 := hide hU
    have HB26 := hide B26
    have l0 : w6.cell? ⟨L, 0, none⟩ = some (.slice (some ⟨g, 0, none⟩) uu.bl uu.bl) := by simp only [World.cell?, hL6]; rfl
    have l1 : w6.cell? ⟨L, 1, none⟩ = some (.int .i64 (E - 1)) := by simp only [World.cell?, hL6]; rfl
    obtain ⟨d0, d1, d2, d3, d4, d5, d6, d7⟩ := PD6.cells
    rw [HR1.out, HR2.out] at d1
    have zL6 := (Array.getElem?_eq_some_iff.1 hL6).1
    have zD6 := PD6.lt
    have hN6 : W1.heap.size ≤ w6.heap.size := by have := B26.size; omega
    have H6 := hide (And.intro (And.intro PD6 K36) BB6)
    clear cK cN zL zK zN zg k0 k1 k2 k3 hw6 oth hL5 hG5 PD5 K35 BB5 B25 hL6 PD6 K36 hG6 BB6 B26 hI6 hU H5 ngL ngK ngN d2 d3 d4 d5 d6 d7 d0 hgn hLn hD hs3 hs2 hz5 h4 hkz hk1z
    go_upto_region 8 with (at_builtin; refine append_full (by rfl) (.tmp 45) (.tmp 47) (by rfl) R uu.rl us (s.rows.map (stripR k n)) ⟨some ⟨g, 0, none⟩, uu.bl, uu.bl, E - 1⟩ (lastR (s.box.take k) (s.box.drop (k + 1)) E n) (by rfl) (by rfl) (by omega) HX6.out.out HX6.out.len ?_; intro g8 c8 w8 hL8 hg8 hb8; have HG8 := hide hg8; have HL8 := hide hL8; have HB8 := hide hb8; have PD8 := H6.out.1.1.below hb8; obtain ⟨f0, f1, f2, f3, f4, f5, f6, f7⟩ := PD8.cells; have y1 := PD8.free 1; have zD8 := PD8.lt; have HPD8 := hide PD8; clear hL8 hg8 hb8 PD8)
    obtain ⟨w9, hw9⟩ : ∃ w9, w9 = w8.setCell ⟨D, 1, none⟩ (.slice (some ⟨g8, 0, none⟩) (uu.rl + 1) c8) := ⟨_, rfl⟩
    rw [← hw9]
    obtain ⟨⟨hgn, hLn⟩, ⟨hD, hs3⟩, hs2, hz5⟩ := HN.out
    have hs6 := HB8.out.size
    have P9 := sw_row HPD8.out (some ⟨g8, 0, none⟩) (uu.rl + 1) c8
    rw [← hw9] at P9
    have K39 : swD.blk w9 (w.heap.size + 1 + 1 + 1) := by
      rw [hw9]
      exact (Below.heap_setCell _ ⟨D, 1, none⟩ _ _ (by simp only; omega)).trans (H6.out.1.2.below HB8.out)
    have B9 : Below w.heap.size w w9 := by
      rw [hw9]
      exact (bl_on H6.out.2 HB8.out).setCell (p := ⟨D, 1, none⟩) (by simp only; omega) _
    have hFin : Lies W1.heap.size (fun V => SG V ⟨uu.ba, uu.bl, uu.bc, some ⟨g8, 0, none⟩, uu.rl + 1, c8, uu.kd, uu.va, uu.pu, uu.ga, uu.gl, uu.gc⟩ (stripS s k n)) w9 := by
      intro V hV
      have B29 : Below w2.heap.size w2 w9 := by
        rw [hw9]
        exact (HB26.out.trans (HB8.out.mono HB26.out.size)).setCell (p := ⟨D, 1, none⟩) (by simp only; omega) _
      have hX := (HL.out.below B29) V hV
      have o9 : ∀ b, b ≠ D → w9.heap[b]? = w8.heap[b]? := fun b hb => by
        rw [hw9]
        exact Below.heap_setCell _ ⟨D, 1, none⟩ _ b hb
      have hz9 : w9.heap.size = w8.heap.size := by rw [hw9, World.size_setCell]
      have h26 := HB26.out.size
      have hg8 := HG8.out
      obtain ⟨cur8, hcur8⟩ := hg8.2
      have hl8 := (Array.getElem?_eq_some_iff.1 hcur8).1
      obtain ⟨cg, hcg, _⟩ := id HI6.out
      have e9 := (o9 g (by omega)).trans (HB8.out.block g (by omega))
      have e8 : V.heap[g8]? = w8.heap[g8]? := (hV.1 g8 _ _ (by omega) (by decide) ((o9 g8 (by omega)).trans hcur8)).trans (o9 g8 (by omega))
      have eg : V.heap[g]? = w6.heap[g]? := (hV.1 g _ _ (by omega) (by decide) (e9.trans hcg)).trans e9
      exact HFIN.out V uu _ _ _ hX.1 (HL8.out V e8 hX.2.good (HU6.out V eg))
    obtain ⟨q3, hq3⟩ : ∃ q3 : SW, q3 = ⟨uu.ba, uu.bl, uu.bc, some ⟨g8, 0, none⟩, uu.rl + 1, c8, uu.kd, uu.va, uu.pu, uu.ga, uu.gl, uu.gc⟩ := ⟨_, rfl⟩
    have HQ3 := hide hq3
    have HP7 := hide K39
    have HFI := hide hFin
    have HB9 := hide B9
    obtain ⟨p0, p1, p2, p3, p4, p5, p6, p7⟩ := P9.cells
    simp only at p0 p1 p2 p3 p4 p5 p6 p7
    obtain ⟨y0, y1', y2, y3, y4, y5, y6, y7⟩ := K39.cells
    have m0 := K39.free 0
    have m1 := K39.free 1
    have m2 := K39.free 2
    have m3 := K39.free 3
    have m4 := K39.free 4
    have m5 := K39.free 5
    have m6 := K39.free 6
    have m7 := K39.free 7
    have zp := P9.lt
    have zk := K39.lt
    unfold swD at y0 y1' y2 y3 y4 y5 y6 y7
    clear f0 f1 f2 f3 f4 f5 f6 f7 y1 zD8 P9 K39 B9 hFin hw9 hq3 l0 l1 d1 zL6 zD6 hN6 HX6 HU6 HL8 HPD8 HB8 HG8 HB26 HL H6 HI6 hgl6 hgn hLn hD hs3 hs2 hs6
    go_wp2_with fail
    obtain ⟨W5, hW5⟩ : ∃ W5, W5 = putS8 w9 (w.heap.size + 1 + 1 + 1) ⟨uu.ba, uu.bl, uu.bc, some ⟨g8, 0, none⟩, uu.rl + 1, c8, uu.kd, uu.va, uu.pu, uu.ga, uu.gl, uu.gc⟩ := ⟨_, rfl⟩
    have hW5' := hW5
    unfold putS8 at hW5'
    simp only at hW5'
    rw [← hW5']
    rw [← HQ3.out] at hW5
    have P9 : q3.blk W5 (w.heap.size + 1 + 1 + 1) := by rw [hW5]; exact putS8_blk HP7.out
    obtain ⟨x0, x1, x2, x3, x4, x5, x6, x7⟩ := P9.cells
    refine bodyPost_ret (v := q3.v) (by simp [results, Try.results41, go_sem, x0, x1, x2, x3, x4, x5, x6, x7, SW.v, SW.cs]) rfl ⟨⟨q3, rfl, ?_⟩, ?_⟩
    · have hL := HFI.out.keep (putS8_keep (b := w.heap.size + 1 + 1 + 1) (by omega) q3)
      rw [← hW5] at hL
      rw [HQ3.out]
      exact hL.mono (by omega)
    · rw [hW5]
      exact putS8_below HB9.out (by omega) _
end Go.Proofs.Ytoidgdbgpbcebaa.V
