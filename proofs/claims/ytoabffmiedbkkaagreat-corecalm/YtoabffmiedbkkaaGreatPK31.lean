/-
  Contracts: core's trail: crosses, mark. Contracts: core's trail: crosses, mark.
-/
import Derived.Test.YtoabffmiedbkkaaGreatPK15
import Derived.Laws.EntriesVeiled
namespace Go.Proofs.YtoabffmiedbkkaaGreat.V
set_option maxRecDepth 20000
open Go Go.RowKit
set_option linter.unusedVariables false

def laterV (f : Nat → Int) (s : Str) (but : Int) : Bool := decide (0 < s.w) && decide (but < maxTo (fun i => f (s.f.toNat + i)) (s.w.toNat - 1))
theorem later_iff {f : Nat → Int} {s : Str} {but : Int} {pad : Nat} (hs : s.Sm) (hin : inBk s (pad : Int) = true) : laterV f s but = true ↔ ∃ i : Nat, i < pad ∧ inS s (i : Int) = true ∧ but < f i := by
  unfold laterV
  simp only [Bool.and_eq_true, decide_eq_true_eq, maxTo_gt]
  constructor
  · rintro ⟨h1, i, h2, h3⟩
    have := inB_pos hin (by omega)
    exact ⟨s.f.toNat + i, by omega, by simp only [inS, Bool.and_eq_true, decide_eq_true_eq]; omega, h3⟩
  · rintro ⟨i, h1, h2, h3⟩
    simp only [inS, Bool.and_eq_true, decide_eq_true_eq] at h2
    have := inB_pos hin (by omega)
    refine ⟨by omega, i - s.f.toNat, by omega, ?_⟩
    rw [show s.f.toNat + (i - s.f.toNat) = i by omega]
    exact h3
set_option maxRecDepth 100000 in
set_option maxHeartbeats 2000000 in
theorem later_any (g pad B : Nat) (f : Nat → Int) (s : Str) (but : Int) (hs : s.Sm) (hin : inBk s (pad : Int) = true) (hp : pad ≤ 1000000) (w : World) (h : IRow w g pad f) (hB : w.cell? ⟨B, 0, none⟩ = some (.int .i64 but)) :
    Calls Tryz.prog 49 #[.slice (some ⟨g, 0, none⟩) pad pad, .agg #[.int .i64 s.f, .int .i64 s.w], .pointer (some ⟨B, 0, none⟩)] w fun r w' => r = .returned (.bool (laterV f s but)) ∧ Below w.heap.size w w' := by
  obtain ⟨W, hW⟩ : ∃ W, W = w.alloc (.cells #[.int .i64 s.f, .int .i64 s.w] 65) := ⟨_, rfl⟩
  have hb : Below w.heap.size w W := by rw [hW]; exact bl_new _
  have hS : SBlk W w.heap.size s.f s.w := by rw [hW]; exact World.alloc_heap_new _ _
  have hR := h.below hb
  have b0 := (hb.cell (p := ⟨B, 0, none⟩) (lt_of_cell hB)).trans hB
  obtain ⟨R, hR2⟩ : ∃ R, R = laterV f s but := ⟨_, rfl⟩
  rw [← hR2]
  have HR2 := hide hR2
  have hs0 := hs.w
  have HW := hide hW
  have HB := hide hb
  have HR := hide hR
  have HIN := hide hin
  obtain ⟨⟨c0, c1⟩, zc⟩ := hS.cells
  clear hW hb hS hR hin hs hR2 hB
  go_enter Tryz.func49, Tryz.ntmps49
  go_upto_region 1 with fail
  rw [← HW.out]
  by_cases hw0 : s.w = 0
  · have hr : R = false := by rw [HR2.out]; simp [laterV, hw0]
    rw [hw0] at c1
    clear hw0
    refine region_madeG 17 19 [fIs (.pointer (some ⟨w.heap.size, 1, none⟩)), fIs (.int .i64 0), fIs (.bool false), fIs (.bool false), fIs undef, fIs undef, fIs undef, fIs undef, fIs undef, fIs undef, fIs undef, fIs undef, fIs undef, fIs undef, fIs undef, fIs undef, fIs (.bool false)] [none, none, none, some false, none, none, none, none, none, none, none, none, none, none, none, none, none] [true, true, true, true, false, false, false, false, false, false, false, false, false, false, false, false, true] (by kernel_rfl) (by kernel_rfl) (by kernel_rfl) (fun ch p q w3 e h => by obtain ⟨t1, d1⟩ := p; obtain ⟨t2, d2⟩ := q; cases e; exact h) ⟨fIs_good _, fIs_good _, fIs_good _, fIs_good _, fIs_good _, fIs_good _, fIs_good _, fIs_good _, fIs_good _, fIs_good _, fIs_good _, fIs_good _, fIs_good _, fIs_good _, fIs_good _, fIs_good _, fIs_good _, trivial⟩ ⟨fun _ _ h => h, rfl⟩ ?mkA ?restA
    case mkA =>
      refine ⟨fun u wz hb hd => ?_, fun u wz hb hd => ?_, fun u wz hb hd => ?_, fun u wz hb hd => ?_, ⟨fun _ => rfl, rfl⟩, ⟨fun _ => rfl, rfl⟩, ⟨fun _ => rfl, rfl⟩, ⟨fun _ => rfl, rfl⟩, ⟨fun _ => rfl, rfl⟩, ⟨fun _ => rfl, rfl⟩, ⟨fun _ => rfl, rfl⟩, ⟨fun _ => rfl, rfl⟩, ⟨fun _ => rfl, rfl⟩, ⟨fun _ => rfl, rfl⟩, ⟨fun _ => rfl, rfl⟩, ⟨fun _ => rfl, rfl⟩, fun u wz hb hd => ?_, trivial⟩
      all_goals simp only [Act.put, List.setIfInBounds_toArray, List.set_cons_zero, List.set_cons_succ]
      · go_simp
        exact ⟨rfl, Below.refl _ _, fun h => by cases h⟩
      · have e0 : u 0 = .pointer (some ⟨w.heap.size, 1, none⟩) := hd 0 (by omega) (by kernel_rfl)
        rw [e0]
        have c1' := (hb.cell (p := ⟨w.heap.size, 1, none⟩) (lt_of_cell c1)).trans c1
        go_simp
        exact ⟨rfl, Below.refl _ _, fun h => by cases h⟩
      · have e1 : u 1 = .int .i64 0 := hd 1 (by omega) (by kernel_rfl)
        rw [e1]
        go_simp
        exact ⟨rfl, Below.refl _ _, fun h => by cases h⟩
      · have e2 : u 2 = .bool false := hd 2 (by omega) (by kernel_rfl)
        rw [e2]
        go_simp
        exact ⟨rfl, Below.refl _ _, fun h => by cases h⟩
      · have e3 : u 3 = .bool false := hd 3 (by omega) (by kernel_rfl)
        rw [e3]
        go_simp
        exact ⟨rfl, Below.refl _ _, fun h => by cases h⟩
    case restA =>
      intro u wz hb hf hp
      have f0 : u 0 = .pointer (some ⟨w.heap.size, 1, none⟩) := hf 0 (by omega)
      have f1 : u 1 = .int .i64 0 := hf 1 (by omega)
      have f2 : u 2 = .bool false := hf 2 (by omega)
      have f3 : u 3 = .bool false := hf 3 (by omega)
      have f4 : u 4 = undef := hf 4 (by omega)
      have f5 : u 5 = undef := hf 5 (by omega)
      have f6 : u 6 = undef := hf 6 (by omega)
      have f7 : u 7 = undef := hf 7 (by omega)
      have f8 : u 8 = undef := hf 8 (by omega)
      have f9 : u 9 = undef := hf 9 (by omega)
      have f10 : u 10 = undef := hf 10 (by omega)
      have f11 : u 11 = undef := hf 11 (by omega)
      have f12 : u 12 = undef := hf 12 (by omega)
      have f13 : u 13 = undef := hf 13 (by omega)
      have f14 : u 14 = undef := hf 14 (by omega)
      have f15 : u 15 = undef := hf 15 (by omega)
      have f16 : u 16 = .bool false := hf 16 (by omega)
      refine UptoW.rest 1 17 (by rfl) (by kernel_rfl) ?_
      simp only [List.take, List.drop, putOps, Act.put, List.setIfInBounds_toArray, List.set_cons_zero, List.set_cons_succ, Nat.reduceAdd, f0, f1, f2, f3, f4, f5, f6, f7, f8, f9, f10, f11, f12, f13, f14, f15, f16]
      clear f0 f1 f2 f3 f4 f5 f6 f7 f8 f9 f10 f11 f12 f13 f14 f15 f16 hf hp
      have HB2 := hide (bl_on HB.out hb)
      clear hb c0 c1 b0
      go_wp2_with fail
      go_ret
      exact ⟨by first | rfl | (rw [hr]; rfl) | (rw [hr, hdm]; rfl), HB2.out⟩
  · have hpos := inB_pos HIN.out hw0
    obtain ⟨F, hF⟩ : ∃ F : Nat, s.f = (F : Int) := ⟨s.f.toNat, by omega⟩
    obtain ⟨N, hN⟩ : ∃ N : Nat, s.w = (N : Int) := ⟨s.w.toNat, by omega⟩
    rw [hF] at c0
    rw [hN] at c1
    have hFN : F + N ≤ pad ∧ 0 < N := by omega
    obtain ⟨E, hE⟩ : ∃ E, E = F + N := ⟨_, rfl⟩
    have hEN : E - F = N := by omega
    obtain ⟨M, hM⟩ : ∃ M, M = maxTo (fun i => f (F + i)) (E - F - 1) := ⟨_, rfl⟩
    have HMX := hide (fun (V : World) (hV : Below W.heap.size W V) => max_any g F (E - F) (pad - F) pad f V (HR.out.below hV) (by omega) (by omega) (by omega))
    rw [← hM] at HMX
    have hr : R = decide (but < M) := by
      rw [HR2.out, hM, hEN]
      unfold laterV
      rw [hF, hN]
      simp [hFN.2]
    have hw1 : IntKind.i64.wrap ((F : Int) + (N : Int)) = (E : Int) := by rw [IntKind.wrap_i64]; omega
    have hne : ¬ pad = F := by omega
    have s1 : (E : Int) ≤ (pad : Int) := by omega
    have s2 : F ≤ E := by omega
    have s3 : E ≤ pad := by omega
    have hn0 : 0 < (N : Int) := by omega
    have hn1 : 0 < N := by omega
    clear hF hN hM hpos hw0 hs0 hE hEN hFN
    cases hdm : decide (but < M)
    · refine region_madeG 17 19 [fIs (.pointer (some ⟨w.heap.size, 1, none⟩)), fIs (.int .i64 (N : Int)), fIs (.bool true), fIs (.bool true), fIs (.slice (some ⟨g, 0, none⟩) pad pad), fIs (.pointer (some ⟨w.heap.size, 0, none⟩)), fIs (.int .i64 (F : Int)), fIs (.pointer (some ⟨w.heap.size, 0, none⟩)), fIs (.int .i64 (F : Int)), fIs (.pointer (some ⟨w.heap.size, 1, none⟩)), fIs (.int .i64 (N : Int)), fIs (.int .i64 (E : Int)), fIs (.slice (some ⟨g, F, none⟩) (E - F) (pad - F)), fIs (.int .i64 M), fIs (.int .i64 but), fIs (.bool false), fIs (.bool false)] [none, none, none, some true, none, none, none, none, none, none, none, none, none, none, none, none, none] [true, true, true, true, true, true, true, true, true, true, true, true, true, true, true, true, true] (by kernel_rfl) (by kernel_rfl) (by kernel_rfl) (fun ch p q w3 e h => by obtain ⟨t1, d1⟩ := p; obtain ⟨t2, d2⟩ := q; cases e; exact h) ⟨fIs_good _, fIs_good _, fIs_good _, fIs_good _, fIs_good _, fIs_good _, fIs_good _, fIs_good _, fIs_good _, fIs_good _, fIs_good _, fIs_good _, fIs_good _, fIs_good _, fIs_good _, fIs_good _, fIs_good _, trivial⟩ ⟨fun _ _ h => h, rfl⟩ ?mkB ?restB
      case mkB =>
        refine ⟨fun u wz hb hd => ?_, fun u wz hb hd => ?_, fun u wz hb hd => ?_, fun u wz hb hd => ?_, fun u wz hb hd => ?_, fun u wz hb hd => ?_, fun u wz hb hd => ?_, fun u wz hb hd => ?_, fun u wz hb hd => ?_, fun u wz hb hd => ?_, fun u wz hb hd => ?_, fun u wz hb hd => ?_, fun u wz hb hd => ?_, fun u wz hb hd => ?_, fun u wz hb hd => ?_, fun u wz hb hd => ?_, fun u wz hb hd => ?_, trivial⟩
        all_goals simp only [Act.put, List.setIfInBounds_toArray, List.set_cons_zero, List.set_cons_succ]
        · go_simp
          exact ⟨rfl, Below.refl _ _, fun h => by cases h⟩
        · have e0 : u 0 = .pointer (some ⟨w.heap.size, 1, none⟩) := hd 0 (by omega) (by kernel_rfl)
          rw [e0]
          have c1' := (hb.cell (p := ⟨w.heap.size, 1, none⟩) (lt_of_cell c1)).trans c1
          go_simp
          exact ⟨rfl, Below.refl _ _, fun h => by cases h⟩
        · have e1 : u 1 = .int .i64 (N : Int) := hd 1 (by omega) (by kernel_rfl)
          rw [e1]
          go_simp
          exact ⟨rfl, Below.refl _ _, fun h => by cases h⟩
        · have e2 : u 2 = .bool true := hd 2 (by omega) (by kernel_rfl)
          rw [e2]
          go_simp
          exact ⟨rfl, Below.refl _ _, fun h => by cases h⟩
        · go_simp
          exact ⟨rfl, Below.refl _ _, fun h => by cases h⟩
        · go_simp
          exact ⟨rfl, Below.refl _ _, fun h => by cases h⟩
        · have e5 : u 5 = .pointer (some ⟨w.heap.size, 0, none⟩) := hd 5 (by omega) (by kernel_rfl)
          rw [e5]
          have c0' := (hb.cell (p := ⟨w.heap.size, 0, none⟩) (lt_of_cell c0)).trans c0
          go_simp
          exact ⟨rfl, Below.refl _ _, fun h => by cases h⟩
        · go_simp
          exact ⟨rfl, Below.refl _ _, fun h => by cases h⟩
        · have e7 : u 7 = .pointer (some ⟨w.heap.size, 0, none⟩) := hd 7 (by omega) (by kernel_rfl)
          rw [e7]
          have c0' := (hb.cell (p := ⟨w.heap.size, 0, none⟩) (lt_of_cell c0)).trans c0
          go_simp
          exact ⟨rfl, Below.refl _ _, fun h => by cases h⟩
        · go_simp
          exact ⟨rfl, Below.refl _ _, fun h => by cases h⟩
        · have e9 : u 9 = .pointer (some ⟨w.heap.size, 1, none⟩) := hd 9 (by omega) (by kernel_rfl)
          rw [e9]
          have c1' := (hb.cell (p := ⟨w.heap.size, 1, none⟩) (lt_of_cell c1)).trans c1
          go_simp
          exact ⟨rfl, Below.refl _ _, fun h => by cases h⟩
        · have e8 : u 8 = .int .i64 (F : Int) := hd 8 (by omega) (by kernel_rfl)
          have e10 : u 10 = .int .i64 (N : Int) := hd 10 (by omega) (by kernel_rfl)
          rw [e8, e10]
          go_simp
          exact ⟨rfl, Below.refl _ _, fun h => by cases h⟩
        · have e4 : u 4 = .slice (some ⟨g, 0, none⟩) pad pad := hd 4 (by omega) (by kernel_rfl)
          have e6 : u 6 = .int .i64 (F : Int) := hd 6 (by omega) (by kernel_rfl)
          have e11 : u 11 = .int .i64 (E : Int) := hd 11 (by omega) (by kernel_rfl)
          rw [e4, e6, e11]
          go_simp
          exact ⟨rfl, Below.refl _ _, fun h => by cases h⟩
        · have e12 : u 12 = .slice (some ⟨g, F, none⟩) (E - F) (pad - F) := hd 12 (by omega) (by kernel_rfl)
          rw [e12]
          go_simp
          refine (HMX.out wz hb).mono ?_
          rintro r w2 ⟨rfl, hw2⟩
          obtain rfl := hw2.symm
          exact ⟨rfl, Below.refl _ _, fun h => by cases h⟩
        · have b0' := (hb.cell (p := ⟨B, 0, none⟩) (lt_of_cell b0)).trans b0
          go_simp
          exact ⟨rfl, Below.refl _ _, fun h => by cases h⟩
        · have e13 : u 13 = .int .i64 M := hd 13 (by omega) (by kernel_rfl)
          have e14 : u 14 = .int .i64 but := hd 14 (by omega) (by kernel_rfl)
          rw [e13, e14]
          have hd2 : decide (M > but) = false := hdm
          go_simp
          exact ⟨rfl, Below.refl _ _, fun h => by cases h⟩
        · have e3 : u 3 = .bool true := hd 3 (by omega) (by kernel_rfl)
          have e15 : u 15 = .bool false := hd 15 (by omega) (by kernel_rfl)
          rw [e3, e15]
          go_simp
          exact ⟨rfl, Below.refl _ _, fun h => by cases h⟩
      case restB =>
        intro u wz hb hf hp
        have f0 : u 0 = .pointer (some ⟨w.heap.size, 1, none⟩) := hf 0 (by omega)
        have f1 : u 1 = .int .i64 (N : Int) := hf 1 (by omega)
        have f2 : u 2 = .bool true := hf 2 (by omega)
        have f3 : u 3 = .bool true := hf 3 (by omega)
        have f4 : u 4 = .slice (some ⟨g, 0, none⟩) pad pad := hf 4 (by omega)
        have f5 : u 5 = .pointer (some ⟨w.heap.size, 0, none⟩) := hf 5 (by omega)
        have f6 : u 6 = .int .i64 (F : Int) := hf 6 (by omega)
        have f7 : u 7 = .pointer (some ⟨w.heap.size, 0, none⟩) := hf 7 (by omega)
        have f8 : u 8 = .int .i64 (F : Int) := hf 8 (by omega)
        have f9 : u 9 = .pointer (some ⟨w.heap.size, 1, none⟩) := hf 9 (by omega)
        have f10 : u 10 = .int .i64 (N : Int) := hf 10 (by omega)
        have f11 : u 11 = .int .i64 (E : Int) := hf 11 (by omega)
        have f12 : u 12 = .slice (some ⟨g, F, none⟩) (E - F) (pad - F) := hf 12 (by omega)
        have f13 : u 13 = .int .i64 M := hf 13 (by omega)
        have f14 : u 14 = .int .i64 but := hf 14 (by omega)
        have f15 : u 15 = .bool false := hf 15 (by omega)
        have f16 : u 16 = .bool false := hf 16 (by omega)
        refine UptoW.rest 1 17 (by rfl) (by kernel_rfl) ?_
        simp only [List.take, List.drop, putOps, Act.put, List.setIfInBounds_toArray, List.set_cons_zero, List.set_cons_succ, Nat.reduceAdd, f0, f1, f2, f3, f4, f5, f6, f7, f8, f9, f10, f11, f12, f13, f14, f15, f16]
        clear f0 f1 f2 f3 f4 f5 f6 f7 f8 f9 f10 f11 f12 f13 f14 f15 f16 hf hp
        have HB2 := hide (bl_on HB.out hb)
        clear hb c0 c1 b0
        go_wp2_with fail
        go_ret
        exact ⟨by first | rfl | (rw [hr]; rfl) | (rw [hr, hdm]; rfl), HB2.out⟩
    · refine region_madeG 17 19 [fIs (.pointer (some ⟨w.heap.size, 1, none⟩)), fIs (.int .i64 (N : Int)), fIs (.bool true), fIs (.bool true), fIs (.slice (some ⟨g, 0, none⟩) pad pad), fIs (.pointer (some ⟨w.heap.size, 0, none⟩)), fIs (.int .i64 (F : Int)), fIs (.pointer (some ⟨w.heap.size, 0, none⟩)), fIs (.int .i64 (F : Int)), fIs (.pointer (some ⟨w.heap.size, 1, none⟩)), fIs (.int .i64 (N : Int)), fIs (.int .i64 (E : Int)), fIs (.slice (some ⟨g, F, none⟩) (E - F) (pad - F)), fIs (.int .i64 M), fIs (.int .i64 but), fIs (.bool true), fIs (.bool true)] [none, none, none, some true, none, none, none, none, none, none, none, none, none, none, none, none, none] [true, true, true, true, true, true, true, true, true, true, true, true, true, true, true, true, true] (by kernel_rfl) (by kernel_rfl) (by kernel_rfl) (fun ch p q w3 e h => by obtain ⟨t1, d1⟩ := p; obtain ⟨t2, d2⟩ := q; cases e; exact h) ⟨fIs_good _, fIs_good _, fIs_good _, fIs_good _, fIs_good _, fIs_good _, fIs_good _, fIs_good _, fIs_good _, fIs_good _, fIs_good _, fIs_good _, fIs_good _, fIs_good _, fIs_good _, fIs_good _, fIs_good _, trivial⟩ ⟨fun _ _ h => h, rfl⟩ ?mkC ?restC
      case mkC =>
        refine ⟨fun u wz hb hd => ?_, fun u wz hb hd => ?_, fun u wz hb hd => ?_, fun u wz hb hd => ?_, fun u wz hb hd => ?_, fun u wz hb hd => ?_, fun u wz hb hd => ?_, fun u wz hb hd => ?_, fun u wz hb hd => ?_, fun u wz hb hd => ?_, fun u wz hb hd => ?_, fun u wz hb hd => ?_, fun u wz hb hd => ?_, fun u wz hb hd => ?_, fun u wz hb hd => ?_, fun u wz hb hd => ?_, fun u wz hb hd => ?_, trivial⟩
        all_goals simp only [Act.put, List.setIfInBounds_toArray, List.set_cons_zero, List.set_cons_succ]
        · go_simp
          exact ⟨rfl, Below.refl _ _, fun h => by cases h⟩
        · have e0 : u 0 = .pointer (some ⟨w.heap.size, 1, none⟩) := hd 0 (by omega) (by kernel_rfl)
          rw [e0]
          have c1' := (hb.cell (p := ⟨w.heap.size, 1, none⟩) (lt_of_cell c1)).trans c1
          go_simp
          exact ⟨rfl, Below.refl _ _, fun h => by cases h⟩
        · have e1 : u 1 = .int .i64 (N : Int) := hd 1 (by omega) (by kernel_rfl)
          rw [e1]
          go_simp
          exact ⟨rfl, Below.refl _ _, fun h => by cases h⟩
        · have e2 : u 2 = .bool true := hd 2 (by omega) (by kernel_rfl)
          rw [e2]
          go_simp
          exact ⟨rfl, Below.refl _ _, fun h => by cases h⟩
        · go_simp
          exact ⟨rfl, Below.refl _ _, fun h => by cases h⟩
        · go_simp
          exact ⟨rfl, Below.refl _ _, fun h => by cases h⟩
        · have e5 : u 5 = .pointer (some ⟨w.heap.size, 0, none⟩) := hd 5 (by omega) (by kernel_rfl)
          rw [e5]
          have c0' := (hb.cell (p := ⟨w.heap.size, 0, none⟩) (lt_of_cell c0)).trans c0
          go_simp
          exact ⟨rfl, Below.refl _ _, fun h => by cases h⟩
        · go_simp
          exact ⟨rfl, Below.refl _ _, fun h => by cases h⟩
        · have e7 : u 7 = .pointer (some ⟨w.heap.size, 0, none⟩) := hd 7 (by omega) (by kernel_rfl)
          rw [e7]
          have c0' := (hb.cell (p := ⟨w.heap.size, 0, none⟩) (lt_of_cell c0)).trans c0
          go_simp
          exact ⟨rfl, Below.refl _ _, fun h => by cases h⟩
        · go_simp
          exact ⟨rfl, Below.refl _ _, fun h => by cases h⟩
        · have e9 : u 9 = .pointer (some ⟨w.heap.size, 1, none⟩) := hd 9 (by omega) (by kernel_rfl)
          rw [e9]
          have c1' := (hb.cell (p := ⟨w.heap.size, 1, none⟩) (lt_of_cell c1)).trans c1
          go_simp
          exact ⟨rfl, Below.refl _ _, fun h => by cases h⟩
        · have e8 : u 8 = .int .i64 (F : Int) := hd 8 (by omega) (by kernel_rfl)
          have e10 : u 10 = .int .i64 (N : Int) := hd 10 (by omega) (by kernel_rfl)
          rw [e8, e10]
          go_simp
          exact ⟨rfl, Below.refl _ _, fun h => by cases h⟩
        · have e4 : u 4 = .slice (some ⟨g, 0, none⟩) pad pad := hd 4 (by omega) (by kernel_rfl)
          have e6 : u 6 = .int .i64 (F : Int) := hd 6 (by omega) (by kernel_rfl)
          have e11 : u 11 = .int .i64 (E : Int) := hd 11 (by omega) (by kernel_rfl)
          rw [e4, e6, e11]
          go_simp
          exact ⟨rfl, Below.refl _ _, fun h => by cases h⟩
        · have e12 : u 12 = .slice (some ⟨g, F, none⟩) (E - F) (pad - F) := hd 12 (by omega) (by kernel_rfl)
          rw [e12]
          go_simp
          refine (HMX.out wz hb).mono ?_
          rintro r w2 ⟨rfl, hw2⟩
          obtain rfl := hw2.symm
          exact ⟨rfl, Below.refl _ _, fun h => by cases h⟩
        · have b0' := (hb.cell (p := ⟨B, 0, none⟩) (lt_of_cell b0)).trans b0
          go_simp
          exact ⟨rfl, Below.refl _ _, fun h => by cases h⟩
        · have e13 : u 13 = .int .i64 M := hd 13 (by omega) (by kernel_rfl)
          have e14 : u 14 = .int .i64 but := hd 14 (by omega) (by kernel_rfl)
          rw [e13, e14]
          have hd2 : decide (M > but) = true := hdm
          go_simp
          exact ⟨rfl, Below.refl _ _, fun h => by cases h⟩
        · have e3 : u 3 = .bool true := hd 3 (by omega) (by kernel_rfl)
          have e15 : u 15 = .bool true := hd 15 (by omega) (by kernel_rfl)
          rw [e3, e15]
          go_simp
          exact ⟨rfl, Below.refl _ _, fun h => by cases h⟩
      case restC =>
        intro u wz hb hf hp
        have f0 : u 0 = .pointer (some ⟨w.heap.size, 1, none⟩) := hf 0 (by omega)
        have f1 : u 1 = .int .i64 (N : Int) := hf 1 (by omega)
        have f2 : u 2 = .bool true := hf 2 (by omega)
        have f3 : u 3 = .bool true := hf 3 (by omega)
        have f4 : u 4 = .slice (some ⟨g, 0, none⟩) pad pad := hf 4 (by omega)
        have f5 : u 5 = .pointer (some ⟨w.heap.size, 0, none⟩) := hf 5 (by omega)
        have f6 : u 6 = .int .i64 (F : Int) := hf 6 (by omega)
        have f7 : u 7 = .pointer (some ⟨w.heap.size, 0, none⟩) := hf 7 (by omega)
        have f8 : u 8 = .int .i64 (F : Int) := hf 8 (by omega)
        have f9 : u 9 = .pointer (some ⟨w.heap.size, 1, none⟩) := hf 9 (by omega)
        have f10 : u 10 = .int .i64 (N : Int) := hf 10 (by omega)
        have f11 : u 11 = .int .i64 (E : Int) := hf 11 (by omega)
        have f12 : u 12 = .slice (some ⟨g, F, none⟩) (E - F) (pad - F) := hf 12 (by omega)
        have f13 : u 13 = .int .i64 M := hf 13 (by omega)
        have f14 : u 14 = .int .i64 but := hf 14 (by omega)
        have f15 : u 15 = .bool true := hf 15 (by omega)
        have f16 : u 16 = .bool true := hf 16 (by omega)
        refine UptoW.rest 1 17 (by rfl) (by kernel_rfl) ?_
        simp only [List.take, List.drop, putOps, Act.put, List.setIfInBounds_toArray, List.set_cons_zero, List.set_cons_succ, Nat.reduceAdd, f0, f1, f2, f3, f4, f5, f6, f7, f8, f9, f10, f11, f12, f13, f14, f15, f16]
        clear f0 f1 f2 f3 f4 f5 f6 f7 f8 f9 f10 f11 f12 f13 f14 f15 f16 hf hp
        have HB2 := hide (bl_on HB.out hb)
        clear hb c0 c1 b0
        go_wp2_with fail
        go_ret
        exact ⟨by first | rfl | (rw [hr]; rfl) | (rw [hr, hdm]; rfl), HB2.out⟩
end Go.Proofs.YtoabffmiedbkkaaGreat.V
namespace Go.Proofs.YtoabffmiedbkkaaGreat.V
set_option maxRecDepth 20000
open Go Go.RowKit
set_option linter.unusedVariables false

/-- The trail's box. -/
def TrB (w : World) (T g1 g2 pad : Nat) : Prop := w.cell? ⟨T, 0, none⟩ = some (.slice (some ⟨g1, 0, none⟩) pad pad) ∧ w.cell? ⟨T, 1, none⟩ = some (.slice (some ⟨g2, 0, none⟩) pad pad)
theorem TrB.below {w w' : World} {T g1 g2 pad : Nat} (h : TrB w T g1 g2 pad) (hb : Below w.heap.size w w') : TrB w' T g1 g2 pad := ⟨(hb.cell (p := ⟨T, 0, none⟩) (lt_of_cell h.1)).trans h.1, (hb.cell (p := ⟨T, 1, none⟩) (lt_of_cell h.2)).trans h.2⟩
structure TIn (t : Tch) (pad : Nat) : Prop where
  sm : t.Sm
  r0 : inBk t.r0 (pad : Int) = true
  r1 : inBk t.r1 (pad : Int) = true
  r2 : inBk t.r2 (pad : Int) = true
  wr : inBk t.wr (pad : Int) = true
def crossV (f1 f2 : Nat → Int) (t : Tch) (but : Int) : Bool := laterV f1 t.wr but || laterV f2 t.r0 but
set_option maxRecDepth 100000 in
set_option maxHeartbeats 2000000 in
theorem crosses_any (T g1 g2 pad : Nat) (f1 f2 : Nat → Int) (t : Tch) (but : Int) (ht : TIn t pad) (hp : pad ≤ 1000000) (w : World) (hT : TrB w T g1 g2 pad) (h1 : IRow w g1 pad f1) (h2 : IRow w g2 pad f2) :
    Calls Tryz.prog 38 #[.pointer (some ⟨T, 0, none⟩), t.v, .int .i64 but] w fun r w' => r = .returned (.bool (crossV f1 f2 t but)) ∧ Below w.heap.size w w' := by
  obtain ⟨W, hW⟩ : ∃ W, W = (w.alloc (.cells #[.int .i64 t.r0.f, .int .i64 t.r0.w, .int .i64 t.r1.f, .int .i64 t.r1.w, .int .i64 t.r2.f, .int .i64 t.r2.w, .int .i64 t.wr.f, .int .i64 t.wr.w] 68)).alloc (.cells #[.int .i64 but] 3) := ⟨_, rfl⟩
  have hb : Below w.heap.size w W := by rw [hW]; exact bl_on (bl_new _) (bl_new _)
  have hK : TBlk W w.heap.size t := by
    rw [hW]
    exact (Below.heap_alloc _ _ _ (by simp)).trans (World.alloc_heap_new _ _)
  have hU : W.heap[w.heap.size + 1]? = some (.cells #[.int .i64 but] 3 (0, 0)) := by
    rw [hW]
    have := World.alloc_heap_new (w.alloc (.cells #[.int .i64 t.r0.f, .int .i64 t.r0.w, .int .i64 t.r1.f, .int .i64 t.r1.w, .int .i64 t.r2.f, .int .i64 t.r2.w, .int .i64 t.wr.f, .int .i64 t.wr.w] 68)) (.cells #[.int .i64 but] 3)
    rw [World.size_alloc] at this
    exact this
  have b0 : W.cell? ⟨w.heap.size + 1, 0, none⟩ = some (.int .i64 but) := by simp [World.cell?, hU]
  have HL1 := hide (fun (V : World) (hV : Below W.heap.size W V) => later_any g1 pad (w.heap.size + 1) f1 t.wr but ht.sm.wr ht.wr hp V ((h1.below hb).below hV) ((hV.cell (p := ⟨w.heap.size + 1, 0, none⟩) (lt_of_cell b0)).trans b0))
  have HL2 := hide (fun (V : World) (hV : Below W.heap.size W V) => later_any g2 pad (w.heap.size + 1) f2 t.r0 but ht.sm.r0 ht.r0 hp V ((h2.below hb).below hV) ((hV.cell (p := ⟨w.heap.size + 1, 0, none⟩) (lt_of_cell b0)).trans b0))
  obtain ⟨t0, t1⟩ := hT.below hb
  obtain ⟨⟨k0, k1, k2, k3, k4, k5, k6, k7⟩, zk⟩ := blk8 hK
  obtain ⟨R, hR⟩ : ∃ R, R = crossV f1 f2 t but := ⟨_, rfl⟩
  rw [← hR]
  have HR := hide hR
  have HW := hide hW
  have HB := hide hb
  clear hW hb hK hU b0 hR hT h1 h2
  obtain ⟨b1, hb1⟩ : ∃ b, b = laterV f1 t.wr but := ⟨_, rfl⟩
  obtain ⟨b2, hb2⟩ : ∃ b, b = laterV f2 t.r0 but := ⟨_, rfl⟩
  rw [← hb1] at HL1
  rw [← hb2] at HL2
  have HR1 : Hid (R = (b1 || b2)) := by rw [Hid, HR.out, hb1, hb2]; rfl
  clear hb1 hb2 HR ht
  unfold Tch.v
  go_enter Tryz.func38, Tryz.ntmps38
  go_upto_region 2 with fail
  rw [← HW.out]
  cases b1
  · cases b2
    · have hr : R = false := by rw [HR1.out]; rfl
      refine region_madeG 19 21 [fIs (.func (.func 49) #[] #[.pointer (some ⟨w.heap.size + 1, 0, none⟩)]), fIs (.pointer (some ⟨T, 0, none⟩)), fIs (.pointer (some ⟨T, 0, none⟩)), fIs (.pointer (some ⟨T, 0, none⟩)), fIs (.slice (some ⟨g1, 0, none⟩) pad pad), fIs (.pointer (some ⟨w.heap.size, 6, none⟩)), fIs (.agg #[.int .i64 t.wr.f, .int .i64 t.wr.w]), fIs (.bool false), fIs (.bool false), fIs (.func (.func 49) #[] #[.pointer (some ⟨w.heap.size + 1, 0, none⟩)]), fIs (.pointer (some ⟨T, 0, none⟩)), fIs (.pointer (some ⟨T, 0, none⟩)), fIs (.pointer (some ⟨T, 1, none⟩)), fIs (.slice (some ⟨g2, 0, none⟩) pad pad), fIs (.pointer (some ⟨w.heap.size, 0, none⟩)), fIs (.pointer (some ⟨w.heap.size, 0, none⟩)), fIs (.agg #[.int .i64 t.r0.f, .int .i64 t.r0.w]), fIs (.bool false), fIs (.bool false)] [none, none, none, none, none, none, none, none, some false, none, none, none, none, none, none, none, none, none, none] [true, true, true, true, true, true, true, true, true, true, true, true, true, true, true, true, true, true, true] (by kernel_rfl) (by kernel_rfl) (by kernel_rfl) (fun ch p q w3 e h => by obtain ⟨t1, d1⟩ := p; obtain ⟨t2, d2⟩ := q; cases e; exact h) ⟨fIs_good _, fIs_good _, fIs_good _, fIs_good _, fIs_good _, fIs_good _, fIs_good _, fIs_good _, fIs_good _, fIs_good _, fIs_good _, fIs_good _, fIs_good _, fIs_good _, fIs_good _, fIs_good _, fIs_good _, fIs_good _, fIs_good _, trivial⟩ ⟨fun _ _ h => h, rfl⟩ ?mkA ?restA
      case mkA =>
        refine ⟨fun u wz hb hd => ?_, fun u wz hb hd => ?_, fun u wz hb hd => ?_, fun u wz hb hd => ?_, fun u wz hb hd => ?_, fun u wz hb hd => ?_, fun u wz hb hd => ?_, fun u wz hb hd => ?_, fun u wz hb hd => ?_, fun u wz hb hd => ?_, fun u wz hb hd => ?_, fun u wz hb hd => ?_, fun u wz hb hd => ?_, fun u wz hb hd => ?_, fun u wz hb hd => ?_, fun u wz hb hd => ?_, fun u wz hb hd => ?_, fun u wz hb hd => ?_, fun u wz hb hd => ?_, trivial⟩
        all_goals simp only [Act.put, List.setIfInBounds_toArray, List.set_cons_zero, List.set_cons_succ]
        · go_simp
          exact ⟨rfl, Below.refl _ _, fun h => by cases h⟩
        · go_simp
          exact ⟨rfl, Below.refl _ _, fun h => by cases h⟩
        · have e1 : u 1 = .pointer (some ⟨T, 0, none⟩) := hd 1 (by omega) (by kernel_rfl)
          rw [e1]
          go_simp
          exact ⟨rfl, Below.refl _ _, fun h => by cases h⟩
        · have e2 : u 2 = .pointer (some ⟨T, 0, none⟩) := hd 2 (by omega) (by kernel_rfl)
          rw [e2]
          go_simp
          exact ⟨rfl, Below.refl _ _, fun h => by cases h⟩
        · have e3 : u 3 = .pointer (some ⟨T, 0, none⟩) := hd 3 (by omega) (by kernel_rfl)
          rw [e3]
          have t0' := (hb.cell (p := ⟨T, 0, none⟩) (lt_of_cell t0)).trans t0
          go_simp
          exact ⟨rfl, Below.refl _ _, fun h => by cases h⟩
        · go_simp
          exact ⟨rfl, Below.refl _ _, fun h => by cases h⟩
        · have e5 : u 5 = .pointer (some ⟨w.heap.size, 6, none⟩) := hd 5 (by omega) (by kernel_rfl)
          rw [e5]
          have k6' := (hb.cell (p := ⟨w.heap.size, 6, none⟩) (lt_of_cell k6)).trans k6
          have k7' := (hb.cell (p := ⟨w.heap.size, 7, none⟩) (lt_of_cell k7)).trans k7
          go_simp
          exact ⟨rfl, Below.refl _ _, fun h => by cases h⟩
        · have e0 : u 0 = .func (.func 49) #[] #[.pointer (some ⟨w.heap.size + 1, 0, none⟩)] := hd 0 (by omega) (by kernel_rfl)
          have e4 : u 4 = .slice (some ⟨g1, 0, none⟩) pad pad := hd 4 (by omega) (by kernel_rfl)
          have e6 : u 6 = .agg #[.int .i64 t.wr.f, .int .i64 t.wr.w] := hd 6 (by omega) (by kernel_rfl)
          rw [e0, e4, e6]
          go_simp
          refine (HL1.out wz hb).mono ?_
          rintro r w2 ⟨rfl, hb2⟩
          exact ⟨rfl, hb2, fun h => by cases h⟩
        · have e7 : u 7 = .bool false := hd 7 (by omega) (by kernel_rfl)
          rw [e7]
          go_simp
          exact ⟨rfl, Below.refl _ _, fun h => by cases h⟩
        · go_simp
          exact ⟨rfl, Below.refl _ _, fun h => by cases h⟩
        · go_simp
          exact ⟨rfl, Below.refl _ _, fun h => by cases h⟩
        · have e10 : u 10 = .pointer (some ⟨T, 0, none⟩) := hd 10 (by omega) (by kernel_rfl)
          rw [e10]
          go_simp
          exact ⟨rfl, Below.refl _ _, fun h => by cases h⟩
        · have e11 : u 11 = .pointer (some ⟨T, 0, none⟩) := hd 11 (by omega) (by kernel_rfl)
          rw [e11]
          go_simp
          exact ⟨rfl, Below.refl _ _, fun h => by cases h⟩
        · have e12 : u 12 = .pointer (some ⟨T, 1, none⟩) := hd 12 (by omega) (by kernel_rfl)
          rw [e12]
          have t1' := (hb.cell (p := ⟨T, 1, none⟩) (lt_of_cell t1)).trans t1
          go_simp
          exact ⟨rfl, Below.refl _ _, fun h => by cases h⟩
        · go_simp
          exact ⟨rfl, Below.refl _ _, fun h => by cases h⟩
        · have e14 : u 14 = .pointer (some ⟨w.heap.size, 0, none⟩) := hd 14 (by omega) (by kernel_rfl)
          rw [e14]
          go_simp
          exact ⟨rfl, Below.refl _ _, fun h => by cases h⟩
        · have e15 : u 15 = .pointer (some ⟨w.heap.size, 0, none⟩) := hd 15 (by omega) (by kernel_rfl)
          rw [e15]
          have k0' := (hb.cell (p := ⟨w.heap.size, 0, none⟩) (lt_of_cell k0)).trans k0
          have k1' := (hb.cell (p := ⟨w.heap.size, 1, none⟩) (lt_of_cell k1)).trans k1
          go_simp
          exact ⟨rfl, Below.refl _ _, fun h => by cases h⟩
        · have e9 : u 9 = .func (.func 49) #[] #[.pointer (some ⟨w.heap.size + 1, 0, none⟩)] := hd 9 (by omega) (by kernel_rfl)
          have e13 : u 13 = .slice (some ⟨g2, 0, none⟩) pad pad := hd 13 (by omega) (by kernel_rfl)
          have e16 : u 16 = .agg #[.int .i64 t.r0.f, .int .i64 t.r0.w] := hd 16 (by omega) (by kernel_rfl)
          rw [e9, e13, e16]
          go_simp
          refine (HL2.out wz hb).mono ?_
          rintro r w2 ⟨rfl, hb2⟩
          exact ⟨rfl, hb2, fun h => by cases h⟩
        · have e8 : u 8 = .bool false := hd 8 (by omega) (by kernel_rfl)
          have e17 : u 17 = .bool false := hd 17 (by omega) (by kernel_rfl)
          rw [e8, e17]
          go_simp
          exact ⟨rfl, Below.refl _ _, fun h => by cases h⟩
      case restA =>
        intro u wz hb hf hp
        have f0 : u 0 = .func (.func 49) #[] #[.pointer (some ⟨w.heap.size + 1, 0, none⟩)] := hf 0 (by omega)
        have f1 : u 1 = .pointer (some ⟨T, 0, none⟩) := hf 1 (by omega)
        have f2 : u 2 = .pointer (some ⟨T, 0, none⟩) := hf 2 (by omega)
        have f3 : u 3 = .pointer (some ⟨T, 0, none⟩) := hf 3 (by omega)
        have f4 : u 4 = .slice (some ⟨g1, 0, none⟩) pad pad := hf 4 (by omega)
        have f5 : u 5 = .pointer (some ⟨w.heap.size, 6, none⟩) := hf 5 (by omega)
        have f6 : u 6 = .agg #[.int .i64 t.wr.f, .int .i64 t.wr.w] := hf 6 (by omega)
        have f7 : u 7 = .bool false := hf 7 (by omega)
        have f8 : u 8 = .bool false := hf 8 (by omega)
        have f9 : u 9 = .func (.func 49) #[] #[.pointer (some ⟨w.heap.size + 1, 0, none⟩)] := hf 9 (by omega)
        have f10 : u 10 = .pointer (some ⟨T, 0, none⟩) := hf 10 (by omega)
        have f11 : u 11 = .pointer (some ⟨T, 0, none⟩) := hf 11 (by omega)
        have f12 : u 12 = .pointer (some ⟨T, 1, none⟩) := hf 12 (by omega)
        have f13 : u 13 = .slice (some ⟨g2, 0, none⟩) pad pad := hf 13 (by omega)
        have f14 : u 14 = .pointer (some ⟨w.heap.size, 0, none⟩) := hf 14 (by omega)
        have f15 : u 15 = .pointer (some ⟨w.heap.size, 0, none⟩) := hf 15 (by omega)
        have f16 : u 16 = .agg #[.int .i64 t.r0.f, .int .i64 t.r0.w] := hf 16 (by omega)
        have f17 : u 17 = .bool false := hf 17 (by omega)
        have f18 : u 18 = .bool false := hf 18 (by omega)
        refine UptoW.rest 1 19 (by rfl) (by kernel_rfl) ?_
        simp only [List.take, List.drop, putOps, Act.put, List.setIfInBounds_toArray, List.set_cons_zero, List.set_cons_succ, Nat.reduceAdd, f0, f1, f2, f3, f4, f5, f6, f7, f8, f9, f10, f11, f12, f13, f14, f15, f16, f17, f18]
        clear f0 f1 f2 f3 f4 f5 f6 f7 f8 f9 f10 f11 f12 f13 f14 f15 f16 f17 f18 hf hp
        have HB2 := hide (bl_on HB.out hb)
        clear hb k0 k1 k2 k3 k4 k5 k6 k7 t0 t1
        go_wp2_with fail
        go_ret
        exact ⟨by first | rfl | (rw [hr]; rfl), HB2.out⟩
    · have hr : R = true := by rw [HR1.out]; rfl
      refine region_madeG 19 21 [fIs (.func (.func 49) #[] #[.pointer (some ⟨w.heap.size + 1, 0, none⟩)]), fIs (.pointer (some ⟨T, 0, none⟩)), fIs (.pointer (some ⟨T, 0, none⟩)), fIs (.pointer (some ⟨T, 0, none⟩)), fIs (.slice (some ⟨g1, 0, none⟩) pad pad), fIs (.pointer (some ⟨w.heap.size, 6, none⟩)), fIs (.agg #[.int .i64 t.wr.f, .int .i64 t.wr.w]), fIs (.bool false), fIs (.bool false), fIs (.func (.func 49) #[] #[.pointer (some ⟨w.heap.size + 1, 0, none⟩)]), fIs (.pointer (some ⟨T, 0, none⟩)), fIs (.pointer (some ⟨T, 0, none⟩)), fIs (.pointer (some ⟨T, 1, none⟩)), fIs (.slice (some ⟨g2, 0, none⟩) pad pad), fIs (.pointer (some ⟨w.heap.size, 0, none⟩)), fIs (.pointer (some ⟨w.heap.size, 0, none⟩)), fIs (.agg #[.int .i64 t.r0.f, .int .i64 t.r0.w]), fIs (.bool true), fIs (.bool true)] [none, none, none, none, none, none, none, none, some false, none, none, none, none, none, none, none, none, none, none] [true, true, true, true, true, true, true, true, true, true, true, true, true, true, true, true, true, true, true] (by kernel_rfl) (by kernel_rfl) (by kernel_rfl) (fun ch p q w3 e h => by obtain ⟨t1, d1⟩ := p; obtain ⟨t2, d2⟩ := q; cases e; exact h) ⟨fIs_good _, fIs_good _, fIs_good _, fIs_good _, fIs_good _, fIs_good _, fIs_good _, fIs_good _, fIs_good _, fIs_good _, fIs_good _, fIs_good _, fIs_good _, fIs_good _, fIs_good _, fIs_good _, fIs_good _, fIs_good _, fIs_good _, trivial⟩ ⟨fun _ _ h => h, rfl⟩ ?mkB ?restB
      case mkB =>
        refine ⟨fun u wz hb hd => ?_, fun u wz hb hd => ?_, fun u wz hb hd => ?_, fun u wz hb hd => ?_, fun u wz hb hd => ?_, fun u wz hb hd => ?_, fun u wz hb hd => ?_, fun u wz hb hd => ?_, fun u wz hb hd => ?_, fun u wz hb hd => ?_, fun u wz hb hd => ?_, fun u wz hb hd => ?_, fun u wz hb hd => ?_, fun u wz hb hd => ?_, fun u wz hb hd => ?_, fun u wz hb hd => ?_, fun u wz hb hd => ?_, fun u wz hb hd => ?_, fun u wz hb hd => ?_, trivial⟩
        all_goals simp only [Act.put, List.setIfInBounds_toArray, List.set_cons_zero, List.set_cons_succ]
        · go_simp
          exact ⟨rfl, Below.refl _ _, fun h => by cases h⟩
        · go_simp
          exact ⟨rfl, Below.refl _ _, fun h => by cases h⟩
        · have e1 : u 1 = .pointer (some ⟨T, 0, none⟩) := hd 1 (by omega) (by kernel_rfl)
          rw [e1]
          go_simp
          exact ⟨rfl, Below.refl _ _, fun h => by cases h⟩
        · have e2 : u 2 = .pointer (some ⟨T, 0, none⟩) := hd 2 (by omega) (by kernel_rfl)
          rw [e2]
          go_simp
          exact ⟨rfl, Below.refl _ _, fun h => by cases h⟩
        · have e3 : u 3 = .pointer (some ⟨T, 0, none⟩) := hd 3 (by omega) (by kernel_rfl)
          rw [e3]
          have t0' := (hb.cell (p := ⟨T, 0, none⟩) (lt_of_cell t0)).trans t0
          go_simp
          exact ⟨rfl, Below.refl _ _, fun h => by cases h⟩
        · go_simp
          exact ⟨rfl, Below.refl _ _, fun h => by cases h⟩
        · have e5 : u 5 = .pointer (some ⟨w.heap.size, 6, none⟩) := hd 5 (by omega) (by kernel_rfl)
          rw [e5]
          have k6' := (hb.cell (p := ⟨w.heap.size, 6, none⟩) (lt_of_cell k6)).trans k6
          have k7' := (hb.cell (p := ⟨w.heap.size, 7, none⟩) (lt_of_cell k7)).trans k7
          go_simp
          exact ⟨rfl, Below.refl _ _, fun h => by cases h⟩
        · have e0 : u 0 = .func (.func 49) #[] #[.pointer (some ⟨w.heap.size + 1, 0, none⟩)] := hd 0 (by omega) (by kernel_rfl)
          have e4 : u 4 = .slice (some ⟨g1, 0, none⟩) pad pad := hd 4 (by omega) (by kernel_rfl)
          have e6 : u 6 = .agg #[.int .i64 t.wr.f, .int .i64 t.wr.w] := hd 6 (by omega) (by kernel_rfl)
          rw [e0, e4, e6]
          go_simp
          refine (HL1.out wz hb).mono ?_
          rintro r w2 ⟨rfl, hb2⟩
          exact ⟨rfl, hb2, fun h => by cases h⟩
        · have e7 : u 7 = .bool false := hd 7 (by omega) (by kernel_rfl)
          rw [e7]
          go_simp
          exact ⟨rfl, Below.refl _ _, fun h => by cases h⟩
        · go_simp
          exact ⟨rfl, Below.refl _ _, fun h => by cases h⟩
        · go_simp
          exact ⟨rfl, Below.refl _ _, fun h => by cases h⟩
        · have e10 : u 10 = .pointer (some ⟨T, 0, none⟩) := hd 10 (by omega) (by kernel_rfl)
          rw [e10]
          go_simp
          exact ⟨rfl, Below.refl _ _, fun h => by cases h⟩
        · have e11 : u 11 = .pointer (some ⟨T, 0, none⟩) := hd 11 (by omega) (by kernel_rfl)
          rw [e11]
          go_simp
          exact ⟨rfl, Below.refl _ _, fun h => by cases h⟩
        · have e12 : u 12 = .pointer (some ⟨T, 1, none⟩) := hd 12 (by omega) (by kernel_rfl)
          rw [e12]
          have t1' := (hb.cell (p := ⟨T, 1, none⟩) (lt_of_cell t1)).trans t1
          go_simp
          exact ⟨rfl, Below.refl _ _, fun h => by cases h⟩
        · go_simp
          exact ⟨rfl, Below.refl _ _, fun h => by cases h⟩
        · have e14 : u 14 = .pointer (some ⟨w.heap.size, 0, none⟩) := hd 14 (by omega) (by kernel_rfl)
          rw [e14]
          go_simp
          exact ⟨rfl, Below.refl _ _, fun h => by cases h⟩
        · have e15 : u 15 = .pointer (some ⟨w.heap.size, 0, none⟩) := hd 15 (by omega) (by kernel_rfl)
          rw [e15]
          have k0' := (hb.cell (p := ⟨w.heap.size, 0, none⟩) (lt_of_cell k0)).trans k0
          have k1' := (hb.cell (p := ⟨w.heap.size, 1, none⟩) (lt_of_cell k1)).trans k1
          go_simp
          exact ⟨rfl, Below.refl _ _, fun h => by cases h⟩
        · have e9 : u 9 = .func (.func 49) #[] #[.pointer (some ⟨w.heap.size + 1, 0, none⟩)] := hd 9 (by omega) (by kernel_rfl)
          have e13 : u 13 = .slice (some ⟨g2, 0, none⟩) pad pad := hd 13 (by omega) (by kernel_rfl)
          have e16 : u 16 = .agg #[.int .i64 t.r0.f, .int .i64 t.r0.w] := hd 16 (by omega) (by kernel_rfl)
          rw [e9, e13, e16]
          go_simp
          refine (HL2.out wz hb).mono ?_
          rintro r w2 ⟨rfl, hb2⟩
          exact ⟨rfl, hb2, fun h => by cases h⟩
        · have e8 : u 8 = .bool false := hd 8 (by omega) (by kernel_rfl)
          have e17 : u 17 = .bool true := hd 17 (by omega) (by kernel_rfl)
          rw [e8, e17]
          go_simp
          exact ⟨rfl, Below.refl _ _, fun h => by cases h⟩
      case restB =>
        intro u wz hb hf hp
        have f0 : u 0 = .func (.func 49) #[] #[.pointer (some ⟨w.heap.size + 1, 0, none⟩)] := hf 0 (by omega)
        have f1 : u 1 = .pointer (some ⟨T, 0, none⟩) := hf 1 (by omega)
        have f2 : u 2 = .pointer (some ⟨T, 0, none⟩) := hf 2 (by omega)
        have f3 : u 3 = .pointer (some ⟨T, 0, none⟩) := hf 3 (by omega)
        have f4 : u 4 = .slice (some ⟨g1, 0, none⟩) pad pad := hf 4 (by omega)
        have f5 : u 5 = .pointer (some ⟨w.heap.size, 6, none⟩) := hf 5 (by omega)
        have f6 : u 6 = .agg #[.int .i64 t.wr.f, .int .i64 t.wr.w] := hf 6 (by omega)
        have f7 : u 7 = .bool false := hf 7 (by omega)
        have f8 : u 8 = .bool false := hf 8 (by omega)
        have f9 : u 9 = .func (.func 49) #[] #[.pointer (some ⟨w.heap.size + 1, 0, none⟩)] := hf 9 (by omega)
        have f10 : u 10 = .pointer (some ⟨T, 0, none⟩) := hf 10 (by omega)
        have f11 : u 11 = .pointer (some ⟨T, 0, none⟩) := hf 11 (by omega)
        have f12 : u 12 = .pointer (some ⟨T, 1, none⟩) := hf 12 (by omega)
        have f13 : u 13 = .slice (some ⟨g2, 0, none⟩) pad pad := hf 13 (by omega)
        have f14 : u 14 = .pointer (some ⟨w.heap.size, 0, none⟩) := hf 14 (by omega)
        have f15 : u 15 = .pointer (some ⟨w.heap.size, 0, none⟩) := hf 15 (by omega)
        have f16 : u 16 = .agg #[.int .i64 t.r0.f, .int .i64 t.r0.w] := hf 16 (by omega)
        have f17 : u 17 = .bool true := hf 17 (by omega)
        have f18 : u 18 = .bool true := hf 18 (by omega)
        refine UptoW.rest 1 19 (by rfl) (by kernel_rfl) ?_
        simp only [List.take, List.drop, putOps, Act.put, List.setIfInBounds_toArray, List.set_cons_zero, List.set_cons_succ, Nat.reduceAdd, f0, f1, f2, f3, f4, f5, f6, f7, f8, f9, f10, f11, f12, f13, f14, f15, f16, f17, f18]
        clear f0 f1 f2 f3 f4 f5 f6 f7 f8 f9 f10 f11 f12 f13 f14 f15 f16 f17 f18 hf hp
        have HB2 := hide (bl_on HB.out hb)
        clear hb k0 k1 k2 k3 k4 k5 k6 k7 t0 t1
        go_wp2_with fail
        go_ret
        exact ⟨by first | rfl | (rw [hr]; rfl), HB2.out⟩
  · have hr : R = true := by rw [HR1.out]; rfl
    refine region_madeG 19 21 [fIs (.func (.func 49) #[] #[.pointer (some ⟨w.heap.size + 1, 0, none⟩)]), fIs (.pointer (some ⟨T, 0, none⟩)), fIs (.pointer (some ⟨T, 0, none⟩)), fIs (.pointer (some ⟨T, 0, none⟩)), fIs (.slice (some ⟨g1, 0, none⟩) pad pad), fIs (.pointer (some ⟨w.heap.size, 6, none⟩)), fIs (.agg #[.int .i64 t.wr.f, .int .i64 t.wr.w]), fIs (.bool true), fIs (.bool true), fIs undef, fIs undef, fIs undef, fIs undef, fIs undef, fIs undef, fIs undef, fIs undef, fIs undef, fIs (.bool true)] [none, none, none, none, none, none, none, none, some true, none, none, none, none, none, none, none, none, none, none] [true, true, true, true, true, true, true, true, true, false, false, false, false, false, false, false, false, false, true] (by kernel_rfl) (by kernel_rfl) (by kernel_rfl) (fun ch p q w3 e h => by obtain ⟨t1, d1⟩ := p; obtain ⟨t2, d2⟩ := q; cases e; exact h) ⟨fIs_good _, fIs_good _, fIs_good _, fIs_good _, fIs_good _, fIs_good _, fIs_good _, fIs_good _, fIs_good _, fIs_good _, fIs_good _, fIs_good _, fIs_good _, fIs_good _, fIs_good _, fIs_good _, fIs_good _, fIs_good _, fIs_good _, trivial⟩ ⟨fun _ _ h => h, rfl⟩ ?mkC ?restC
    case mkC =>
      refine ⟨fun u wz hb hd => ?_, fun u wz hb hd => ?_, fun u wz hb hd => ?_, fun u wz hb hd => ?_, fun u wz hb hd => ?_, fun u wz hb hd => ?_, fun u wz hb hd => ?_, fun u wz hb hd => ?_, fun u wz hb hd => ?_, ⟨fun _ => rfl, rfl⟩, ⟨fun _ => rfl, rfl⟩, ⟨fun _ => rfl, rfl⟩, ⟨fun _ => rfl, rfl⟩, ⟨fun _ => rfl, rfl⟩, ⟨fun _ => rfl, rfl⟩, ⟨fun _ => rfl, rfl⟩, ⟨fun _ => rfl, rfl⟩, ⟨fun _ => rfl, rfl⟩, fun u wz hb hd => ?_, trivial⟩
      all_goals simp only [Act.put, List.setIfInBounds_toArray, List.set_cons_zero, List.set_cons_succ]
      · go_simp
        exact ⟨rfl, Below.refl _ _, fun h => by cases h⟩
      · go_simp
        exact ⟨rfl, Below.refl _ _, fun h => by cases h⟩
      · have e1 : u 1 = .pointer (some ⟨T, 0, none⟩) := hd 1 (by omega) (by kernel_rfl)
        rw [e1]
        go_simp
        exact ⟨rfl, Below.refl _ _, fun h => by cases h⟩
      · have e2 : u 2 = .pointer (some ⟨T, 0, none⟩) := hd 2 (by omega) (by kernel_rfl)
        rw [e2]
        go_simp
        exact ⟨rfl, Below.refl _ _, fun h => by cases h⟩
      · have e3 : u 3 = .pointer (some ⟨T, 0, none⟩) := hd 3 (by omega) (by kernel_rfl)
        rw [e3]
        have t0' := (hb.cell (p := ⟨T, 0, none⟩) (lt_of_cell t0)).trans t0
        go_simp
        exact ⟨rfl, Below.refl _ _, fun h => by cases h⟩
      · go_simp
        exact ⟨rfl, Below.refl _ _, fun h => by cases h⟩
      · have e5 : u 5 = .pointer (some ⟨w.heap.size, 6, none⟩) := hd 5 (by omega) (by kernel_rfl)
        rw [e5]
        have k6' := (hb.cell (p := ⟨w.heap.size, 6, none⟩) (lt_of_cell k6)).trans k6
        have k7' := (hb.cell (p := ⟨w.heap.size, 7, none⟩) (lt_of_cell k7)).trans k7
        go_simp
        exact ⟨rfl, Below.refl _ _, fun h => by cases h⟩
      · have e0 : u 0 = .func (.func 49) #[] #[.pointer (some ⟨w.heap.size + 1, 0, none⟩)] := hd 0 (by omega) (by kernel_rfl)
        have e4 : u 4 = .slice (some ⟨g1, 0, none⟩) pad pad := hd 4 (by omega) (by kernel_rfl)
        have e6 : u 6 = .agg #[.int .i64 t.wr.f, .int .i64 t.wr.w] := hd 6 (by omega) (by kernel_rfl)
        rw [e0, e4, e6]
        go_simp
        refine (HL1.out wz hb).mono ?_
        rintro r w2 ⟨rfl, hb2⟩
        exact ⟨rfl, hb2, fun h => by cases h⟩
      · have e7 : u 7 = .bool true := hd 7 (by omega) (by kernel_rfl)
        rw [e7]
        go_simp
        exact ⟨rfl, Below.refl _ _, fun h => by cases h⟩
      · have e8 : u 8 = .bool true := hd 8 (by omega) (by kernel_rfl)
        rw [e8]
        go_simp
        exact ⟨rfl, Below.refl _ _, fun h => by cases h⟩
    case restC =>
      intro u wz hb hf hp
      have f0 : u 0 = .func (.func 49) #[] #[.pointer (some ⟨w.heap.size + 1, 0, none⟩)] := hf 0 (by omega)
      have f1 : u 1 = .pointer (some ⟨T, 0, none⟩) := hf 1 (by omega)
      have f2 : u 2 = .pointer (some ⟨T, 0, none⟩) := hf 2 (by omega)
      have f3 : u 3 = .pointer (some ⟨T, 0, none⟩) := hf 3 (by omega)
      have f4 : u 4 = .slice (some ⟨g1, 0, none⟩) pad pad := hf 4 (by omega)
      have f5 : u 5 = .pointer (some ⟨w.heap.size, 6, none⟩) := hf 5 (by omega)
      have f6 : u 6 = .agg #[.int .i64 t.wr.f, .int .i64 t.wr.w] := hf 6 (by omega)
      have f7 : u 7 = .bool true := hf 7 (by omega)
      have f8 : u 8 = .bool true := hf 8 (by omega)
      have f9 : u 9 = undef := hf 9 (by omega)
      have f10 : u 10 = undef := hf 10 (by omega)
      have f11 : u 11 = undef := hf 11 (by omega)
      have f12 : u 12 = undef := hf 12 (by omega)
      have f13 : u 13 = undef := hf 13 (by omega)
      have f14 : u 14 = undef := hf 14 (by omega)
      have f15 : u 15 = undef := hf 15 (by omega)
      have f16 : u 16 = undef := hf 16 (by omega)
      have f17 : u 17 = undef := hf 17 (by omega)
      have f18 : u 18 = .bool true := hf 18 (by omega)
      refine UptoW.rest 1 19 (by rfl) (by kernel_rfl) ?_
      simp only [List.take, List.drop, putOps, Act.put, List.setIfInBounds_toArray, List.set_cons_zero, List.set_cons_succ, Nat.reduceAdd, f0, f1, f2, f3, f4, f5, f6, f7, f8, f9, f10, f11, f12, f13, f14, f15, f16, f17, f18]
      clear f0 f1 f2 f3 f4 f5 f6 f7 f8 f9 f10 f11 f12 f13 f14 f15 f16 f17 f18 hf hp
      have HB2 := hide (bl_on HB.out hb)
      clear hb k0 k1 k2 k3 k4 k5 k6 k7 t0 t1
      go_wp2_with fail
      go_ret
      exact ⟨by first | rfl | (rw [hr]; rfl), HB2.out⟩
/-- What mark leaves. -/
def markF (f : Nat → Int) (t : Tch) (n : Int) : Nat → Int := fun i => if tB t (i : Int) = true then n else f i
def markW (f : Nat → Int) (t : Tch) (n : Int) : Nat → Int := fun i => if inS t.wr (i : Int) = true then n else f i
end Go.Proofs.YtoabffmiedbkkaaGreat.V
