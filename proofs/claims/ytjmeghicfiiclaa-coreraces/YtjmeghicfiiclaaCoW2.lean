/-
  What is wrong with an instruction: core.wrongIns.
-/
import Derived.Test.YtjmeghicfiiclaaCoW1
namespace Go.Proofs.Ytjmeghicfiiclaa.V
open Go Go.RowKit
set_option linter.unusedVariables false

theorem tch_sm {x : In} (h : x.Sm) : (tchV x).Sm := by
  have ha : (⟨x.a, x.n⟩ : Str).Sm := ⟨by have := h.a; simp only; omega, by have := h.n; simp only; omega⟩
  have hb : (⟨x.b, x.n⟩ : Str).Sm := ⟨by have := h.b; simp only; omega, by have := h.n; simp only; omega⟩
  have hc : (⟨x.c, x.n⟩ : Str).Sm := ⟨by have := h.c; simp only; omega, by have := h.n; simp only; omega⟩
  have h1 : (⟨x.a, 1⟩ : Str).Sm := ⟨by have := h.a; simp only; omega, by simp only; omega⟩
  unfold tchV
  repeat' split
  · exact ⟨zS_sm, zS_sm, zS_sm, zS_sm⟩
  · exact ⟨zS_sm, zS_sm, zS_sm, ha⟩
  · exact ⟨ha, zS_sm, zS_sm, zS_sm⟩
  · exact ⟨ha, hb, hc, ha⟩
  · exact ⟨h1, hb, hc, h1⟩
  · exact ⟨ha, hb, zS_sm, ha⟩
  · exact ⟨hb, hc, zS_sm, ha⟩
set_option maxRecDepth 100000 in
set_option maxHeartbeats 4000000 in
theorem wrongIns_any (c : CV) (e : Bool) (x : In) (w : World) : Calls Try.prog 12 #[c.v, .int .i64 (engV e), x.v6] w fun r w' => r = .returned (.int .i64 (insE c.pad c.mem e x)) ∧ Below w.heap.size w w' := by
  obtain ⟨W, hW⟩ : ∃ W, W = (w.alloc (.cells #[.int .i64 c.pad, .int .i64 c.mem, .slice c.ma c.ml c.mc, .slice c.ka c.kl c.kc] 24)).alloc (.cells #[.int .i64 x.d, .int .i64 x.a, .int .i64 x.b, .int .i64 x.c, .int .i64 x.n, .int .i64 x.v] 36) := ⟨_, rfl⟩
  have hb : Below w.heap.size w W := by rw [hW]; exact bl_on (bl_new _) (bl_new _)
  have hC : CBlk W w.heap.size c := by rw [hW]; exact (CBlk.new w c).below (bl_new _)
  have hI : InBlk W (w.heap.size + 1) x := by
    rw [hW]
    have := InBlk.new (w.alloc (.cells #[.int .i64 c.pad, .int .i64 c.mem, .slice c.ma c.ml c.mc, .slice c.ka c.kl c.kc] 24)) x
    rw [World.size_alloc] at this
    exact this
  obtain ⟨⟨c0, c1, c2, c3⟩, zc⟩ := hC.cells
  obtain ⟨⟨i0, i1, i2, i3, i4, i5⟩, zi⟩ := hI.cells
  obtain ⟨R, hR⟩ : ∃ R, R = insE c.pad c.mem e x := ⟨_, rfl⟩
  rw [← hR]
  obtain ⟨E, hE⟩ : ∃ E, E = engV e := ⟨_, rfl⟩
  rw [← hE]
  have HHAS := hide (has_any e x.d W)
  rw [← hE] at HHAS
  have HR := hide hR
  have HW := hide hW
  have HB := hide hb
  clear hW hb hR hC hI hE
  unfold CV.v In.v6
  go_enter Try.func12, Try.ntmps12
  go_upto_region 1 with fail
  rw [← HW.out]
  go_wp2_with fail
  refine HHAS.out.mono ?_
  rintro r w2 ⟨rfl, hw2⟩
  obtain rfl := hw2.symm
  cases hh : hasV e x.d
  · have hr : R = 1 := by rw [HR.out]; simp [insE, hh]
    go_wp2_with fail
    go_ret
    exact ⟨by first | rfl | (rw [hr]; rfl), HB.out⟩
  have hR2 : R = if x.d = 3 ∨ x.d = 4 then (if x.a < 0 ∨ 16 ≤ x.a then 4 else 0) else if x.n < 0 ∨ 4096 < x.n ∨ farV x.a = true ∨ farV x.b = true ∨ farV x.c = true then 4 else if tchIn (tchV x) c.pad = false ∨ findV c.mem x = false then 4 else 0 := by
    rw [HR.out, insE, if_neg (by simp [hh])]
  have HR2 := hide hR2
  clear hR2 hh HR HHAS
  by_cases e3 : x.d = 3
  · have q3 : (x.d == 3) = true := by simpa using e3
    by_cases p1 : x.a < 0
    · have hr : R = 4 := by rw [HR2.out, if_pos (by simp [e3]), if_pos (.inl p1)]
      clear e3
      go_wp2_with fail
      go_ret
      exact ⟨by first | rfl | (rw [hr]; rfl), HB.out⟩
    · by_cases p2 : 16 ≤ x.a
      · have hr : R = 4 := by rw [HR2.out, if_pos (by simp [e3]), if_pos (.inr p2)]
        clear e3
        go_wp2_with fail
        go_ret
        exact ⟨by first | rfl | (rw [hr]; rfl), HB.out⟩
      · have hr : R = 0 := by rw [HR2.out, if_pos (by simp [e3]), if_neg (by omega)]
        clear e3
        go_wp2_with fail
        go_ret
        exact ⟨by first | rfl | (rw [hr]; rfl), HB.out⟩
  have q3 : (x.d == 3) = false := by simpa using e3
  by_cases e4 : x.d = 4
  · have q4 : (x.d == 4) = true := by simpa using e4
    by_cases p1 : x.a < 0
    · have hr : R = 4 := by rw [HR2.out, if_pos (by simp [e4]), if_pos (.inl p1)]
      clear e3 e4
      go_wp2_with fail
      go_ret
      exact ⟨by first | rfl | (rw [hr]; rfl), HB.out⟩
    · by_cases p2 : 16 ≤ x.a
      · have hr : R = 4 := by rw [HR2.out, if_pos (by simp [e4]), if_pos (.inr p2)]
        clear e3 e4
        go_wp2_with fail
        go_ret
        exact ⟨by first | rfl | (rw [hr]; rfl), HB.out⟩
      · have hr : R = 0 := by rw [HR2.out, if_pos (by simp [e4]), if_neg (by omega)]
        clear e3 e4
        go_wp2_with fail
        go_ret
        exact ⟨by first | rfl | (rw [hr]; rfl), HB.out⟩
  have q4 : (x.d == 4) = false := by simpa using e4
  have hR3 : R = if x.n < 0 ∨ 4096 < x.n ∨ farV x.a = true ∨ farV x.b = true ∨ farV x.c = true then 4 else if tchIn (tchV x) c.pad = false ∨ findV c.mem x = false then 4 else 0 := by rw [HR2.out, if_neg (by omega)]
  have HR3 := hide hR3
  clear hR3 HR2 e3 e4
  by_cases p1 : x.n < 0
  · have hr : R = 4 := by rw [HR3.out, if_pos (.inl p1)]
    go_wp2_with fail
    go_ret
    exact ⟨by first | rfl | (rw [hr]; rfl), HB.out⟩
  by_cases p2 : 4096 < x.n
  · have hr : R = 4 := by rw [HR3.out, if_pos (.inr (.inl p2))]
    go_wp2_with fail
    go_ret
    exact ⟨by first | rfl | (rw [hr]; rfl), HB.out⟩
  go_wp2_with fail
  refine (far_any x.a _).mono ?_
  rintro r w2 ⟨rfl, hw2⟩
  obtain rfl := hw2.symm
  cases fa : farV x.a
  rotate_left
  · have hr : R = 4 := by rw [HR3.out, if_pos (by simp [fa])]
    go_wp2_with fail
    go_ret
    exact ⟨by first | rfl | (rw [hr]; rfl), HB.out⟩
  go_wp2_with fail
  refine (far_any x.b _).mono ?_
  rintro r w2 ⟨rfl, hw2⟩
  obtain rfl := hw2.symm
  cases fb : farV x.b
  rotate_left
  · have hr : R = 4 := by rw [HR3.out, if_pos (by simp [fb])]
    go_wp2_with fail
    go_ret
    exact ⟨by first | rfl | (rw [hr]; rfl), HB.out⟩
  go_wp2_with fail
  refine (far_any x.c _).mono ?_
  rintro r w2 ⟨rfl, hw2⟩
  obtain rfl := hw2.symm
  cases fc : farV x.c
  rotate_left
  · have hr : R = 4 := by rw [HR3.out, if_pos (by simp [fc])]
    go_wp2_with fail
    go_ret
    exact ⟨by first | rfl | (rw [hr]; rfl), HB.out⟩
  have hsm : x.Sm := by
    simp only [farV, Bool.or_eq_false_iff, decide_eq_false_iff_not] at fa fb fc
    exact ⟨by omega, by omega, by omega, by omega⟩
  have hR4 : R = if tchIn (tchV x) c.pad = false ∨ findV c.mem x = false then 4 else 0 := by rw [HR3.out, if_neg (by simp [fa, fb, fc]; omega)]
  have HR4 := hide hR4
  have HSM := hide hsm
  clear hR4 hsm HR3
  go_upto_region 10 with fail
  clear fa fb fc p1 p2
  cases hin : tchIn (tchV x) c.pad
  · have hr : R = 4 := by rw [HR4.out, if_pos (.inl hin)]
    have HI := hide hin
    clear hin
    refine region_madeG 12 14 [fIs (.agg #[.int .i64 x.d, .int .i64 x.a, .int .i64 x.b, .int .i64 x.c, .int .i64 x.n, .int .i64 x.v]), fIs (tchV x).v, fIs (.pointer (some ⟨w.heap.size, 0, none⟩)), fIs (.int .i64 c.pad), fIs (.bool false), fIs (.bool true), fIs (.bool true), fIs undef, fIs undef, fIs undef, fIs undef, fIs (.bool true)] [none, none, none, none, none, none, some true, none, none, none, none, none] [true, true, true, true, true, true, true, false, false, false, false, true] (by kernel_rfl) (by kernel_rfl) (by kernel_rfl) (fun ch p q w3 e h => by obtain ⟨t1, d1⟩ := p; obtain ⟨t2, d2⟩ := q; cases e; exact h) ⟨fIs_good _, fIs_good _, fIs_good _, fIs_good _, fIs_good _, fIs_good _, fIs_good _, fIs_good _, fIs_good _, fIs_good _, fIs_good _, fIs_good _, trivial⟩ ⟨fun _ _ h => h, rfl⟩ ?mkA ?restA
    case mkA =>
      refine ⟨fun u wz hb hd => ?_, fun u wz hb hd => ?_, fun u wz hb hd => ?_, fun u wz hb hd => ?_, fun u wz hb hd => ?_, fun u wz hb hd => ?_, fun u wz hb hd => ?_, ⟨fun _ => rfl, rfl⟩, ⟨fun _ => rfl, rfl⟩, ⟨fun _ => rfl, rfl⟩, ⟨fun _ => rfl, rfl⟩, fun u wz hb hd => ?_, trivial⟩
      all_goals simp only [Act.put, List.setIfInBounds_toArray, List.set_cons_zero, List.set_cons_succ]
      · have i0' := (hb.cell (p := ⟨w.heap.size + 1, 0, none⟩) (lt_of_cell i0)).trans i0
        have i1' := (hb.cell (p := ⟨w.heap.size + 1, 1, none⟩) (lt_of_cell i1)).trans i1
        have i2' := (hb.cell (p := ⟨w.heap.size + 1, 2, none⟩) (lt_of_cell i2)).trans i2
        have i3' := (hb.cell (p := ⟨w.heap.size + 1, 3, none⟩) (lt_of_cell i3)).trans i3
        have i4' := (hb.cell (p := ⟨w.heap.size + 1, 4, none⟩) (lt_of_cell i4)).trans i4
        have i5' := (hb.cell (p := ⟨w.heap.size + 1, 5, none⟩) (lt_of_cell i5)).trans i5
        go_simp
        exact ⟨rfl, Below.refl _ _, fun h => by cases h⟩
      · have e0 : u 0 = .agg #[.int .i64 x.d, .int .i64 x.a, .int .i64 x.b, .int .i64 x.c, .int .i64 x.n, .int .i64 x.v] := hd 0 (by omega) (by kernel_rfl)
        rw [e0]
        go_simp
        refine (touched_any x wz).mono ?_
        rintro r w2 ⟨rfl, hb2⟩
        exact ⟨rfl, hb2, fun h => by cases h⟩
      · go_simp
        exact ⟨rfl, Below.refl _ _, fun h => by cases h⟩
      · have e2 : u 2 = .pointer (some ⟨w.heap.size, 0, none⟩) := hd 2 (by omega) (by kernel_rfl)
        rw [e2]
        have c0' := (hb.cell (p := ⟨w.heap.size, 0, none⟩) (lt_of_cell c0)).trans c0
        go_simp
        exact ⟨rfl, Below.refl _ _, fun h => by cases h⟩
      · have e1 : u 1 = (tchV x).v := hd 1 (by omega) (by kernel_rfl)
        have e3 : u 3 = .int .i64 c.pad := hd 3 (by omega) (by kernel_rfl)
        rw [e1, e3]
        go_simp
        refine (tWithin_any (tchV x) c.pad (tch_sm HSM.out) wz).mono ?_
        rintro r w2 ⟨rfl, hb2⟩
        exact ⟨by rw [HI.out]; rfl, hb2, fun h => by cases h⟩
      · have e4 : u 4 = .bool false := hd 4 (by omega) (by kernel_rfl)
        rw [e4]
        go_simp
        exact ⟨rfl, Below.refl _ _, fun h => by cases h⟩
      · have e5 : u 5 = .bool true := hd 5 (by omega) (by kernel_rfl)
        rw [e5]
        go_simp
        exact ⟨rfl, Below.refl _ _, fun h => by cases h⟩
      · have e6 : u 6 = .bool true := hd 6 (by omega) (by kernel_rfl)
        rw [e6]
        go_simp
        exact ⟨rfl, Below.refl _ _, fun h => by cases h⟩
    case restA =>
      intro u wz hb hf hp
      have f0 : u 0 = .agg #[.int .i64 x.d, .int .i64 x.a, .int .i64 x.b, .int .i64 x.c, .int .i64 x.n, .int .i64 x.v] := hf 0 (by omega)
      have f1 : u 1 = (tchV x).v := hf 1 (by omega)
      have f2 : u 2 = .pointer (some ⟨w.heap.size, 0, none⟩) := hf 2 (by omega)
      have f3 : u 3 = .int .i64 c.pad := hf 3 (by omega)
      have f4 : u 4 = .bool false := hf 4 (by omega)
      have f5 : u 5 = .bool true := hf 5 (by omega)
      have f6 : u 6 = .bool true := hf 6 (by omega)
      have f7 : u 7 = undef := hf 7 (by omega)
      have f8 : u 8 = undef := hf 8 (by omega)
      have f9 : u 9 = undef := hf 9 (by omega)
      have f10 : u 10 = undef := hf 10 (by omega)
      have f11 : u 11 = .bool true := hf 11 (by omega)
      refine UptoW.rest 0 12 (by rfl) (by kernel_rfl) ?_
      simp only [List.take, List.drop, putOps, Act.put, List.setIfInBounds_toArray, List.set_cons_zero, List.set_cons_succ, Nat.reduceAdd, f0, f1, f2, f3, f4, f5, f6, f7, f8, f9, f10, f11]
      clear f0 f1 f2 f3 f4 f5 f6 f7 f8 f9 f10 f11 hf hp
      have HB2 := hide (bl_on HB.out hb)
      clear hb i0 i1 i2 i3 i4 i5 c0 c1 c2 c3
      go_wp2_with fail
      go_ret
      exact ⟨by first | rfl | (rw [hr]; rfl), HB2.out⟩
  · have HI := hide hin
    cases hfi : findV c.mem x
    · have hr : R = 4 := by rw [HR4.out, if_pos (.inr hfi)]
      have HF := hide hfi
      clear hin hfi
      refine region_madeG 12 14 [fIs (.agg #[.int .i64 x.d, .int .i64 x.a, .int .i64 x.b, .int .i64 x.c, .int .i64 x.n, .int .i64 x.v]), fIs (tchV x).v, fIs (.pointer (some ⟨w.heap.size, 0, none⟩)), fIs (.int .i64 c.pad), fIs (.bool true), fIs (.bool false), fIs (.bool false), fIs (.agg #[.int .i64 c.pad, .int .i64 c.mem, .slice c.ma c.ml c.mc, .slice c.ka c.kl c.kc]), fIs (.agg #[.int .i64 x.d, .int .i64 x.a, .int .i64 x.b, .int .i64 x.c, .int .i64 x.n, .int .i64 x.v]), fIs (.bool false), fIs (.bool true), fIs (.bool true)] [none, none, none, none, none, none, some false, none, none, none, none, none] [true, true, true, true, true, true, true, true, true, true, true, true] (by kernel_rfl) (by kernel_rfl) (by kernel_rfl) (fun ch p q w3 e h => by obtain ⟨t1, d1⟩ := p; obtain ⟨t2, d2⟩ := q; cases e; exact h) ⟨fIs_good _, fIs_good _, fIs_good _, fIs_good _, fIs_good _, fIs_good _, fIs_good _, fIs_good _, fIs_good _, fIs_good _, fIs_good _, fIs_good _, trivial⟩ ⟨fun _ _ h => h, rfl⟩ ?mkB ?restB
      case mkB =>
        refine ⟨fun u wz hb hd => ?_, fun u wz hb hd => ?_, fun u wz hb hd => ?_, fun u wz hb hd => ?_, fun u wz hb hd => ?_, fun u wz hb hd => ?_, fun u wz hb hd => ?_, fun u wz hb hd => ?_, fun u wz hb hd => ?_, fun u wz hb hd => ?_, fun u wz hb hd => ?_, fun u wz hb hd => ?_, trivial⟩
        all_goals simp only [Act.put, List.setIfInBounds_toArray, List.set_cons_zero, List.set_cons_succ]
        · have i0' := (hb.cell (p := ⟨w.heap.size + 1, 0, none⟩) (lt_of_cell i0)).trans i0
          have i1' := (hb.cell (p := ⟨w.heap.size + 1, 1, none⟩) (lt_of_cell i1)).trans i1
          have i2' := (hb.cell (p := ⟨w.heap.size + 1, 2, none⟩) (lt_of_cell i2)).trans i2
          have i3' := (hb.cell (p := ⟨w.heap.size + 1, 3, none⟩) (lt_of_cell i3)).trans i3
          have i4' := (hb.cell (p := ⟨w.heap.size + 1, 4, none⟩) (lt_of_cell i4)).trans i4
          have i5' := (hb.cell (p := ⟨w.heap.size + 1, 5, none⟩) (lt_of_cell i5)).trans i5
          go_simp
          exact ⟨rfl, Below.refl _ _, fun h => by cases h⟩
        · have e0 : u 0 = .agg #[.int .i64 x.d, .int .i64 x.a, .int .i64 x.b, .int .i64 x.c, .int .i64 x.n, .int .i64 x.v] := hd 0 (by omega) (by kernel_rfl)
          rw [e0]
          go_simp
          refine (touched_any x wz).mono ?_
          rintro r w2 ⟨rfl, hb2⟩
          exact ⟨rfl, hb2, fun h => by cases h⟩
        · go_simp
          exact ⟨rfl, Below.refl _ _, fun h => by cases h⟩
        · have e2 : u 2 = .pointer (some ⟨w.heap.size, 0, none⟩) := hd 2 (by omega) (by kernel_rfl)
          rw [e2]
          have c0' := (hb.cell (p := ⟨w.heap.size, 0, none⟩) (lt_of_cell c0)).trans c0
          go_simp
          exact ⟨rfl, Below.refl _ _, fun h => by cases h⟩
        · have e1 : u 1 = (tchV x).v := hd 1 (by omega) (by kernel_rfl)
          have e3 : u 3 = .int .i64 c.pad := hd 3 (by omega) (by kernel_rfl)
          rw [e1, e3]
          go_simp
          refine (tWithin_any (tchV x) c.pad (tch_sm HSM.out) wz).mono ?_
          rintro r w2 ⟨rfl, hb2⟩
          exact ⟨by rw [HI.out]; rfl, hb2, fun h => by cases h⟩
        · have e4 : u 4 = .bool true := hd 4 (by omega) (by kernel_rfl)
          rw [e4]
          go_simp
          exact ⟨rfl, Below.refl _ _, fun h => by cases h⟩
        · have e5 : u 5 = .bool false := hd 5 (by omega) (by kernel_rfl)
          rw [e5]
          go_simp
          exact ⟨rfl, Below.refl _ _, fun h => by cases h⟩
        · have c0' := (hb.cell (p := ⟨w.heap.size, 0, none⟩) (lt_of_cell c0)).trans c0
          have c1' := (hb.cell (p := ⟨w.heap.size, 1, none⟩) (lt_of_cell c1)).trans c1
          have c2' := (hb.cell (p := ⟨w.heap.size, 2, none⟩) (lt_of_cell c2)).trans c2
          have c3' := (hb.cell (p := ⟨w.heap.size, 3, none⟩) (lt_of_cell c3)).trans c3
          go_simp
          exact ⟨rfl, Below.refl _ _, fun h => by cases h⟩
        · have i0' := (hb.cell (p := ⟨w.heap.size + 1, 0, none⟩) (lt_of_cell i0)).trans i0
          have i1' := (hb.cell (p := ⟨w.heap.size + 1, 1, none⟩) (lt_of_cell i1)).trans i1
          have i2' := (hb.cell (p := ⟨w.heap.size + 1, 2, none⟩) (lt_of_cell i2)).trans i2
          have i3' := (hb.cell (p := ⟨w.heap.size + 1, 3, none⟩) (lt_of_cell i3)).trans i3
          have i4' := (hb.cell (p := ⟨w.heap.size + 1, 4, none⟩) (lt_of_cell i4)).trans i4
          have i5' := (hb.cell (p := ⟨w.heap.size + 1, 5, none⟩) (lt_of_cell i5)).trans i5
          go_simp
          exact ⟨rfl, Below.refl _ _, fun h => by cases h⟩
        · have e7 : u 7 = .agg #[.int .i64 c.pad, .int .i64 c.mem, .slice c.ma c.ml c.mc, .slice c.ka c.kl c.kc] := hd 7 (by omega) (by kernel_rfl)
          have e8 : u 8 = .agg #[.int .i64 x.d, .int .i64 x.a, .int .i64 x.b, .int .i64 x.c, .int .i64 x.n, .int .i64 x.v] := hd 8 (by omega) (by kernel_rfl)
          rw [e7, e8]
          go_simp
          refine (finds_any c x HSM.out wz).mono ?_
          rintro r w2 ⟨rfl, hb2⟩
          exact ⟨by rw [HF.out]; rfl, hb2, fun h => by cases h⟩
        · have e9 : u 9 = .bool false := hd 9 (by omega) (by kernel_rfl)
          rw [e9]
          go_simp
          exact ⟨rfl, Below.refl _ _, fun h => by cases h⟩
        · have e6 : u 6 = .bool false := hd 6 (by omega) (by kernel_rfl)
          have e10 : u 10 = .bool true := hd 10 (by omega) (by kernel_rfl)
          rw [e6, e10]
          go_simp
          exact ⟨rfl, Below.refl _ _, fun h => by cases h⟩
      case restB =>
        intro u wz hb hf hp
        have f0 : u 0 = .agg #[.int .i64 x.d, .int .i64 x.a, .int .i64 x.b, .int .i64 x.c, .int .i64 x.n, .int .i64 x.v] := hf 0 (by omega)
        have f1 : u 1 = (tchV x).v := hf 1 (by omega)
        have f2 : u 2 = .pointer (some ⟨w.heap.size, 0, none⟩) := hf 2 (by omega)
        have f3 : u 3 = .int .i64 c.pad := hf 3 (by omega)
        have f4 : u 4 = .bool true := hf 4 (by omega)
        have f5 : u 5 = .bool false := hf 5 (by omega)
        have f6 : u 6 = .bool false := hf 6 (by omega)
        have f7 : u 7 = .agg #[.int .i64 c.pad, .int .i64 c.mem, .slice c.ma c.ml c.mc, .slice c.ka c.kl c.kc] := hf 7 (by omega)
        have f8 : u 8 = .agg #[.int .i64 x.d, .int .i64 x.a, .int .i64 x.b, .int .i64 x.c, .int .i64 x.n, .int .i64 x.v] := hf 8 (by omega)
        have f9 : u 9 = .bool false := hf 9 (by omega)
        have f10 : u 10 = .bool true := hf 10 (by omega)
        have f11 : u 11 = .bool true := hf 11 (by omega)
        refine UptoW.rest 0 12 (by rfl) (by kernel_rfl) ?_
        simp only [List.take, List.drop, putOps, Act.put, List.setIfInBounds_toArray, List.set_cons_zero, List.set_cons_succ, Nat.reduceAdd, f0, f1, f2, f3, f4, f5, f6, f7, f8, f9, f10, f11]
        clear f0 f1 f2 f3 f4 f5 f6 f7 f8 f9 f10 f11 hf hp
        have HB2 := hide (bl_on HB.out hb)
        clear hb i0 i1 i2 i3 i4 i5 c0 c1 c2 c3
        go_wp2_with fail
        go_ret
        exact ⟨by first | rfl | (rw [hr]; rfl), HB2.out⟩
    · have hr : R = 0 := by rw [HR4.out, if_neg (by simp [hin, hfi])]
      have HF := hide hfi
      clear hin hfi
      refine region_madeG 12 14 [fIs (.agg #[.int .i64 x.d, .int .i64 x.a, .int .i64 x.b, .int .i64 x.c, .int .i64 x.n, .int .i64 x.v]), fIs (tchV x).v, fIs (.pointer (some ⟨w.heap.size, 0, none⟩)), fIs (.int .i64 c.pad), fIs (.bool true), fIs (.bool false), fIs (.bool false), fIs (.agg #[.int .i64 c.pad, .int .i64 c.mem, .slice c.ma c.ml c.mc, .slice c.ka c.kl c.kc]), fIs (.agg #[.int .i64 x.d, .int .i64 x.a, .int .i64 x.b, .int .i64 x.c, .int .i64 x.n, .int .i64 x.v]), fIs (.bool true), fIs (.bool false), fIs (.bool false)] [none, none, none, none, none, none, some false, none, none, none, none, none] [true, true, true, true, true, true, true, true, true, true, true, true] (by kernel_rfl) (by kernel_rfl) (by kernel_rfl) (fun ch p q w3 e h => by obtain ⟨t1, d1⟩ := p; obtain ⟨t2, d2⟩ := q; cases e; exact h) ⟨fIs_good _, fIs_good _, fIs_good _, fIs_good _, fIs_good _, fIs_good _, fIs_good _, fIs_good _, fIs_good _, fIs_good _, fIs_good _, fIs_good _, trivial⟩ ⟨fun _ _ h => h, rfl⟩ ?mkC ?restC
      case mkC =>
        refine ⟨fun u wz hb hd => ?_, fun u wz hb hd => ?_, fun u wz hb hd => ?_, fun u wz hb hd => ?_, fun u wz hb hd => ?_, fun u wz hb hd => ?_, fun u wz hb hd => ?_, fun u wz hb hd => ?_, fun u wz hb hd => ?_, fun u wz hb hd => ?_, fun u wz hb hd => ?_, fun u wz hb hd => ?_, trivial⟩
        all_goals simp only [Act.put, List.setIfInBounds_toArray, List.set_cons_zero, List.set_cons_succ]
        · have i0' := (hb.cell (p := ⟨w.heap.size + 1, 0, none⟩) (lt_of_cell i0)).trans i0
          have i1' := (hb.cell (p := ⟨w.heap.size + 1, 1, none⟩) (lt_of_cell i1)).trans i1
          have i2' := (hb.cell (p := ⟨w.heap.size + 1, 2, none⟩) (lt_of_cell i2)).trans i2
          have i3' := (hb.cell (p := ⟨w.heap.size + 1, 3, none⟩) (lt_of_cell i3)).trans i3
          have i4' := (hb.cell (p := ⟨w.heap.size + 1, 4, none⟩) (lt_of_cell i4)).trans i4
          have i5' := (hb.cell (p := ⟨w.heap.size + 1, 5, none⟩) (lt_of_cell i5)).trans i5
          go_simp
          exact ⟨rfl, Below.refl _ _, fun h => by cases h⟩
        · have e0 : u 0 = .agg #[.int .i64 x.d, .int .i64 x.a, .int .i64 x.b, .int .i64 x.c, .int .i64 x.n, .int .i64 x.v] := hd 0 (by omega) (by kernel_rfl)
          rw [e0]
          go_simp
          refine (touched_any x wz).mono ?_
          rintro r w2 ⟨rfl, hb2⟩
          exact ⟨rfl, hb2, fun h => by cases h⟩
        · go_simp
          exact ⟨rfl, Below.refl _ _, fun h => by cases h⟩
        · have e2 : u 2 = .pointer (some ⟨w.heap.size, 0, none⟩) := hd 2 (by omega) (by kernel_rfl)
          rw [e2]
          have c0' := (hb.cell (p := ⟨w.heap.size, 0, none⟩) (lt_of_cell c0)).trans c0
          go_simp
          exact ⟨rfl, Below.refl _ _, fun h => by cases h⟩
        · have e1 : u 1 = (tchV x).v := hd 1 (by omega) (by kernel_rfl)
          have e3 : u 3 = .int .i64 c.pad := hd 3 (by omega) (by kernel_rfl)
          rw [e1, e3]
          go_simp
          refine (tWithin_any (tchV x) c.pad (tch_sm HSM.out) wz).mono ?_
          rintro r w2 ⟨rfl, hb2⟩
          exact ⟨by rw [HI.out]; rfl, hb2, fun h => by cases h⟩
        · have e4 : u 4 = .bool true := hd 4 (by omega) (by kernel_rfl)
          rw [e4]
          go_simp
          exact ⟨rfl, Below.refl _ _, fun h => by cases h⟩
        · have e5 : u 5 = .bool false := hd 5 (by omega) (by kernel_rfl)
          rw [e5]
          go_simp
          exact ⟨rfl, Below.refl _ _, fun h => by cases h⟩
        · have c0' := (hb.cell (p := ⟨w.heap.size, 0, none⟩) (lt_of_cell c0)).trans c0
          have c1' := (hb.cell (p := ⟨w.heap.size, 1, none⟩) (lt_of_cell c1)).trans c1
          have c2' := (hb.cell (p := ⟨w.heap.size, 2, none⟩) (lt_of_cell c2)).trans c2
          have c3' := (hb.cell (p := ⟨w.heap.size, 3, none⟩) (lt_of_cell c3)).trans c3
          go_simp
          exact ⟨rfl, Below.refl _ _, fun h => by cases h⟩
        · have i0' := (hb.cell (p := ⟨w.heap.size + 1, 0, none⟩) (lt_of_cell i0)).trans i0
          have i1' := (hb.cell (p := ⟨w.heap.size + 1, 1, none⟩) (lt_of_cell i1)).trans i1
          have i2' := (hb.cell (p := ⟨w.heap.size + 1, 2, none⟩) (lt_of_cell i2)).trans i2
          have i3' := (hb.cell (p := ⟨w.heap.size + 1, 3, none⟩) (lt_of_cell i3)).trans i3
          have i4' := (hb.cell (p := ⟨w.heap.size + 1, 4, none⟩) (lt_of_cell i4)).trans i4
          have i5' := (hb.cell (p := ⟨w.heap.size + 1, 5, none⟩) (lt_of_cell i5)).trans i5
          go_simp
          exact ⟨rfl, Below.refl _ _, fun h => by cases h⟩
        · have e7 : u 7 = .agg #[.int .i64 c.pad, .int .i64 c.mem, .slice c.ma c.ml c.mc, .slice c.ka c.kl c.kc] := hd 7 (by omega) (by kernel_rfl)
          have e8 : u 8 = .agg #[.int .i64 x.d, .int .i64 x.a, .int .i64 x.b, .int .i64 x.c, .int .i64 x.n, .int .i64 x.v] := hd 8 (by omega) (by kernel_rfl)
          rw [e7, e8]
          go_simp
          refine (finds_any c x HSM.out wz).mono ?_
          rintro r w2 ⟨rfl, hb2⟩
          exact ⟨by rw [HF.out]; rfl, hb2, fun h => by cases h⟩
        · have e9 : u 9 = .bool true := hd 9 (by omega) (by kernel_rfl)
          rw [e9]
          go_simp
          exact ⟨rfl, Below.refl _ _, fun h => by cases h⟩
        · have e6 : u 6 = .bool false := hd 6 (by omega) (by kernel_rfl)
          have e10 : u 10 = .bool false := hd 10 (by omega) (by kernel_rfl)
          rw [e6, e10]
          go_simp
          exact ⟨rfl, Below.refl _ _, fun h => by cases h⟩
      case restC =>
        intro u wz hb hf hp
        have f0 : u 0 = .agg #[.int .i64 x.d, .int .i64 x.a, .int .i64 x.b, .int .i64 x.c, .int .i64 x.n, .int .i64 x.v] := hf 0 (by omega)
        have f1 : u 1 = (tchV x).v := hf 1 (by omega)
        have f2 : u 2 = .pointer (some ⟨w.heap.size, 0, none⟩) := hf 2 (by omega)
        have f3 : u 3 = .int .i64 c.pad := hf 3 (by omega)
        have f4 : u 4 = .bool true := hf 4 (by omega)
        have f5 : u 5 = .bool false := hf 5 (by omega)
        have f6 : u 6 = .bool false := hf 6 (by omega)
        have f7 : u 7 = .agg #[.int .i64 c.pad, .int .i64 c.mem, .slice c.ma c.ml c.mc, .slice c.ka c.kl c.kc] := hf 7 (by omega)
        have f8 : u 8 = .agg #[.int .i64 x.d, .int .i64 x.a, .int .i64 x.b, .int .i64 x.c, .int .i64 x.n, .int .i64 x.v] := hf 8 (by omega)
        have f9 : u 9 = .bool true := hf 9 (by omega)
        have f10 : u 10 = .bool false := hf 10 (by omega)
        have f11 : u 11 = .bool false := hf 11 (by omega)
        refine UptoW.rest 0 12 (by rfl) (by kernel_rfl) ?_
        simp only [List.take, List.drop, putOps, Act.put, List.setIfInBounds_toArray, List.set_cons_zero, List.set_cons_succ, Nat.reduceAdd, f0, f1, f2, f3, f4, f5, f6, f7, f8, f9, f10, f11]
        clear f0 f1 f2 f3 f4 f5 f6 f7 f8 f9 f10 f11 hf hp
        have HB2 := hide (bl_on HB.out hb)
        clear hb i0 i1 i2 i3 i4 i5 c0 c1 c2 c3
        go_wp2_with fail
        go_ret
        exact ⟨by first | rfl | (rw [hr]; rfl), HB2.out⟩
end Go.Proofs.Ytjmeghicfiiclaa.V
