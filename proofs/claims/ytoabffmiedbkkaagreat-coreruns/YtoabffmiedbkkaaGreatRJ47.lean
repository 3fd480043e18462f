/-
  The document: what is wrong with an instruction. The document: what is wrong with an instruction.
-/
import Derived.Test.YtoabffmiedbkkaaGreatRJ46
import Derived.Test.YtoabffmiedbkkaaGreatRJ12
namespace Go.Proofs.YtoabffmiedbkkaaGreat.V
set_option maxRecDepth 20000
open Go Go.RowKit
set_option linter.unusedVariables false

theorem inside_any (s : Str) (pad : Int) (hs : s.Sm) (w : World) : Calls Tryz.prog 35 #[.agg #[.int .i64 s.f, .int .i64 s.w], .int .i64 pad] w fun e w' => e = .returned (.bool (inBk s pad)) ∧ Below w.heap.size w w' := by
  have HB := hide (bl_new (w := w) (.cells #[.int .i64 s.f, .int .i64 s.w] 42))
  have hw1 : IntKind.i64.wrap (s.f + s.w) = s.f + s.w := by rw [IntKind.wrap_i64]; have := hs.f; have := hs.w; omega
  obtain ⟨R, hR⟩ : ∃ R, R = inBk s pad := ⟨_, rfl⟩
  rw [← hR]
  have HR := hide hR
  clear hR hs
  go_enter Tryz.func35, Tryz.ntmps35
  by_cases p1 : s.w = 0
  · have q1 : (s.w == 0) = true := by simpa using p1
    have hr : R = true := by rw [HR.out]; simp [inBk, p1]
    clear p1
    go_wp2
    go_ret
    exact ⟨by first | rfl | (rw [hr]; rfl), HB.out⟩
  · have q1 : (s.w == 0) = false := by simpa using p1
    by_cases p2 : 0 ≤ s.f
    · by_cases p3 : s.f + s.w ≤ pad
      · have hr : R = true := by rw [HR.out]; simp [inBk, p2, p3]
        clear p1
        go_wp2
        go_ret
        exact ⟨by first | rfl | (rw [hr]; rfl), HB.out⟩
      · have hr : R = false := by rw [HR.out]; simp [inBk, p1, p3]
        clear p1
        go_wp2
        go_ret
        exact ⟨by first | rfl | (rw [hr]; rfl), HB.out⟩
    · have hr : R = false := by rw [HR.out]; simp [inBk, p1, p2]
      clear p1
      go_wp2
      go_ret
      exact ⟨by first | rfl | (rw [hr]; rfl), HB.out⟩
theorem inB_z (pad : Int) : inBk zS pad = true := rfl
/-- Both name the same stretches. -/
theorem tch_in {x : In} (h1 : 1 ≤ x.d) (h2 : x.d ≤ 14) (pad : Int) : tchIn (rTchV x) pad = tchIn (tchV x) pad := by
  unfold rTchV tchV tchIn
  by_cases e3 : x.d = 3 ∨ x.d = 4
  · rw [if_neg (by omega), if_neg (by omega), if_neg (by omega), if_neg (by omega), if_neg (by omega), if_neg (by omega), if_pos e3]
  rw [if_neg e3]
  by_cases e1 : x.d = 1 ∨ x.d = 5
  · rw [if_pos e1, if_pos e1]
  rw [if_neg e1, if_neg e1]
  by_cases e2 : x.d = 2
  · rw [if_pos e2, if_pos e2]
  rw [if_neg e2, if_neg e2]
  by_cases e6 : 6 ≤ x.d ∧ x.d ≤ 10
  · rw [if_pos e6, if_neg (by omega), if_neg (by omega), if_neg (by omega)]
    simp only [inB_z, Bool.true_and, Bool.and_true]
  rw [if_neg e6]
  by_cases e11 : x.d = 11 ∨ x.d = 12
  · rw [if_pos e11, if_pos e11]
  rw [if_neg e11, if_neg e11]
  by_cases e13 : x.d = 13
  · rw [if_pos e13, if_pos e13]
  rw [if_neg e13, if_neg e13, if_pos (by omega), if_pos (by omega)]
theorem rtch_sm {x : In} (h : x.Sm) : (rTchV x).Sm := by
  have ha : (⟨x.a, x.n⟩ : Str).Sm := ⟨by have := h.a; simp only; omega, by have := h.n; simp only; omega⟩
  have hb : (⟨x.b, x.n⟩ : Str).Sm := ⟨by have := h.b; simp only; omega, by have := h.n; simp only; omega⟩
  have hc : (⟨x.c, x.n⟩ : Str).Sm := ⟨by have := h.c; simp only; omega, by have := h.n; simp only; omega⟩
  have h1 : (⟨x.a, 1⟩ : Str).Sm := ⟨by have := h.a; simp only; omega, by simp only; omega⟩
  unfold rTchV
  repeat' split
  · exact ⟨zS_sm, zS_sm, zS_sm, ha⟩
  · exact ⟨ha, zS_sm, zS_sm, zS_sm⟩
  · exact ⟨zS_sm, hb, hc, ha⟩
  · exact ⟨ha, hb, hc, ha⟩
  · exact ⟨h1, hb, hc, h1⟩
  · exact ⟨ha, hb, zS_sm, ha⟩
  · exact ⟨zS_sm, zS_sm, zS_sm, zS_sm⟩
/-- Between its ends a row of steps stays between. -/
theorem find_iff {mem b n c : Int} (hn : 0 ≤ n) : (∀ i : Int, 0 ≤ i → i < n → 0 ≤ b + i * c ∧ b + i * c < mem) ↔ (n = 0 ∨ (0 ≤ b ∧ 0 ≤ b + (n - 1) * c ∧ b < mem ∧ b + (n - 1) * c < mem)) := by
  constructor
  · intro h
    by_cases h0 : n = 0
    · exact .inl h0
    · have h1 := h 0 (by omega) (by omega)
      have h2 := h (n - 1) (by omega) (by omega)
      simp at h1
      exact .inr ⟨h1.1, h2.1, h1.2, h2.2⟩
  · rintro h i hi hin
    rcases h with h | ⟨h1, h2, h3, h4⟩
    · omega
    · by_cases hc : 0 ≤ c
      · have k1 : 0 ≤ i * c := Int.mul_nonneg hi hc
        have k2 : i * c ≤ (n - 1) * c := Int.mul_le_mul_of_nonneg_right (by omega) hc
        omega
      · have k1 : i * (-c) ≤ (n - 1) * (-c) := Int.mul_le_mul_of_nonneg_right (by omega) (by omega)
        have k2 : 0 ≤ i * (-c) := Int.mul_nonneg hi (by omega)
        have k3 : i * (-c) = -(i * c) := Int.mul_neg _ _
        have k4 : (n - 1) * (-c) = -((n - 1) * c) := Int.mul_neg _ _
        omega
theorem uses_any (a : Option Addr) (len cap : Nat) (l : List In) (d s : Int) (w : World) (h : Inss w a len l) : Calls Tryz.prog 23 #[.slice a len cap, .int .i64 d, .int .i64 s] w fun r w' => r = .returned (.bool (usesV l d s)) ∧ Below w.heap.size w w' := by
  have HI := hide h
  obtain ⟨R, hR⟩ : ∃ R, R = usesV l d s := ⟨_, rfl⟩
  rw [← hR]
  have HR := hide hR
  have hl := h.2.1
  clear h hR
  go_enter Tryz.func23, Tryz.ntmps23
  go_wp2_with fail
  go_loopw [11] (fun v11 wr => ∃ j : Nat, j ≤ len ∧ v11 = .int .i64 j ∧ usesV (l.take j) d s = false ∧ Below w.heap.size w wr) (fun v11 _ => len - (intOf v11).toNat)
  case atStart => exact ⟨0, by omega, rfl, rfl, Below.refl _ _⟩
  case round =>
    obtain ⟨j, hj, rfl, hno, hbr⟩ := hrel
    by_cases hjl : j < len
    · have hjz : (j : Int) < (len : Int) := by omega
      obtain ⟨b, off, rfl, hin⟩ := HI.out.2.2.resolve_left (by omega)
      obtain ⟨k0, k1, k2, k3, k4, k5⟩ := (hin j hjl).below hbr
      obtain ⟨x, hx⟩ : ∃ x, x = l[j]?.getD inD := ⟨_, rfl⟩
      have hjm : j < l.length := by have := HI.out.1; omega
      have hst := uses_succ l j hjm d s
      rw [← hx] at k0 k1 k2 k3 k4 k5 hst
      have hmem : x ∈ l := by rw [hx]; exact mem_getI _ _ hjm
      have zk := lt_of_cell k0
      simp only at zk
      rw [hno] at hst
      have HST := hide hst
      have HB := hide (bl_on hbr (bl_new (w := wr) (.cells #[.int .i64 x.d, .int .i64 x.a, .int .i64 x.b, .int .i64 x.c, .int .i64 x.n, .int .i64 x.v] 50)))
      have HME := hide hmem
      clear hin hx hst hno hbr hmem
      by_cases e1 : x.d = d
      · have q1 : (x.d == d) = true := by simpa using e1
        by_cases e2 : x.a = s
        · have q2 : (x.a == s) = true := by simpa using e2
          have hr : R = true := by
            rw [HR.out]
            unfold usesV
            rw [List.any_eq_true]
            exact ⟨x, HME.out, by simp [e1, e2]⟩
          clear e1 e2
          go_wp2_with fail
          go_ret
          exact ⟨by first | rfl | (rw [hr]; rfl), HB.out⟩
        · have q2 : (x.a == s) = false := by simpa using e2
          have HN : Hid (usesV (l.take (j + 1)) d s = false) := by rw [Hid, HST.out]; simp [e2]
          clear e1 e2
          go_wp2_with fail
          go_roundw
          case rel => exact ⟨j + 1, by omega, by go_num, HN.out, HB.out⟩
          case measure => simp [intOf]; omega
      · have q1 : (x.d == d) = false := by simpa using e1
        have HN : Hid (usesV (l.take (j + 1)) d s = false) := by rw [Hid, HST.out]; simp [e1]
        clear e1
        go_wp2_with fail
        go_roundw
        case rel => exact ⟨j + 1, by omega, by go_num, HN.out, HB.out⟩
        case measure => simp [intOf]; omega
    · have hjz : ¬ (j : Int) < (len : Int) := by omega
      obtain rfl : j = len := by omega
      have hr : R = false := by
        rw [HR.out]
        have e1 : l.take j = l := List.take_of_length_le (by have := HI.out.1; omega)
        rw [e1] at hno
        exact hno
      have HB := hide hbr
      clear hno hbr
      go_wp2_with fail
      go_ret
      exact ⟨by first | rfl | (rw [hr]; rfl), HB.out⟩
end Go.Proofs.YtoabffmiedbkkaaGreat.V
namespace Go.Proofs.YtoabffmiedbkkaaGreat.V
set_option maxRecDepth 20000
open Go Go.RowKit
set_option linter.unusedVariables false

set_option maxRecDepth 100000 in
set_option maxHeartbeats 8000000 in
theorem rIns_any (c : CV) (e : Bool) (x : In) (w : World) : Calls Tryz.prog 22 #[c.v, x.v6, .bool e] w fun r w' => r = .returned (.int .i64 (insE c.pad c.mem e x)) ∧ Below w.heap.size w w' := by
  obtain ⟨W, hW⟩ : ∃ W, W = (w.alloc (.cells #[.int .i64 c.pad, .int .i64 c.mem, .slice c.ma c.ml c.mc, .slice c.ka c.kl c.kc] 24)).alloc (.cells #[.int .i64 x.d, .int .i64 x.a, .int .i64 x.b, .int .i64 x.c, .int .i64 x.n, .int .i64 x.v] 50) := ⟨_, rfl⟩
  have hb : Below w.heap.size w W := by rw [hW]; exact bl_on (bl_new _) (bl_new _)
  have hC : CBlk W w.heap.size c := by rw [hW]; exact (CBlk.new w c).below (bl_new _)
  have hI : InBlk W (w.heap.size + 1) x := by
    rw [hW]
    have := InBlk.new (w.alloc (.cells #[.int .i64 c.pad, .int .i64 c.mem, .slice c.ma c.ml c.mc, .slice c.ka c.kl c.kc] 24)) x
    rw [World.size_alloc] at this
    exact this
  obtain ⟨⟨c0, c1, c2, c3⟩, zc⟩ := hC.cells
  obtain ⟨⟨i0, i1, i2, i3, i4, i5⟩, zi⟩ := hI.cells
  obtain ⟨R, hR⟩ : ∃ R, R = insE c.pad c.mem e x := ⟨_, rfl⟩
  rw [← hR]
  have HR := hide hR
  have HW := hide hW
  have HB := hide hb
  have HC := hide hC
  have HI := hide hI
  clear hW hb hR hC hI
  unfold CV.v In.v6
  go_enter Tryz.func22, Tryz.ntmps22
  go_upto_region 1 with fail
  rw [← HW.out]
  by_cases e1 : x.d = 1
  · have q1 : (x.d == 1) = true := by simpa using e1
    have q2 : (x.d == 2) = false := by simp [e1]
    have q3 : (x.d == 3) = false := by simp [e1]
    have q4 : (x.d == 4) = false := by simp [e1]
    have l1 : ¬ x.d < 1 := by omega
    have l2 : ¬ 14 < x.d := by omega
    cases e
    · have hr : R = 1 := by rw [HR.out, insE, if_pos (by simp [hasV, e1])]
      clear e1
      go_wp2_with fail
      go_ret
      exact ⟨by first | rfl | (rw [hr]; rfl), HB.out⟩
    · have HHV : Hid (hasV true x.d = true) := by rw [Hid]; simp [hasV, e1]
      have HNW : Hid (¬ (x.d = 3 ∨ x.d = 4)) := by rw [Hid]; omega
      have HDD : Hid (1 ≤ x.d ∧ x.d ≤ 14) := by rw [Hid]; omega
      have HDM : Hid (x.d = 1 ∨ x.d = 2) := by rw [Hid]; omega
      clear e1
      have HR3 : Hid (R = if x.n < 0 ∨ 4096 < x.n ∨ farV x.a = true ∨ farV x.b = true ∨ farV x.c = true then 4 else if tchIn (tchV x) c.pad = false ∨ findV c.mem x = false then 4 else 0) := by
        rw [Hid, HR.out, insE, if_neg (by simp [HHV.out]), if_neg HNW.out]
      have HTI : Hid (tchIn (rTchV x) c.pad = tchIn (tchV x) c.pad) := tch_in HDD.out.1 HDD.out.2 c.pad
      by_cases p1 : x.n < 0
      · have hr : R = 4 := by rw [HR3.out, if_pos (.inl p1)]
        go_wp2_with fail
        go_ret
        exact ⟨by first | rfl | (rw [hr]; rfl), HB.out⟩
      by_cases p2 : 4096 < x.n
      · have hr : R = 4 := by rw [HR3.out, if_pos (.inr (.inl p2))]
        go_wp2_with fail
        go_ret
        exact ⟨by first | rfl | (rw [hr]; rfl), HB.out⟩
      go_upto_region 11 with fail
      have HN := hide (show 0 ≤ x.n ∧ x.n ≤ 4096 by omega)
      obtain ⟨V, hV⟩ : ∃ V, V = W.alloc (.cells #[.int .i64 x.a, .int .i64 x.b, .int .i64 x.c] 3) := ⟨_, rfl⟩
      have hbV : Below W.heap.size W V := by rw [hV]; exact bl_new _
      have hl : V.heap[W.heap.size]? = some (.cells #[.int .i64 x.a, .int .i64 x.b, .int .i64 x.c] 3 (0, 0)) := by rw [hV]; exact World.alloc_heap_new _ _
      have l0 : V.cell? ⟨W.heap.size, 0, none⟩ = some (.int .i64 x.a) := by simp [World.cell?, hl]
      have l1 : V.cell? ⟨W.heap.size, 1, none⟩ = some (.int .i64 x.b) := by simp [World.cell?, hl]
      have l2 : V.cell? ⟨W.heap.size, 2, none⟩ = some (.int .i64 x.c) := by simp [World.cell?, hl]
      have zl := (Array.getElem?_eq_some_iff.1 hl).1
      have HV := hide hV
      have HB2 := hide (bl_on HB.out hbV)
      have HC2 := hide (HC.out.below hbV)
      have HI2 := hide (HI.out.below hbV)
      clear hV hbV hl p1 p2
      go_upto_region 12 with fail
      rw [← HV.out]
      clear c0 c1 c2 c3 zc i0 i1 i2 i3 i4 i5 zi HB HC HI HR
      go_loop [72] (fun v72 => ∃ k : Int, (k = 0 ∨ k = 1 ∨ k = 2 ∨ k = 3) ∧ v72 = .int .i64 k ∧ (1 ≤ k → farV x.a = false) ∧ (2 ≤ k → farV x.b = false) ∧ (3 ≤ k → farV x.c = false)) (fun v72 => (3 - intOf v72).toNat)
      case atStart => exact ⟨0, .inl rfl, rfl, fun h => by omega, fun h => by omega, fun h => by omega⟩
      case round =>
        obtain ⟨k, hk, rfl, ka, kb, kc⟩ := hrel
        have KA := hide ka
        have KB := hide kb
        have KC := hide kc
        clear ka kb kc
        obtain rfl | rfl | rfl | rfl := hk
        · by_cases p1 : 1048576 < x.a
          · have hr : R = 4 := by rw [HR3.out, if_pos (by simp [farV, p1])]
            go_wp2_with fail
            go_ret
            exact ⟨by first | rfl | (rw [hr]; rfl), HB2.out⟩
          by_cases p2 : x.a < -1048576
          · have hr : R = 4 := by rw [HR3.out, if_pos (by simp [farV, p2])]
            go_wp2_with fail
            go_ret
            exact ⟨by first | rfl | (rw [hr]; rfl), HB2.out⟩
          have HF : Hid (farV x.a = false) := by rw [Hid]; simp [farV, p1, p2]
          go_wp2_with fail
          go_round
          case rel => exact ⟨1, by omega, by go_num, fun _ => HF.out, fun h => by omega, fun h => by omega⟩
          case measure => simp [intOf]
        · by_cases p1 : 1048576 < x.b
          · have hr : R = 4 := by rw [HR3.out, if_pos (by simp [farV, p1])]
            go_wp2_with fail
            go_ret
            exact ⟨by first | rfl | (rw [hr]; rfl), HB2.out⟩
          by_cases p2 : x.b < -1048576
          · have hr : R = 4 := by rw [HR3.out, if_pos (by simp [farV, p2])]
            go_wp2_with fail
            go_ret
            exact ⟨by first | rfl | (rw [hr]; rfl), HB2.out⟩
          have HF : Hid (farV x.b = false) := by rw [Hid]; simp [farV, p1, p2]
          go_wp2_with fail
          go_round
          case rel => exact ⟨2, by omega, by go_num, fun _ => KA.out (by omega), fun _ => HF.out, fun h => by omega⟩
          case measure => simp [intOf]
        · by_cases p1 : 1048576 < x.c
          · have hr : R = 4 := by rw [HR3.out, if_pos (by simp [farV, p1])]
            go_wp2_with fail
            go_ret
            exact ⟨by first | rfl | (rw [hr]; rfl), HB2.out⟩
          by_cases p2 : x.c < -1048576
          · have hr : R = 4 := by rw [HR3.out, if_pos (by simp [farV, p2])]
            go_wp2_with fail
            go_ret
            exact ⟨by first | rfl | (rw [hr]; rfl), HB2.out⟩
          have HF : Hid (farV x.c = false) := by rw [Hid]; simp [farV, p1, p2]
          go_wp2_with fail
          go_round
          case rel => exact ⟨3, by omega, by go_num, fun _ => KA.out (by omega), fun _ => KB.out (by omega), fun _ => HF.out⟩
          case measure => simp [intOf]
        · have fa := KA.out (by omega)
          have fb := KB.out (by omega)
          have fc := KC.out (by omega)
          have hR4 : R = if tchIn (tchV x) c.pad = false ∨ findV c.mem x = false then 4 else 0 := by
            rw [HR3.out, if_neg (by have := HN.out; simp [fa, fb, fc]; omega)]
          have hsm : x.Sm := by
            simp only [farV, Bool.or_eq_false_iff, decide_eq_false_iff_not] at fa fb fc
            exact ⟨HN.out, by omega, by omega, by omega⟩
          have HR4 := hide hR4
          have HSM := hide hsm
          have HTS := hide (rtch_sm hsm)
          clear fa fb fc hR4 hsm KA KB KC l0 l1 l2 zl HR3
          obtain ⟨⟨i0, i1, i2, i3, i4, i5⟩, zi⟩ := HI2.out.cells
          go_wp2_with fail
          refine (rTouched_any x V).mono ?_
          rintro r w2 ⟨rfl, hb2⟩
          unfold Tch.v
          obtain ⟨t, ht⟩ : ∃ t, t = rTchV x := ⟨_, rfl⟩
          rw [← ht]
          obtain ⟨V2, hV2⟩ : ∃ V2, V2 = w2.alloc (.cells #[.int .i64 t.r0.f, .int .i64 t.r0.w, .int .i64 t.r1.f, .int .i64 t.r1.w, .int .i64 t.r2.f, .int .i64 t.r2.w, .int .i64 t.wr.f, .int .i64 t.wr.w] 76) := ⟨_, rfl⟩
          have hbV2 : Below w2.heap.size w2 V2 := by rw [hV2]; exact bl_new _
          obtain ⟨g, hg⟩ : ∃ g, g = w2.heap.size := ⟨_, rfl⟩
          have hT : WBlk V2 g t := by rw [hV2, hg]; exact World.alloc_heap_new _ _
          have HT0 := hide hT
          have HB30 := hide (bl_on (bl_on HB2.out hb2) hbV2)
          have HC30 := hide ((HC2.out.below hb2).below hbV2)
          have HI30 := hide ((HI2.out.below hb2).below hbV2)
          have HV2 := hide hV2
          have HG := hide hg
          have HTE := hide ht
          rw [← ht] at HTI HTS
          clear hb2 hbV2 hV2 hg hT ht i0 i1 i2 i3 i4 i5 zi
          go_upto_region 18 with fail
          rw [← HV2.out, ← HG.out]
          obtain ⟨⟨v0, v1, v2, v3, v4, v5, v6, v7⟩, zv⟩ := blk8 HT0.out
          obtain ⟨⟨c0, c1, c2, c3⟩, zc⟩ := HC30.out.cells
          go_wp2_with fail
          refine (inside_any t.wr c.pad HTS.out.wr _).mono ?_
          rintro r w10 ⟨rfl, hb4⟩
          have HT1 := hide (HT0.out.below hb4)
          have HB31 := hide (bl_on HB30.out hb4)
          have HC31 := hide (HC30.out.below hb4)
          have HI31 := hide (HI30.out.below hb4)
          clear hb4 v0 v1 v2 v3 v4 v5 v6 v7 zv c0 c1 c2 c3 zc
          cases hwr : inBk t.wr c.pad
          · have hr : R = 4 := by rw [HR4.out, if_pos (.inl (by rw [← HTI.out]; simp [tchIn, hwr]))]
            go_wp2_with fail
            go_ret
            exact ⟨by first | rfl | (rw [hr]; rfl), HB31.out⟩
          obtain ⟨⟨v0, v1, v2, v3, v4, v5, v6, v7⟩, zv⟩ := blk8 HT1.out
          obtain ⟨⟨c0, c1, c2, c3⟩, zc⟩ := HC31.out.cells
          go_wp2_with fail
          refine (inside_any t.r0 c.pad HTS.out.r0 _).mono ?_
          rintro r w11 ⟨rfl, hb4⟩
          have HT2 := hide (HT1.out.below hb4)
          have HB32 := hide (bl_on HB31.out hb4)
          have HC32 := hide (HC31.out.below hb4)
          have HI32 := hide (HI31.out.below hb4)
          clear hb4 v0 v1 v2 v3 v4 v5 v6 v7 zv c0 c1 c2 c3 zc
          cases hr0 : inBk t.r0 c.pad
          · have hr : R = 4 := by rw [HR4.out, if_pos (.inl (by rw [← HTI.out]; simp [tchIn, hr0]))]
            go_wp2_with fail
            go_ret
            exact ⟨by first | rfl | (rw [hr]; rfl), HB32.out⟩
          obtain ⟨⟨v0, v1, v2, v3, v4, v5, v6, v7⟩, zv⟩ := blk8 HT2.out
          obtain ⟨⟨c0, c1, c2, c3⟩, zc⟩ := HC32.out.cells
          go_wp2_with fail
          refine (inside_any t.r1 c.pad HTS.out.r1 _).mono ?_
          rintro r w12 ⟨rfl, hb4⟩
          have HT3 := hide (HT2.out.below hb4)
          have HB33 := hide (bl_on HB32.out hb4)
          have HC33 := hide (HC32.out.below hb4)
          have HI33 := hide (HI32.out.below hb4)
          clear hb4 v0 v1 v2 v3 v4 v5 v6 v7 zv c0 c1 c2 c3 zc
          cases hr1 : inBk t.r1 c.pad
          · have hr : R = 4 := by rw [HR4.out, if_pos (.inl (by rw [← HTI.out]; simp [tchIn, hr1]))]
            go_wp2_with fail
            go_ret
            exact ⟨by first | rfl | (rw [hr]; rfl), HB33.out⟩
          obtain ⟨⟨v0, v1, v2, v3, v4, v5, v6, v7⟩, zv⟩ := blk8 HT3.out
          obtain ⟨⟨c0, c1, c2, c3⟩, zc⟩ := HC33.out.cells
          go_wp2_with fail
          refine (inside_any t.r2 c.pad HTS.out.r2 _).mono ?_
          rintro r w13 ⟨rfl, hb4⟩
          have HT4 := hide (HT3.out.below hb4)
          have HB34 := hide (bl_on HB33.out hb4)
          have HC34 := hide (HC33.out.below hb4)
          have HI34 := hide (HI33.out.below hb4)
          clear hb4 v0 v1 v2 v3 v4 v5 v6 v7 zv c0 c1 c2 c3 zc
          cases hr2 : inBk t.r2 c.pad
          · have hr : R = 4 := by rw [HR4.out, if_pos (.inl (by rw [← HTI.out]; simp [tchIn, hr2]))]
            go_wp2_with fail
            go_ret
            exact ⟨by first | rfl | (rw [hr]; rfl), HB34.out⟩
          have hR5 : R = if findV c.mem x = false then 4 else 0 := by
            rw [HR4.out]
            have : tchIn (tchV x) c.pad = true := by rw [← HTI.out]; simp [tchIn, hwr, hr0, hr1, hr2]
            simp [this]
          have HR5 := hide hR5
          clear hR5 hwr hr0 hr1 hr2
          obtain ⟨⟨i0, i1, i2, i3, i4, i5⟩, zi⟩ := HI34.out.cells
          obtain ⟨⟨c0, c1, c2, c3⟩, zc⟩ := HC34.out.cells
          have hR6 : ((∀ i : Int, 0 ≤ i → i < x.n → 0 ≤ x.b + i * x.c ∧ x.b + i * x.c < c.mem) → R = 0) ∧ (¬ (∀ i : Int, 0 ≤ i → i < x.n → 0 ≤ x.b + i * x.c ∧ x.b + i * x.c < c.mem) → R = 4) := by
            have h1 := find_iff (mem := c.mem) (b := x.b) (n := x.n) (c := x.c) HN.out.1
            rw [HR5.out]
            refine ⟨fun h => ?_, fun h => ?_⟩
            · rw [if_neg]
              unfold findV
              rcases h1.1 h with h2 | ⟨h2, h3, h4, h5⟩
              · simp [h2]
              · split <;> simp [h2, h3, h4, h5]
            · rw [if_pos]
              have h2 : ¬ (x.n = 0 ∨ (0 ≤ x.b ∧ 0 ≤ x.b + (x.n - 1) * x.c ∧ x.b < c.mem ∧ x.b + (x.n - 1) * x.c < c.mem)) := fun h3 => h (h1.2 h3)
              unfold findV
              rw [if_neg (by have h7 := HDM.out; have h8 : x.n ≠ 0 := fun e => h2 (.inl e); omega)]
              have h3 : ¬ (0 ≤ x.b ∧ 0 ≤ x.b + (x.n - 1) * x.c ∧ x.b < c.mem ∧ x.b + (x.n - 1) * x.c < c.mem) := fun h4 => h2 (.inr h4)
              rw [← Bool.not_eq_true]
              intro h4
              simp only [Bool.and_eq_true, decide_eq_true_eq] at h4
              exact h3 ⟨h4.1.1.1, h4.1.1.2, h4.1.2, h4.2⟩
          have HR6 := hide hR6
          clear hR6
          go_wp2_with fail
          go_loop [12] (fun v12 => ∃ i : Int, 0 ≤ i ∧ i ≤ x.n ∧ v12 = .int .i64 i ∧ ∀ k : Int, 0 ≤ k → k < i → 0 ≤ x.b + k * x.c ∧ x.b + k * x.c < c.mem) (fun v12 => (x.n - intOf v12).toNat)
          case atStart => exact ⟨0, by omega, HN.out.1, rfl, fun k h1 h2 => by omega⟩
          case round =>
            obtain ⟨i, hi0, hin, rfl, hok⟩ := hrel
            have HOK := hide hok
            clear hok
            by_cases hil : i < x.n
            · have hn := HN.out
              have hcb := HSM.out.c
              have hbb := HSM.out.b
              have hp := mulI_bd (A := 1048576) (B := 4096) hcb (show 0 ≤ i ∧ i ≤ 4096 by omega) (by omega)
              obtain ⟨P, hP⟩ : ∃ P, P = i * x.c := ⟨_, rfl⟩
              rw [← hP] at hp
              have w1 : IntKind.i64.wrap (i * x.c) = P := by rw [← hP, IntKind.wrap_i64]; omega
              have w2 : IntKind.i64.wrap (x.b + P) = x.b + P := by rw [IntKind.wrap_i64]; omega
              have w3 : IntKind.i64.wrap (i + 1) = i + 1 := by rw [IntKind.wrap_i64]; omega
              have HP := hide hP
              have HI0 := hide hi0
              clear hP hn hcb hbb hp
              by_cases p1 : x.b + P < 0
              · have hr : R = 4 := HR6.out.2 (fun h => by have h1 := h i HI0.out hil; rw [← HP.out] at h1; omega)
                go_wp2_with fail
                go_ret
                exact ⟨by first | rfl | (rw [hr]; rfl), HB34.out⟩
              by_cases p2 : c.mem ≤ x.b + P
              · have hr : R = 4 := HR6.out.2 (fun h => by have h1 := h i HI0.out hil; rw [← HP.out] at h1; omega)
                go_wp2_with fail
                go_ret
                exact ⟨by first | rfl | (rw [hr]; rfl), HB34.out⟩
              have HQ := hide (And.intro p1 p2)
              go_wp2_with fail
              go_round
              case rel => exact ⟨i + 1, by omega, by omega, by go_num, fun k h1 h2 => by
                by_cases e : k = i
                · subst e; rw [← HP.out]; have := HQ.out; omega
                · exact HOK.out k h1 (by omega)⟩
              case measure => simp [intOf]; omega
            · have hr : R = 0 := HR6.out.1 (fun k h1 h2 => HOK.out k h1 (by omega))
              clear HOK
              go_wp2_with fail
              go_ret
              exact ⟨by first | rfl | (rw [hr]; rfl), HB34.out⟩
  by_cases e2 : x.d = 2
  · have q2 : (x.d == 2) = true := by simpa using e2
    have q1 : (x.d == 1) = false := by simpa using e1
    have q3 : (x.d == 3) = false := by simp [e2]
    have q4 : (x.d == 4) = false := by simp [e2]
    have l1 : ¬ x.d < 1 := by omega
    have l2 : ¬ 14 < x.d := by omega
    cases e
    · have hr : R = 1 := by rw [HR.out, insE, if_pos (by simp [hasV, e2])]
      clear e1 e2
      go_wp2_with fail
      go_ret
      exact ⟨by first | rfl | (rw [hr]; rfl), HB.out⟩
    · have HHV : Hid (hasV true x.d = true) := by rw [Hid]; simp [hasV, e2]
      have HNW : Hid (¬ (x.d = 3 ∨ x.d = 4)) := by rw [Hid]; omega
      have HDD : Hid (1 ≤ x.d ∧ x.d ≤ 14) := by rw [Hid]; omega
      have HDM : Hid (x.d = 1 ∨ x.d = 2) := by rw [Hid]; omega
      clear e1 e2
      have HR3 : Hid (R = if x.n < 0 ∨ 4096 < x.n ∨ farV x.a = true ∨ farV x.b = true ∨ farV x.c = true then 4 else if tchIn (tchV x) c.pad = false ∨ findV c.mem x = false then 4 else 0) := by
        rw [Hid, HR.out, insE, if_neg (by simp [HHV.out]), if_neg HNW.out]
      have HTI : Hid (tchIn (rTchV x) c.pad = tchIn (tchV x) c.pad) := tch_in HDD.out.1 HDD.out.2 c.pad
      by_cases p1 : x.n < 0
      · have hr : R = 4 := by rw [HR3.out, if_pos (.inl p1)]
        go_wp2_with fail
        go_ret
        exact ⟨by first | rfl | (rw [hr]; rfl), HB.out⟩
      by_cases p2 : 4096 < x.n
      · have hr : R = 4 := by rw [HR3.out, if_pos (.inr (.inl p2))]
        go_wp2_with fail
        go_ret
        exact ⟨by first | rfl | (rw [hr]; rfl), HB.out⟩
      go_upto_region 11 with fail
      have HN := hide (show 0 ≤ x.n ∧ x.n ≤ 4096 by omega)
      obtain ⟨V, hV⟩ : ∃ V, V = W.alloc (.cells #[.int .i64 x.a, .int .i64 x.b, .int .i64 x.c] 3) := ⟨_, rfl⟩
      have hbV : Below W.heap.size W V := by rw [hV]; exact bl_new _
      have hl : V.heap[W.heap.size]? = some (.cells #[.int .i64 x.a, .int .i64 x.b, .int .i64 x.c] 3 (0, 0)) := by rw [hV]; exact World.alloc_heap_new _ _
      have l0 : V.cell? ⟨W.heap.size, 0, none⟩ = some (.int .i64 x.a) := by simp [World.cell?, hl]
      have l1 : V.cell? ⟨W.heap.size, 1, none⟩ = some (.int .i64 x.b) := by simp [World.cell?, hl]
      have l2 : V.cell? ⟨W.heap.size, 2, none⟩ = some (.int .i64 x.c) := by simp [World.cell?, hl]
      have zl := (Array.getElem?_eq_some_iff.1 hl).1
      have HV := hide hV
      have HB2 := hide (bl_on HB.out hbV)
      have HC2 := hide (HC.out.below hbV)
      have HI2 := hide (HI.out.below hbV)
      clear hV hbV hl p1 p2
      go_upto_region 12 with fail
      rw [← HV.out]
      clear c0 c1 c2 c3 zc i0 i1 i2 i3 i4 i5 zi HB HC HI HR
      go_loop [72] (fun v72 => ∃ k : Int, (k = 0 ∨ k = 1 ∨ k = 2 ∨ k = 3) ∧ v72 = .int .i64 k ∧ (1 ≤ k → farV x.a = false) ∧ (2 ≤ k → farV x.b = false) ∧ (3 ≤ k → farV x.c = false)) (fun v72 => (3 - intOf v72).toNat)
      case atStart => exact ⟨0, .inl rfl, rfl, fun h => by omega, fun h => by omega, fun h => by omega⟩
      case round =>
        obtain ⟨k, hk, rfl, ka, kb, kc⟩ := hrel
        have KA := hide ka
        have KB := hide kb
        have KC := hide kc
        clear ka kb kc
        obtain rfl | rfl | rfl | rfl := hk
        · by_cases p1 : 1048576 < x.a
          · have hr : R = 4 := by rw [HR3.out, if_pos (by simp [farV, p1])]
            go_wp2_with fail
            go_ret
            exact ⟨by first | rfl | (rw [hr]; rfl), HB2.out⟩
          by_cases p2 : x.a < -1048576
          · have hr : R = 4 := by rw [HR3.out, if_pos (by simp [farV, p2])]
            go_wp2_with fail
            go_ret
            exact ⟨by first | rfl | (rw [hr]; rfl), HB2.out⟩
          have HF : Hid (farV x.a = false) := by rw [Hid]; simp [farV, p1, p2]
          go_wp2_with fail
          go_round
          case rel => exact ⟨1, by omega, by go_num, fun _ => HF.out, fun h => by omega, fun h => by omega⟩
          case measure => simp [intOf]
        · by_cases p1 : 1048576 < x.b
          · have hr : R = 4 := by rw [HR3.out, if_pos (by simp [farV, p1])]
            go_wp2_with fail
            go_ret
            exact ⟨by first | rfl | (rw [hr]; rfl), HB2.out⟩
          by_cases p2 : x.b < -1048576
          · have hr : R = 4 := by rw [HR3.out, if_pos (by simp [farV, p2])]
            go_wp2_with fail
            go_ret
            exact ⟨by first | rfl | (rw [hr]; rfl), HB2.out⟩
          have HF : Hid (farV x.b = false) := by rw [Hid]; simp [farV, p1, p2]
          go_wp2_with fail
          go_round
          case rel => exact ⟨2, by omega, by go_num, fun _ => KA.out (by omega), fun _ => HF.out, fun h => by omega⟩
          case measure => simp [intOf]
        · by_cases p1 : 1048576 < x.c
          · have hr : R = 4 := by rw [HR3.out, if_pos (by simp [farV, p1])]
            go_wp2_with fail
            go_ret
            exact ⟨by first | rfl | (rw [hr]; rfl), HB2.out⟩
          by_cases p2 : x.c < -1048576
          · have hr : R = 4 := by rw [HR3.out, if_pos (by simp [farV, p2])]
            go_wp2_with fail
            go_ret
            exact ⟨by first | rfl | (rw [hr]; rfl), HB2.out⟩
          have HF : Hid (farV x.c = false) := by rw [Hid]; simp [farV, p1, p2]
          go_wp2_with fail
          go_round
          case rel => exact ⟨3, by omega, by go_num, fun _ => KA.out (by omega), fun _ => KB.out (by omega), fun _ => HF.out⟩
          case measure => simp [intOf]
        · have fa := KA.out (by omega)
          have fb := KB.out (by omega)
          have fc := KC.out (by omega)
          have hR4 : R = if tchIn (tchV x) c.pad = false ∨ findV c.mem x = false then 4 else 0 := by
            rw [HR3.out, if_neg (by have := HN.out; simp [fa, fb, fc]; omega)]
          have hsm : x.Sm := by
            simp only [farV, Bool.or_eq_false_iff, decide_eq_false_iff_not] at fa fb fc
            exact ⟨HN.out, by omega, by omega, by omega⟩
          have HR4 := hide hR4
          have HSM := hide hsm
          have HTS := hide (rtch_sm hsm)
          clear fa fb fc hR4 hsm KA KB KC l0 l1 l2 zl HR3
          obtain ⟨⟨i0, i1, i2, i3, i4, i5⟩, zi⟩ := HI2.out.cells
          go_wp2_with fail
          refine (rTouched_any x V).mono ?_
          rintro r w2 ⟨rfl, hb2⟩
          unfold Tch.v
          obtain ⟨t, ht⟩ : ∃ t, t = rTchV x := ⟨_, rfl⟩
          rw [← ht]
          obtain ⟨V2, hV2⟩ : ∃ V2, V2 = w2.alloc (.cells #[.int .i64 t.r0.f, .int .i64 t.r0.w, .int .i64 t.r1.f, .int .i64 t.r1.w, .int .i64 t.r2.f, .int .i64 t.r2.w, .int .i64 t.wr.f, .int .i64 t.wr.w] 76) := ⟨_, rfl⟩
          have hbV2 : Below w2.heap.size w2 V2 := by rw [hV2]; exact bl_new _
          obtain ⟨g, hg⟩ : ∃ g, g = w2.heap.size := ⟨_, rfl⟩
          have hT : WBlk V2 g t := by rw [hV2, hg]; exact World.alloc_heap_new _ _
          have HT0 := hide hT
          have HB30 := hide (bl_on (bl_on HB2.out hb2) hbV2)
          have HC30 := hide ((HC2.out.below hb2).below hbV2)
          have HI30 := hide ((HI2.out.below hb2).below hbV2)
          have HV2 := hide hV2
          have HG := hide hg
          have HTE := hide ht
          rw [← ht] at HTI HTS
          clear hb2 hbV2 hV2 hg hT ht i0 i1 i2 i3 i4 i5 zi
          go_upto_region 18 with fail
          rw [← HV2.out, ← HG.out]
          obtain ⟨⟨v0, v1, v2, v3, v4, v5, v6, v7⟩, zv⟩ := blk8 HT0.out
          obtain ⟨⟨c0, c1, c2, c3⟩, zc⟩ := HC30.out.cells
          go_wp2_with fail
          refine (inside_any t.wr c.pad HTS.out.wr _).mono ?_
          rintro r w10 ⟨rfl, hb4⟩
          have HT1 := hide (HT0.out.below hb4)
          have HB31 := hide (bl_on HB30.out hb4)
          have HC31 := hide (HC30.out.below hb4)
          have HI31 := hide (HI30.out.below hb4)
          clear hb4 v0 v1 v2 v3 v4 v5 v6 v7 zv c0 c1 c2 c3 zc
          cases hwr : inBk t.wr c.pad
          · have hr : R = 4 := by rw [HR4.out, if_pos (.inl (by rw [← HTI.out]; simp [tchIn, hwr]))]
            go_wp2_with fail
            go_ret
            exact ⟨by first | rfl | (rw [hr]; rfl), HB31.out⟩
          obtain ⟨⟨v0, v1, v2, v3, v4, v5, v6, v7⟩, zv⟩ := blk8 HT1.out
          obtain ⟨⟨c0, c1, c2, c3⟩, zc⟩ := HC31.out.cells
          go_wp2_with fail
          refine (inside_any t.r0 c.pad HTS.out.r0 _).mono ?_
          rintro r w11 ⟨rfl, hb4⟩
          have HT2 := hide (HT1.out.below hb4)
          have HB32 := hide (bl_on HB31.out hb4)
          have HC32 := hide (HC31.out.below hb4)
          have HI32 := hide (HI31.out.below hb4)
          clear hb4 v0 v1 v2 v3 v4 v5 v6 v7 zv c0 c1 c2 c3 zc
          cases hr0 : inBk t.r0 c.pad
          · have hr : R = 4 := by rw [HR4.out, if_pos (.inl (by rw [← HTI.out]; simp [tchIn, hr0]))]
            go_wp2_with fail
            go_ret
            exact ⟨by first | rfl | (rw [hr]; rfl), HB32.out⟩
          obtain ⟨⟨v0, v1, v2, v3, v4, v5, v6, v7⟩, zv⟩ := blk8 HT2.out
          obtain ⟨⟨c0, c1, c2, c3⟩, zc⟩ := HC32.out.cells
          go_wp2_with fail
          refine (inside_any t.r1 c.pad HTS.out.r1 _).mono ?_
          rintro r w12 ⟨rfl, hb4⟩
          have HT3 := hide (HT2.out.below hb4)
          have HB33 := hide (bl_on HB32.out hb4)
          have HC33 := hide (HC32.out.below hb4)
          have HI33 := hide (HI32.out.below hb4)
          clear hb4 v0 v1 v2 v3 v4 v5 v6 v7 zv c0 c1 c2 c3 zc
          cases hr1 : inBk t.r1 c.pad
          · have hr : R = 4 := by rw [HR4.out, if_pos (.inl (by rw [← HTI.out]; simp [tchIn, hr1]))]
            go_wp2_with fail
            go_ret
            exact ⟨by first | rfl | (rw [hr]; rfl), HB33.out⟩
          obtain ⟨⟨v0, v1, v2, v3, v4, v5, v6, v7⟩, zv⟩ := blk8 HT3.out
          obtain ⟨⟨c0, c1, c2, c3⟩, zc⟩ := HC33.out.cells
          go_wp2_with fail
          refine (inside_any t.r2 c.pad HTS.out.r2 _).mono ?_
          rintro r w13 ⟨rfl, hb4⟩
          have HT4 := hide (HT3.out.below hb4)
          have HB34 := hide (bl_on HB33.out hb4)
          have HC34 := hide (HC33.out.below hb4)
          have HI34 := hide (HI33.out.below hb4)
          clear hb4 v0 v1 v2 v3 v4 v5 v6 v7 zv c0 c1 c2 c3 zc
          cases hr2 : inBk t.r2 c.pad
          · have hr : R = 4 := by rw [HR4.out, if_pos (.inl (by rw [← HTI.out]; simp [tchIn, hr2]))]
            go_wp2_with fail
            go_ret
            exact ⟨by first | rfl | (rw [hr]; rfl), HB34.out⟩
          have hR5 : R = if findV c.mem x = false then 4 else 0 := by
            rw [HR4.out]
            have : tchIn (tchV x) c.pad = true := by rw [← HTI.out]; simp [tchIn, hwr, hr0, hr1, hr2]
            simp [this]
          have HR5 := hide hR5
          clear hR5 hwr hr0 hr1 hr2
          obtain ⟨⟨i0, i1, i2, i3, i4, i5⟩, zi⟩ := HI34.out.cells
          obtain ⟨⟨c0, c1, c2, c3⟩, zc⟩ := HC34.out.cells
          have hR6 : ((∀ i : Int, 0 ≤ i → i < x.n → 0 ≤ x.b + i * x.c ∧ x.b + i * x.c < c.mem) → R = 0) ∧ (¬ (∀ i : Int, 0 ≤ i → i < x.n → 0 ≤ x.b + i * x.c ∧ x.b + i * x.c < c.mem) → R = 4) := by
            have h1 := find_iff (mem := c.mem) (b := x.b) (n := x.n) (c := x.c) HN.out.1
            rw [HR5.out]
            refine ⟨fun h => ?_, fun h => ?_⟩
            · rw [if_neg]
              unfold findV
              rcases h1.1 h with h2 | ⟨h2, h3, h4, h5⟩
              · simp [h2]
              · split <;> simp [h2, h3, h4, h5]
            · rw [if_pos]
              have h2 : ¬ (x.n = 0 ∨ (0 ≤ x.b ∧ 0 ≤ x.b + (x.n - 1) * x.c ∧ x.b < c.mem ∧ x.b + (x.n - 1) * x.c < c.mem)) := fun h3 => h (h1.2 h3)
              unfold findV
              rw [if_neg (by have h7 := HDM.out; have h8 : x.n ≠ 0 := fun e => h2 (.inl e); omega)]
              have h3 : ¬ (0 ≤ x.b ∧ 0 ≤ x.b + (x.n - 1) * x.c ∧ x.b < c.mem ∧ x.b + (x.n - 1) * x.c < c.mem) := fun h4 => h2 (.inr h4)
              rw [← Bool.not_eq_true]
              intro h4
              simp only [Bool.and_eq_true, decide_eq_true_eq] at h4
              exact h3 ⟨h4.1.1.1, h4.1.1.2, h4.1.2, h4.2⟩
          have HR6 := hide hR6
          clear hR6
          go_wp2_with fail
          go_loop [12] (fun v12 => ∃ i : Int, 0 ≤ i ∧ i ≤ x.n ∧ v12 = .int .i64 i ∧ ∀ k : Int, 0 ≤ k → k < i → 0 ≤ x.b + k * x.c ∧ x.b + k * x.c < c.mem) (fun v12 => (x.n - intOf v12).toNat)
          case atStart => exact ⟨0, by omega, HN.out.1, rfl, fun k h1 h2 => by omega⟩
          case round =>
            obtain ⟨i, hi0, hin, rfl, hok⟩ := hrel
            have HOK := hide hok
            clear hok
            by_cases hil : i < x.n
            · have hn := HN.out
              have hcb := HSM.out.c
              have hbb := HSM.out.b
              have hp := mulI_bd (A := 1048576) (B := 4096) hcb (show 0 ≤ i ∧ i ≤ 4096 by omega) (by omega)
              obtain ⟨P, hP⟩ : ∃ P, P = i * x.c := ⟨_, rfl⟩
              rw [← hP] at hp
              have w1 : IntKind.i64.wrap (i * x.c) = P := by rw [← hP, IntKind.wrap_i64]; omega
              have w2 : IntKind.i64.wrap (x.b + P) = x.b + P := by rw [IntKind.wrap_i64]; omega
              have w3 : IntKind.i64.wrap (i + 1) = i + 1 := by rw [IntKind.wrap_i64]; omega
              have HP := hide hP
              have HI0 := hide hi0
              clear hP hn hcb hbb hp
              by_cases p1 : x.b + P < 0
              · have hr : R = 4 := HR6.out.2 (fun h => by have h1 := h i HI0.out hil; rw [← HP.out] at h1; omega)
                go_wp2_with fail
                go_ret
                exact ⟨by first | rfl | (rw [hr]; rfl), HB34.out⟩
              by_cases p2 : c.mem ≤ x.b + P
              · have hr : R = 4 := HR6.out.2 (fun h => by have h1 := h i HI0.out hil; rw [← HP.out] at h1; omega)
                go_wp2_with fail
                go_ret
                exact ⟨by first | rfl | (rw [hr]; rfl), HB34.out⟩
              have HQ := hide (And.intro p1 p2)
              go_wp2_with fail
              go_round
              case rel => exact ⟨i + 1, by omega, by omega, by go_num, fun k h1 h2 => by
                by_cases e : k = i
                · subst e; rw [← HP.out]; have := HQ.out; omega
                · exact HOK.out k h1 (by omega)⟩
              case measure => simp [intOf]; omega
            · have hr : R = 0 := HR6.out.1 (fun k h1 h2 => HOK.out k h1 (by omega))
              clear HOK
              go_wp2_with fail
              go_ret
              exact ⟨by first | rfl | (rw [hr]; rfl), HB34.out⟩
  by_cases e3 : x.d = 3
  · have q3 : (x.d == 3) = true := by simpa using e3
    have q1 : (x.d == 1) = false := by simpa using e1
    have q2 : (x.d == 2) = false := by simpa using e2
    have q4 : (x.d == 4) = false := by simp [e3]
    have l1 : ¬ x.d < 1 := by omega
    have l2 : ¬ 14 < x.d := by omega
    have HHV : Hid (hasV e x.d = true) := by rw [Hid]; simp [hasV, e3]
    have HR2 : Hid (R = if x.a < 0 ∨ 16 ≤ x.a then 4 else 0) := by rw [Hid, HR.out, insE, if_neg (by simp [HHV.out]), if_pos (by omega)]
    clear e1 e2 e3
    by_cases p1 : x.a < 0
    · have hr : R = 4 := by rw [HR2.out, if_pos (.inl p1)]
      go_wp2_with fail
      go_ret
      exact ⟨by first | rfl | (rw [hr]; rfl), HB.out⟩
    by_cases p2 : 15 < x.a
    · have hr : R = 4 := by rw [HR2.out, if_pos (.inr (by omega))]
      go_wp2_with fail
      go_ret
      exact ⟨by first | rfl | (rw [hr]; rfl), HB.out⟩
    have hr : R = 0 := by rw [HR2.out, if_neg (by omega)]
    go_wp2_with fail
    go_ret
    exact ⟨by first | rfl | (rw [hr]; rfl), HB.out⟩
  by_cases e4 : x.d = 4
  · have q4 : (x.d == 4) = true := by simpa using e4
    have q1 : (x.d == 1) = false := by simpa using e1
    have q2 : (x.d == 2) = false := by simpa using e2
    have q3 : (x.d == 3) = false := by simpa using e3
    have l1 : ¬ x.d < 1 := by omega
    have l2 : ¬ 14 < x.d := by omega
    have HHV : Hid (hasV e x.d = true) := by rw [Hid]; simp [hasV, e4]
    have HR2 : Hid (R = if x.a < 0 ∨ 16 ≤ x.a then 4 else 0) := by rw [Hid, HR.out, insE, if_neg (by simp [HHV.out]), if_pos (by omega)]
    clear e1 e2 e3 e4
    by_cases p1 : x.a < 0
    · have hr : R = 4 := by rw [HR2.out, if_pos (.inl p1)]
      go_wp2_with fail
      go_ret
      exact ⟨by first | rfl | (rw [hr]; rfl), HB.out⟩
    by_cases p2 : 15 < x.a
    · have hr : R = 4 := by rw [HR2.out, if_pos (.inr (by omega))]
      go_wp2_with fail
      go_ret
      exact ⟨by first | rfl | (rw [hr]; rfl), HB.out⟩
    have hr : R = 0 := by rw [HR2.out, if_neg (by omega)]
    go_wp2_with fail
    go_ret
    exact ⟨by first | rfl | (rw [hr]; rfl), HB.out⟩
  have q1 : (x.d == 1) = false := by simpa using e1
  have q2 : (x.d == 2) = false := by simpa using e2
  have q3 : (x.d == 3) = false := by simpa using e3
  have q4 : (x.d == 4) = false := by simpa using e4
  by_cases l1 : x.d < 1
  · have hr : R = 1 := by rw [HR.out, insE, if_pos (by unfold hasV; rw [if_neg (by omega)]; simp [e3, e4]; omega)]
    clear e1 e2 e3 e4
    go_wp2_with fail
    go_ret
    exact ⟨by first | rfl | (rw [hr]; rfl), HB.out⟩
  by_cases l2 : 14 < x.d
  · have hr : R = 1 := by rw [HR.out, insE, if_pos (by unfold hasV; rw [if_neg (by omega)]; simp [e3, e4]; omega)]
    clear e1 e2 e3 e4
    go_wp2_with fail
    go_ret
    exact ⟨by first | rfl | (rw [hr]; rfl), HB.out⟩
  cases e
  rotate_left
  · have hr : R = 1 := by rw [HR.out, insE, if_pos (by unfold hasV; rw [if_neg (by omega)]; simp [e3, e4])]
    clear e1 e2 e3 e4
    go_wp2_with fail
    go_ret
    exact ⟨by first | rfl | (rw [hr]; rfl), HB.out⟩
  have HHV : Hid (hasV false x.d = true) := by rw [Hid]; unfold hasV; rw [if_neg (by omega)]; simp; omega
  have HNW : Hid (¬ (x.d = 3 ∨ x.d = 4)) := by rw [Hid]; omega
  have HDD : Hid (1 ≤ x.d ∧ x.d ≤ 14) := by rw [Hid]; omega
  have HDM : Hid (x.d ≠ 1 ∧ x.d ≠ 2) := by rw [Hid]; omega
  clear e1 e2 e3 e4
  have HR3 : Hid (R = if x.n < 0 ∨ 4096 < x.n ∨ farV x.a = true ∨ farV x.b = true ∨ farV x.c = true then 4 else if tchIn (tchV x) c.pad = false ∨ findV c.mem x = false then 4 else 0) := by
    rw [Hid, HR.out, insE, if_neg (by simp [HHV.out]), if_neg HNW.out]
  have HTI : Hid (tchIn (rTchV x) c.pad = tchIn (tchV x) c.pad) := tch_in HDD.out.1 HDD.out.2 c.pad
  by_cases p1 : x.n < 0
  · have hr : R = 4 := by rw [HR3.out, if_pos (.inl p1)]
    go_wp2_with fail
    go_ret
    exact ⟨by first | rfl | (rw [hr]; rfl), HB.out⟩
  by_cases p2 : 4096 < x.n
  · have hr : R = 4 := by rw [HR3.out, if_pos (.inr (.inl p2))]
    go_wp2_with fail
    go_ret
    exact ⟨by first | rfl | (rw [hr]; rfl), HB.out⟩
  go_upto_region 11 with fail
  have HN := hide (show 0 ≤ x.n ∧ x.n ≤ 4096 by omega)
  obtain ⟨V, hV⟩ : ∃ V, V = W.alloc (.cells #[.int .i64 x.a, .int .i64 x.b, .int .i64 x.c] 3) := ⟨_, rfl⟩
  have hbV : Below W.heap.size W V := by rw [hV]; exact bl_new _
  have hl : V.heap[W.heap.size]? = some (.cells #[.int .i64 x.a, .int .i64 x.b, .int .i64 x.c] 3 (0, 0)) := by rw [hV]; exact World.alloc_heap_new _ _
  have l0 : V.cell? ⟨W.heap.size, 0, none⟩ = some (.int .i64 x.a) := by simp [World.cell?, hl]
  have l1 : V.cell? ⟨W.heap.size, 1, none⟩ = some (.int .i64 x.b) := by simp [World.cell?, hl]
  have l2 : V.cell? ⟨W.heap.size, 2, none⟩ = some (.int .i64 x.c) := by simp [World.cell?, hl]
  have zl := (Array.getElem?_eq_some_iff.1 hl).1
  have HV := hide hV
  have HB2 := hide (bl_on HB.out hbV)
  have HC2 := hide (HC.out.below hbV)
  have HI2 := hide (HI.out.below hbV)
  clear hV hbV hl p1 p2
  go_upto_region 12 with fail
  rw [← HV.out]
  clear c0 c1 c2 c3 zc i0 i1 i2 i3 i4 i5 zi HB HC HI HR
  go_loop [72] (fun v72 => ∃ k : Int, (k = 0 ∨ k = 1 ∨ k = 2 ∨ k = 3) ∧ v72 = .int .i64 k ∧ (1 ≤ k → farV x.a = false) ∧ (2 ≤ k → farV x.b = false) ∧ (3 ≤ k → farV x.c = false)) (fun v72 => (3 - intOf v72).toNat)
  case atStart => exact ⟨0, .inl rfl, rfl, fun h => by omega, fun h => by omega, fun h => by omega⟩
  case round =>
    obtain ⟨k, hk, rfl, ka, kb, kc⟩ := hrel
    have KA := hide ka
    have KB := hide kb
    have KC := hide kc
    clear ka kb kc
    obtain rfl | rfl | rfl | rfl := hk
    · by_cases p1 : 1048576 < x.a
      · have hr : R = 4 := by rw [HR3.out, if_pos (by simp [farV, p1])]
        go_wp2_with fail
        go_ret
        exact ⟨by first | rfl | (rw [hr]; rfl), HB2.out⟩
      by_cases p2 : x.a < -1048576
      · have hr : R = 4 := by rw [HR3.out, if_pos (by simp [farV, p2])]
        go_wp2_with fail
        go_ret
        exact ⟨by first | rfl | (rw [hr]; rfl), HB2.out⟩
      have HF : Hid (farV x.a = false) := by rw [Hid]; simp [farV, p1, p2]
      go_wp2_with fail
      go_round
      case rel => exact ⟨1, by omega, by go_num, fun _ => HF.out, fun h => by omega, fun h => by omega⟩
      case measure => simp [intOf]
    · by_cases p1 : 1048576 < x.b
      · have hr : R = 4 := by rw [HR3.out, if_pos (by simp [farV, p1])]
        go_wp2_with fail
        go_ret
        exact ⟨by first | rfl | (rw [hr]; rfl), HB2.out⟩
      by_cases p2 : x.b < -1048576
      · have hr : R = 4 := by rw [HR3.out, if_pos (by simp [farV, p2])]
        go_wp2_with fail
        go_ret
        exact ⟨by first | rfl | (rw [hr]; rfl), HB2.out⟩
      have HF : Hid (farV x.b = false) := by rw [Hid]; simp [farV, p1, p2]
      go_wp2_with fail
      go_round
      case rel => exact ⟨2, by omega, by go_num, fun _ => KA.out (by omega), fun _ => HF.out, fun h => by omega⟩
      case measure => simp [intOf]
    · by_cases p1 : 1048576 < x.c
      · have hr : R = 4 := by rw [HR3.out, if_pos (by simp [farV, p1])]
        go_wp2_with fail
        go_ret
        exact ⟨by first | rfl | (rw [hr]; rfl), HB2.out⟩
      by_cases p2 : x.c < -1048576
      · have hr : R = 4 := by rw [HR3.out, if_pos (by simp [farV, p2])]
        go_wp2_with fail
        go_ret
        exact ⟨by first | rfl | (rw [hr]; rfl), HB2.out⟩
      have HF : Hid (farV x.c = false) := by rw [Hid]; simp [farV, p1, p2]
      go_wp2_with fail
      go_round
      case rel => exact ⟨3, by omega, by go_num, fun _ => KA.out (by omega), fun _ => KB.out (by omega), fun _ => HF.out⟩
      case measure => simp [intOf]
    · have fa := KA.out (by omega)
      have fb := KB.out (by omega)
      have fc := KC.out (by omega)
      have hR4 : R = if tchIn (tchV x) c.pad = false ∨ findV c.mem x = false then 4 else 0 := by
        rw [HR3.out, if_neg (by have := HN.out; simp [fa, fb, fc]; omega)]
      have hsm : x.Sm := by
        simp only [farV, Bool.or_eq_false_iff, decide_eq_false_iff_not] at fa fb fc
        exact ⟨HN.out, by omega, by omega, by omega⟩
      have HR4 := hide hR4
      have HSM := hide hsm
      have HTS := hide (rtch_sm hsm)
      clear fa fb fc hR4 hsm KA KB KC l0 l1 l2 zl HR3
      obtain ⟨⟨i0, i1, i2, i3, i4, i5⟩, zi⟩ := HI2.out.cells
      go_wp2_with fail
      refine (rTouched_any x V).mono ?_
      rintro r w2 ⟨rfl, hb2⟩
      unfold Tch.v
      obtain ⟨t, ht⟩ : ∃ t, t = rTchV x := ⟨_, rfl⟩
      rw [← ht]
      obtain ⟨V2, hV2⟩ : ∃ V2, V2 = w2.alloc (.cells #[.int .i64 t.r0.f, .int .i64 t.r0.w, .int .i64 t.r1.f, .int .i64 t.r1.w, .int .i64 t.r2.f, .int .i64 t.r2.w, .int .i64 t.wr.f, .int .i64 t.wr.w] 76) := ⟨_, rfl⟩
      have hbV2 : Below w2.heap.size w2 V2 := by rw [hV2]; exact bl_new _
      obtain ⟨g, hg⟩ : ∃ g, g = w2.heap.size := ⟨_, rfl⟩
      have hT : WBlk V2 g t := by rw [hV2, hg]; exact World.alloc_heap_new _ _
      have HT0 := hide hT
      have HB30 := hide (bl_on (bl_on HB2.out hb2) hbV2)
      have HC30 := hide ((HC2.out.below hb2).below hbV2)
      have HI30 := hide ((HI2.out.below hb2).below hbV2)
      have HV2 := hide hV2
      have HG := hide hg
      have HTE := hide ht
      rw [← ht] at HTI HTS
      clear hb2 hbV2 hV2 hg hT ht i0 i1 i2 i3 i4 i5 zi
      go_upto_region 18 with fail
      rw [← HV2.out, ← HG.out]
      obtain ⟨⟨v0, v1, v2, v3, v4, v5, v6, v7⟩, zv⟩ := blk8 HT0.out
      obtain ⟨⟨c0, c1, c2, c3⟩, zc⟩ := HC30.out.cells
      go_wp2_with fail
      refine (inside_any t.wr c.pad HTS.out.wr _).mono ?_
      rintro r w10 ⟨rfl, hb4⟩
      have HT1 := hide (HT0.out.below hb4)
      have HB31 := hide (bl_on HB30.out hb4)
      have HC31 := hide (HC30.out.below hb4)
      have HI31 := hide (HI30.out.below hb4)
      clear hb4 v0 v1 v2 v3 v4 v5 v6 v7 zv c0 c1 c2 c3 zc
      cases hwr : inBk t.wr c.pad
      · have hr : R = 4 := by rw [HR4.out, if_pos (.inl (by rw [← HTI.out]; simp [tchIn, hwr]))]
        go_wp2_with fail
        go_ret
        exact ⟨by first | rfl | (rw [hr]; rfl), HB31.out⟩
      obtain ⟨⟨v0, v1, v2, v3, v4, v5, v6, v7⟩, zv⟩ := blk8 HT1.out
      obtain ⟨⟨c0, c1, c2, c3⟩, zc⟩ := HC31.out.cells
      go_wp2_with fail
      refine (inside_any t.r0 c.pad HTS.out.r0 _).mono ?_
      rintro r w11 ⟨rfl, hb4⟩
      have HT2 := hide (HT1.out.below hb4)
      have HB32 := hide (bl_on HB31.out hb4)
      have HC32 := hide (HC31.out.below hb4)
      have HI32 := hide (HI31.out.below hb4)
      clear hb4 v0 v1 v2 v3 v4 v5 v6 v7 zv c0 c1 c2 c3 zc
      cases hr0 : inBk t.r0 c.pad
      · have hr : R = 4 := by rw [HR4.out, if_pos (.inl (by rw [← HTI.out]; simp [tchIn, hr0]))]
        go_wp2_with fail
        go_ret
        exact ⟨by first | rfl | (rw [hr]; rfl), HB32.out⟩
      obtain ⟨⟨v0, v1, v2, v3, v4, v5, v6, v7⟩, zv⟩ := blk8 HT2.out
      obtain ⟨⟨c0, c1, c2, c3⟩, zc⟩ := HC32.out.cells
      go_wp2_with fail
      refine (inside_any t.r1 c.pad HTS.out.r1 _).mono ?_
      rintro r w12 ⟨rfl, hb4⟩
      have HT3 := hide (HT2.out.below hb4)
      have HB33 := hide (bl_on HB32.out hb4)
      have HC33 := hide (HC32.out.below hb4)
      have HI33 := hide (HI32.out.below hb4)
      clear hb4 v0 v1 v2 v3 v4 v5 v6 v7 zv c0 c1 c2 c3 zc
      cases hr1 : inBk t.r1 c.pad
      · have hr : R = 4 := by rw [HR4.out, if_pos (.inl (by rw [← HTI.out]; simp [tchIn, hr1]))]
        go_wp2_with fail
        go_ret
        exact ⟨by first | rfl | (rw [hr]; rfl), HB33.out⟩
      obtain ⟨⟨v0, v1, v2, v3, v4, v5, v6, v7⟩, zv⟩ := blk8 HT3.out
      obtain ⟨⟨c0, c1, c2, c3⟩, zc⟩ := HC33.out.cells
      go_wp2_with fail
      refine (inside_any t.r2 c.pad HTS.out.r2 _).mono ?_
      rintro r w13 ⟨rfl, hb4⟩
      have HT4 := hide (HT3.out.below hb4)
      have HB34 := hide (bl_on HB33.out hb4)
      have HC34 := hide (HC33.out.below hb4)
      have HI34 := hide (HI33.out.below hb4)
      clear hb4 v0 v1 v2 v3 v4 v5 v6 v7 zv c0 c1 c2 c3 zc
      cases hr2 : inBk t.r2 c.pad
      · have hr : R = 4 := by rw [HR4.out, if_pos (.inl (by rw [← HTI.out]; simp [tchIn, hr2]))]
        go_wp2_with fail
        go_ret
        exact ⟨by first | rfl | (rw [hr]; rfl), HB34.out⟩
      have hR5 : R = if findV c.mem x = false then 4 else 0 := by
        rw [HR4.out]
        have : tchIn (tchV x) c.pad = true := by rw [← HTI.out]; simp [tchIn, hwr, hr0, hr1, hr2]
        simp [this]
      have HR5 := hide hR5
      clear hR5 hwr hr0 hr1 hr2
      obtain ⟨⟨i0, i1, i2, i3, i4, i5⟩, zi⟩ := HI34.out.cells
      obtain ⟨⟨c0, c1, c2, c3⟩, zc⟩ := HC34.out.cells
      have hr : R = 0 := by rw [HR5.out, if_neg (by simp [findV, HDM.out.1, HDM.out.2])]
      go_wp2_with fail
      go_loop [12] (fun v12 => v12 = .int .i64 0) (fun _ => 0)
      case atStart => rfl
      case round =>
        obtain rfl := hrel
        go_wp2_with fail
        go_ret
        exact ⟨by first | rfl | (rw [hr]; rfl), HB34.out⟩
end Go.Proofs.YtoabffmiedbkkaaGreat.V
