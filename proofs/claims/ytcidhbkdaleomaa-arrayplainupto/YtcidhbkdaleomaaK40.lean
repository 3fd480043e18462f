/-
  Contract: array.Plain.
-/
import Derived.Test.YtcidhbkdaleomaaK38
import Derived.Test.YtcidhbkdaleomaaK21
import Derived.Test.YtcidhbkdaleomaaK39
namespace Go.Proofs.Ytcidhbkdaleomaa.V
set_option maxRecDepth 20000
open Go.RowKit

theorem RowI.set {w : World} {g len : Nat} {xs : List Int} (h : RowI w g len xs) {p : Addr} (hne : g ≠ p.block) (u : Value) : RowI (w.setCell p u) g len xs := World.rowIs.setOther h (a := p) hne u

theorem OpAt.setF1 {w : World} {b : Nat} {k : Int} {c1 c2 c3 c4 c5 : Value} {x : Int} (h : OpAt w b k c1 c2 c3 c4 c5 x) (u : Value) : OpAt (w.setCell ⟨b, 1, none⟩ u) b k u c2 c3 c4 c5 x := by
  unfold OpAt at *
  simp [World.setCell, Array.getElem?_modify, h]
theorem OpAt.setF2 {w : World} {b : Nat} {k : Int} {c1 c2 c3 c4 c5 : Value} {x : Int} (h : OpAt w b k c1 c2 c3 c4 c5 x) (u : Value) : OpAt (w.setCell ⟨b, 2, none⟩ u) b k c1 u c3 c4 c5 x := by
  unfold OpAt at *
  simp [World.setCell, Array.getElem?_modify, h]
theorem OpAt.setF3 {w : World} {b : Nat} {k : Int} {c1 c2 c3 c4 c5 : Value} {x : Int} (h : OpAt w b k c1 c2 c3 c4 c5 x) (u : Value) : OpAt (w.setCell ⟨b, 3, none⟩ u) b k c1 c2 u c4 c5 x := by
  unfold OpAt at *
  simp [World.setCell, Array.getElem?_modify, h]
theorem OpAt.setF4 {w : World} {b : Nat} {k : Int} {c1 c2 c3 c4 c5 : Value} {x : Int} (h : OpAt w b k c1 c2 c3 c4 c5 x) (u : Value) : OpAt (w.setCell ⟨b, 4, none⟩ u) b k c1 c2 c3 u c5 x := by
  unfold OpAt at *
  simp [World.setCell, Array.getElem?_modify, h]
theorem OpAt.setF5 {w : World} {b : Nat} {k : Int} {c1 c2 c3 c4 c5 : Value} {x : Int} (h : OpAt w b k c1 c2 c3 c4 c5 x) (u : Value) : OpAt (w.setCell ⟨b, 5, none⟩ u) b k c1 c2 c3 c4 u x := by
  unfold OpAt at *
  simp [World.setCell, Array.getElem?_modify, h]

set_option maxRecDepth 100000 in
set_option maxHeartbeats 4000000 in
theorem plain_op_any (k x : Int) (ea : Option Addr) (el ec : Nat) (es : List Int) (pa : Option Addr) (pl pc : Nat) (ps : List Int) (la : Option Addr) (ll lc : Nat) (lo : List Int) (ha : Option Addr) (hl hc : Nat) (hi : List Int) (ta : Option Addr) (tl tc : Nat) (st : List Int) (w : World)
    (he : Ints w ea el es) (hp : Ints w pa pl ps) (hlo : Ints w la ll lo) (hhi : Ints w ha hl hi) (hst : Ints w ta tl st) (b0 : el ≤ 1048576) (b1 : pl ≤ 1048576) (b2 : ll ≤ 1048576) (b3 : hl ≤ 1048576) (b4 : tl ≤ 1048576) :
    Calls Try.prog 15 #[.agg #[.int .i64 k, .slice ea el ec, .slice pa pl pc, .slice la ll lc, .slice ha hl hc, .slice ta tl tc, .int .i64 x]] w fun e w' => (∃ (ea2 : Option Addr) (el2 ec2 : Nat) (pa2 : Option Addr) (pl2 pc2 : Nat) (la2 : Option Addr) (ll2 lc2 : Nat) (ha2 : Option Addr) (hl2 hc2 : Nat) (ta2 : Option Addr) (tl2 tc2 : Nat), e = .returned (.agg #[.int .i64 k, .slice ea2 el2 ec2, .slice pa2 pl2 pc2, .slice la2 ll2 lc2, .slice ha2 hl2 hc2, .slice ta2 tl2 tc2, .int .i64 (mX k x)]) ∧ Ints w' ea2 el2 (mD k es) ∧ Ints w' pa2 pl2 (mA k ps) ∧ Ints w' la2 ll2 (mL k lo) ∧ Ints w' ha2 hl2 (mL k hi) ∧ Ints w' ta2 tl2 (mL k st)) ∧ Below w.heap.size w w' := by
  obtain ⟨eam, elm, ecm, pam, plm, pcm, lam, llm, lcm, ham, hlm, hcm, tam, tlm, tcm, hmv0, ⟨i01, b01⟩, ⟨i02, b02⟩, ⟨i03, b03⟩, ⟨i04, b04⟩, ⟨i05, b05⟩⟩ := meant_split k x ea el ec es pa pl pc ps la ll lc lo ha hl hc hi ta tl tc st w he hp hlo hhi hst
  have HMV0 := hide hmv0
  have J01 := hide i01
  have J02 := hide i02
  have J03 := hide i03
  have J04 := hide i04
  have J05 := hide i05
  have HB1 := hide ((Below.refl w.heap.size w).alloc (Nat.le_refl _) (.cells #[.int .i64 k, .slice ea el ec, .slice pa pl pc, .slice la ll lc, .slice ha hl hc, .slice ta tl tc, .int .i64 x] 24))
  have HB2 := hide (HB1.out.alloc HB1.out.size (.cells #[.int .i64 0, .slice none 0 0, .slice none 0 0, .slice none 0 0, .slice none 0 0, .slice none 0 0, .int .i64 0] 24))
  have HOA2 := hide ((OpAt.new w k (.slice ea el ec) (.slice pa pl pc) (.slice la ll lc) (.slice ha hl hc) (.slice ta tl tc) x).alloc (.cells #[.int .i64 0, .slice none 0 0, .slice none 0 0, .slice none 0 0, .slice none 0 0, .slice none 0 0, .int .i64 0] 24))
  have hz := OpAt.new (w.alloc (.cells #[.int .i64 k, .slice ea el ec, .slice pa pl pc, .slice la ll lc, .slice ha hl hc, .slice ta tl tc, .int .i64 x] 24)) 0 (.slice none 0 0) (.slice none 0 0) (.slice none 0 0) (.slice none 0 0) (.slice none 0 0) 0
  simp only [World.size_alloc] at hz
  have HZ2 := hide hz
  obtain ⟨o0, o1, o2, o3, o4, o5, o6⟩ := HOA2.out.cells
  clear hz hmv0 i01 i02 i03 i04 i05
  go_enter Try.func15, Try.ntmps15
  go_wp2_with (go_at_call 34; refine (meant_any k ea el ec pa pl pc la ll lc ha hl hc ta tl tc x _).mono ?_; rintro e w1 ⟨rfl, hb⟩; rw [HMV0.out]; have HB3 := hide (Below.on HB2.out hb); have HZ3 := hide (HZ2.out.below hb); have hx3 := hb.size; simp only [World.size_alloc] at hx3; clear hb)
  have HT4 := hide (OpAt.new w1 k (.slice eam elm ecm) (.slice pam plm pcm) (.slice lam llm lcm) (.slice ham hlm hcm) (.slice tam tlm tcm) (mX k x))
  have HZ4 := hide (HZ3.out.alloc (.cells #[.int .i64 k, .slice eam elm ecm, .slice pam plm pcm, .slice lam llm lcm, .slice ham hlm hcm, .slice tam tlm tcm, .int .i64 (mX k x)] 24))
  have HB4 := hide (HB3.out.alloc HB3.out.size (.cells #[.int .i64 k, .slice eam elm ecm, .slice pam plm pcm, .slice lam llm lcm, .slice ham hlm hcm, .slice tam tlm tcm, .int .i64 (mX k x)] 24))
  obtain ⟨t0, t1, t2, t3, t4, t5, t6⟩ := HT4.out.cells
  generalize hW : w1.alloc (.cells #[.int .i64 k, .slice eam elm ecm, .slice pam plm pcm, .slice lam llm lcm, .slice ham hlm hcm, .slice tam tlm tcm, .int .i64 (mX k x)] 24) = W at HT4 HZ4 HB4 t0 t1 t2 t3 t4 t5 t6 ⊢
  have hWs : w1.heap.size + 1 = W.heap.size := by rw [← hW]; simp
  clear hW
  have hz8 := HZ4.out.lt
  have hlw : w.heap.size + 1 < w1.heap.size := by omega
  go_cut [] (fun wc => ∃ g0 g1 : Nat, OpAt wc w1.heap.size k (.slice (some ⟨g0, 0, none⟩) elm elm) (.slice (some ⟨g1, 0, none⟩) plm plm) (.slice lam llm lcm) (.slice ham hlm hcm) (.slice tam tlm tcm) (mX k x) ∧ (RowI wc g0 elm (mD k es) ∧ RowI wc g1 plm (mA k ps)) ∧ (w1.heap.size < g0 ∧ w1.heap.size < g1) ∧ OpAt wc (w.heap.size + 1) 0 (.slice none 0 0) (.slice none 0 0) (.slice none 0 0) (.slice none 0 0) (.slice none 0 0) 0 ∧ Below w.heap.size w wc)
  case first =>
    go_region_with (first | (go_at_call_of 35 (Value.slice eam elm ecm); refine (afresh_any _ _ _ (mD k es) _ (J01.out.below (HB4.out.drew)) (by omega)).mono ?_; rintro e w5 ⟨⟨g0, rfl, hr, hg⟩, hb⟩; have HR5 := hide hr; have HX5 := hide hb; have HB5 := hide (Below.on (HB4.out.drew) hb); have HT5 := hide ((HT4.out.below ((Below.refl _ _).drew)).below hb); have HZ5 := hide ((HZ4.out.below ((Below.refl _ _).drew)).below hb); have hg0 : W.heap.size ≤ g0 := hg; have hsz5 : W.heap.size ≤ w5.heap.size := hb.size; obtain ⟨t50, t51, t52, t53, t54, t55, t56⟩ := HT5.out.cells; have f51 := HT5.out.frozen 1; have f52 := HT5.out.frozen 2; have f53 := HT5.out.frozen 3; have f54 := HT5.out.frozen 4; have f55 := HT5.out.frozen 5; clear hr hg hb) | (go_at_call_of 35 (Value.slice pam plm pcm); refine (afresh_any _ _ _ (mA k ps) _ (J02.out.below (HB5.out)) (by omega)).mono ?_; rintro e w6 ⟨⟨g1, rfl, hr, hg⟩, hb⟩; have HR6 := hide hr; have HX6 := hide hb; have HB6 := hide (Below.on (HB5.out) hb); have HT6 := hide (HT5.out.below hb); have HZ6 := hide (HZ5.out.below hb); have hg1 : w5.heap.size ≤ g1 := hg; have hsz6 : w5.heap.size ≤ w6.heap.size := hb.size; obtain ⟨t60, t61, t62, t63, t64, t65, t66⟩ := HT6.out.cells; have f61 := HT6.out.frozen 1; have f62 := HT6.out.frozen 2; have f63 := HT6.out.frozen 3; have f64 := HT6.out.frozen 4; have f65 := HT6.out.frozen 5; clear hr hg hb))
    all_goals go_wp2
    all_goals go_meet
    all_goals exact ⟨g0, g1, (HT6.out.setF1 _).setF2 _, ⟨((HR5.out.below HX6.out).set (p := ⟨w1.heap.size, 1, none⟩) (by simp; omega) _).set (p := ⟨w1.heap.size, 2, none⟩) (by simp; omega) _, (HR6.out.set (p := ⟨w1.heap.size, 1, none⟩) (by simp; omega) _).set (p := ⟨w1.heap.size, 2, none⟩) (by simp; omega) _⟩, ⟨by omega, by omega⟩, (HZ6.out.set (p := ⟨w1.heap.size, 1, none⟩) (by simp; omega) _).set (p := ⟨w1.heap.size, 2, none⟩) (by simp; omega) _, (HB6.out.setCell (p := ⟨w1.heap.size, 1, none⟩) (by simp; omega) _).setCell (p := ⟨w1.heap.size, 2, none⟩) (by simp; omega) _⟩
  case rest =>
    obtain ⟨g0, g1, hT, ⟨hr0, hr1⟩, ⟨hg0, hg1⟩, hZ, hB⟩ := hcut
    have HT7 := hide hT
    have HZ7 := hide hZ
    have HB7 := hide hB
    have HR0 := hide hr0
    have HR1 := hide hr1
    have hs7 := hT.lt
    obtain ⟨t70, t71, t72, t73, t74, t75, t76⟩ := hT.cells
    clear hT hr0 hr1 hZ hB t0 t1 t2 t3 t4 t5 t6 o0 o1 o2 o3 o4 o5 o6
    go_wp2_with fail
    go_cut [] (fun wd => ∃ g2 g3 g4 : Nat, OpAt wd w1.heap.size k (.slice (some ⟨g0, 0, none⟩) elm elm) (.slice (some ⟨g1, 0, none⟩) plm plm) (.slice (some ⟨g2, 0, none⟩) llm llm) (.slice (some ⟨g3, 0, none⟩) hlm hlm) (.slice (some ⟨g4, 0, none⟩) tlm tlm) (mX k x) ∧ (RowI wd g0 elm (mD k es) ∧ RowI wd g1 plm (mA k ps) ∧ RowI wd g2 llm (mL k lo) ∧ RowI wd g3 hlm (mL k hi) ∧ RowI wd g4 tlm (mL k st)) ∧ (w1.heap.size < g2 ∧ w1.heap.size < g3 ∧ w1.heap.size < g4) ∧ OpAt wd (w.heap.size + 1) 0 (.slice none 0 0) (.slice none 0 0) (.slice none 0 0) (.slice none 0 0) (.slice none 0 0) 0 ∧ Below w.heap.size w wd)
    case first =>
      refine wp_region_lapse (S := (fun w' => w'.cell? ⟨w1.heap.size, 3, none⟩ = some (.slice lam llm lcm) ∧ w'.cell? ⟨w1.heap.size, 4, none⟩ = some (.slice ham hlm hcm) ∧ w'.cell? ⟨w1.heap.size, 5, none⟩ = some (.slice tam tlm tcm))) (late := [10, 11, 12, 13, 14]) (by kernel_rfl) ⟨drew_cell t73, drew_cell t74, drew_cell t75⟩ (fun hHeld => ?_)
      show wpAnyL _ _ _ _ _ _ _ _ _ _
      refine' wpAnyL_take (i := 0) (n := 1) (oi := ({ dst := some 14, op := Op.fieldAddr 24 (Operand.tmp 3) 3, type := 0, pos := "op.go:14", after := #[], guard := none } : Oper)) (v := _) rfl (by kernel_rfl) (by kernel_rfl) (by kernel_rfl) (by kernel_rfl) (by kernel_rfl) (fun _ _ _ h => h) (Or.inl ⟨by kernel_rfl, ?zy0⟩) (by assumption) ?_
      case zy0 => (intro wz hSw; (try dsimp only at hSw); go_simp; try with_reducible rfl)
      simp only [Act.put, List.setIfInBounds_toArray, List.set_cons_zero, List.set_cons_succ]
      refine' wpAnyL_take (i := 3) (n := 1) (oi := ({ dst := some 17, op := Op.fieldAddr 24 (Operand.tmp 3) 4, type := 0, pos := "op.go:14", after := #[], guard := none } : Oper)) (v := _) rfl (by kernel_rfl) (by kernel_rfl) (by kernel_rfl) (by kernel_rfl) (by kernel_rfl) (fun _ _ _ h => h) (Or.inl ⟨by kernel_rfl, ?zy3⟩) (by assumption) ?_
      case zy3 => (intro wz hSw; (try dsimp only at hSw); go_simp; try with_reducible rfl)
      simp only [Act.put, List.setIfInBounds_toArray, List.set_cons_zero, List.set_cons_succ]
      refine' wpAnyL_take (i := 6) (n := 1) (oi := ({ dst := some 20, op := Op.fieldAddr 24 (Operand.tmp 3) 5, type := 0, pos := "op.go:14", after := #[], guard := none } : Oper)) (v := _) rfl (by kernel_rfl) (by kernel_rfl) (by kernel_rfl) (by kernel_rfl) (by kernel_rfl) (fun _ _ _ h => h) (Or.inl ⟨by kernel_rfl, ?zy6⟩) (by assumption) ?_
      case zy6 => (intro wz hSw; (try dsimp only at hSw); go_simp; try with_reducible rfl)
      simp only [Act.put, List.setIfInBounds_toArray, List.set_cons_zero, List.set_cons_succ]
      refine' wpAnyL_take (i := 1) (n := 1) (oi := ({ dst := some 15, op := Op.load 22 (Operand.tmp 14), type := 22, pos := "op.go:14", after := #[{ on := 0, ground := Ground.data }], guard := none } : Oper)) (v := _) rfl (by kernel_rfl) (by kernel_rfl) (by kernel_rfl) (by kernel_rfl) (by kernel_rfl) (fun _ _ _ h => h) (Or.inl ⟨by kernel_rfl, ?zy1⟩) (by assumption) ?_
      case zy1 => (intro wz hSw; (try dsimp only at hSw); go_simp; try with_reducible rfl)
      simp only [Act.put, List.setIfInBounds_toArray, List.set_cons_zero, List.set_cons_succ]
      refine' wpAnyL_take (i := 4) (n := 1) (oi := ({ dst := some 18, op := Op.load 22 (Operand.tmp 17), type := 22, pos := "op.go:14", after := #[{ on := 3, ground := Ground.data }], guard := none } : Oper)) (v := _) rfl (by kernel_rfl) (by kernel_rfl) (by kernel_rfl) (by kernel_rfl) (by kernel_rfl) (fun _ _ _ h => h) (Or.inl ⟨by kernel_rfl, ?zy4⟩) (by assumption) ?_
      case zy4 => (intro wz hSw; (try dsimp only at hSw); go_simp; try with_reducible rfl)
      simp only [Act.put, List.setIfInBounds_toArray, List.set_cons_zero, List.set_cons_succ]
      refine' wpAnyL_take (i := 7) (n := 1) (oi := ({ dst := some 21, op := Op.load 22 (Operand.tmp 20), type := 22, pos := "op.go:14", after := #[{ on := 6, ground := Ground.data }], guard := none } : Oper)) (v := _) rfl (by kernel_rfl) (by kernel_rfl) (by kernel_rfl) (by kernel_rfl) (by kernel_rfl) (fun _ _ _ h => h) (Or.inl ⟨by kernel_rfl, ?zy7⟩) (by assumption) ?_
      case zy7 => (intro wz hSw; (try dsimp only at hSw); go_simp; try with_reducible rfl)
      simp only [Act.put, List.setIfInBounds_toArray, List.set_cons_zero, List.set_cons_succ]
      refine wpAnyL_next (i := 2) (o := ({ dst := some 16, op := Op.call { callee := Callee.value (Operand.func 35), args := #[Operand.tmp 15], argTypes := #[22] }, type := 22, pos := "op.go:14", after := #[{ on := 1, ground := Ground.data }], guard := none } : Oper)) (by kernel_rfl) rfl (fun K hK => ?_)
      go_simp
      refine (afresh_any _ _ _ (mL k lo) _ (J03.out.below (HB7.out.drew)) (by omega)).mono ?_
      rintro e w8 ⟨⟨g2, rfl, hr, hg⟩, hb⟩
      have HR8 := hide hr
      have HX8 := hide hb
      have HB8 := hide (Below.on (HB7.out.drew) hb)
      have HT8 := hide ((HT7.out.below ((Below.refl _ _).drew)).below hb)
      have HZ8 := hide ((HZ7.out.below ((Below.refl _ _).drew)).below hb)
      have hg2 : wc.heap.size ≤ g2 := hg
      have hsz8 : wc.heap.size ≤ w8.heap.size := hb.size
      obtain ⟨t80, t81, t82, t83, t84, t85, t86⟩ := HT8.out.cells
      have f81 := HT8.out.frozen 1
      have f82 := HT8.out.frozen 2
      have f83 := HT8.out.frozen 3
      have f84 := HT8.out.frozen 4
      have f85 := HT8.out.frozen 5
      clear hr hg hb
      try simp only []
      refine hK.out _ _ ⟨t83, t84, t85⟩ (fun hHeld8 => ?_)
      clear hK K
      try simp only [Act.put, List.setIfInBounds_toArray, List.set_cons_zero, List.set_cons_succ]
      refine' wpAnyL_take (i := 9) (n := 1) (oi := ({ dst := some 23, op := Op.fieldAddr 24 (Operand.tmp 3) 3, type := 0, pos := "op.go:14", after := #[{ on := 0, ground := Ground.phase }, { on := 1, ground := Ground.phase }, { on := 2, ground := Ground.phase }, { on := 3, ground := Ground.phase }, { on := 4, ground := Ground.phase }, { on := 5, ground := Ground.textOnly Departure.lateStoresUnsure }, { on := 6, ground := Ground.phase }, { on := 7, ground := Ground.phase }, { on := 8, ground := Ground.textOnly Departure.lateStoresUnsure }], guard := none } : Oper)) (v := _) rfl (by kernel_rfl) (by kernel_rfl) (by kernel_rfl) (by kernel_rfl) (by kernel_rfl) (fun _ _ _ h => h) (Or.inl ⟨by kernel_rfl, ?zy9⟩) (by assumption) ?_
      case zy9 => (intro wz hSw; (try dsimp only at hSw); go_simp; try with_reducible rfl)
      simp only [Act.put, List.setIfInBounds_toArray, List.set_cons_zero, List.set_cons_succ]
      refine wpAnyL_next (i := 5) (o := ({ dst := some 19, op := Op.call { callee := Callee.value (Operand.func 35), args := #[Operand.tmp 18], argTypes := #[22] }, type := 22, pos := "op.go:14", after := #[{ on := 4, ground := Ground.data }, { on := 2, ground := Ground.chain }], guard := none } : Oper)) (by kernel_rfl) rfl (fun K hK => ?_)
      go_simp
      refine (afresh_any _ _ _ (mL k hi) _ (J04.out.below (HB8.out)) (by omega)).mono ?_
      rintro e w9 ⟨⟨g3, rfl, hr, hg⟩, hb⟩
      have HR9 := hide hr
      have HX9 := hide hb
      have HB9 := hide (Below.on (HB8.out) hb)
      have HT9 := hide (HT8.out.below hb)
      have HZ9 := hide (HZ8.out.below hb)
      have hg3 : w8.heap.size ≤ g3 := hg
      have hsz9 : w8.heap.size ≤ w9.heap.size := hb.size
      obtain ⟨t90, t91, t92, t93, t94, t95, t96⟩ := HT9.out.cells
      have f91 := HT9.out.frozen 1
      have f92 := HT9.out.frozen 2
      have f93 := HT9.out.frozen 3
      have f94 := HT9.out.frozen 4
      have f95 := HT9.out.frozen 5
      clear hr hg hb
      try simp only []
      refine hK.out _ _ ⟨t93, t94, t95⟩ (fun hHeld9 => ?_)
      clear hK K
      try simp only [Act.put, List.setIfInBounds_toArray, List.set_cons_zero, List.set_cons_succ]
      refine wpAnyL_next (i := 8) (o := ({ dst := some 22, op := Op.call { callee := Callee.value (Operand.func 35), args := #[Operand.tmp 21], argTypes := #[22] }, type := 22, pos := "op.go:14", after := #[{ on := 7, ground := Ground.data }, { on := 5, ground := Ground.chain }], guard := none } : Oper)) (by kernel_rfl) rfl (fun K hK => ?_)
      go_simp
      refine (afresh_any _ _ _ (mL k st) _ (J05.out.below (HB9.out)) (by omega)).mono ?_
      rintro e w10 ⟨⟨g4, rfl, hr, hg⟩, hb⟩
      have HR10 := hide hr
      have HX10 := hide hb
      have HB10 := hide (Below.on (HB9.out) hb)
      have HT10 := hide (HT9.out.below hb)
      have HZ10 := hide (HZ9.out.below hb)
      have hg4 : w9.heap.size ≤ g4 := hg
      have hsz10 : w9.heap.size ≤ w10.heap.size := hb.size
      obtain ⟨t100, t101, t102, t103, t104, t105, t106⟩ := HT10.out.cells
      have f101 := HT10.out.frozen 1
      have f102 := HT10.out.frozen 2
      have f103 := HT10.out.frozen 3
      have f104 := HT10.out.frozen 4
      have f105 := HT10.out.frozen 5
      clear hr hg hb
      try simp only []
      refine hK.out _ _ ⟨t103, t104, t105⟩ (fun hHeld10 => ?_)
      clear hK K
      try simp only [Act.put, List.setIfInBounds_toArray, List.set_cons_zero, List.set_cons_succ]
      clear t80 t81 t82 t83 t84 t85 t86 f81 f82 f83 f84 f85 t90 t91 t92 t93 t94 t95 t96 f91 f92 f93 f94 f95
      refine wpAnyL_late (i := 10) (o := ({ dst := none, op := Op.store 22 (Operand.tmp 23) (Operand.tmp 16), type := 0, pos := "op.go:14", after := #[{ on := 9, ground := Ground.data }, { on := 2, ground := Ground.data }, { on := 8, ground := Ground.chain }, { on := 0, ground := Ground.phase }, { on := 1, ground := Ground.phase }, { on := 2, ground := Ground.phase }, { on := 3, ground := Ground.phase }, { on := 4, ground := Ground.phase }, { on := 5, ground := Ground.textOnly Departure.lateStoresUnsure }, { on := 6, ground := Ground.phase }, { on := 7, ground := Ground.phase }, { on := 8, ground := Ground.textOnly Departure.lateStoresUnsure }], guard := none } : Oper)) (by kernel_rfl) rfl (by rfl) (fun K hK => ?_)
      go_simp
      refine hK.out _ _ ?_
      clear hK K
      try simp only [Act.put, List.setIfInBounds_toArray, List.set_cons_zero, List.set_cons_succ]
      have HU1 := hide (HT10.out.setF3 (.slice (some ⟨g2, 0, none⟩) llm llm))
      clear t100 t101 t102 t103 t104 t105 t106 f101 f102 f103 f104 f105
      obtain ⟨p0, p1, p2, p3, p4, p5, p6⟩ := HU1.out.cells
      have pf4 := HU1.out.frozen 4
      refine wpAnyL_late (i := 11) (o := ({ dst := some 24, op := Op.fieldAddr 24 (Operand.tmp 3) 4, type := 0, pos := "op.go:14", after := #[{ on := 0, ground := Ground.phase }, { on := 1, ground := Ground.phase }, { on := 2, ground := Ground.phase }, { on := 3, ground := Ground.phase }, { on := 4, ground := Ground.phase }, { on := 5, ground := Ground.phase }, { on := 6, ground := Ground.phase }, { on := 7, ground := Ground.phase }, { on := 8, ground := Ground.textOnly Departure.lateStoresUnsure }, { on := 9, ground := Ground.phase }, { on := 10, ground := Ground.phase }], guard := none } : Oper)) (by kernel_rfl) rfl (by rfl) (fun K hK => ?_)
      go_simp
      refine hK.out _ _ ?_
      clear hK K
      try simp only [Act.put, List.setIfInBounds_toArray, List.set_cons_zero, List.set_cons_succ]
      refine wpAnyL_late (i := 12) (o := ({ dst := none, op := Op.store 22 (Operand.tmp 24) (Operand.tmp 19), type := 0, pos := "op.go:14", after := #[{ on := 11, ground := Ground.data }, { on := 5, ground := Ground.data }, { on := 10, ground := Ground.chain }, { on := 0, ground := Ground.phase }, { on := 1, ground := Ground.phase }, { on := 2, ground := Ground.phase }, { on := 3, ground := Ground.phase }, { on := 4, ground := Ground.phase }, { on := 5, ground := Ground.phase }, { on := 6, ground := Ground.phase }, { on := 7, ground := Ground.phase }, { on := 8, ground := Ground.textOnly Departure.lateStoresUnsure }, { on := 9, ground := Ground.phase }, { on := 10, ground := Ground.phase }], guard := none } : Oper)) (by kernel_rfl) rfl (by rfl) (fun K hK => ?_)
      go_simp
      refine hK.out _ _ ?_
      clear hK K
      try simp only [Act.put, List.setIfInBounds_toArray, List.set_cons_zero, List.set_cons_succ]
      have HU2 := hide (HU1.out.setF4 (.slice (some ⟨g3, 0, none⟩) hlm hlm))
      clear p0 p1 p2 p3 p4 p5 p6 pf4
      obtain ⟨r0, r1, r2, r3, r4, r5, r6⟩ := HU2.out.cells
      have rf5 := HU2.out.frozen 5
      refine wpAnyL_late (i := 13) (o := ({ dst := some 25, op := Op.fieldAddr 24 (Operand.tmp 3) 5, type := 0, pos := "op.go:14", after := #[{ on := 0, ground := Ground.phase }, { on := 1, ground := Ground.phase }, { on := 2, ground := Ground.phase }, { on := 3, ground := Ground.phase }, { on := 4, ground := Ground.phase }, { on := 5, ground := Ground.phase }, { on := 6, ground := Ground.phase }, { on := 7, ground := Ground.phase }, { on := 8, ground := Ground.phase }, { on := 9, ground := Ground.phase }, { on := 10, ground := Ground.phase }, { on := 11, ground := Ground.phase }, { on := 12, ground := Ground.phase }], guard := none } : Oper)) (by kernel_rfl) rfl (by rfl) (fun K hK => ?_)
      go_simp
      refine hK.out _ _ ?_
      clear hK K
      try simp only [Act.put, List.setIfInBounds_toArray, List.set_cons_zero, List.set_cons_succ]
      refine wpAnyL_late (i := 14) (o := ({ dst := none, op := Op.store 22 (Operand.tmp 25) (Operand.tmp 22), type := 0, pos := "op.go:14", after := #[{ on := 13, ground := Ground.data }, { on := 8, ground := Ground.data }, { on := 12, ground := Ground.chain }, { on := 0, ground := Ground.phase }, { on := 1, ground := Ground.phase }, { on := 2, ground := Ground.phase }, { on := 3, ground := Ground.phase }, { on := 4, ground := Ground.phase }, { on := 5, ground := Ground.phase }, { on := 6, ground := Ground.phase }, { on := 7, ground := Ground.phase }, { on := 8, ground := Ground.phase }, { on := 9, ground := Ground.phase }, { on := 10, ground := Ground.phase }, { on := 11, ground := Ground.phase }, { on := 12, ground := Ground.phase }], guard := none } : Oper)) (by kernel_rfl) rfl (by rfl) (fun K hK => ?_)
      go_simp
      refine hK.out _ _ ?_
      clear hK K
      try simp only [Act.put, List.setIfInBounds_toArray, List.set_cons_zero, List.set_cons_succ]
      refine wpAnyL_done (by kernel_rfl) ?_ _
      all_goals go_wp2
      all_goals go_meet
      all_goals exact ⟨g2, g3, g4, ((HT10.out.setF3 _).setF4 _).setF5 _, ⟨((((((HR0.out.below ((Below.refl _ _).drew)).below HX8.out).below HX9.out).below HX10.out).set (p := ⟨w1.heap.size, 3, none⟩) (by simp; omega) _).set (p := ⟨w1.heap.size, 4, none⟩) (by simp; omega) _).set (p := ⟨w1.heap.size, 5, none⟩) (by simp; omega) _, ((((((HR1.out.below ((Below.refl _ _).drew)).below HX8.out).below HX9.out).below HX10.out).set (p := ⟨w1.heap.size, 3, none⟩) (by simp; omega) _).set (p := ⟨w1.heap.size, 4, none⟩) (by simp; omega) _).set (p := ⟨w1.heap.size, 5, none⟩) (by simp; omega) _, ((((HR8.out.below HX9.out).below HX10.out).set (p := ⟨w1.heap.size, 3, none⟩) (by simp; omega) _).set (p := ⟨w1.heap.size, 4, none⟩) (by simp; omega) _).set (p := ⟨w1.heap.size, 5, none⟩) (by simp; omega) _, (((HR9.out.below HX10.out).set (p := ⟨w1.heap.size, 3, none⟩) (by simp; omega) _).set (p := ⟨w1.heap.size, 4, none⟩) (by simp; omega) _).set (p := ⟨w1.heap.size, 5, none⟩) (by simp; omega) _, ((HR10.out.set (p := ⟨w1.heap.size, 3, none⟩) (by simp; omega) _).set (p := ⟨w1.heap.size, 4, none⟩) (by simp; omega) _).set (p := ⟨w1.heap.size, 5, none⟩) (by simp; omega) _⟩, ⟨by omega, by omega, by omega⟩, ((HZ10.out.set (p := ⟨w1.heap.size, 3, none⟩) (by simp; omega) _).set (p := ⟨w1.heap.size, 4, none⟩) (by simp; omega) _).set (p := ⟨w1.heap.size, 5, none⟩) (by simp; omega) _, ((HB10.out.setCell (p := ⟨w1.heap.size, 3, none⟩) (by simp; omega) _).setCell (p := ⟨w1.heap.size, 4, none⟩) (by simp; omega) _).setCell (p := ⟨w1.heap.size, 5, none⟩) (by simp; omega) _⟩
    case rest =>
      obtain ⟨g2, g3, g4, hT, ⟨hr0, hr1, hr2, hr3, hr4⟩, ⟨hg2, hg3, hg4⟩, hZ, hB⟩ := hcut
      have HBE := hide hB
      have HZE := hide hZ
      have HS0 := hide hr0
      have HS1 := hide hr1
      have HS2 := hide hr2
      have HS3 := hide hr3
      have HS4 := hide hr4
      clear t70 t71 t72 t73 t74 t75 t76
      obtain ⟨t0, t1, t2, t3, t4, t5, t6⟩ := hT.cells
      have fz0 := hZ.frozen 0
      have fz1 := hZ.frozen 1
      have fz2 := hZ.frozen 2
      have fz3 := hZ.frozen 3
      have fz4 := hZ.frozen 4
      have fz5 := hZ.frozen 5
      have fz6 := hZ.frozen 6
      obtain ⟨zc0, zc1, zc2, zc3, zc4, zc5, zc6⟩ := hZ.cells
      clear hT hr0 hr1 hr2 hr3 hr4 hZ hB
      go_wp2
      obtain ⟨u0, u1, u2, u3, u4, u5, u6⟩ := (HZE.out.put k (.slice (some ⟨g0, 0, none⟩) elm elm) (.slice (some ⟨g1, 0, none⟩) plm plm) (.slice (some ⟨g2, 0, none⟩) llm llm) (.slice (some ⟨g3, 0, none⟩) hlm hlm) (.slice (some ⟨g4, 0, none⟩) tlm tlm) (mX k x)).cells
      refine bodyPost_ret (v := .agg #[.int .i64 k, .slice (some ⟨g0, 0, none⟩) elm elm, .slice (some ⟨g1, 0, none⟩) plm plm, .slice (some ⟨g2, 0, none⟩) llm llm, .slice (some ⟨g3, 0, none⟩) hlm hlm, .slice (some ⟨g4, 0, none⟩) tlm tlm, .int .i64 (mX k x)]) ?zres rfl ⟨⟨some ⟨g0, 0, none⟩, elm, elm, some ⟨g1, 0, none⟩, plm, plm, some ⟨g2, 0, none⟩, llm, llm, some ⟨g3, 0, none⟩, hlm, hlm, some ⟨g4, 0, none⟩, tlm, tlm, rfl, ?zi0, ?zi1, ?zi2, ?zi3, ?zi4⟩, ?zbel⟩
      case zres => simp [results, Try.results15, go_sem, u0, u1, u2, u3, u4, u5, u6]
      case zi0 => exact ints_of_rowI (((((((HS0.out.set (p := ⟨w.heap.size + 1, 0, none⟩) (by simp; omega) _).set (p := ⟨w.heap.size + 1, 1, none⟩) (by simp; omega) _).set (p := ⟨w.heap.size + 1, 2, none⟩) (by simp; omega) _).set (p := ⟨w.heap.size + 1, 3, none⟩) (by simp; omega) _).set (p := ⟨w.heap.size + 1, 4, none⟩) (by simp; omega) _).set (p := ⟨w.heap.size + 1, 5, none⟩) (by simp; omega) _).set (p := ⟨w.heap.size + 1, 6, none⟩) (by simp; omega) _) J01.out.1 J01.out.2.1 J01.out.2.2.1
      case zi1 => exact ints_of_rowI (((((((HS1.out.set (p := ⟨w.heap.size + 1, 0, none⟩) (by simp; omega) _).set (p := ⟨w.heap.size + 1, 1, none⟩) (by simp; omega) _).set (p := ⟨w.heap.size + 1, 2, none⟩) (by simp; omega) _).set (p := ⟨w.heap.size + 1, 3, none⟩) (by simp; omega) _).set (p := ⟨w.heap.size + 1, 4, none⟩) (by simp; omega) _).set (p := ⟨w.heap.size + 1, 5, none⟩) (by simp; omega) _).set (p := ⟨w.heap.size + 1, 6, none⟩) (by simp; omega) _) J02.out.1 J02.out.2.1 J02.out.2.2.1
      case zi2 => exact ints_of_rowI (((((((HS2.out.set (p := ⟨w.heap.size + 1, 0, none⟩) (by simp; omega) _).set (p := ⟨w.heap.size + 1, 1, none⟩) (by simp; omega) _).set (p := ⟨w.heap.size + 1, 2, none⟩) (by simp; omega) _).set (p := ⟨w.heap.size + 1, 3, none⟩) (by simp; omega) _).set (p := ⟨w.heap.size + 1, 4, none⟩) (by simp; omega) _).set (p := ⟨w.heap.size + 1, 5, none⟩) (by simp; omega) _).set (p := ⟨w.heap.size + 1, 6, none⟩) (by simp; omega) _) J03.out.1 J03.out.2.1 J03.out.2.2.1
      case zi3 => exact ints_of_rowI (((((((HS3.out.set (p := ⟨w.heap.size + 1, 0, none⟩) (by simp; omega) _).set (p := ⟨w.heap.size + 1, 1, none⟩) (by simp; omega) _).set (p := ⟨w.heap.size + 1, 2, none⟩) (by simp; omega) _).set (p := ⟨w.heap.size + 1, 3, none⟩) (by simp; omega) _).set (p := ⟨w.heap.size + 1, 4, none⟩) (by simp; omega) _).set (p := ⟨w.heap.size + 1, 5, none⟩) (by simp; omega) _).set (p := ⟨w.heap.size + 1, 6, none⟩) (by simp; omega) _) J04.out.1 J04.out.2.1 J04.out.2.2.1
      case zi4 => exact ints_of_rowI (((((((HS4.out.set (p := ⟨w.heap.size + 1, 0, none⟩) (by simp; omega) _).set (p := ⟨w.heap.size + 1, 1, none⟩) (by simp; omega) _).set (p := ⟨w.heap.size + 1, 2, none⟩) (by simp; omega) _).set (p := ⟨w.heap.size + 1, 3, none⟩) (by simp; omega) _).set (p := ⟨w.heap.size + 1, 4, none⟩) (by simp; omega) _).set (p := ⟨w.heap.size + 1, 5, none⟩) (by simp; omega) _).set (p := ⟨w.heap.size + 1, 6, none⟩) (by simp; omega) _) J05.out.1 J05.out.2.1 J05.out.2.2.1
      case zbel => exact below_seven HBE.out (by omega) _ _ _ _ _ _ _
end Go.Proofs.Ytcidhbkdaleomaa.V
