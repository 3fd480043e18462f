/-
  ArrayPlain: the walk of the law.
-/
import Derived.Test.YtcidhbkdaleomaaK35
import Derived.Test.YtcidhbkdaleomaaK40
namespace Go.Proofs.Ytcidhbkdaleomaa.V
set_option maxRecDepth 20000
open Go.RowKit

theorem opEq_same (k x : Int) (a b c d e : List Int) : opEq k k x x a a b b c c d d e e = true := by simp [opEq]

set_option maxRecDepth 100000 in
set_option maxHeartbeats 4000000 in
theorem arrayPlain_walk (k k' x x' : Int) (ea : Option Addr) (el ec : Nat) (es : List Int) (pa : Option Addr) (pl pc : Nat) (ps : List Int) (la : Option Addr) (ll lc : Nat) (lo : List Int) (ha : Option Addr) (hl hc : Nat) (hi : List Int) (ta : Option Addr) (tl tc : Nat) (st : List Int) (ea' : Option Addr) (el' ec' : Nat) (es' : List Int) (pa' : Option Addr) (pl' pc' : Nat) (ps' : List Int) (la' : Option Addr) (ll' lc' : Nat) (lo' : List Int) (ha' : Option Addr) (hl' hc' : Nat) (hi' : List Int) (ta' : Option Addr) (tl' tc' : Nat) (st' : List Int) (A : Option Addr) (len cap : Nat) (xss : List (List Int)) (w : World)
    (he : Lst w ea el ec es) (hp : Lst w pa pl pc ps) (hlo : Lst w la ll lc lo) (hhi : Lst w ha hl hc hi) (hst : Lst w ta tl tc st) (he' : Lst w ea' el' ec' es') (hp' : Lst w pa' pl' pc' ps') (hlo' : Lst w la' ll' lc' lo') (hhi' : Lst w ha' hl' hc' hi') (hst' : Lst w ta' tl' tc' st') (h : Lsts w A len xss) (hcap : len ≤ cap) (hlen : len ≤ 1048576) (b0 : el ≤ 1048576) (b1 : pl ≤ 1048576) (b2 : ll ≤ 1048576) (b3 : hl ≤ 1048576) (b4 : tl ≤ 1048576) :
    Calls Try.prog 4 #[.agg #[.int .i64 k, .slice ea el ec, .slice pa pl pc, .slice la ll lc, .slice ha hl hc, .slice ta tl tc, .int .i64 x], .agg #[.int .i64 k', .slice ea' el' ec', .slice pa' pl' pc', .slice la' ll' lc', .slice ha' hl' hc', .slice ta' tl' tc', .int .i64 x'], .slice A len cap] w fun e w' => e = .returned (.bool true) ∧ Below w.heap.size w w' := by
  have HHE := hide he
  have HHP := hide hp
  have HHLO := hide hlo
  have HHHI := hide hhi
  have HHST := hide hst
  have HHEP := hide he'
  have HHPP := hide hp'
  have HHLOP := hide hlo'
  have HHHIP := hide hhi'
  have HHSTP := hide hst'
  have H := hide h
  have HB1 := hide ((Below.refl w.heap.size w).alloc (Nat.le_refl _) (.cells #[.int .i64 k, .slice ea el ec, .slice pa pl pc, .slice la ll lc, .slice ha hl hc, .slice ta tl tc, .int .i64 x] 24))
  have HB2 := hide (HB1.out.alloc HB1.out.size (.cells #[.int .i64 k', .slice ea' el' ec', .slice pa' pl' pc', .slice la' ll' lc', .slice ha' hl' hc', .slice ta' tl' tc', .int .i64 x'] 24))
  have HA0 := hide ((OpAt.new w k (.slice ea el ec) (.slice pa pl pc) (.slice la ll lc) (.slice ha hl hc) (.slice ta tl tc) x).alloc (.cells #[.int .i64 k', .slice ea' el' ec', .slice pa' pl' pc', .slice la' ll' lc', .slice ha' hl' hc', .slice ta' tl' tc', .int .i64 x'] 24))
  have hq := OpAt.new (w.alloc (.cells #[.int .i64 k, .slice ea el ec, .slice pa pl pc, .slice la ll lc, .slice ha hl hc, .slice ta tl tc, .int .i64 x] 24)) k' (.slice ea' el' ec') (.slice pa' pl' pc') (.slice la' ll' lc') (.slice ha' hl' hc') (.slice ta' tl' tc') x'
  simp only [World.size_alloc] at hq
  have HQ0 := hide hq
  obtain ⟨o0, o1, o2, o3, o4, o5, o6⟩ := HA0.out.cells
  obtain ⟨⟨V, E⟩, hVE⟩ : ∃ r, r = weightP k es ps lo hi st xss := ⟨_, rfl⟩
  have HW1 := hide (Weight_any k x ea el ec es pa pl pc ps la ll lc lo ha hl hc hi ta tl tc st A len cap xss _ (HHE.out.below HB2.out) (HHP.out.below HB2.out) (HHLO.out.below HB2.out) (HHHI.out.below HB2.out) (HHST.out.below HB2.out) (H.out.below HB2.out) hcap hlen b0 b1 b2 b3 b4)
  have HW2 : Hid (∀ W, Below w.heap.size w W → Calls Try.prog 13 #[.agg #[.int .i64 k, .slice ea el ec, .slice pa pl pc, .slice la ll lc, .slice ha hl hc, .slice ta tl tc, .int .i64 x], .slice A len cap] W fun e w' => e = .returned (.tuple #[.int .i64 (weightP k es ps lo hi st xss).1, .int .i64 (weightP k es ps lo hi st xss).2]) ∧ Below W.heap.size W w') := fun W hW => rWeight_any k x ea el ec es pa pl pc ps la ll lc lo ha hl hc hi ta tl tc st A len cap xss _ (HHE.out.below hW) (HHP.out.below hW) (HHLO.out.below hW) (HHHI.out.below hW) (HHST.out.below hW) (H.out.below hW) hcap hlen b0 b1 b2 b3 b4
  rw [← hVE] at HW1 HW2
  clear h he hp hlo hhi hst he' hp' hlo' hhi' hst' hq hVE
  go_enter Try.func4, Try.ntmps4
  go_wp2_with (first
    | (go_at_call 12; refine HW1.out.mono ?_; rintro e w1 ⟨rfl, hb⟩; have HB3 := hide (Below.on HB2.out hb); have HA1 := hide (HA0.out.below hb); have HQ1 := hide (HQ0.out.below hb); clear o0 o1 o2 o3 o4 o5 o6 hb; obtain ⟨o0, o1, o2, o3, o4, o5, o6⟩ := HA1.out.cells)
    | (go_at_call 13; refine (HW2.out _ HB3.out).mono ?_; rintro e w2 ⟨rfl, hb⟩; have HB4 := hide (Below.on HB3.out hb); have HA2 := hide (HA1.out.below hb); have HQ2 := hide (HQ1.out.below hb); clear o0 o1 o2 o3 o4 o5 o6 hb))
  obtain ⟨eam, elm, ecm, pam, plm, pcm, lam, llm, lcm, ham, hlm, hcm, tam, tlm, tcm, hmv, ⟨i01, _⟩, ⟨i02, _⟩, ⟨i03, _⟩, ⟨i04, _⟩, ⟨i05, _⟩⟩ := meant_split k x ea el ec es pa pl pc ps la ll lc lo ha hl hc hi ta tl tc st w2 (HHE.out.below HB4.out).1 (HHP.out.below HB4.out).1 (HHLO.out.below HB4.out).1 (HHHI.out.below HB4.out).1 (HHST.out.below HB4.out).1
  have HMV := hide hmv
  have JM0 := hide i01
  have JM1 := hide i02
  have JM2 := hide i03
  have JM3 := hide i04
  have JM4 := hide i05
  clear hmv i01 i02 i03 i04 i05
  refine wp_region_held_drew (S := (fun w' => OpAt w' w.heap.size k (.slice ea el ec) (.slice pa pl pc) (.slice la ll lc) (.slice ha hl hc) (.slice ta tl tc) x ∧ OpAt w' (w.heap.size + 1) k' (.slice ea' el' ec') (.slice pa' pl' pc') (.slice la' ll' lc') (.slice ha' hl' hc') (.slice ta' tl' tc') x')) (by kernel_rfl) ⟨HA2.out.below ((Below.refl _ _).drew), HQ2.out.below ((Below.refl _ _).drew)⟩ (fun hHeld => ?_)
  show wpAnyH _ _ _ _ _ _ _ _ _
  refine' wpAnyH_take (i := 0) (oi := ({ dst := some 23, op := Op.move (Operand.tmp 7), type := 3, pos := "law.go:34", after := #[], guard := none } : Oper)) (v := _) rfl (by kernel_rfl) (by kernel_rfl) (by kernel_rfl) (fun _ _ _ h => h) (Or.inl ⟨by kernel_rfl, ?zy0⟩) (by assumption) ?_
  case zy0 => (intro wz hSw; clear hSw; go_simp; try with_reducible rfl)
  simp only [Act.put, List.setIfInBounds_toArray, List.set_cons_zero, List.set_cons_succ]
  refine' wpAnyH_take (i := 1) (oi := ({ dst := some 24, op := Op.move (Operand.tmp 9), type := 3, pos := "law.go:34", after := #[], guard := none } : Oper)) (v := _) rfl (by kernel_rfl) (by kernel_rfl) (by kernel_rfl) (fun _ _ _ h => h) (Or.inl ⟨by kernel_rfl, ?zy1⟩) (by assumption) ?_
  case zy1 => (intro wz hSw; clear hSw; go_simp; try with_reducible rfl)
  simp only [Act.put, List.setIfInBounds_toArray, List.set_cons_zero, List.set_cons_succ]
  refine' wpAnyH_take (i := 2) (oi := ({ dst := some 25, op := Op.binOp BinOp.eql 3 (Operand.tmp 23) (Operand.tmp 24) 3, type := 4, pos := "law.go:34", after := #[{ on := 0, ground := Ground.data }, { on := 1, ground := Ground.data }], guard := none } : Oper)) (v := _) rfl (by kernel_rfl) (by kernel_rfl) (by kernel_rfl) (fun _ _ _ h => h) (Or.inl ⟨by kernel_rfl, ?zy2⟩) (by assumption) ?_
  case zy2 => (intro wz hSw; clear hSw; go_simp; try with_reducible rfl)
  simp only [Act.put, List.setIfInBounds_toArray, List.set_cons_zero, List.set_cons_succ]
  refine' wpAnyH_take (i := 3) (oi := ({ dst := some 26, op := Op.move (Operand.tmp 25), type := 4, pos := "law.go:34", after := #[{ on := 2, ground := Ground.data }], guard := none } : Oper)) (v := _) rfl (by kernel_rfl) (by kernel_rfl) (by kernel_rfl) (fun _ _ _ h => h) (Or.inl ⟨by kernel_rfl, ?zy3⟩) (by assumption) ?_
  case zy3 => (intro wz hSw; clear hSw; go_simp; try with_reducible rfl)
  simp only [Act.put, List.setIfInBounds_toArray, List.set_cons_zero, List.set_cons_succ]
  refine' wpAnyH_take (i := 4) (oi := ({ dst := some 27, op := Op.move (Operand.tmp 8), type := 29, pos := "law.go:34", after := #[{ on := 3, ground := Ground.guard }], guard := some (3, true) } : Oper)) (v := _) rfl (by kernel_rfl) (by kernel_rfl) (by kernel_rfl) (fun _ _ _ h => h) (Or.inl ⟨by kernel_rfl, ?zy4⟩) (by assumption) ?_
  case zy4 => (intro wz hSw; clear hSw; go_simp; try with_reducible rfl)
  simp only [Act.put, List.setIfInBounds_toArray, List.set_cons_zero, List.set_cons_succ]
  refine' wpAnyH_take (i := 5) (oi := ({ dst := some 28, op := Op.move (Operand.tmp 10), type := 29, pos := "law.go:34", after := #[{ on := 3, ground := Ground.guard }], guard := some (3, true) } : Oper)) (v := _) rfl (by kernel_rfl) (by kernel_rfl) (by kernel_rfl) (fun _ _ _ h => h) (Or.inl ⟨by kernel_rfl, ?zy5⟩) (by assumption) ?_
  case zy5 => (intro wz hSw; clear hSw; go_simp; try with_reducible rfl)
  simp only [Act.put, List.setIfInBounds_toArray, List.set_cons_zero, List.set_cons_succ]
  refine' wpAnyH_take (i := 6) (oi := ({ dst := some 29, op := Op.binOp BinOp.eql 29 (Operand.tmp 27) (Operand.tmp 28) 29, type := 4, pos := "law.go:34", after := #[{ on := 4, ground := Ground.data }, { on := 5, ground := Ground.data }, { on := 3, ground := Ground.guard }], guard := some (3, true) } : Oper)) (v := _) rfl (by kernel_rfl) (by kernel_rfl) (by kernel_rfl) (fun _ _ _ h => h) (Or.inl ⟨by kernel_rfl, ?zy6⟩) (by assumption) ?_
  case zy6 => (intro wz hSw; clear hSw; go_simp; try with_reducible rfl)
  simp only [Act.put, List.setIfInBounds_toArray, List.set_cons_zero, List.set_cons_succ]
  refine' wpAnyH_take (i := 7) (oi := ({ dst := some 30, op := Op.pick (Operand.tmp 26) (Operand.tmp 29) (Operand.const (Value.bool false)), type := 4, pos := "law.go:34", after := #[{ on := 3, ground := Ground.data }, { on := 6, ground := Ground.data }], guard := none } : Oper)) (v := _) rfl (by kernel_rfl) (by kernel_rfl) (by kernel_rfl) (fun _ _ _ h => h) (Or.inl ⟨by kernel_rfl, ?zy7⟩) (by assumption) ?_
  case zy7 => (intro wz hSw; clear hSw; go_simp; try with_reducible rfl)
  simp only [Act.put, List.setIfInBounds_toArray, List.set_cons_zero, List.set_cons_succ]
  refine' wpAnyH_take (i := 8) (oi := ({ dst := some 31, op := Op.move (Operand.tmp 30), type := 4, pos := "law.go:34", after := #[{ on := 7, ground := Ground.data }, { on := 3, ground := Ground.chain }], guard := none } : Oper)) (v := _) rfl (by kernel_rfl) (by kernel_rfl) (by kernel_rfl) (fun _ _ _ h => h) (Or.inl ⟨by kernel_rfl, ?zy8⟩) (by assumption) ?_
  case zy8 => (intro wz hSw; clear hSw; go_simp; try with_reducible rfl)
  simp only [Act.put, List.setIfInBounds_toArray, List.set_cons_zero, List.set_cons_succ]
  refine' wpAnyH_take (i := 9) (oi := ({ dst := some 32, op := Op.load 24 (Operand.tmp 3), type := 24, pos := "law.go:34", after := #[{ on := 8, ground := Ground.guard }], guard := some (8, true) } : Oper)) (v := _) rfl (by kernel_rfl) (by kernel_rfl) (by kernel_rfl) (fun _ _ _ h => h) (Or.inl ⟨by kernel_rfl, ?zy9⟩) (by assumption) ?_
  case zy9 => (intro wz hSw; obtain ⟨y0, y1, y2, y3, y4, y5, y6⟩ := hSw.1.cells; obtain ⟨z0, z1, z2, z3, z4, z5, z6⟩ := hSw.2.cells; clear hSw; go_simp; try with_reducible rfl)
  simp only [Act.put, List.setIfInBounds_toArray, List.set_cons_zero, List.set_cons_succ]
  refine' wpAnyH_take (i := 11) (oi := ({ dst := some 34, op := Op.load 24 (Operand.tmp 3), type := 24, pos := "law.go:34", after := #[{ on := 8, ground := Ground.guard }], guard := some (8, true) } : Oper)) (v := _) rfl (by kernel_rfl) (by kernel_rfl) (by kernel_rfl) (fun _ _ _ h => h) (Or.inl ⟨by kernel_rfl, ?zy11⟩) (by assumption) ?_
  case zy11 => (intro wz hSw; obtain ⟨y0, y1, y2, y3, y4, y5, y6⟩ := hSw.1.cells; obtain ⟨z0, z1, z2, z3, z4, z5, z6⟩ := hSw.2.cells; clear hSw; go_simp; try with_reducible rfl)
  simp only [Act.put, List.setIfInBounds_toArray, List.set_cons_zero, List.set_cons_succ]
  refine wpAnyH_ready (rs := [10]) (by kernel_rfl) (by simp) ?_
  refine AllReadyH.cons (o := ({ dst := some 33, op := Op.call { callee := Callee.value (Operand.func 15), args := #[Operand.tmp 32], argTypes := #[24] }, type := 24, pos := "law.go:34", after := #[{ on := 9, ground := Ground.data }, { on := 8, ground := Ground.chain }, { on := 8, ground := Ground.guard }], guard := some (8, true) } : Oper)) rfl (fun K hK => ?_) AllReadyH.nil
  go_simp
  refine (plain_op_any k x ea el ec es pa pl pc ps la ll lc lo ha hl hc hi ta tl tc st _ (HHE.out.below HB4.out.drew).1 (HHP.out.below HB4.out.drew).1 (HHLO.out.below HB4.out.drew).1 (HHHI.out.below HB4.out.drew).1 (HHST.out.below HB4.out.drew).1 b0 b1 b2 b3 b4).mono ?_
  rintro e w3 ⟨⟨ea2, el2, ec2, pa2, pl2, pc2, la2, ll2, lc2, ha2, hl2, hc2, ta2, tl2, tc2, rfl, j1, j2, j3, j4, j5⟩, hb⟩
  have JP0 := hide j1
  have JP1 := hide j2
  have JP2 := hide j3
  have JP3 := hide j4
  have JP4 := hide j5
  clear j1 j2 j3 j4 j5
  have HX3 := hide (Below.on ((Below.refl w2.heap.size w2).drew) hb)
  have HB5 := hide (Below.on HB4.out HX3.out)
  have HA3 := hide (HA2.out.below HX3.out)
  have HQ3 := hide (HQ2.out.below HX3.out)
  clear hb
  try simp only []
  refine hK.out _ _ ⟨HA3.out, HQ3.out⟩ (fun hHeld3 => ?_)
  clear hK K
  try simp only [Act.put, List.setIfInBounds_toArray, List.set_cons_zero, List.set_cons_succ]
  refine wpAnyH_ready (rs := [12]) (by kernel_rfl) (by simp) ?_
  refine AllReadyH.cons (o := ({ dst := some 35, op := Op.call { callee := Callee.value (Operand.func 16), args := #[Operand.tmp 34], argTypes := #[24] }, type := 24, pos := "law.go:34", after := #[{ on := 11, ground := Ground.data }, { on := 10, ground := Ground.chain }, { on := 8, ground := Ground.guard }], guard := some (8, true) } : Oper)) rfl (fun K hK => ?_) AllReadyH.nil
  go_simp
  refine (rplain_any k ea el ec pa pl pc la ll lc ha hl hc ta tl tc x _).mono ?_
  rintro e w4 ⟨rfl, hb⟩
  rw [HMV.out]
  have HX4 := hide (hb)
  have HB6 := hide (Below.on HB5.out HX4.out)
  have HA4 := hide (HA3.out.below HX4.out)
  have HQ4 := hide (HQ3.out.below HX4.out)
  clear hb
  try simp only []
  refine hK.out _ _ ⟨HA4.out, HQ4.out⟩ (fun hHeld4 => ?_)
  clear hK K
  try simp only [Act.put, List.setIfInBounds_toArray, List.set_cons_zero, List.set_cons_succ]
  refine wpAnyH_ready (rs := [13]) (by kernel_rfl) (by simp) ?_
  refine AllReadyH.cons (o := ({ dst := some 36, op := Op.call { callee := Callee.value (Operand.func 14), args := #[Operand.tmp 33, Operand.tmp 35], argTypes := #[24, 24] }, type := 4, pos := "law.go:34", after := #[{ on := 10, ground := Ground.data }, { on := 12, ground := Ground.data }, { on := 12, ground := Ground.chain }, { on := 8, ground := Ground.guard }], guard := some (8, true) } : Oper)) rfl (fun K hK => ?_) AllReadyH.nil
  go_simp
  refine (requal_any k k (mX k x) (mX k x) ea2 el2 ec2 (mD k es) pa2 pl2 pc2 (mA k ps) la2 ll2 lc2 (mL k lo) ha2 hl2 hc2 (mL k hi) ta2 tl2 tc2 (mL k st) eam elm ecm (mD k es) pam plm pcm (mA k ps) lam llm lcm (mL k lo) ham hlm hcm (mL k hi) tam tlm tcm (mL k st) _ (JP0.out.below HX4.out) (JP1.out.below HX4.out) (JP2.out.below HX4.out) (JP3.out.below HX4.out) (JP4.out.below HX4.out) ((JM0.out.below HX3.out).below HX4.out) ((JM1.out.below HX3.out).below HX4.out) ((JM2.out.below HX3.out).below HX4.out) ((JM3.out.below HX3.out).below HX4.out) ((JM4.out.below HX3.out).below HX4.out)).mono ?_
  rintro e w5 ⟨rfl, hb⟩
  rw [opEq_same]
  have HX5 := hide (hb)
  have HB7 := hide (Below.on HB6.out HX5.out)
  have HA5 := hide (HA4.out.below HX5.out)
  have HQ5 := hide (HQ4.out.below HX5.out)
  clear hb
  try simp only []
  refine hK.out _ _ ⟨HA5.out, HQ5.out⟩ (fun hHeld5 => ?_)
  clear hK K
  try simp only [Act.put, List.setIfInBounds_toArray, List.set_cons_zero, List.set_cons_succ]
  refine' wpAnyH_take (i := 14) (oi := ({ dst := some 37, op := Op.pick (Operand.tmp 31) (Operand.tmp 36) (Operand.const (Value.bool false)), type := 4, pos := "law.go:34", after := #[{ on := 8, ground := Ground.data }, { on := 13, ground := Ground.data }], guard := none } : Oper)) (v := _) rfl (by kernel_rfl) (by kernel_rfl) (by kernel_rfl) (fun _ _ _ h => h) (Or.inl ⟨by kernel_rfl, ?zy14⟩) (by assumption) ?_
  case zy14 => (intro wz hSw; clear hSw; go_simp; try with_reducible rfl)
  simp only [Act.put, List.setIfInBounds_toArray, List.set_cons_zero, List.set_cons_succ]
  refine' wpAnyH_take (i := 15) (oi := ({ dst := some 38, op := Op.move (Operand.tmp 37), type := 4, pos := "law.go:34", after := #[{ on := 14, ground := Ground.data }, { on := 13, ground := Ground.chain }], guard := none } : Oper)) (v := _) rfl (by kernel_rfl) (by kernel_rfl) (by kernel_rfl) (fun _ _ _ h => h) (Or.inl ⟨by kernel_rfl, ?zy15⟩) (by assumption) ?_
  case zy15 => (intro wz hSw; clear hSw; go_simp; try with_reducible rfl)
  simp only [Act.put, List.setIfInBounds_toArray, List.set_cons_zero, List.set_cons_succ]
  refine' wpAnyH_take (i := 16) (oi := ({ dst := some 39, op := Op.load 24 (Operand.tmp 3), type := 24, pos := "law.go:34", after := #[{ on := 15, ground := Ground.guard }], guard := some (15, true) } : Oper)) (v := _) rfl (by kernel_rfl) (by kernel_rfl) (by kernel_rfl) (fun _ _ _ h => h) (Or.inl ⟨by kernel_rfl, ?zy16⟩) (by assumption) ?_
  case zy16 => (intro wz hSw; obtain ⟨y0, y1, y2, y3, y4, y5, y6⟩ := hSw.1.cells; obtain ⟨z0, z1, z2, z3, z4, z5, z6⟩ := hSw.2.cells; clear hSw; go_simp; try with_reducible rfl)
  simp only [Act.put, List.setIfInBounds_toArray, List.set_cons_zero, List.set_cons_succ]
  refine' wpAnyH_take (i := 17) (oi := ({ dst := some 40, op := Op.load 24 (Operand.tmp 4), type := 24, pos := "law.go:34", after := #[{ on := 15, ground := Ground.guard }], guard := some (15, true) } : Oper)) (v := _) rfl (by kernel_rfl) (by kernel_rfl) (by kernel_rfl) (fun _ _ _ h => h) (Or.inl ⟨by kernel_rfl, ?zy17⟩) (by assumption) ?_
  case zy17 => (intro wz hSw; obtain ⟨y0, y1, y2, y3, y4, y5, y6⟩ := hSw.1.cells; obtain ⟨z0, z1, z2, z3, z4, z5, z6⟩ := hSw.2.cells; clear hSw; go_simp; try with_reducible rfl)
  simp only [Act.put, List.setIfInBounds_toArray, List.set_cons_zero, List.set_cons_succ]
  refine' wpAnyH_take (i := 19) (oi := ({ dst := some 42, op := Op.load 24 (Operand.tmp 3), type := 24, pos := "law.go:34", after := #[{ on := 15, ground := Ground.guard }], guard := some (15, true) } : Oper)) (v := _) rfl (by kernel_rfl) (by kernel_rfl) (by kernel_rfl) (fun _ _ _ h => h) (Or.inl ⟨by kernel_rfl, ?zy19⟩) (by assumption) ?_
  case zy19 => (intro wz hSw; obtain ⟨y0, y1, y2, y3, y4, y5, y6⟩ := hSw.1.cells; obtain ⟨z0, z1, z2, z3, z4, z5, z6⟩ := hSw.2.cells; clear hSw; go_simp; try with_reducible rfl)
  simp only [Act.put, List.setIfInBounds_toArray, List.set_cons_zero, List.set_cons_succ]
  refine' wpAnyH_take (i := 20) (oi := ({ dst := some 43, op := Op.load 24 (Operand.tmp 4), type := 24, pos := "law.go:34", after := #[{ on := 15, ground := Ground.guard }], guard := some (15, true) } : Oper)) (v := _) rfl (by kernel_rfl) (by kernel_rfl) (by kernel_rfl) (fun _ _ _ h => h) (Or.inl ⟨by kernel_rfl, ?zy20⟩) (by assumption) ?_
  case zy20 => (intro wz hSw; obtain ⟨y0, y1, y2, y3, y4, y5, y6⟩ := hSw.1.cells; obtain ⟨z0, z1, z2, z3, z4, z5, z6⟩ := hSw.2.cells; clear hSw; go_simp; try with_reducible rfl)
  simp only [Act.put, List.setIfInBounds_toArray, List.set_cons_zero, List.set_cons_succ]
  obtain ⟨R, hR⟩ : ∃ R, R = opEq k k' (mX k x) (mX k' x') (mD k es) (mD k' es') (mA k ps) (mA k' ps') (mL k lo) (mL k' lo') (mL k hi) (mL k' hi') (mL k st) (mL k' st') := ⟨_, rfl⟩
  have HR := hide hR
  clear hR
  refine wpAnyH_ready (rs := [18]) (by kernel_rfl) (by simp) ?_
  refine AllReadyH.cons (o := ({ dst := some 41, op := Op.call { callee := Callee.value (Operand.func 17), args := #[Operand.tmp 39, Operand.tmp 40], argTypes := #[24, 24] }, type := 4, pos := "law.go:34", after := #[{ on := 16, ground := Ground.data }, { on := 17, ground := Ground.data }, { on := 15, ground := Ground.chain }, { on := 15, ground := Ground.guard }], guard := some (15, true) } : Oper)) rfl (fun K hK => ?_) AllReadyH.nil
  go_simp
  refine (same_op_any k k' x x' ea el ec es pa pl pc ps la ll lc lo ha hl hc hi ta tl tc st ea' el' ec' es' pa' pl' pc' ps' la' ll' lc' lo' ha' hl' hc' hi' ta' tl' tc' st' _ (HHE.out.below HB7.out).1 (HHP.out.below HB7.out).1 (HHLO.out.below HB7.out).1 (HHHI.out.below HB7.out).1 (HHST.out.below HB7.out).1 (HHEP.out.below HB7.out).1 (HHPP.out.below HB7.out).1 (HHLOP.out.below HB7.out).1 (HHHIP.out.below HB7.out).1 (HHSTP.out.below HB7.out).1).mono ?_
  rintro e w6 ⟨rfl, hb⟩
  rw [← HR.out]
  have HX6 := hide (hb)
  have HB8 := hide (Below.on HB7.out HX6.out)
  have HA6 := hide (HA5.out.below HX6.out)
  have HQ6 := hide (HQ5.out.below HX6.out)
  clear hb
  try simp only []
  refine hK.out _ _ ⟨HA6.out, HQ6.out⟩ (fun hHeld6 => ?_)
  clear hK K
  try simp only [Act.put, List.setIfInBounds_toArray, List.set_cons_zero, List.set_cons_succ]
  refine wpAnyH_ready (rs := [21]) (by kernel_rfl) (by simp) ?_
  refine AllReadyH.cons (o := ({ dst := some 44, op := Op.call { callee := Callee.value (Operand.func 18), args := #[Operand.tmp 42, Operand.tmp 43], argTypes := #[24, 24] }, type := 4, pos := "law.go:34", after := #[{ on := 19, ground := Ground.data }, { on := 20, ground := Ground.data }, { on := 18, ground := Ground.chain }, { on := 15, ground := Ground.guard }], guard := some (15, true) } : Oper)) rfl (fun K hK => ?_) AllReadyH.nil
  go_simp
  refine (rsame_any k k' x x' ea el ec es pa pl pc ps la ll lc lo ha hl hc hi ta tl tc st ea' el' ec' es' pa' pl' pc' ps' la' ll' lc' lo' ha' hl' hc' hi' ta' tl' tc' st' _ (HHE.out.below HB8.out).1 (HHP.out.below HB8.out).1 (HHLO.out.below HB8.out).1 (HHHI.out.below HB8.out).1 (HHST.out.below HB8.out).1 (HHEP.out.below HB8.out).1 (HHPP.out.below HB8.out).1 (HHLOP.out.below HB8.out).1 (HHHIP.out.below HB8.out).1 (HHSTP.out.below HB8.out).1).mono ?_
  rintro e w7 ⟨rfl, hb⟩
  rw [← HR.out]
  have HX7 := hide (hb)
  have HB9 := hide (Below.on HB8.out HX7.out)
  have HA7 := hide (HA6.out.below HX7.out)
  have HQ7 := hide (HQ6.out.below HX7.out)
  clear hb
  try simp only []
  refine hK.out _ _ ⟨HA7.out, HQ7.out⟩ (fun hHeld7 => ?_)
  clear hK K
  try simp only [Act.put, List.setIfInBounds_toArray, List.set_cons_zero, List.set_cons_succ]
  refine' wpAnyH_take (i := 22) (oi := ({ dst := some 45, op := Op.binOp BinOp.eql 4 (Operand.tmp 41) (Operand.tmp 44) 4, type := 4, pos := "law.go:34", after := #[{ on := 18, ground := Ground.data }, { on := 21, ground := Ground.data }, { on := 15, ground := Ground.guard }], guard := some (15, true) } : Oper)) (v := _) rfl (by kernel_rfl) (by kernel_rfl) (by kernel_rfl) (fun _ _ _ h => h) (Or.inl ⟨by kernel_rfl, ?zy22⟩) (by assumption) ?_
  case zy22 => (intro wz hSw; clear hSw; go_simp; try with_reducible rfl)
  simp only [Act.put, List.setIfInBounds_toArray, List.set_cons_zero, List.set_cons_succ]
  refine' wpAnyH_take (i := 23) (oi := ({ dst := some 46, op := Op.pick (Operand.tmp 38) (Operand.tmp 45) (Operand.const (Value.bool false)), type := 4, pos := "law.go:34", after := #[{ on := 15, ground := Ground.data }, { on := 22, ground := Ground.data }], guard := none } : Oper)) (v := _) rfl (by kernel_rfl) (by kernel_rfl) (by kernel_rfl) (fun _ _ _ h => h) (Or.inl ⟨by kernel_rfl, ?zy23⟩) (by assumption) ?_
  case zy23 => (intro wz hSw; clear hSw; go_simp; try with_reducible rfl)
  simp only [Act.put, List.setIfInBounds_toArray, List.set_cons_zero, List.set_cons_succ]
  refine' wpAnyH_take (i := 24) (oi := ({ dst := some 6, op := Op.assign (Operand.tmp 46), type := 4, pos := "law.go:34", after := #[{ on := 23, ground := Ground.data }, { on := 21, ground := Ground.chain }, { on := 0, ground := Ground.phase }, { on := 1, ground := Ground.phase }, { on := 2, ground := Ground.phase }, { on := 3, ground := Ground.phase }, { on := 4, ground := Ground.phase }, { on := 5, ground := Ground.phase }, { on := 6, ground := Ground.phase }, { on := 7, ground := Ground.phase }, { on := 8, ground := Ground.phase }, { on := 9, ground := Ground.phase }, { on := 10, ground := Ground.phase }, { on := 11, ground := Ground.phase }, { on := 12, ground := Ground.phase }, { on := 13, ground := Ground.phase }, { on := 14, ground := Ground.phase }, { on := 15, ground := Ground.phase }, { on := 16, ground := Ground.phase }, { on := 17, ground := Ground.phase }, { on := 18, ground := Ground.phase }, { on := 19, ground := Ground.phase }, { on := 20, ground := Ground.phase }, { on := 21, ground := Ground.phase }, { on := 22, ground := Ground.phase }, { on := 23, ground := Ground.phase }], guard := none } : Oper)) (v := _) rfl (by kernel_rfl) (by kernel_rfl) (by kernel_rfl) (fun _ _ _ h => h) (Or.inl ⟨by kernel_rfl, ?zy24⟩) (by assumption) ?_
  case zy24 => (intro wz hSw; clear hSw; go_simp; try with_reducible rfl)
  simp only [Act.put, List.setIfInBounds_toArray, List.set_cons_zero, List.set_cons_succ]
  refine wpAnyH_done (by kernel_rfl) ?_ _
  go_wp2
  go_ret
  exact ⟨rfl, HB9.out⟩
end Go.Proofs.Ytcidhbkdaleomaa.V
