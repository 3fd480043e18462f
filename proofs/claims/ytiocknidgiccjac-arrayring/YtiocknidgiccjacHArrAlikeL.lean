/-
  Contract: adjointlaw2.alike.
-/
import Derived.Test.YtiocknidgiccjacHArrSameArr
namespace Go.Proofs.Ytiocknidgiccjac.V
open Go.RowKit

/-- What is told of the j-th array. -/
structure ArrV where
  da : Option Addr
  dl : Nat
  dc : Nat
  ds : List Int
  xa : Option Addr
  xl : Nat
  xc : Nat
def ArrV.d (v : ArrV) : Value := .slice v.da v.dl v.dc
def ArrV.x (v : ArrV) : Value := .slice v.xa v.xl v.xc
def Alikes (m : Nat) (v : Nat → ArrV) : Prop := ∀ j, j < m → arrE (v j).ds (v j).xl = 0 ∧ (v j).ds = (v 0).ds
def AlikePost (m : Nat) (v : Nat → ArrV) (e : Ending) : Prop := (e = .returned (.bool true) ∧ Alikes m v) ∨ (e = .returned (.bool false) ∧ ¬ Alikes m v)

set_option maxRecDepth 100000 in
set_option maxHeartbeats 4000000 in
theorem alike_any (b m cap : Nat) (v : Nat → ArrV) (w : World) (h0 : 0 < m) (hm : m ≤ 1048576)
    (hc : ∀ j, j < m → w.cell? ⟨b, j * 2, none⟩ = some (v j).d ∧ w.cell? ⟨b, j * 2 + 1, none⟩ = some (v j).x ∧ Ints w (v j).da (v j).dl (v j).ds) :
    Calls Try.prog 6 #[.slice (some ⟨b, 0, none⟩) m cap] w fun e w' => AlikePost m v e ∧ Below w.heap.size w w' := by
  have HC := hide hc
  have hbl : b < w.heap.size := lt_of_cell (hc 0 h0).1
  clear hc
  go_enter Try.func6, Try.ntmps6
  go_wp2
  go_loopw [7] (fun i wr => ∃ k : Nat, k ≤ m ∧ i = .int .i64 k ∧ (∀ j, j < k → arrE (v j).ds (v j).xl = 0 ∧ (v j).ds = (v 0).ds) ∧ Below w.heap.size w wr) (fun i _ => m - (intOf i).toNat)
  case atStart => exact ⟨0, Nat.zero_le _, rfl, fun j hj => by omega, Below.refl _ _⟩
  case round =>
    obtain ⟨k, hk, rfl, hgood, hB⟩ := hrel
    have HG := hide hgood
    have HB := hide hB
    clear hgood hB
    by_cases hlt : k < m
    · obtain ⟨c0, c1, hi⟩ := HC.out k hlt
      obtain ⟨z0, _, hi0⟩ := HC.out 0 h0
      obtain ⟨⟨da, dl, dc, ds, xa, xl, xc⟩, hv⟩ : ∃ u, u = v k := ⟨_, rfl⟩
      obtain ⟨⟨ea, el, ec, es, ya, yl, yc⟩, hv0⟩ : ∃ u, u = v 0 := ⟨_, rfl⟩
      rw [← hv] at c0 c1 hi
      rw [← hv0] at z0 hi0
      simp only [ArrV.d, ArrV.x] at c0 c1 z0 hi hi0
      have s0 := (HB.out.cell (p := ⟨b, k * 2, none⟩) hbl).trans c0
      have s1 := (HB.out.cell (p := ⟨b, k * 2 + 1, none⟩) hbl).trans c1
      have HZ0 := hide ((HB.out.cell (p := ⟨b, 0, none⟩) hbl).trans z0)
      have HI := hide hi
      have HI0 := hide hi0
      have HV := hide hv
      have HV0 := hide hv0
      clear c0 c1 z0 hi hi0 hv hv0
      have HAN := hide (ArrAt.new wr (.slice da dl dc) (.slice xa xl xc))
      have HBN := hide (HB.out.alloc HB.out.size (.cells #[.slice da dl dc, .slice xa xl xc] 25))
      obtain ⟨⟨a0, a1⟩, _⟩ := HAN.out.cells
      have zc := alloc_cell (o := (.cells #[.slice da dl dc, .slice xa xl xc] 25)) HZ0.out
      obtain ⟨T, hT⟩ : ∃ T, T = arrE ds xl := ⟨_, rfl⟩
      have HT := hide hT
      by_cases e1 : T = 0
      case neg =>
        have q : (T != 0) = true := by simp [e1]
        have HNE := hide e1
        clear e1 hT
        go_wp2_with fail
        refine wp_region_held_drew (S := (fun w' => w'.cell? ⟨wr.heap.size, 0, none⟩ = some (.slice da dl dc) ∧ w'.cell? ⟨wr.heap.size, 1, none⟩ = some (.slice xa xl xc))) (by kernel_rfl) ⟨drew_cell a0, drew_cell a1⟩ (fun hHeld => ?_)
        show wpAnyH _ _ _ _ _ _ _ _ _
        refine' wpAnyH_take (i := 0) (oi := ({ dst := some 11, op := Op.load 25 (Operand.tmp 4), type := 25, pos := "law.go:59", after := #[], guard := none } : Oper)) (v := _) rfl (by kernel_rfl) (by kernel_rfl) (by kernel_rfl) (fun _ _ _ h => h) (Or.inl ⟨by kernel_rfl, ?zy0⟩) (by assumption) ?_
        case zy0 => (intro wz hSw; (try dsimp only at hSw); go_simp; try with_reducible rfl)
        simp only [Act.put, List.setIfInBounds_toArray, List.set_cons_zero, List.set_cons_succ]
        refine wpAnyH_ready (rs := [1]) (by kernel_rfl) (by simp) ?_
        refine AllReadyH.cons (o := ({ dst := some 12, op := Op.call { callee := Callee.value (Operand.func 15), args := #[Operand.tmp 11], argTypes := #[25] }, type := 36, pos := "law.go:59", after := #[{ on := 0, ground := Ground.data }], guard := none } : Oper)) rfl (fun K hK => ?_) AllReadyH.nil
        go_simp
        refine (awrong_any da dl dc ds xa xl xc _ (HI.out.below (HBN.out.drew))).mono ?_
        rintro e w1 ⟨rfl, hb⟩
        rw [← HT.out]
        have HB3 := hide (Below.on HBN.out.drew hb)
        have HAN3 := hide ((HAN.out.below ((Below.refl _ _).drew)).below hb)
        have zc3 : w1.cell? ⟨b, 0, none⟩ = some (.slice ea el ec) := (hb.cell (p := ⟨b, 0, none⟩) (lt_of_cell (drew_cell (alloc_cell HZ0.out)))).trans (alloc_cell HZ0.out)
        clear hb
        obtain ⟨⟨b0, b1⟩, _⟩ := HAN3.out.cells
        try simp only []
        refine hK.out _ _ ⟨b0, b1⟩ (fun hHeld1 => ?_)
        clear hK K
        try simp only [Act.put, List.setIfInBounds_toArray, List.set_cons_zero, List.set_cons_succ]
        refine' wpAnyH_take (i := 2) (oi := ({ dst := some 13, op := Op.binOp BinOp.neq 36 (Operand.tmp 12) (Operand.const (Value.int IntKind.i64 0)) 36, type := 4, pos := "law.go:59", after := #[{ on := 1, ground := Ground.data }], guard := none } : Oper)) (v := _) rfl (by kernel_rfl) (by kernel_rfl) (by kernel_rfl) (fun _ _ _ h => h) (Or.inl ⟨by kernel_rfl, ?zy2⟩) (by assumption) ?_
        case zy2 => (intro wz hSw; (try dsimp only at hSw); go_simp; try with_reducible rfl)
        simp only [Act.put, List.setIfInBounds_toArray, List.set_cons_zero, List.set_cons_succ]
        refine' wpAnyH_take (i := 3) (oi := ({ dst := some 14, op := Op.move (Operand.tmp 13), type := 4, pos := "law.go:59", after := #[{ on := 2, ground := Ground.data }, { on := 1, ground := Ground.chain }], guard := none } : Oper)) (v := _) rfl (by kernel_rfl) (by kernel_rfl) (by kernel_rfl) (fun _ _ _ h => h) (Or.inl ⟨by kernel_rfl, ?zy3⟩) (by assumption) ?_
        case zy3 => (intro wz hSw; (try dsimp only at hSw); go_simp; try with_reducible rfl)
        simp only [Act.put, List.setIfInBounds_toArray, List.set_cons_zero, List.set_cons_succ]
        refine' wpAnyH_take (i := 4) (oi := ({ dst := some 15, op := Op.fieldAddr 25 (Operand.tmp 4) 0, type := 0, pos := "law.go:59", after := #[{ on := 3, ground := Ground.guard }], guard := some (3, false) } : Oper)) (v := undef) rfl (by kernel_rfl) (by kernel_rfl) (by kernel_rfl) (fun _ _ _ h => h) (Or.inr ⟨by kernel_rfl, rfl⟩) (by assumption) ?_
        simp only [Act.put, List.setIfInBounds_toArray, List.set_cons_zero, List.set_cons_succ]
        refine' wpAnyH_take (i := 5) (oi := ({ dst := some 16, op := Op.load 22 (Operand.tmp 15), type := 22, pos := "law.go:59", after := #[{ on := 4, ground := Ground.data }, { on := 3, ground := Ground.guard }], guard := some (3, false) } : Oper)) (v := undef) rfl (by kernel_rfl) (by kernel_rfl) (by kernel_rfl) (fun _ _ _ h => h) (Or.inr ⟨by kernel_rfl, rfl⟩) (by assumption) ?_
        simp only [Act.put, List.setIfInBounds_toArray, List.set_cons_zero, List.set_cons_succ]
        refine' wpAnyH_take (i := 6) (oi := ({ dst := some 17, op := Op.move (Operand.tmp 0), type := 27, pos := "law.go:59", after := #[{ on := 3, ground := Ground.guard }], guard := some (3, false) } : Oper)) (v := undef) rfl (by kernel_rfl) (by kernel_rfl) (by kernel_rfl) (fun _ _ _ h => h) (Or.inr ⟨by kernel_rfl, rfl⟩) (by assumption) ?_
        simp only [Act.put, List.setIfInBounds_toArray, List.set_cons_zero, List.set_cons_succ]
        refine' wpAnyH_take (i := 7) (oi := ({ dst := some 18, op := Op.indexAddr 27 (Operand.tmp 17) (Operand.const (Value.int IntKind.i64 0)), type := 0, pos := "law.go:59", after := #[{ on := 6, ground := Ground.data }, { on := 3, ground := Ground.guard }], guard := some (3, false) } : Oper)) (v := undef) rfl (by kernel_rfl) (by kernel_rfl) (by kernel_rfl) (fun _ _ _ h => h) (Or.inr ⟨by kernel_rfl, rfl⟩) (by assumption) ?_
        simp only [Act.put, List.setIfInBounds_toArray, List.set_cons_zero, List.set_cons_succ]
        refine' wpAnyH_take (i := 8) (oi := ({ dst := some 19, op := Op.fieldAddr 25 (Operand.tmp 18) 0, type := 0, pos := "law.go:59", after := #[{ on := 7, ground := Ground.data }, { on := 3, ground := Ground.guard }], guard := some (3, false) } : Oper)) (v := undef) rfl (by kernel_rfl) (by kernel_rfl) (by kernel_rfl) (fun _ _ _ h => h) (Or.inr ⟨by kernel_rfl, rfl⟩) (by assumption) ?_
        simp only [Act.put, List.setIfInBounds_toArray, List.set_cons_zero, List.set_cons_succ]
        refine' wpAnyH_take (i := 9) (oi := ({ dst := some 20, op := Op.load 22 (Operand.tmp 19), type := 22, pos := "law.go:59", after := #[{ on := 8, ground := Ground.data }, { on := 3, ground := Ground.guard }], guard := some (3, false) } : Oper)) (v := undef) rfl (by kernel_rfl) (by kernel_rfl) (by kernel_rfl) (fun _ _ _ h => h) (Or.inr ⟨by kernel_rfl, rfl⟩) (by assumption) ?_
        simp only [Act.put, List.setIfInBounds_toArray, List.set_cons_zero, List.set_cons_succ]
        refine' wpAnyH_take (i := 10) (oi := ({ dst := some 21, op := Op.call { callee := Callee.value (Operand.func 16), args := #[Operand.tmp 16, Operand.tmp 20], argTypes := #[22, 22] }, type := 4, pos := "law.go:59", after := #[{ on := 5, ground := Ground.data }, { on := 9, ground := Ground.data }, { on := 3, ground := Ground.chain }, { on := 3, ground := Ground.guard }], guard := some (3, false) } : Oper)) (v := undef) rfl (by kernel_rfl) (by kernel_rfl) (by kernel_rfl) (fun _ _ _ h => h) (Or.inr ⟨by kernel_rfl, rfl⟩) (by assumption) ?_
        simp only [Act.put, List.setIfInBounds_toArray, List.set_cons_zero, List.set_cons_succ]
        refine' wpAnyH_take (i := 11) (oi := ({ dst := some 22, op := Op.unOp UnOp.not 4 (Operand.tmp 21), type := 4, pos := "law.go:59", after := #[{ on := 10, ground := Ground.data }, { on := 3, ground := Ground.guard }], guard := some (3, false) } : Oper)) (v := undef) rfl (by kernel_rfl) (by kernel_rfl) (by kernel_rfl) (fun _ _ _ h => h) (Or.inr ⟨by kernel_rfl, rfl⟩) (by assumption) ?_
        simp only [Act.put, List.setIfInBounds_toArray, List.set_cons_zero, List.set_cons_succ]
        refine' wpAnyH_take (i := 12) (oi := ({ dst := some 23, op := Op.pick (Operand.tmp 14) (Operand.const (Value.bool true)) (Operand.tmp 22), type := 4, pos := "law.go:59", after := #[{ on := 3, ground := Ground.data }, { on := 11, ground := Ground.data }], guard := none } : Oper)) (v := _) rfl (by kernel_rfl) (by kernel_rfl) (by kernel_rfl) (fun _ _ _ h => h) (Or.inl ⟨by kernel_rfl, ?zy12⟩) (by assumption) ?_
        case zy12 => (intro wz hSw; (try dsimp only at hSw); go_simp; try with_reducible rfl)
        simp only [Act.put, List.setIfInBounds_toArray, List.set_cons_zero, List.set_cons_succ]
        refine wpAnyH_done (by kernel_rfl) ?_ _
        go_wp2
        go_ret
        exact ⟨.inr ⟨rfl, fun h => by have h1 := (h k hlt).1; rw [← HV.out] at h1; exact HNE.out (HT.out.trans h1)⟩, HB3.out⟩
      have HE1 : Hid (arrE ds xl = 0) := hT.symm.trans e1
      clear e1 hT HT
      by_cases e2 : ds = es
      · have HD : Hid (decide (ds = es) = true) := decide_eq_true e2
        have HE2 := hide e2
        clear e2
        go_wp2_with fail
        go_region_held3 (fun w' => (w'.cell? ⟨wr.heap.size, 0, none⟩ = some (.slice da dl dc) ∧ w'.cell? ⟨wr.heap.size, 1, none⟩ = some (.slice xa xl xc)) ∧ w'.cell? ⟨b, 0, none⟩ = some (.slice ea el ec)) (refine ⟨⟨?_, ?_⟩, ?_⟩ <;> with_reducible (repeat (first | assumption | apply drew_cell | apply alloc_cell))) ((first | (go_at_call 15; refine (awrong_any da dl dc ds xa xl xc _ (HI.out.below (HBN.out.drew))).mono ?_; rintro e w1 ⟨rfl, hb⟩; rw [HE1.out]; have HB3 := hide (Below.on HBN.out.drew hb); have HAN3 := hide ((HAN.out.below ((Below.refl _ _).drew)).below hb); have zc3 : w1.cell? ⟨b, 0, none⟩ = some (.slice ea el ec) := (hb.cell (p := ⟨b, 0, none⟩) (lt_of_cell (drew_cell (alloc_cell HZ0.out)))).trans (alloc_cell HZ0.out); clear hb; obtain ⟨⟨b0, b1⟩, _⟩ := HAN3.out.cells) | (go_at_call 16; refine (sameList_any _ _ _ ds _ _ _ es _ (HI.out.below HB3.out) (HI0.out.below HB3.out)).mono ?_; rintro e w2 ⟨rfl, n2, hw2⟩; rw [HD.out]; have hb2 : Below w1.heap.size w1 w2 := hw2 ▸ below_drewN _ n2; have HB4 := hide (Below.on HB3.out hb2); have HAN4 := hide (HAN3.out.below hb2); have zc4 : w2.cell? ⟨b, 0, none⟩ = some (.slice ea el ec) := (hb2.cell (p := ⟨b, 0, none⟩) (lt_of_cell zc3)).trans zc3; clear hb2 hw2; obtain ⟨⟨d0, d1⟩, _⟩ := HAN4.out.cells)))
        all_goals go_wp2
        all_goals go_roundw
        all_goals first
          | (case rel =>
              refine ⟨k + 1, by omega, by go_num, fun j hj => ?_, HB4.out⟩
              by_cases e : j = k
              · rw [e, ← HV.out, ← HV0.out]; exact ⟨HE1.out, HE2.out⟩
              · exact HG.out j (by omega))
          | (case measure => simp [intOf]; omega)
      · have HD : Hid (decide (ds = es) = false) := decide_eq_false e2
        have HNE := hide e2
        clear e2
        go_wp2_with fail
        go_region_held3 (fun w' => (w'.cell? ⟨wr.heap.size, 0, none⟩ = some (.slice da dl dc) ∧ w'.cell? ⟨wr.heap.size, 1, none⟩ = some (.slice xa xl xc)) ∧ w'.cell? ⟨b, 0, none⟩ = some (.slice ea el ec)) (refine ⟨⟨?_, ?_⟩, ?_⟩ <;> with_reducible (repeat (first | assumption | apply drew_cell | apply alloc_cell))) ((first | (go_at_call 15; refine (awrong_any da dl dc ds xa xl xc _ (HI.out.below (HBN.out.drew))).mono ?_; rintro e w1 ⟨rfl, hb⟩; rw [HE1.out]; have HB3 := hide (Below.on HBN.out.drew hb); have HAN3 := hide ((HAN.out.below ((Below.refl _ _).drew)).below hb); have zc3 : w1.cell? ⟨b, 0, none⟩ = some (.slice ea el ec) := (hb.cell (p := ⟨b, 0, none⟩) (lt_of_cell (drew_cell (alloc_cell HZ0.out)))).trans (alloc_cell HZ0.out); clear hb; obtain ⟨⟨b0, b1⟩, _⟩ := HAN3.out.cells) | (go_at_call 16; refine (sameList_any _ _ _ ds _ _ _ es _ (HI.out.below HB3.out) (HI0.out.below HB3.out)).mono ?_; rintro e w2 ⟨rfl, n2, hw2⟩; rw [HD.out]; have hb2 : Below w1.heap.size w1 w2 := hw2 ▸ below_drewN _ n2; have HB4 := hide (Below.on HB3.out hb2); have HAN4 := hide (HAN3.out.below hb2); have zc4 : w2.cell? ⟨b, 0, none⟩ = some (.slice ea el ec) := (hb2.cell (p := ⟨b, 0, none⟩) (lt_of_cell zc3)).trans zc3; clear hb2 hw2; obtain ⟨⟨d0, d1⟩, _⟩ := HAN4.out.cells)))
        all_goals go_wp2
        all_goals go_ret
        all_goals exact ⟨.inr ⟨rfl, fun h => by have h2 := (h k hlt).2; rw [← HV.out, ← HV0.out] at h2; exact HNE.out h2⟩, HB4.out⟩
    · obtain rfl : k = m := by omega
      go_wp2
      go_ret
      exact ⟨.inl ⟨rfl, HG.out⟩, HB.out⟩
end Go.Proofs.Ytiocknidgiccjac.V
