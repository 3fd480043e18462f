/-
  Contracts: points.fresh, points.All.
-/
import Derived.Test.YtoidgdbgpbcebaaK22
import Derived.Test.YtoidgdbgpbcebaaK15
namespace Go.Proofs.Ytoidgdbgpbcebaa.V
open Go.RowKit
set_option linter.unusedVariables false

theorem PtAt.set {w : World} {b : Nat} {ba : Option Addr} {bl bc : Nat} {ra : Option Addr} {rl rc : Nat} (h : PtAt w b ba bl bc ra rl rc) (ba' : Option Addr) (bl' bc' : Nat) (ra' : Option Addr) (rl' rc' : Nat) : PtAt ((w.setCell ⟨b, 0, none⟩ (.slice ba' bl' bc')).setCell ⟨b, 1, none⟩ (.slice ra' rl' rc')) b ba' bl' bc' ra' rl' rc' := by
  unfold PtAt at h ⊢
  simp [World.setCell, Array.getElem?_modify, h]
theorem PtAt.frozen {w : World} {b : Nat} {ba : Option Addr} {bl bc : Nat} {ra : Option Addr} {rl rc : Nat} (h : PtAt w b ba bl bc ra rl rc) : w.frozen? ⟨b, 0, none⟩ = false ∧ w.frozen? ⟨b, 1, none⟩ = false := by
  unfold PtAt at h
  refine ⟨?_, ?_⟩ <;> simp [World.frozen?, h]
theorem RowI.setO {w : World} {g l : Nat} {xs : List Int} (h : RowI w g l xs) {p : Addr} (hne : g ≠ p.block) (v : Value) : RowI (w.setCell p v) g l xs := World.rowIs.setOther h hne v
theorem RowsTo.mono {w : World} {R rl N N' k : Nat} {rs : List (List Int × Int)} (h : RowsTo w R rl N rs k) (hN : N' ≤ N) : RowsTo w R rl N' rs k := by
  obtain ⟨f, a, b⟩ := h
  refine ⟨f, a, fun j hj => ?_⟩
  obtain ⟨g, l, e1, e2, e3, e4, e5, e6⟩ := b j hj
  exact ⟨g, l, e1, e2, e3, e4, e5, by omega⟩
theorem RowsTo.set {w : World} {R rl N k : Nat} {rs : List (List Int × Int)} (h : RowsTo w R rl N rs k) {p : Addr} (h1 : R ≠ p.block) (h2 : p.block < N) (v : Value) : RowsTo (w.setCell p v) R rl N rs k := by
  obtain ⟨f, a, b⟩ := h
  refine ⟨f, a.setOther h1 _, fun j hj => ?_⟩
  obtain ⟨g, l, e1, e2, e3, e4, e5, e6⟩ := b j hj
  exact ⟨g, l, e1, e2, RowI.setO e3 (by omega) v, e4, e5, e6⟩

/-- A list of the call's own. -/
def fRowNew (N l : Nat) (xs : List Int) : Fact := ⟨fun v w => ∃ g : Nat, v = .slice (some ⟨g, 0, none⟩) l l ∧ RowI w g l xs ∧ N ≤ g, false⟩
theorem fRowNew_good (N l : Nat) (xs : List Int) : (fRowNew N l xs).Good := ⟨fun _ _ _ ⟨g, h1, h2, h3⟩ hb => ⟨g, h1, h2.below hb, h3⟩, fun h => by cases h⟩
def fRowsTo (N l : Nat) (rs : List (List Int × Int)) : Fact := ⟨fun v w => ∃ R : Nat, v = .slice (some ⟨R, 0, none⟩) l l ∧ RowsTo w R l N rs l ∧ N ≤ R, false⟩
theorem fRowsTo_good (N l : Nat) (rs : List (List Int × Int)) : (fRowsTo N l rs).Good := ⟨fun _ _ _ ⟨g, h1, h2, h3⟩ hb => ⟨g, h1, h2.below hb, h3⟩, fun h => by cases h⟩

set_option maxHeartbeats 4000000 in
theorem ptFresh_any (ba : Option Addr) (bl bc : Nat) (box : List Int) (ra : Option Addr) (rl rc : Nat) (rs : List (List Int × Int)) (w : World) (h : Ints w ba bl box) (hr : Rws w ra rl rs) (ho : PtOk box rs) :
    Calls Try.prog 69 #[.agg #[.slice ba bl bc, .slice ra rl rc]] w fun e w' => (∃ gb R : Nat, e = .returned (.agg #[.slice (some ⟨gb, 0, none⟩) bl bl, .slice (some ⟨R, 0, none⟩) rl rl]) ∧ RowI w' gb bl box ∧ RowsTo w' R rl w.heap.size rs rl ∧ w.heap.size ≤ gb ∧ w.heap.size ≤ R) ∧ Below w.heap.size w w' := by
  have B1 : Below w.heap.size w ((w.alloc (.cells #[.slice ba bl bc, .slice ra rl rc] 64)).alloc (.cells #[.slice none 0 0, .slice none 0 0] 64)) := bl_on (bl_new _) (bl_new _)
  have P1 := (PtAt.new w ba bl bc ra rl rc).below (bl_new (.cells #[.slice none 0 0, .slice none 0 0] 64))
  have P2 := PtAt.new (w.alloc (.cells #[.slice ba bl bc, .slice ra rl rc] 64)) none 0 0 none 0 0
  rw [World.size_alloc] at P2
  have hbl : bl ≤ 4 := by have := h.1; have := ho.rank; omega
  have hrl : rl ≤ 8 := by have := hr.1; have := ho.many; omega
  obtain ⟨W1, hW1⟩ : ∃ W1, W1 = (w.alloc (.cells #[.slice ba bl bc, .slice ra rl rc] 64)).alloc (.cells #[.slice none 0 0, .slice none 0 0] 64) := ⟨_, rfl⟩
  rw [← hW1] at B1 P1 P2
  have hz : W1.heap.size = w.heap.size + 2 := by rw [hW1]; simp
  have HE := hide (fun W (hb : Below W1.heap.size W1 W) => each_any ra rl rc rs W ((hr.below B1).below hb) hrl (fun r hr => by have := (ho.rows r hr).1; have := ho.rank; omega))
  have HF := hide (fun W (hb : Below W1.heap.size W1 W) => fresh_any ba bl bc box W ((h.below B1).below hb) (by omega))
  have HB := hide B1
  have HP1 := hide P1
  have HP2 := hide P2
  have HW1 := hide hW1
  have HO := hide ho
  have HRL := hide hr.1
  have HBD := hide h.2.2.1
  have HBL := hide h.1
  clear h hr ho B1 hW1 P2 P1
  go_enter Try.func69, Try.ntmps69
  go_wp2_with fail
  rw [← HW1.out]
  obtain ⟨p0, p1⟩ := HP1.out.cells
  refine region_made 6 12 [fIs (.pointer (some ⟨w.heap.size, 0, none⟩)), fIs (.slice ba bl bc), fRowNew W1.heap.size bl box, fIs (.pointer (some ⟨w.heap.size, 1, none⟩)), fIs (.slice ra rl rc), fRowsTo W1.heap.size rl rs] (by kernel_rfl) (by kernel_rfl) (by kernel_rfl) (fun _ ⟨_, _⟩ ⟨_, _⟩ _ e h => by cases e; exact h) ⟨fIs_good _, fIs_good _, fRowNew_good _ _ _, fIs_good _, fIs_good _, fRowsTo_good _ _ _, trivial⟩ ?mk ?rest
  case mk =>
    refine ⟨fun u wz hb hd => ?_, fun u wz hb hd => ?_, fun u wz hb hd => ?_, fun u wz hb hd => ?_, fun u wz hb hd => ?_, fun u wz hb hd => ?_, trivial⟩
    all_goals simp only [Act.put, List.setIfInBounds_toArray, List.set_cons_zero, List.set_cons_succ]
    · go_simp
      exact ⟨rfl, Below.refl _ _, fun h => by cases h⟩
    · have e0 : u 0 = .pointer (some ⟨w.heap.size, 0, none⟩) := hd 0 (by omega) (by kernel_rfl)
      rw [e0]
      have p0' := (hb.cell (p := ⟨w.heap.size, 0, none⟩) (lt_of_cell p0)).trans p0
      go_simp
      exact ⟨rfl, Below.refl _ _, fun h => by cases h⟩
    · have e1 : u 1 = .slice ba bl bc := hd 1 (by omega) (by kernel_rfl)
      rw [e1]
      go_simp
      refine (HF.out wz hb).mono ?_
      rintro e w2 ⟨⟨g, rfl, hI, hg⟩, hb2⟩
      exact ⟨⟨g, rfl, hI, by have := hb.size; omega⟩, hb2, fun h => by cases h⟩
    · go_simp
      exact ⟨rfl, Below.refl _ _, fun h => by cases h⟩
    · have e3 : u 3 = .pointer (some ⟨w.heap.size, 1, none⟩) := hd 3 (by omega) (by kernel_rfl)
      rw [e3]
      have p1' := (hb.cell (p := ⟨w.heap.size, 1, none⟩) (lt_of_cell p1)).trans p1
      go_simp
      exact ⟨rfl, Below.refl _ _, fun h => by cases h⟩
    · have e4 : u 4 = .slice ra rl rc := hd 4 (by omega) (by kernel_rfl)
      rw [e4]
      go_simp
      refine (HE.out wz hb).mono ?_
      rintro e w2 ⟨⟨R, rfl, hT, hR⟩, hb2⟩
      exact ⟨⟨R, rfl, hT.mono (by have := hb.size; omega), by have := hb.size; omega⟩, hb2, fun h => by cases h⟩
  case rest =>
    intro u wz hb hf hp
    have f0 : u 0 = .pointer (some ⟨w.heap.size, 0, none⟩) := hf 0 (by omega)
    have f1 : u 1 = .slice ba bl bc := hf 1 (by omega)
    obtain ⟨gb, f2, hI, hg⟩ := hf 2 (by omega)
    have f3 : u 3 = .pointer (some ⟨w.heap.size, 1, none⟩) := hf 3 (by omega)
    have f4 : u 4 = .slice ra rl rc := hf 4 (by omega)
    obtain ⟨R, f5, hT, hR⟩ := hf 5 (by omega)
    refine UptoW.rest 2 6 (by rfl) (by kernel_rfl) ?_
    simp only [List.take, List.drop, putOps, Act.put, List.setIfInBounds_toArray, List.set_cons_zero, List.set_cons_succ, Nat.reduceAdd, f0, f1, f2, f3, f4, f5]
    clear f0 f1 f2 f3 f4 f5 hf hp
    have P5 := HP2.out.below hb
    obtain ⟨p2, p3⟩ := P5.cells
    obtain ⟨f2, f3⟩ := P5.frozen
    have z5 := P5.lt
    have HP5 := hide P5
    have HI := hide hI
    have HT3 := hide hT
    have hRlt := hT.lt
    have HB3 := hide hb
    have hs := hb.size
    have hgl := hI.lt
    obtain ⟨w3, hw3⟩ : ∃ w3, w3 = wz := ⟨_, rfl⟩
    subst hw3
    clear hb P5 hI hT p0 p1
    go_wp2_with fail
    have P6 := HP5.out.set (some ⟨gb, 0, none⟩) bl bl (some ⟨R, 0, none⟩) rl rl
    obtain ⟨y1, y2⟩ := P6.cells
    refine bodyPost_ret (v := .agg #[.slice (some ⟨gb, 0, none⟩) bl bl, .slice (some ⟨R, 0, none⟩) rl rl]) (by simp [results, Try.results69, go_sem, y1, y2]) rfl ⟨⟨gb, R, rfl, ?_, ?_, by omega, by omega⟩, ?_⟩
    · have := RowI.setO (RowI.setO HI.out (p := ⟨w.heap.size + 1, 0, none⟩) (by simp only; omega) (.slice (some ⟨gb, 0, none⟩) bl bl)) (p := ⟨w.heap.size + 1, 1, none⟩) (by simp only; omega) (.slice (some ⟨R, 0, none⟩) rl rl)
      exact this
    · have := (HT3.out.set (p := ⟨w.heap.size + 1, 0, none⟩) (by simp only; omega) (by simp only; omega) (.slice (some ⟨gb, 0, none⟩) bl bl)).set (p := ⟨w.heap.size + 1, 1, none⟩) (by simp only; omega) (by simp only; omega) (.slice (some ⟨R, 0, none⟩) rl rl)
      exact this.mono (by omega)
    · exact ((bl_on HB.out HB3.out).setCell (p := ⟨w.heap.size + 1, 0, none⟩) (by simp only; omega) _).setCell (p := ⟨w.heap.size + 1, 1, none⟩) (by simp only; omega) _

/-- A description of points of the call's own: all its blocks lie from N on. -/
structure PtNew (W : World) (N B gb R bl rl : Nat) (box : List Int) (rs : List (List Int × Int)) : Prop where
  here : PtAt W B (some ⟨gb, 0, none⟩) bl bl (some ⟨R, 0, none⟩) rl rl
  box : RowI W gb bl box
  rows : RowsTo W R rl N rs rl
  far : N ≤ B ∧ N ≤ gb ∧ N ≤ R
theorem PtNew.below {W W' : World} {N B gb R bl rl : Nat} {box : List Int} {rs : List (List Int × Int)} (h : PtNew W N B gb R bl rl box rs) (hb : Below W.heap.size W W') : PtNew W' N B gb R bl rl box rs := ⟨h.here.below hb, h.box.below hb, h.rows.below hb, h.far⟩
theorem PtNew.kept {W' V : World} {N M B gb R bl rl : Nat} {box : List Int} {rs : List (List Int × Int)} (h : PtNew V N B gb R bl rl box rs) (hM : V.heap.size = M) (hk : ∀ b, N ≤ b → b < M → W'.heap[b]? = V.heap[b]?) : PtNew W' N B gb R bl rl box rs := by
  have k : ∀ b, N ≤ b → b < V.heap.size → W'.heap[b]? = V.heap[b]? := fun b h1 h2 => hk b h1 (by omega)
  obtain ⟨f, r1, r2⟩ := h.rows
  refine ⟨(k B h.far.1 h.here.lt).trans h.here, World.rowIs.of_block h.box (k gb h.far.2.1 (World.rowIs.lt h.box)), ⟨f, r1.of_block (k R h.far.2.2 r1.lt), fun j hj => ?_⟩, h.far⟩
  obtain ⟨g, l, e1, e2, e3, e4, e5, e6⟩ := r2 j hj
  exact ⟨g, l, e1, e2, World.rowIs.of_block e3 (k g e6 (World.rowIs.lt e3)), e4, e5, e6⟩
theorem PtNew.good {W : World} {N B gb R bl rl : Nat} {box : List Int} {rs : List (List Int × Int)} (h : PtNew W N B gb R bl rl box rs) (ho : PtOk box rs) (hbl : box.length = bl) (hrl : rs.length = rl) : PtGood W B (some ⟨gb, 0, none⟩) bl bl box (some ⟨R, 0, none⟩) rl rl rs :=
  ⟨h.here, ints_of_rowI h.box hbl (by have := ho.rank; omega) (fun x hx => by have := ho.dims x hx; omega), rws_of_to h.rows hrl (by have := ho.many; omega) (fun r hr => ⟨(ho.rows r hr).2.1, by have := (ho.rows r hr).1; have := ho.rank; omega, (ho.rows r hr).2.2⟩)⟩

set_option maxHeartbeats 2000000 in
theorem all_ok (ba : Option Addr) (bl bc : Nat) (box : List Int) (ra : Option Addr) (rl rc : Nat) (rs : List (List Int × Int)) (w : World) (h : Ints w ba bl box) (hr : Rws w ra rl rs) (hE : ptE box rs = 0) :
    Calls Try.prog 35 #[.agg #[.slice ba bl bc, .slice ra rl rc]] w fun e w' => (∃ B gb R : Nat, e = .returned (.func (.func 91) #[] #[.pointer (some ⟨B, 0, none⟩)]) ∧ PtNew w' w.heap.size B gb R bl rl box rs) ∧ Below w.heap.size w w' := by
  have B1 : Below w.heap.size w (w.alloc (.cells #[.slice ba bl bc, .slice ra rl rc] 64)) := bl_new _
  have HW := hide (ptWrong_any ba bl bc box ra rl rc rs _ (h.below B1) (hr.below B1))
  have HP := hide (PtAt.new w ba bl bc ra rl rc)
  have HB := hide B1
  have HE := hide hE
  have HF := hide (fun W (hb : Below w.heap.size w W) => ptFresh_any ba bl bc box ra rl rc rs W (h.below hb) (hr.below hb) (ptE_ok hE))
  clear h hr B1 hE
  go_enter Try.func35, Try.ntmps35
  go_wp2_with (first
    | (go_at_call 66; refine HW.out.mono ?_; rintro e w1 ⟨rfl, hb⟩; rw [HE.out]; have HB1 := hide (bl_on HB.out hb); have P1 := HP.out.below hb; obtain ⟨p0, p1⟩ := P1.cells; have zP := P1.lt; clear hb P1)
    | (go_at_call 69; refine (HF.out w1 HB1.out).mono ?_; rintro e w2 ⟨⟨gb, R, rfl, i1, i2, i3, i4⟩, hb⟩; have HB2 := hide (bl_on HB1.out hb); have I1 := hide i1; have I2 := hide i2; have I3 := hide (And.intro i3 i4); clear hb i1 i2 i3 i4)
    | (go_at_call 68; refine (ptThrough_any _ _ _ _ _ _ _).mono ?_; rintro e w3 ⟨rfl, rfl⟩))
  go_ret
  have s1 := HB1.out.size
  have s2 := HB2.out.size
  exact ⟨⟨_, gb, R, rfl, PtAt.new _ _ _ _ _ _ _, I1.out.below (bl_new _), (I2.out.below (bl_new _)).mono s1, s2, Nat.le_trans s1 I3.out.1, Nat.le_trans s1 I3.out.2⟩, bl_on HB2.out (bl_new _)⟩
theorem all_bad (ba : Option Addr) (bl bc : Nat) (box : List Int) (ra : Option Addr) (rl rc : Nat) (rs : List (List Int × Int)) (w : World) (h : Ints w ba bl box) (hr : Rws w ra rl rs) (hE : ptE box rs ≠ 0) :
    Calls Try.prog 35 #[.agg #[.slice ba bl bc, .slice ra rl rc]] w fun e w' => e = .returned (.func (.func 67) #[] #[]) ∧ Below w.heap.size w w' := by
  have B1 : Below w.heap.size w (w.alloc (.cells #[.slice ba bl bc, .slice ra rl rc] 64)) := bl_new _
  have HW := hide (ptWrong_any ba bl bc box ra rl rc rs _ (h.below B1) (hr.below B1))
  have HB := hide B1
  have c2 : (ptE box rs != 0) = true := by simpa using hE
  clear h hr B1 hE
  go_enter Try.func35, Try.ntmps35
  go_wp2_with (go_at_call 66; refine HW.out.mono ?_; rintro e w1 ⟨rfl, hb⟩; have HB1 := hide (bl_on HB.out hb); clear hb)
  go_ret
  exact ⟨rfl, HB1.out⟩
end Go.Proofs.Ytoidgdbgpbcebaa.V
