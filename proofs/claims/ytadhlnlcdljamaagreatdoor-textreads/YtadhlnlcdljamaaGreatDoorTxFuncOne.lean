/-
  Nine cells in memory: a function. The reader: the closure of function.
-/
import Derived.Test.YtadhlnlcdljamaaGreatDoorTxGiven
namespace Go.Proofs.YtadhlnlcdljamaaGreatDoor.V
set_option maxRecDepth 20000
set_option linter.unusedVariables false
open Go.RowKit

/-- A function's cells. -/
def NinAt (w : World) (b : Nat) (c0 c1 c2 c3 c4 c5 c6 c7 c8 : Value) : Prop := w.heap[b]? = some (.cells #[c0, c1, c2, c3, c4, c5, c6, c7, c8] 49 (0, 0))
section
variable {w w' : World} {b : Nat} {c0 c1 c2 c3 c4 c5 c6 c7 c8 : Value}
theorem NinAt.lt (h : NinAt w b c0 c1 c2 c3 c4 c5 c6 c7 c8) : b < w.heap.size := (Array.getElem?_eq_some_iff.1 h).1
theorem NinAt.below (h : NinAt w b c0 c1 c2 c3 c4 c5 c6 c7 c8) (hb : Below w.heap.size w w') : NinAt w' b c0 c1 c2 c3 c4 c5 c6 c7 c8 := (hb.block b h.lt).trans h
theorem NinAt.grown {row : Option Nat} (h : NinAt w b c0 c1 c2 c3 c4 c5 c6 c7 c8) (hg : w.grownBy w' row) (hne : some b ≠ row) : NinAt w' b c0 c1 c2 c3 c4 c5 c6 c7 c8 := (hg.block b h.lt hne).trans h
theorem NinAt.alloc (h : NinAt w b c0 c1 c2 c3 c4 c5 c6 c7 c8) (o : Obj) : NinAt (w.alloc o) b c0 c1 c2 c3 c4 c5 c6 c7 c8 := (Below.heap_alloc _ _ _ h.lt).trans h
theorem NinAt.new (w : World) (c0 c1 c2 c3 c4 c5 c6 c7 c8 : Value) : NinAt (w.alloc (.cells #[c0, c1, c2, c3, c4, c5, c6, c7, c8] 49)) w.heap.size c0 c1 c2 c3 c4 c5 c6 c7 c8 := World.alloc_heap_new w _
theorem NinAt.cells (h : NinAt w b c0 c1 c2 c3 c4 c5 c6 c7 c8) : w.cell? ⟨b, 0, none⟩ = some c0 ∧ w.cell? ⟨b, 1, none⟩ = some c1 ∧ w.cell? ⟨b, 2, none⟩ = some c2 ∧ w.cell? ⟨b, 3, none⟩ = some c3 ∧ w.cell? ⟨b, 4, none⟩ = some c4 ∧ w.cell? ⟨b, 5, none⟩ = some c5 ∧ w.cell? ⟨b, 6, none⟩ = some c6 ∧ w.cell? ⟨b, 7, none⟩ = some c7 ∧ w.cell? ⟨b, 8, none⟩ = some c8 := by
  unfold NinAt at h
  refine ⟨?_, ?_, ?_, ?_, ?_, ?_, ?_, ?_, ?_⟩ <;> simp [World.cell?, h]
theorem NinAt.frozen (h : NinAt w b c0 c1 c2 c3 c4 c5 c6 c7 c8) (k : Nat) : w.frozen? ⟨b, k, none⟩ = false := by
  unfold NinAt at h
  simp [World.frozen?, h]
theorem NinAt.put (h : NinAt w b c0 c1 c2 c3 c4 c5 c6 c7 c8) (d0 d1 d2 d3 d4 d5 d6 d7 d8 : Value) : NinAt (((((((((w.setCell ⟨b, 0, none⟩ d0).setCell ⟨b, 1, none⟩ d1).setCell ⟨b, 2, none⟩ d2).setCell ⟨b, 3, none⟩ d3).setCell ⟨b, 4, none⟩ d4).setCell ⟨b, 5, none⟩ d5).setCell ⟨b, 6, none⟩ d6).setCell ⟨b, 7, none⟩ d7).setCell ⟨b, 8, none⟩ d8) b d0 d1 d2 d3 d4 d5 d6 d7 d8 := by
  unfold NinAt at *
  simp [World.setCell, Array.getElem?_modify, h]
theorem NinAt.out (w : World) (b : Nat) (d0 d1 d2 d3 d4 d5 d6 d7 d8 : Value) : w.grownBy (((((((((w.setCell ⟨b, 0, none⟩ d0).setCell ⟨b, 1, none⟩ d1).setCell ⟨b, 2, none⟩ d2).setCell ⟨b, 3, none⟩ d3).setCell ⟨b, 4, none⟩ d4).setCell ⟨b, 5, none⟩ d5).setCell ⟨b, 6, none⟩ d6).setCell ⟨b, 7, none⟩ d7).setCell ⟨b, 8, none⟩ d8) (some b) :=
  ((((((((set_out w b 0 d0).then' (set_out _ b 1 d1)).then' (set_out _ b 2 d2)).then' (set_out _ b 3 d3)).then' (set_out _ b 4 d4)).then' (set_out _ b 5 d5)).then' (set_out _ b 6 d6)).then' (set_out _ b 7 d7)).then' (set_out _ b 8 d8)
theorem NinAt.set1 (h : NinAt w b c0 c1 c2 c3 c4 c5 c6 c7 c8) (d : Value) : NinAt (w.setCell ⟨b, 1, none⟩ d) b c0 d c2 c3 c4 c5 c6 c7 c8 := by
  unfold NinAt at *
  simp [World.setCell, Array.getElem?_modify, h]
theorem NinAt.body (h : NinAt w b c0 c1 c2 c3 c4 c5 c6 c7 c8) (d0 d1 d2 d3 d4 d5 d6 : Value) : NinAt (((((((w.setCell ⟨b, 2, none⟩ d0).setCell ⟨b, 3, none⟩ d1).setCell ⟨b, 4, none⟩ d2).setCell ⟨b, 5, none⟩ d3).setCell ⟨b, 6, none⟩ d4).setCell ⟨b, 7, none⟩ d5).setCell ⟨b, 8, none⟩ d6) b c0 c1 d0 d1 d2 d3 d4 d5 d6 := by
  unfold NinAt at *
  simp [World.setCell, Array.getElem?_modify, h]
theorem NinAt.body_out (w : World) (b : Nat) (d0 d1 d2 d3 d4 d5 d6 : Value) : w.grownBy (((((((w.setCell ⟨b, 2, none⟩ d0).setCell ⟨b, 3, none⟩ d1).setCell ⟨b, 4, none⟩ d2).setCell ⟨b, 5, none⟩ d3).setCell ⟨b, 6, none⟩ d4).setCell ⟨b, 7, none⟩ d5).setCell ⟨b, 8, none⟩ d6) (some b) :=
  ((((((set_out w b 2 d0).then' (set_out _ b 3 d1)).then' (set_out _ b 4 d2)).then' (set_out _ b 5 d3)).then' (set_out _ b 6 d4)).then' (set_out _ b 7 d5)).then' (set_out _ b 8 d6)
end
abbrev z9 : Array Value := #[.string ⟨#[]⟩, .slice none 0 0, .int .i64 0, .string ⟨#[]⟩, .int .i64 0, .bool false, .slice none 0 0, .slice none 0 0, .slice none 0 0]
abbrev NinG (w : World) (b : Nat) (nm : ByteArray) (vg : Value) : Prop := NinAt w b (.string nm) vg (.int .i64 0) (.string ⟨#[]⟩) (.int .i64 0) (.bool false) (.slice none 0 0) (.slice none 0 0) (.slice none 0 0)
theorem givenInfo : (Tryz.prog.info? 54).map (fun i => (i.zero, i.size, i.bytes)) = some (some (.agg #[.string ⟨#[]⟩, .slice none 0 0]), 2, 40) := by kernel_rfl
/-- A function whose parameters are being read: it lies at T, what its parameters have from M on. -/
structure FuncAt (R b1 D T M : Nat) (nm : ByteArray) (W : World) (gs : List (ByteArray × List (ByteArray × Int))) : Prop where
  r : OneAt 59 W b1 (.pointer (some ⟨R, 0, none⟩))
  z : NinG W D ⟨#[]⟩ (.slice none 0 0)
  s : M ≤ W.heap.size
  k : ∃ vg, NinG W T nm vg ∧ GrowV GivenV 54 2 W M (past M) gs vg
theorem FuncAt.grown {R b1 D T M : Nat} {nm : ByteArray} {W W' : World} {gs : List (ByteArray × List (ByteArray × Int))} (h : FuncAt R b1 D T M nm W gs) (hg : W.grownBy W' (some R)) (h1 : R < b1) (h3 : R < D) (h4 : R < T) (h5 : T < M) : FuncAt R b1 D T M nm W' gs := by
  obtain ⟨r, z, s, vg, k1, k4⟩ := h
  refine ⟨r.grown hg (by simp; omega), z.grown hg (by simp; omega), Nat.le_trans s hg.size, vg, k1.grown hg (by simp; omega), ?_⟩
  refine GrowV.kept GivenV.stays k4 hg (.inr ?_) (fun b hb _ => by have : M ≤ b := hb; simp; omega)
  obtain ⟨cs, h5, _⟩ := k4
  exact own_ne h5 (by omega)
theorem func_snoc {X : Tks} {R G c b1 D T M : Nat} {nm : ByteArray} {vg : Value} {w0 Wb w6 : World} {j' : Nat} {gs : List (ByteArray × List (ByteArray × Int))} {a : ByteArray × List (ByteArray × Int)} {cs : List Value} {A : Option Addr} {m n : Nat} {g cap : Nat}
    (h1 : R < b1) (h3 : R < D) (h4 : R < T) (h5 : b1 < T) (h7 : D < T) (h8 : w0.heap.size ≤ T) (h9 : G < T) (h10 : T < M)
    (hr : RdAt X R G c Wb j') (hg : w0.grownBy Wb (some R)) (jr : OneAt 59 Wb b1 (.pointer (some ⟨R, 0, none⟩))) (jz : NinG Wb D ⟨#[]⟩ (.slice none 0 0)) (js : M ≤ Wb.heap.size)
    (jt : NinG Wb T nm vg) (jo : Wb.ownsRow M 54 2 vg gs.length cs) (jv : RowsV (GivenV Wb fun b => past M b ∧ some b ≠ vg.ownBlock) gs cs) (jn : SliceV DimV Wb (fun b => past M b ∧ some b ≠ vg.ownBlock) a.2 (.slice A n m))
    (hgr : Wb.grownBy w6 vg.ownBlock) (hat : vg.ownBlock = some g ∨ g = Wb.heap.size) (ho : w6.ownsRow M 54 2 (.slice (some ⟨g, 0, none⟩) (gs.length + 1) cap) (gs.length + 1) (cs ++ [.string a.1, .slice A n m])) :
    w0.grownBy (w6.setCell ⟨T, 1, none⟩ (.slice (some ⟨g, 0, none⟩) (gs.length + 1) cap)) (some R) ∧ RdAt X R G c (w6.setCell ⟨T, 1, none⟩ (.slice (some ⟨g, 0, none⟩) (gs.length + 1) cap)) j' ∧
      FuncAt R b1 D T M nm (w6.setCell ⟨T, 1, none⟩ (.slice (some ⟨g, 0, none⟩) (gs.length + 1) cap)) (gs ++ [a]) := by
  have hlow : ∀ x, x < M → some x ≠ vg.ownBlock := fun x hx e => by have := (jo.lt x e.symm).1; omega
  have hgM : M ≤ g := (ho.lt g rfl).1
  have hS := set_out w6 T 1 (.slice (some ⟨g, 0, none⟩) (gs.length + 1) cap)
  have hG := GrowV.snoc (a := a) (cs' := [.string a.1, .slice A n m]) (v' := .slice (some ⟨g, 0, none⟩) (gs.length + 1) cap) GivenV.stays jv ⟨_, rfl, jn⟩ hgr (hat.elim (fun e => .inl e.symm) (fun e => .inr (by rw [e]; rfl))) ho
  refine ⟨(hg.onto hgr (fun x e => by have := (jo.lt x e).1; omega)).onto hS (fun x e => by cases e; omega), (hr.grown hgr (hlow R (by omega)) (hlow G (by omega))).grown hS (by simp; omega) (by simp; omega), ?_⟩
  exact ⟨(jr.grown hgr (hlow b1 (by omega))).grown hS (by simp; omega), (jz.grown hgr (hlow D (by omega))).grown hS (by simp; omega), Nat.le_trans (Nat.le_trans js hgr.size) hS.size, _, (jt.grown hgr (hlow T (by omega))).set1 _, GrowV.kept GivenV.stays hG hS (.inr (by simp [Value.ownBlock]; omega)) (fun b hb _ => by have : M ≤ b := hb; simp; omega)⟩

set_option maxRecDepth 100000 in
set_option maxHeartbeats 4000000 in
theorem tFuncOne {X : Tks} {R G c b1 D T M : Nat} {nm : ByteArray} {w0 w : World} {j : Nat} {gs : List (ByteArray × List (ByteArray × Int))} (ok : X.Ok)
    (h1 : R < b1) (h3 : R < D) (h4 : R < T) (h5 : b1 < T) (h7 : D < T) (h8 : w0.heap.size ≤ T) (h9 : G < T) (h10 : T < M)
    (h : RdAt X R G c w j) (hg : w0.grownBy w (some R)) (hJ : FuncAt R b1 D T M nm w gs) (hn : gs.length ≤ j) :
    Calls Tryz.prog 41 #[.pointer (some ⟨T, 0, none⟩), .pointer (some ⟨b1, 0, none⟩)] w (OneP X R G c w0 (FuncAt R b1 D T M nm) gs (givenS X j)) := by
  obtain ⟨i0, hi, hz0, hz1, hz2⟩ := info_parts givenInfo
  have HI := hide hi
  have HI0 := hide hz0
  have HI1 := hide hz1
  have HI2 := hide hz2
  have HOK := hide ok
  have HG := hide hg
  have HR := hide h
  have HJ := hide hJ
  have hjl := h.le
  have hxl := h.len
  obtain ⟨vg, hk1, hk2⟩ := hJ.k
  obtain ⟨A5, c5, rfl⟩ : ∃ A5 c5, vg = .slice A5 gs.length c5 := GrowV.form hk2
  have q1 := hJ.r.cells.1
  have q2 := hk1.cells.2.1
  have HT := hide hk1
  have HK := hide hk2
  clear h hg hJ ok hk1 hk2 hi hz0 hz1 hz2
  cases hl : givenS X j with
  | bad Te k =>
    go_enter Tryz.func41, Tryz.ntmps41
    refine wp_region_held_drew (S := fun w' => w'.cell? ⟨b1, 0, none⟩ = some (.pointer (some ⟨R, 0, none⟩)) ∧ w'.cell? ⟨T, 1, none⟩ = some (.slice A5 gs.length c5)) (by kernel_rfl) ⟨q1, q2⟩ (fun hHeld => ?_)
    show wpAnyH _ _ _ _ _ _ _ _ _
    refine wpAnyH_take (i := 0) (v := ?zv1) rfl (by kernel_rfl) (by kernel_rfl) (by kernel_rfl) (fun _ _ _ h => h) (Or.inl ⟨by kernel_rfl, ?zy1⟩) (by assumption) ?_
    case zy1 => (intro wz hSw; (try dsimp only at hSw); go_simp; try with_reducible rfl)
    try simp only [Act.put, List.setIfInBounds_toArray]
    refine wpAnyH_take (i := 1) (v := ?zv2) rfl (by kernel_rfl) (by kernel_rfl) (by kernel_rfl) (fun _ _ _ h => h) (Or.inl ⟨by kernel_rfl, ?zy2⟩) (by assumption) ?_
    case zy2 => (intro wz hSw; (try dsimp only at hSw); go_simp; try with_reducible rfl)
    try simp only [Act.put]
    refine wpAnyH_take (i := 2) (v := ?zv3) rfl (by kernel_rfl) (by kernel_rfl) (by kernel_rfl) (fun _ _ _ h => h) (Or.inl ⟨by kernel_rfl, ?zy3⟩) (by assumption) ?_
    case zy3 => (intro wz hSw; (try dsimp only at hSw); go_simp; try with_reducible rfl)
    try simp only [Act.put]
    refine wpAnyH_ready (rs := [3]) (by kernel_rfl) (by simp) ?_
    refine AllReadyH.cons rfl (fun K hK => ?_) AllReadyH.nil
    go_simp
    refine (tGiven HOK.out (HR.out.grown (grown_drew _ none) (by simp) (by simp))).mono ?_
    rw [hl]
    unfold Parsed thrown faultV
    rintro e w6 ⟨hg6, rfl⟩
    exact ⟨rfl, (HG.out.then' (grown_drew _ _)).then' hg6, rfl⟩
  | ok a j' =>
    go_enter Tryz.func41, Tryz.ntmps41
    refine wp_region_lapse (S := fun w' => w'.cell? ⟨b1, 0, none⟩ = some (.pointer (some ⟨R, 0, none⟩)) ∧ w'.cell? ⟨T, 1, none⟩ = some (.slice A5 gs.length c5)) (late := [5, 6, 7]) (by kernel_rfl) ⟨q1, q2⟩ (fun hHeld => ?_)
    show wpAnyL _ _ _ _ _ _ _ _ _ _
    refine wpAnyL_take (i := 0) (n := 3) (v := ?zv4) rfl (by kernel_rfl) (by kernel_rfl) (by kernel_rfl) (by kernel_rfl) (by kernel_rfl) (fun _ _ _ h => h) (Or.inl ⟨by kernel_rfl, ?zy4⟩) (by assumption) ?_
    case zy4 => (intro wz hSw; (try dsimp only at hSw); go_simp; try with_reducible rfl)
    try simp only [Act.put, List.setIfInBounds_toArray]
    refine wpAnyL_take (i := 1) (n := 3) (v := ?zv5) rfl (by kernel_rfl) (by kernel_rfl) (by kernel_rfl) (by kernel_rfl) (by kernel_rfl) (fun _ _ _ h => h) (Or.inl ⟨by kernel_rfl, ?zy5⟩) (by assumption) ?_
    case zy5 => (intro wz hSw; (try dsimp only at hSw); go_simp; try with_reducible rfl)
    try simp only [Act.put]
    refine wpAnyL_take (i := 2) (n := 3) (v := ?zv6) rfl (by kernel_rfl) (by kernel_rfl) (by kernel_rfl) (by kernel_rfl) (by kernel_rfl) (fun _ _ _ h => h) (Or.inl ⟨by kernel_rfl, ?zy6⟩) (by assumption) ?_
    case zy6 => (intro wz hSw; (try dsimp only at hSw); go_simp; try with_reducible rfl)
    try simp only [Act.put]
    refine wpAnyL_next (i := 3) (by kernel_rfl) rfl (fun K hK => ?_)
    go_simp
    refine (tGiven HOK.out (HR.out.grown (grown_drew _ none) (by simp) (by simp))).mono ?_
    rw [hl]
    rintro e w5 ⟨hg5, hr5, v5, rfl, A6, c6, rfl, hv5⟩
    have HG5 := hide ((grown_drew w (some R)).then' hg5)
    have HR5 := hide hr5
    have HJ5 := hide (HJ.out.grown HG5.out (by omega) (by omega) (by omega) (by omega))
    have HT5 := hide (HT.out.grown HG5.out (by simp; omega))
    obtain ⟨cs, jo5, jv5⟩ := GrowV.kept GivenV.stays HK.out HG5.out (.inr (by obtain ⟨cs, ho, _⟩ := HK.out; exact own_ne ho (by omega))) (fun b hb _ => by have : M ≤ b := hb; simp; omega)
    have HO5 := hide jo5
    have HW5 := hide jv5
    have HV5 := hide (DimV.stays.slice_weaken (S' := fun b => past M b ∧ some b ≠ Value.ownBlock (.slice A5 gs.length c5)) hv5 (fun b _ hb => by
      have h11 : w.heap.size ≤ b := hb
      have h12 := HJ.out.s
      refine ⟨by unfold past; omega, fun e => ?_⟩
      obtain ⟨cs2, ho2, _⟩ := HK.out
      have := (ho2.lt b e.symm).2
      omega))
    clear hg5 hr5 hv5 jo5 jv5
    refine hK.out _ _ ⟨HJ5.out.r.cells.1, HT5.out.cells.2.1⟩ (fun hHeld2 => ?_)
    clear hK K
    try simp only [Act.put, List.setIfInBounds_toArray, List.set_cons_zero, List.set_cons_succ]
    refine wpAnyL_next (i := 4) (by kernel_rfl) rfl (fun K hK => ?_)
    go_simp
    refine hK.out _ _ ⟨(HJ5.out.r.alloc (.cells #[.string a.1, .slice A6 a.2.length c6] 54)).cells.1, (HT5.out.alloc (.cells #[.string a.1, .slice A6 a.2.length c6] 54)).cells.2.1⟩ (fun hHeld3 => ?_)
    clear hK K
    try simp only [Act.put, List.setIfInBounds_toArray, List.set_cons_zero, List.set_cons_succ]
    refine wpAnyL_late (i := 5) (by kernel_rfl) rfl (by kernel_rfl) (fun K hK => ?_)
    refine step_append_lies _ (by rfl) _ _ _ (by rfl) M 54 i0 _ 2 40 Tryz.underlying42 HI.out HI0.out HI1.out HI2.out rfl (by omega) _ _ _ (by rfl) (HO5.out.alloc (.cells #[.string a.1, .slice A6 a.2.length c6] 54)) ⟨w5.heap.size, 0, none⟩ 1 1 [.string a.1, .slice A6 a.2.length c6] (by rfl) (by rfl) (cells_new w5 [.string a.1, .slice A6 a.2.length c6] _) (by intro u hu; simp at hu; rcases hu with rfl | rfl <;> rfl) (by omega) (by unfold maxLen; omega) (by omega) (by have := HJ5.out.s; simp; omega) (w5.heap.size + 1) (by simp) ?_
    intro g cap w6 hown hgrow hat hlt
    refine hK.out _ _ ?_
    clear hK K
    try simp only [Act.put, List.setIfInBounds_toArray]
    refine wpAnyL_rest (by kernel_rfl) ?_
    have HQ := hide (func_snoc (a := a) h1 h3 h4 h5 h7 h8 h9 h10 (HR5.out.alloc (.cells #[.string a.1, .slice A6 a.2.length c6] 54)) ((HG.out.then' HG5.out).then' (World.grownBy_alloc w5 (.cells #[.string a.1, .slice A6 a.2.length c6] 54) _)) (HJ5.out.r.alloc _) (HJ5.out.z.alloc _) (by have := HJ5.out.s; simp; omega) (HT5.out.alloc _) (HO5.out.alloc _) (HW5.out.mono fun _ _ h => GivenV.stays.keep h (Keep.alloc w5 _)) (DimV.stays.slice HV5.out (Keep.alloc w5 _)) hgrow (by simpa using hat) hown)
    have HT6 := hide ((HT5.out.alloc (.cells #[.string a.1, .slice A6 a.2.length c6] 54)).grown hgrow (fun e => by have := (HO5.out.lt _ e.symm).1; omega))
    have y5 := HT6.out.cells.2.1
    have x5 := HT6.out.frozen 1
    clear hown hgrow hat
    refine wpAny_take (i := 6) (v := ?zv7) rfl (by kernel_rfl) (by kernel_rfl) (by kernel_rfl) (fun _ _ _ h => h) (Or.inl ⟨by rfl, ?zy7⟩) ?_
    case zy7 => (intro wz; go_simp; try with_reducible rfl)
    try simp only [Act.put]
    refine wpAny_ready (rs := [7]) (by kernel_rfl) (by simp) ?_
    refine AllReady.cons rfl (fun K hK => ?_) AllReady.nil
    go_simp
    refine hK _ _ ?_
    clear hK K
    refine wpAny_done (by kernel_rfl) ?_ _
    go_end0
    exact ⟨HQ.out.1, rfl, HQ.out.2⟩
end Go.Proofs.YtadhlnlcdljamaaGreatDoor.V
