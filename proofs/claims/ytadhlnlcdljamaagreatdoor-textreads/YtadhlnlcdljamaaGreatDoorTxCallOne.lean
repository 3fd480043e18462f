/-
  The reader: the closure of call.
-/
import Derived.Test.YtadhlnlcdljamaaGreatDoorTxNamed
import Derived.Deep.AppendLies
import Derived.Test.YtadhlnlcdljamaaGreatDoorLapse2
namespace Go.Proofs.YtadhlnlcdljamaaGreatDoor.V
set_option maxRecDepth 20000
set_option linter.unusedVariables false
open Go.RowKit

theorem treeInfo : (Tryz.prog.info? 47).map (fun i => (i.zero, i.size, i.bytes)) = some (some (.agg z7), 7, 112) := by kernel_rfl
/-- From this block on; behind one, ahead of another. -/
def past (M : Nat) : Nat → Prop := fun b => M ≤ b
def amid (T M : Nat) : Nat → Prop := fun b => T < b ∧ b < M
/-- A call that is being read: its tree lies at T, its kids from M on. -/
structure CallAt (R b1 b2 D T M : Nat) (L : Int) (nm : ByteArray) (sh : Bool) (ds : List (ByteArray × Int)) (ls : List (List Int)) (W : World) (us : List Tr) : Prop where
  r : OneAt 59 W b1 (.pointer (some ⟨R, 0, none⟩))
  l : OneAt 3 W b2 (.int .i64 L)
  z : SevZ W D
  s : M ≤ W.heap.size
  k : ∃ vs vl vk, SevAt W T (.int .i64 3) (.string nm) (.int .i64 0) (.bool sh) vs vl vk ∧ SliceV DimV W (amid T M) ds vs ∧ SliceV ListV W (amid T M) ls vl ∧ GrowV TreeV 47 7 W M (past M) us vk
theorem CallAt.grown {R b1 b2 D T M : Nat} {L : Int} {nm : ByteArray} {sh : Bool} {ds : List (ByteArray × Int)} {ls : List (List Int)} {W W' : World} {us : List Tr} (h : CallAt R b1 b2 D T M L nm sh ds ls W us) (hg : W.grownBy W' (some R)) (h1 : R < b1) (h2 : R < b2) (h3 : R < D) (h4 : R < T) (h5 : T < M) : CallAt R b1 b2 D T M L nm sh ds ls W' us := by
  obtain ⟨r, l, z, s, vs, vl, vk, k1, k2, k3, k4⟩ := h
  have hk : Keep (amid T M) W W' := Keep.of_grown hg (fun b hb _ => by have := hb.1; simp; omega)
  refine ⟨r.grown hg (by simp; omega), l.grown hg (by simp; omega), z.grown hg (by simp; omega), Nat.le_trans s hg.size, vs, vl, vk, k1.grown hg (by simp; omega), DimV.stays.slice k2 hk, ListV.stays.slice k3 hk, ?_⟩
  refine GrowV.kept TreeV.stays k4 hg (.inr ?_) (fun b hb _ => by have : M ≤ b := hb; simp; omega)
  obtain ⟨cs, h5, _⟩ := k4
  exact own_ne h5 (by omega)
theorem own_frozen {w : World} {B : Nat} {t : TypeId} {k g n cap : Nat} {xs : List Value} (h : w.ownsRow B t k (.slice (some ⟨g, 0, none⟩) n cap) n xs) (o : Nat) : w.frozen? ⟨g, o, none⟩ = false := by
  rcases h.2 with ⟨h1, _⟩ | ⟨g', cap', cur, h1, _, h2, _⟩
  · cases h1
  · cases h1
    simp [World.frozen?, h2]
theorem own_set {w : World} {B : Nat} {t : TypeId} {k g n cap : Nat} {xs : List Value} (h : w.ownsRow B t k (.slice (some ⟨g, 0, none⟩) n cap) n xs) (o : Nat) (c : Value) : (w.setCell ⟨g, o, none⟩ c).ownsRow B t k (.slice (some ⟨g, 0, none⟩) n cap) n (xs.set o c) := by
  have hl := h.1
  refine ⟨by rw [List.length_set]; exact hl, ?_⟩
  rcases h.2 with ⟨h1, _⟩ | ⟨g', cap', cur, h1, h3, h2, h4, h5, h6, h7⟩
  · cases h1
  · cases h1
    refine .inr ⟨g, cap, cur.setIfInBounds o c, rfl, h3, ?_, h4, h5, by simpa using h6, ?_⟩
    · simp [World.setCell, Array.getElem?_modify, h2]
    · rw [← h7, Array.toList_setIfInBounds, List.take_set]
theorem set_app (xs ys : List Value) (n j : Nat) (c : Value) (h : xs.length = n) : (xs ++ ys).set (n + j) c = xs ++ ys.set j c := by
  rw [List.set_append_right _ _ (by omega)]
  congr 2
  omega
/-- The last entry of a row of trees is put. -/
theorem own_put7 {w : World} {B : Nat} {t : TypeId} {g n cap : Nat} {xs : List Value} {c0 c1 c2 c3 c4 c5 c6 d0 d1 d2 d3 d4 d5 d6 : Value} (h : w.ownsRow B t 7 (.slice (some ⟨g, 0, none⟩) (n + 1) cap) (n + 1) (xs ++ [c0, c1, c2, c3, c4, c5, c6])) (hx : xs.length = n * 7) :
    (((((((w.setCell ⟨g, n * 7, none⟩ d0).setCell ⟨g, n * 7 + 1, none⟩ d1).setCell ⟨g, n * 7 + 2, none⟩ d2).setCell ⟨g, n * 7 + 3, none⟩ d3).setCell ⟨g, n * 7 + 4, none⟩ d4).setCell ⟨g, n * 7 + 5, none⟩ d5).setCell ⟨g, n * 7 + 6, none⟩ d6).ownsRow B t 7 (.slice (some ⟨g, 0, none⟩) (n + 1) cap) (n + 1) (xs ++ [d0, d1, d2, d3, d4, d5, d6]) := by
  have h7 := own_set (own_set (own_set (own_set (own_set (own_set (own_set h (n * 7 + 0) d0) (n * 7 + 1) d1) (n * 7 + 2) d2) (n * 7 + 3) d3) (n * 7 + 4) d4) (n * 7 + 5) d5) (n * 7 + 6) d6
  simp only [set_app xs _ (n * 7) _ _ hx] at h7
  exact h7
theorem put7_out (w : World) (g o : Nat) (d0 d1 d2 d3 d4 d5 d6 : Value) : w.grownBy (((((((w.setCell ⟨g, o, none⟩ d0).setCell ⟨g, o + 1, none⟩ d1).setCell ⟨g, o + 2, none⟩ d2).setCell ⟨g, o + 3, none⟩ d3).setCell ⟨g, o + 4, none⟩ d4).setCell ⟨g, o + 5, none⟩ d5).setCell ⟨g, o + 6, none⟩ d6) (some g) :=
  ((((((set_out w g o d0).then' (set_out _ g (o + 1) d1)).then' (set_out _ g (o + 2) d2)).then' (set_out _ g (o + 3) d3)).then' (set_out _ g (o + 4) d4)).then' (set_out _ g (o + 5) d5)).then' (set_out _ g (o + 6) d6)

theorem grown_two {a b c : World} {g T : Nat} (h : a.grownBy b (some g)) (k : b.grownBy c (some T)) (x : Nat) (hx : x < a.heap.size) (h1 : x ≠ g) (h2 : x ≠ T) : c.heap[x]? = a.heap[x]? :=
  (k.block x (Nat.lt_of_lt_of_le hx h.size) (by simpa using h2)).trans (h.block x hx (by simpa using h1))
/-- One more kid stands in its row. -/
theorem callOne_end {X : Tks} {R G c b1 b2 D T M : Nat} {L : Int} {nm : ByteArray} {sh : Bool} {ds : List (ByteArray × Int)} {ls : List (List Int)} {w0 Wb w6 wZ : World} {j' : Nat} {us : List Tr} {t : Tr} {vs vl vk : Value} {cs vals : List Value} {g cap : Nat}
    (h1 : R < b1) (h2 : R < b2) (h3 : R < D) (h4 : R < T) (h5 : b1 < T) (h6 : b2 < T) (h7 : D < T) (h8 : w0.heap.size ≤ T) (h9 : G < T) (h10 : T < M)
    (hr : RdAt X R G c Wb j') (hg : w0.grownBy Wb (some R)) (jr : OneAt 59 Wb b1 (.pointer (some ⟨R, 0, none⟩))) (jl : OneAt 3 Wb b2 (.int .i64 L)) (jz : SevZ Wb D) (js : M ≤ Wb.heap.size)
    (jd : SliceV DimV Wb (amid T M) ds vs) (jls : SliceV ListV Wb (amid T M) ls vl) (jo : Wb.ownsRow M 47 7 vk us.length cs) (jv : RowsV (TreeV Wb fun b => past M b ∧ some b ≠ vk.ownBlock) us cs) (jt : TreeV Wb (fun b => past M b ∧ some b ≠ vk.ownBlock) t vals)
    (hgr : Wb.grownBy w6 vk.ownBlock) (hat : vk.ownBlock = some g ∨ g = Wb.heap.size) (hsz : w6.heap.size ≤ wZ.heap.size) (hos : wZ.os = w6.os) (hta : wZ.tape = w6.tape) (hou : wZ.output = w6.output) (hkeep : ∀ x, x < w6.heap.size → x ≠ g → x ≠ T → wZ.heap[x]? = w6.heap[x]?)
    (ho : wZ.ownsRow M 47 7 (.slice (some ⟨g, 0, none⟩) (us.length + 1) cap) (us.length + 1) (cs ++ vals)) (hT : SevAt wZ T (.int .i64 3) (.string nm) (.int .i64 0) (.bool sh) vs vl (.slice (some ⟨g, 0, none⟩) (us.length + 1) cap)) :
    w0.grownBy wZ (some R) ∧ RdAt X R G c wZ j' ∧ CallAt R b1 b2 D T M L nm sh ds ls wZ (us ++ [t]) := by
  have hgM : M ≤ g := (ho.lt g rfl).1
  have hall : ∀ x, x < Wb.heap.size → some x ≠ vk.ownBlock → x ≠ T → wZ.heap[x]? = Wb.heap[x]? := fun x hx h1 h2 => by
    have hxg : x ≠ g := by
      rcases hat with e | e
      · intro e2; rw [e2] at h1; exact h1 e.symm
      · omega
    exact (hkeep x (Nat.lt_of_lt_of_le hx hgr.size) hxg h2).trans (hgr.block x hx h1)
  have hlow : ∀ x, x < M → some x ≠ vk.ownBlock := fun x hx e => by have := (jo.lt x e.symm).1; omega
  have hs2 : Wb.heap.size ≤ wZ.heap.size := Nat.le_trans hgr.size hsz
  have hgZ : ∀ row : Option Nat, ∀ P : Prop, (∀ x, x < Wb.heap.size → some x ≠ row → P → True) → True := fun _ _ _ => trivial
  clear hgZ
  have hk1 : Keep (amid T M) Wb wZ := ⟨hs2, fun x hx hl => hall x hl (hlow x hx.2) (by have := hx.1; omega)⟩
  have hk2 : Keep (fun b => past M b ∧ some b ≠ vk.ownBlock ∧ b ≠ g) Wb wZ := ⟨hs2, fun x hx hl => hall x hl hx.2.1 (by have : M ≤ x := hx.1; omega)⟩
  have hlt : T < Wb.heap.size := by omega
  refine ⟨⟨(hos.trans hgr.os).trans hg.os, (hta.trans hgr.tape).trans hg.tape, (hou.trans hgr.output).trans hg.output, Nat.le_trans hg.size hs2, fun x hx hne => ?_⟩, ?_, (hall b1 (by omega) (hlow b1 (by omega)) (by omega)).trans jr, (hall b2 (by omega) (hlow b2 (by omega)) (by omega)).trans jl, (hall D (by omega) (hlow D (by omega)) (by omega)).trans jz, by omega, vs, vl, _, hT, DimV.stays.slice jd hk1, ListV.stays.slice jls hk1, cs ++ vals, by rw [List.length_append]; exact ho, ?_⟩
  · exact (hall x (by have := hg.size; omega) (hlow x (by omega)) (by omega)).trans (hg.block x hx hne)
  · have e1 := hall R (by omega) (hlow R (by omega)) (by omega)
    have e2 := hall G (by omega) (hlow G (by omega)) (by omega)
    exact ⟨by omega, hr.ne, hr.len, hr.le, hr.cap, e1.trans hr.two, fun x hx => ⟨(World.cell?_of_block (a := ⟨G, x * 2, none⟩) e2).trans (hr.toks x hx).1, (World.cell?_of_block (a := ⟨G, x * 2 + 1, none⟩) e2).trans (hr.toks x hx).2⟩⟩
  · have hw : ∀ b, b < Wb.heap.size → (past M b ∧ some b ≠ vk.ownBlock) → past M b ∧ some b ≠ vk.ownBlock ∧ b ≠ g := fun b hb hh => ⟨hh.1, hh.2, by
      rcases hat with e | e
      · intro e2; rw [e2] at hh; exact hh.2 e.symm
      · omega⟩
    have f : ∀ a c, TreeV Wb (fun b => past M b ∧ some b ≠ vk.ownBlock) a c → TreeV wZ (fun b => past M b ∧ some b ≠ Value.ownBlock (.slice (some ⟨g, 0, none⟩) (us.length + 1) cap)) a c := fun a c h => TreeV.stays.weaken (TreeV.stays.keep (TreeV.stays.weaken h hw) hk2) fun b _ hh => ⟨hh.1, by simpa [Value.ownBlock] using hh.2.2⟩
    exact RowsV.snoc (f _ _ jt) (jv.mono f)

set_option maxRecDepth 100000 in
set_option maxHeartbeats 8000000 in
theorem tCallOne {X : Tks} {R G c b1 b2 D T M L : Nat} {nm : ByteArray} {sh : Bool} {ds : List (ByteArray × Int)} {ls : List (List Int)} {w0 w : World} {j : Nat} {us : List Tr} (r : Res Tr) (hL : L ≤ 64)
    (h1 : R < b1) (h2 : R < b2) (h3 : R < D) (h4 : R < T) (h5 : b1 < T) (h6 : b2 < T) (h7 : D < T) (h8 : w0.heap.size ≤ T) (h9 : G < T) (h10 : T < M)
    (h : RdAt X R G c w j) (hg : w0.grownBy w (some R)) (hJ : CallAt R b1 b2 D T M (L : Int) nm sh ds ls w us) (hn : us.length ≤ j)
    (hE : ∀ W, RdAt X R G c W j → Calls Tryz.prog 43 #[.pointer (some ⟨R, 0, none⟩), .int .i64 ((L : Int) + 1)] W (Parsed X R G c (repT W) r W)) :
    Calls Tryz.prog 90 #[.pointer (some ⟨T, 0, none⟩), .pointer (some ⟨b1, 0, none⟩), .pointer (some ⟨b2, 0, none⟩)] w (OneP X R G c w0 (CallAt R b1 b2 D T M (L : Int) nm sh ds ls) us r) := by
  obtain ⟨jr, jl, jz, jm, vs, vl, vk, jk, jd, js, jg⟩ := hJ
  obtain ⟨cs, jo, jv⟩ := jg
  obtain ⟨A, cp, rfl⟩ : ∃ A cp, vk = .slice A us.length cp := by
    rcases jo.2 with ⟨rfl, hz⟩ | ⟨g, cap, cur, rfl, _⟩
    · rw [hz]; exact ⟨_, _, rfl⟩
    · exact ⟨_, _, rfl⟩
  obtain ⟨i0, hi, hz0, hz1, hz2⟩ := info_parts treeInfo
  have HI := hide hi
  have HI0 := hide hz0
  have HI1 := hide hz1
  have HI2 := hide hz2
  have q1 := jr.cells.1
  have q2 := jl.cells.1
  have q3 := jk.cells.2.2.2.2.2.2
  have HG := hide hg
  have HR := hide h
  have HE : Hid (∀ W, RdAt X R G c W j → Calls Tryz.prog 43 #[.pointer (some ⟨R, 0, none⟩), .int .i64 (IntKind.i64.wrap ((L : Int) + 1))] W (Parsed X R G c (repT W) r W)) := by
    rw [Hid, wrap_in _ (by omega) (by omega)]; exact hE
  have HJR := hide jr
  have HJL := hide jl
  have HJZ := hide jz
  have HK := hide jk
  have HD := hide jd
  have HS := hide js
  have HO := hide jo
  have HV := hide jv
  have hTl := jk.lt
  have hjl := h.le
  have hxl := h.len
  have hcl := jo.1
  clear hE h hg jr jl jz jk jd js jo jv hi hz0 hz1 hz2
  cases r with
  | bad Te k =>
    go_enter Tryz.func90, Tryz.ntmps90
    refine wp_region_held_drew (S := fun w' => w'.cell? ⟨b1, 0, none⟩ = some (.pointer (some ⟨R, 0, none⟩)) ∧ w'.cell? ⟨b2, 0, none⟩ = some (.int .i64 (L : Int)) ∧ w'.cell? ⟨T, 6, none⟩ = some (.slice A us.length cp)) (by kernel_rfl) ⟨q1, q2, q3⟩ (fun hHeld => ?_)
    show wpAnyH _ _ _ _ _ _ _ _ _
    refine wpAnyH_take (i := 0) (v := ?zv0) rfl (by kernel_rfl) (by kernel_rfl) (by kernel_rfl) (fun _ _ _ h => h) (Or.inl ⟨by kernel_rfl, ?zy0⟩) (by assumption) ?_
    case zy0 => (intro wz hSw; (try dsimp only at hSw); go_simp; try with_reducible rfl)
    try simp only [Act.put, List.setIfInBounds_toArray]
    refine wpAnyH_take (i := 1) (v := ?zv1) rfl (by kernel_rfl) (by kernel_rfl) (by kernel_rfl) (fun _ _ _ h => h) (Or.inl ⟨by kernel_rfl, ?zy1⟩) (by assumption) ?_
    case zy1 => (intro wz hSw; (try dsimp only at hSw); go_simp; try with_reducible rfl)
    try simp only [Act.put]
    refine wpAnyH_take (i := 2) (v := ?zv2) rfl (by kernel_rfl) (by kernel_rfl) (by kernel_rfl) (fun _ _ _ h => h) (Or.inl ⟨by kernel_rfl, ?zy2⟩) (by assumption) ?_
    case zy2 => (intro wz hSw; (try dsimp only at hSw); go_simp; try with_reducible rfl)
    try simp only [Act.put]
    refine wpAnyH_take (i := 3) (v := ?zv3) rfl (by kernel_rfl) (by kernel_rfl) (by kernel_rfl) (fun _ _ _ h => h) (Or.inl ⟨by kernel_rfl, ?zy3⟩) (by assumption) ?_
    case zy3 => (intro wz hSw; (try dsimp only at hSw); go_simp; try with_reducible rfl)
    try simp only [Act.put]
    refine wpAnyH_take (i := 4) (v := ?zv4) rfl (by kernel_rfl) (by kernel_rfl) (by kernel_rfl) (fun _ _ _ h => h) (Or.inl ⟨by kernel_rfl, ?zy4⟩) (by assumption) ?_
    case zy4 => (intro wz hSw; (try dsimp only at hSw); go_simp; try with_reducible rfl)
    try simp only [Act.put]
    refine wpAnyH_take (i := 6) (v := ?zv6) rfl (by kernel_rfl) (by kernel_rfl) (by kernel_rfl) (fun _ _ _ h => h) (Or.inl ⟨by kernel_rfl, ?zy6⟩) (by assumption) ?_
    case zy6 => (intro wz hSw; (try dsimp only at hSw); go_simp; try with_reducible rfl)
    try simp only [Act.put]
    refine wpAnyH_ready (rs := [5, 7]) (by kernel_rfl) (by simp) ?_
    refine AllReadyH.cons rfl (fun K hK => ?_) ?_
    · go_simp
      refine (HE.out _ (HR.out.grown (grown_drew _ none) (by simp) (by simp))).mono ?_
      unfold Parsed thrown faultV
      rintro e w6 ⟨hg6, rfl⟩
      exact ⟨rfl, (HG.out.then' (grown_drew _ _)).then' hg6, rfl⟩
    refine AllReadyH.cons rfl (fun K hK => ?_) AllReadyH.nil
    go_simp
    refine hK.out _ _ ⟨(HJR.out.alloc (.cells z7 47)).cells.1, (HJL.out.alloc (.cells z7 47)).cells.1, (HK.out.alloc (.cells z7 47)).cells.2.2.2.2.2.2⟩ (fun hHeld2 => ?_)
    refine wpAnyH_ready (rs := [5]) (by kernel_rfl) (by simp) ?_
    refine AllReadyH.cons rfl (fun K hK => ?_) AllReadyH.nil
    go_simp
    refine (HE.out _ ((HR.out.alloc (.cells z7 47)).grown (grown_drew _ none) (by simp) (by simp))).mono ?_
    unfold Parsed thrown faultV
    rintro e w6 ⟨hg6, rfl⟩
    exact ⟨rfl, ((HG.out.then' (World.grownBy_alloc w (.cells z7 47) _)).then' (grown_drew _ _)).then' hg6, rfl⟩
  | ok t j' =>
    go_enter Tryz.func90, Tryz.ntmps90
    refine wp_region_lapse (S := fun w' => w'.cell? ⟨b1, 0, none⟩ = some (.pointer (some ⟨R, 0, none⟩)) ∧ w'.cell? ⟨b2, 0, none⟩ = some (.int .i64 (L : Int)) ∧ w'.cell? ⟨T, 6, none⟩ = some (.slice A us.length cp)) (late := [8, 9, 10, 11, 12]) (by kernel_rfl) ⟨q1, q2, q3⟩ (fun hHeld => ?_)
    show wpAnyL _ _ _ _ _ _ _ _ _ _
    refine wpAnyL_take (i := 0) (n := 1) (v := ?zv0) rfl (by kernel_rfl) (by kernel_rfl) (by kernel_rfl) (by kernel_rfl) (by kernel_rfl) (fun _ _ _ h => h) (Or.inl ⟨by kernel_rfl, ?zy0⟩) (by assumption) ?_
    case zy0 => (intro wz hSw; (try dsimp only at hSw); go_simp; try with_reducible rfl)
    try simp only [Act.put, List.setIfInBounds_toArray]
    refine wpAnyL_take (i := 1) (n := 1) (v := ?zv1) rfl (by kernel_rfl) (by kernel_rfl) (by kernel_rfl) (by kernel_rfl) (by kernel_rfl) (fun _ _ _ h => h) (Or.inl ⟨by kernel_rfl, ?zy1⟩) (by assumption) ?_
    case zy1 => (intro wz hSw; (try dsimp only at hSw); go_simp; try with_reducible rfl)
    try simp only [Act.put]
    refine wpAnyL_take (i := 2) (n := 1) (v := ?zv2) rfl (by kernel_rfl) (by kernel_rfl) (by kernel_rfl) (by kernel_rfl) (by kernel_rfl) (fun _ _ _ h => h) (Or.inl ⟨by kernel_rfl, ?zy2⟩) (by assumption) ?_
    case zy2 => (intro wz hSw; (try dsimp only at hSw); go_simp; try with_reducible rfl)
    try simp only [Act.put]
    refine wpAnyL_take (i := 3) (n := 1) (v := ?zv3) rfl (by kernel_rfl) (by kernel_rfl) (by kernel_rfl) (by kernel_rfl) (by kernel_rfl) (fun _ _ _ h => h) (Or.inl ⟨by kernel_rfl, ?zy3⟩) (by assumption) ?_
    case zy3 => (intro wz hSw; (try dsimp only at hSw); go_simp; try with_reducible rfl)
    try simp only [Act.put]
    refine wpAnyL_take (i := 4) (n := 1) (v := ?zv4) rfl (by kernel_rfl) (by kernel_rfl) (by kernel_rfl) (by kernel_rfl) (by kernel_rfl) (fun _ _ _ h => h) (Or.inl ⟨by kernel_rfl, ?zy4⟩) (by assumption) ?_
    case zy4 => (intro wz hSw; (try dsimp only at hSw); go_simp; try with_reducible rfl)
    try simp only [Act.put]
    refine wpAnyL_take (i := 6) (n := 1) (v := ?zv6) rfl (by kernel_rfl) (by kernel_rfl) (by kernel_rfl) (by kernel_rfl) (by kernel_rfl) (fun _ _ _ h => h) (Or.inl ⟨by kernel_rfl, ?zy6⟩) (by assumption) ?_
    case zy6 => (intro wz hSw; (try dsimp only at hSw); go_simp; try with_reducible rfl)
    try simp only [Act.put]
    refine wpAnyL_two (i := 5) (k := 7) (by kernel_rfl) rfl rfl (fun K hK => ?_) (fun K hK => ?_)
    · go_simp
      refine (HE.out _ (HR.out.grown (grown_drew _ none) (by simp) (by simp))).mono ?_
      rintro e w5 ⟨hg5, hr5, v5, rfl, k, nm2, nu, sh2, B, n1, m1, B', n1', m1', B'', n1'', m1'', rfl, htr⟩
      have HG5 := hide ((grown_drew _ _ : w.grownBy w.drew (some R)).then' hg5)
      have hz5 := hg5.size
      have HR5 := hide hr5
      have HJR5 := hide (HJR.out.grown HG5.out (by simp; omega))
      have HJL5 := hide (HJL.out.grown HG5.out (by simp; omega))
      have HJZ5 := hide (HJZ.out.grown HG5.out (by simp; omega))
      have HK5 := hide (HK.out.grown HG5.out (by simp; omega))
      have HKA : Hid (Keep (amid T M) w w5) := Keep.of_grown HG5.out (fun b hb _ => by have := hb.1; simp; omega)
      have HD5 := hide (DimV.stays.slice HD.out HKA.out)
      have HS5 := hide (ListV.stays.slice HS.out HKA.out)
      have HO5 := hide (HO.out.kept HG5.out (.inr (own_ne HO.out (by omega))))
      have HV5 := hide (HV.out.mono fun _ _ h => TreeV.stays.keep h (Keep.of_grown HG5.out (fun b hb _ => by have : M ≤ b := hb.1; simp; omega)))
      have HT5 := hide (TreeV.stays.weaken (S' := fun b => past M b ∧ some b ≠ Value.ownBlock (.slice A us.length cp)) htr (fun b _ hb => by
          have h11 : (w.drew).heap.size ≤ b := hb
          have h12 : w.heap.size ≤ (w.drew).heap.size := (grown_drew _ _ : w.grownBy _ (some R)).size
          refine ⟨by unfold past; omega, fun e => ?_⟩
          have := (HO.out.lt b e.symm).2
          omega))
      clear hg5 hr5 htr
      refine hK.out _ _ ⟨HJR5.out.cells.1, HJL5.out.cells.1, HK5.out.cells.2.2.2.2.2.2⟩ (fun hHeld2 => ?_)
      clear hK K
      try simp only [Act.put, List.setIfInBounds_toArray, List.set_cons_zero, List.set_cons_succ]
      refine wpAnyL_next (i := 7) (by kernel_rfl) rfl (fun K hK => ?_)
      go_simp
      refine hK.out _ _ ⟨(HJR5.out.alloc (.cells z7 47)).cells.1, (HJL5.out.alloc (.cells z7 47)).cells.1, (HK5.out.alloc (.cells z7 47)).cells.2.2.2.2.2.2⟩ (fun hHeld3 => ?_)
      clear hK K
      try simp only [Act.put, List.setIfInBounds_toArray, List.set_cons_zero, List.set_cons_succ]
      refine wpAnyL_late (i := 8) (by kernel_rfl) rfl (by kernel_rfl) (fun K hK => ?_)
      refine step_append_lies _ (by rfl) _ _ _ (by rfl) M 47 i0 _ 7 112 Tryz.underlying45 HI.out HI0.out HI1.out HI2.out rfl (by omega) _ _ _ (by rfl) (HO5.out.alloc (.cells z7 47)) ⟨w5.heap.size, 0, none⟩ 1 1 [.int .i64 0, .string ⟨#[]⟩, .int .i64 0, .bool false, .slice none 0 0, .slice none 0 0, .slice none 0 0] (by rfl) (by rfl) (cells_new w5 [.int .i64 0, .string ⟨#[]⟩, .int .i64 0, .bool false, .slice none 0 0, .slice none 0 0, .slice none 0 0] _) (by intro u hu; simp at hu; rcases hu with rfl | rfl | rfl | rfl | rfl <;> rfl) (by omega) (by unfold maxLen; omega) (by omega) (by have := HG5.out.size; simp; omega) (w5.heap.size + 1) (by simp) ?_
      intro g cap w6 hown hgrow hat hlt
      refine hK.out _ _ ?_
      try simp only [Act.put, List.setIfInBounds_toArray]
      refine wpAnyL_rest (by kernel_rfl) ?_
      have hlu : ((us.length : Nat) : Int) < ((us.length : Nat) : Int) + 1 := by omega
      have HOW := hide hown
      have HGW := hide hgrow
      have HAT := hide hat
      have hgM : M ≤ g := (hown.lt g rfl).1
      have HK6 := hide ((HK5.out.alloc (.cells z7 47)).grown hgrow (fun e => by have := (HO.out.lt T e.symm).1; omega))
      have y0 : w6.cell? ⟨g, us.length * 7, none⟩ = some (.int .i64 0) := by have := hown.cellAt (us.length * 7 + 0) (by omega); rw [List.getElem?_append_right (by omega)] at this; simpa [hcl] using this
      have x0 := own_frozen hown (us.length * 7)
      have y1 : w6.cell? ⟨g, us.length * 7 + 1, none⟩ = some (.string ⟨#[]⟩) := by have := hown.cellAt (us.length * 7 + 1) (by omega); rw [List.getElem?_append_right (by omega)] at this; simpa [hcl] using this
      have x1 := own_frozen hown (us.length * 7 + 1)
      have y2 : w6.cell? ⟨g, us.length * 7 + 2, none⟩ = some (.int .i64 0) := by have := hown.cellAt (us.length * 7 + 2) (by omega); rw [List.getElem?_append_right (by omega)] at this; simpa [hcl] using this
      have x2 := own_frozen hown (us.length * 7 + 2)
      have y3 : w6.cell? ⟨g, us.length * 7 + 3, none⟩ = some (.bool false) := by have := hown.cellAt (us.length * 7 + 3) (by omega); rw [List.getElem?_append_right (by omega)] at this; simpa [hcl] using this
      have x3 := own_frozen hown (us.length * 7 + 3)
      have y4 : w6.cell? ⟨g, us.length * 7 + 4, none⟩ = some (.slice none 0 0) := by have := hown.cellAt (us.length * 7 + 4) (by omega); rw [List.getElem?_append_right (by omega)] at this; simpa [hcl] using this
      have x4 := own_frozen hown (us.length * 7 + 4)
      have y5 : w6.cell? ⟨g, us.length * 7 + 5, none⟩ = some (.slice none 0 0) := by have := hown.cellAt (us.length * 7 + 5) (by omega); rw [List.getElem?_append_right (by omega)] at this; simpa [hcl] using this
      have x5 := own_frozen hown (us.length * 7 + 5)
      have y6 : w6.cell? ⟨g, us.length * 7 + 6, none⟩ = some (.slice none 0 0) := by have := hown.cellAt (us.length * 7 + 6) (by omega); rw [List.getElem?_append_right (by omega)] at this; simpa [hcl] using this
      have x6 := own_frozen hown (us.length * 7 + 6)
      have yT := HK6.out.cells.2.2.2.2.2.2
      have xT := HK6.out.frozen.2.2.2.2.2.2
      have nT : ¬ g = T := by omega
      have nT2 : ¬ T = g := by omega
      clear hown hgrow hat
      refine wpAny_take (i := 9) (v := ?zv9_1) rfl (by kernel_rfl) (by kernel_rfl) (by kernel_rfl) (fun _ _ _ h => h) (Or.inl ⟨by rfl, ?zy9_1⟩) ?_
      case zy9_1 => (intro wz; go_simp; try with_reducible rfl)
      try simp only [Act.put]
      refine wpAny_take (i := 11) (v := ?zv11_2) rfl (by kernel_rfl) (by kernel_rfl) (by kernel_rfl) (fun _ _ _ h => h) (Or.inl ⟨by rfl, ?zy11_2⟩) ?_
      case zy11_2 => (intro wz; go_simp; try with_reducible rfl)
      try simp only [Act.put]
      refine wpAny_ready (rs := [10, 12]) (by kernel_rfl) (by simp) ?_
      refine AllReady.cons rfl (fun K hK => ?_) ?_
      · go_simp
        refine hK _ _ ?_
        clear hK K
        try simp only [Act.put, List.setIfInBounds_toArray, List.set_cons_zero, List.set_cons_succ]
        refine wpAny_ready (rs := [12]) (by kernel_rfl) (by simp) ?_
        refine AllReady.cons rfl (fun K hK => ?_) AllReady.nil
        go_simp
        refine hK _ _ ?_
        clear hK K
        refine wpAny_done (by kernel_rfl) ?_ _
        obtain ⟨wZ, hwZ⟩ : ∃ wZ, wZ = ((((((((w6.setCell ⟨g, us.length * 7, none⟩ (.int .i64 k)).setCell ⟨g, us.length * 7 + 1, none⟩ (.string nm2)).setCell ⟨g, us.length * 7 + 2, none⟩ (.int .i64 nu)).setCell ⟨g, us.length * 7 + 3, none⟩ (.bool sh2)).setCell ⟨g, us.length * 7 + 4, none⟩ (.slice B n1 m1)).setCell ⟨g, us.length * 7 + 5, none⟩ (.slice B' n1' m1')).setCell ⟨g, us.length * 7 + 6, none⟩ (.slice B'' n1'' m1'')).setCell ⟨T, 6, none⟩ (.slice (some ⟨g, 0, none⟩) (us.length + 1) cap)) := ⟨_, rfl⟩
        have z1 : wZ.ownsRow M 47 7 (.slice (some ⟨g, 0, none⟩) (us.length + 1) cap) (us.length + 1) (cs ++ [.int .i64 k, .string nm2, .int .i64 nu, .bool sh2, .slice B n1 m1, .slice B' n1' m1', .slice B'' n1'' m1'']) := by rw [hwZ]; exact (own_put7 (d0 := (.int .i64 k)) (d1 := (.string nm2)) (d2 := (.int .i64 nu)) (d3 := (.bool sh2)) (d4 := (.slice B n1 m1)) (d5 := (.slice B' n1' m1')) (d6 := (.slice B'' n1'' m1'')) HOW.out hcl).kept (set_out (((((((w6.setCell ⟨g, us.length * 7, none⟩ (.int .i64 k)).setCell ⟨g, us.length * 7 + 1, none⟩ (.string nm2)).setCell ⟨g, us.length * 7 + 2, none⟩ (.int .i64 nu)).setCell ⟨g, us.length * 7 + 3, none⟩ (.bool sh2)).setCell ⟨g, us.length * 7 + 4, none⟩ (.slice B n1 m1)).setCell ⟨g, us.length * 7 + 5, none⟩ (.slice B' n1' m1')).setCell ⟨g, us.length * 7 + 6, none⟩ (.slice B'' n1'' m1'')) T 6 (.slice (some ⟨g, 0, none⟩) (us.length + 1) cap)) (.inr (by simp [Value.ownBlock]; omega))
        have z2 : SevAt wZ T (.int .i64 3) (.string nm) (.int .i64 0) (.bool sh) vs vl (.slice (some ⟨g, 0, none⟩) (us.length + 1) cap) := by rw [hwZ]; exact (HK6.out.grown (put7_out w6 g (us.length * 7) (.int .i64 k) (.string nm2) (.int .i64 nu) (.bool sh2) (.slice B n1 m1) (.slice B' n1' m1') (.slice B'' n1'' m1'')) (by simp; omega)).set6 (.slice (some ⟨g, 0, none⟩) (us.length + 1) cap)
        have z3 : ∀ x, x < w6.heap.size → x ≠ g → x ≠ T → wZ.heap[x]? = w6.heap[x]? := by rw [hwZ]; exact fun x hx h1 h2 => grown_two (put7_out w6 g (us.length * 7) (.int .i64 k) (.string nm2) (.int .i64 nu) (.bool sh2) (.slice B n1 m1) (.slice B' n1' m1') (.slice B'' n1'' m1'')) (set_out (((((((w6.setCell ⟨g, us.length * 7, none⟩ (.int .i64 k)).setCell ⟨g, us.length * 7 + 1, none⟩ (.string nm2)).setCell ⟨g, us.length * 7 + 2, none⟩ (.int .i64 nu)).setCell ⟨g, us.length * 7 + 3, none⟩ (.bool sh2)).setCell ⟨g, us.length * 7 + 4, none⟩ (.slice B n1 m1)).setCell ⟨g, us.length * 7 + 5, none⟩ (.slice B' n1' m1')).setCell ⟨g, us.length * 7 + 6, none⟩ (.slice B'' n1'' m1'')) T 6 (.slice (some ⟨g, 0, none⟩) (us.length + 1) cap)) x hx h1 h2
        have z4 : wZ.os = w6.os ∧ wZ.tape = w6.tape ∧ wZ.output = w6.output := by rw [hwZ]; exact ⟨(set_out (((((((w6.setCell ⟨g, us.length * 7, none⟩ (.int .i64 k)).setCell ⟨g, us.length * 7 + 1, none⟩ (.string nm2)).setCell ⟨g, us.length * 7 + 2, none⟩ (.int .i64 nu)).setCell ⟨g, us.length * 7 + 3, none⟩ (.bool sh2)).setCell ⟨g, us.length * 7 + 4, none⟩ (.slice B n1 m1)).setCell ⟨g, us.length * 7 + 5, none⟩ (.slice B' n1' m1')).setCell ⟨g, us.length * 7 + 6, none⟩ (.slice B'' n1'' m1'')) T 6 (.slice (some ⟨g, 0, none⟩) (us.length + 1) cap)).os.trans (put7_out w6 g (us.length * 7) (.int .i64 k) (.string nm2) (.int .i64 nu) (.bool sh2) (.slice B n1 m1) (.slice B' n1' m1') (.slice B'' n1'' m1'')).os, (set_out (((((((w6.setCell ⟨g, us.length * 7, none⟩ (.int .i64 k)).setCell ⟨g, us.length * 7 + 1, none⟩ (.string nm2)).setCell ⟨g, us.length * 7 + 2, none⟩ (.int .i64 nu)).setCell ⟨g, us.length * 7 + 3, none⟩ (.bool sh2)).setCell ⟨g, us.length * 7 + 4, none⟩ (.slice B n1 m1)).setCell ⟨g, us.length * 7 + 5, none⟩ (.slice B' n1' m1')).setCell ⟨g, us.length * 7 + 6, none⟩ (.slice B'' n1'' m1'')) T 6 (.slice (some ⟨g, 0, none⟩) (us.length + 1) cap)).tape.trans (put7_out w6 g (us.length * 7) (.int .i64 k) (.string nm2) (.int .i64 nu) (.bool sh2) (.slice B n1 m1) (.slice B' n1' m1') (.slice B'' n1'' m1'')).tape, (set_out (((((((w6.setCell ⟨g, us.length * 7, none⟩ (.int .i64 k)).setCell ⟨g, us.length * 7 + 1, none⟩ (.string nm2)).setCell ⟨g, us.length * 7 + 2, none⟩ (.int .i64 nu)).setCell ⟨g, us.length * 7 + 3, none⟩ (.bool sh2)).setCell ⟨g, us.length * 7 + 4, none⟩ (.slice B n1 m1)).setCell ⟨g, us.length * 7 + 5, none⟩ (.slice B' n1' m1')).setCell ⟨g, us.length * 7 + 6, none⟩ (.slice B'' n1'' m1'')) T 6 (.slice (some ⟨g, 0, none⟩) (us.length + 1) cap)).output.trans (put7_out w6 g (us.length * 7) (.int .i64 k) (.string nm2) (.int .i64 nu) (.bool sh2) (.slice B n1 m1) (.slice B' n1' m1') (.slice B'' n1'' m1'')).output⟩
        have z5 : w6.heap.size ≤ wZ.heap.size := by rw [hwZ]; exact Nat.le_trans (put7_out w6 g (us.length * 7) (.int .i64 k) (.string nm2) (.int .i64 nu) (.bool sh2) (.slice B n1 m1) (.slice B' n1' m1') (.slice B'' n1'' m1'')).size (set_out (((((((w6.setCell ⟨g, us.length * 7, none⟩ (.int .i64 k)).setCell ⟨g, us.length * 7 + 1, none⟩ (.string nm2)).setCell ⟨g, us.length * 7 + 2, none⟩ (.int .i64 nu)).setCell ⟨g, us.length * 7 + 3, none⟩ (.bool sh2)).setCell ⟨g, us.length * 7 + 4, none⟩ (.slice B n1 m1)).setCell ⟨g, us.length * 7 + 5, none⟩ (.slice B' n1' m1')).setCell ⟨g, us.length * 7 + 6, none⟩ (.slice B'' n1'' m1'')) T 6 (.slice (some ⟨g, 0, none⟩) (us.length + 1) cap)).size
        rw [← hwZ]
        clear hwZ
        have HZ := hide (callOne_end (w6 := w6) (wZ := wZ) (Wb := (w5.alloc (.cells z7 47))) (t := t) (L := (L : Int)) h1 h2 h3 h4 h5 h6 h7 h8 h9 h10 (HR5.out.alloc (.cells z7 47)) ((HG.out.then' HG5.out).then' (World.grownBy_alloc w5 (.cells z7 47) _)) (HJR5.out.alloc (.cells z7 47)) (HJL5.out.alloc (.cells z7 47)) (HJZ5.out.alloc (.cells z7 47)) (by have := HG5.out.size; simp; omega) (DimV.stays.slice HD5.out (Keep.alloc w5 (.cells z7 47))) (ListV.stays.slice HS5.out (Keep.alloc w5 (.cells z7 47))) (HO5.out.alloc (.cells z7 47)) (HV5.out.mono fun _ _ h => TreeV.stays.keep h (Keep.alloc w5 (.cells z7 47))) (TreeV.stays.keep HT5.out (Keep.alloc w5 (.cells z7 47))) HGW.out (by simpa using HAT.out) z5 z4.1 z4.2.1 z4.2.2 z3 z1 z2)
        go_end0
        exact ⟨HZ.out.1, rfl, HZ.out.2⟩
      refine AllReady.cons rfl (fun K hK => ?_) AllReady.nil
      go_simp
      refine hK _ _ ?_
      clear hK K
      try simp only [Act.put, List.setIfInBounds_toArray, List.set_cons_zero, List.set_cons_succ]
      refine wpAny_ready (rs := [10]) (by kernel_rfl) (by simp) ?_
      refine AllReady.cons rfl (fun K hK => ?_) AllReady.nil
      go_simp
      refine hK _ _ ?_
      clear hK K
      refine wpAny_done (by kernel_rfl) ?_ _
      obtain ⟨wZ, hwZ⟩ : ∃ wZ, wZ = ((((((((w6.setCell ⟨T, 6, none⟩ (.slice (some ⟨g, 0, none⟩) (us.length + 1) cap)).setCell ⟨g, us.length * 7, none⟩ (.int .i64 k)).setCell ⟨g, us.length * 7 + 1, none⟩ (.string nm2)).setCell ⟨g, us.length * 7 + 2, none⟩ (.int .i64 nu)).setCell ⟨g, us.length * 7 + 3, none⟩ (.bool sh2)).setCell ⟨g, us.length * 7 + 4, none⟩ (.slice B n1 m1)).setCell ⟨g, us.length * 7 + 5, none⟩ (.slice B' n1' m1')).setCell ⟨g, us.length * 7 + 6, none⟩ (.slice B'' n1'' m1'')) := ⟨_, rfl⟩
      have z1 : wZ.ownsRow M 47 7 (.slice (some ⟨g, 0, none⟩) (us.length + 1) cap) (us.length + 1) (cs ++ [.int .i64 k, .string nm2, .int .i64 nu, .bool sh2, .slice B n1 m1, .slice B' n1' m1', .slice B'' n1'' m1'']) := by rw [hwZ]; exact own_put7 (d0 := (.int .i64 k)) (d1 := (.string nm2)) (d2 := (.int .i64 nu)) (d3 := (.bool sh2)) (d4 := (.slice B n1 m1)) (d5 := (.slice B' n1' m1')) (d6 := (.slice B'' n1'' m1'')) (HOW.out.kept (set_out w6 T 6 (.slice (some ⟨g, 0, none⟩) (us.length + 1) cap)) (.inr (by simp [Value.ownBlock]; omega))) hcl
      have z2 : SevAt wZ T (.int .i64 3) (.string nm) (.int .i64 0) (.bool sh) vs vl (.slice (some ⟨g, 0, none⟩) (us.length + 1) cap) := by rw [hwZ]; exact (HK6.out.set6 (.slice (some ⟨g, 0, none⟩) (us.length + 1) cap)).grown (put7_out (w6.setCell ⟨T, 6, none⟩ (.slice (some ⟨g, 0, none⟩) (us.length + 1) cap)) g (us.length * 7) (.int .i64 k) (.string nm2) (.int .i64 nu) (.bool sh2) (.slice B n1 m1) (.slice B' n1' m1') (.slice B'' n1'' m1'')) (by simp; omega)
      have z3 : ∀ x, x < w6.heap.size → x ≠ g → x ≠ T → wZ.heap[x]? = w6.heap[x]? := by rw [hwZ]; exact fun x hx h1 h2 => grown_two (set_out w6 T 6 (.slice (some ⟨g, 0, none⟩) (us.length + 1) cap)) (put7_out (w6.setCell ⟨T, 6, none⟩ (.slice (some ⟨g, 0, none⟩) (us.length + 1) cap)) g (us.length * 7) (.int .i64 k) (.string nm2) (.int .i64 nu) (.bool sh2) (.slice B n1 m1) (.slice B' n1' m1') (.slice B'' n1'' m1'')) x hx h2 h1
      have z4 : wZ.os = w6.os ∧ wZ.tape = w6.tape ∧ wZ.output = w6.output := by rw [hwZ]; exact ⟨(put7_out (w6.setCell ⟨T, 6, none⟩ (.slice (some ⟨g, 0, none⟩) (us.length + 1) cap)) g (us.length * 7) (.int .i64 k) (.string nm2) (.int .i64 nu) (.bool sh2) (.slice B n1 m1) (.slice B' n1' m1') (.slice B'' n1'' m1'')).os.trans (set_out w6 T 6 (.slice (some ⟨g, 0, none⟩) (us.length + 1) cap)).os, (put7_out (w6.setCell ⟨T, 6, none⟩ (.slice (some ⟨g, 0, none⟩) (us.length + 1) cap)) g (us.length * 7) (.int .i64 k) (.string nm2) (.int .i64 nu) (.bool sh2) (.slice B n1 m1) (.slice B' n1' m1') (.slice B'' n1'' m1'')).tape.trans (set_out w6 T 6 (.slice (some ⟨g, 0, none⟩) (us.length + 1) cap)).tape, (put7_out (w6.setCell ⟨T, 6, none⟩ (.slice (some ⟨g, 0, none⟩) (us.length + 1) cap)) g (us.length * 7) (.int .i64 k) (.string nm2) (.int .i64 nu) (.bool sh2) (.slice B n1 m1) (.slice B' n1' m1') (.slice B'' n1'' m1'')).output.trans (set_out w6 T 6 (.slice (some ⟨g, 0, none⟩) (us.length + 1) cap)).output⟩
      have z5 : w6.heap.size ≤ wZ.heap.size := by rw [hwZ]; exact Nat.le_trans (set_out w6 T 6 (.slice (some ⟨g, 0, none⟩) (us.length + 1) cap)).size (put7_out (w6.setCell ⟨T, 6, none⟩ (.slice (some ⟨g, 0, none⟩) (us.length + 1) cap)) g (us.length * 7) (.int .i64 k) (.string nm2) (.int .i64 nu) (.bool sh2) (.slice B n1 m1) (.slice B' n1' m1') (.slice B'' n1'' m1'')).size
      rw [← hwZ]
      clear hwZ
      have HZ := hide (callOne_end (w6 := w6) (wZ := wZ) (Wb := (w5.alloc (.cells z7 47))) (t := t) (L := (L : Int)) h1 h2 h3 h4 h5 h6 h7 h8 h9 h10 (HR5.out.alloc (.cells z7 47)) ((HG.out.then' HG5.out).then' (World.grownBy_alloc w5 (.cells z7 47) _)) (HJR5.out.alloc (.cells z7 47)) (HJL5.out.alloc (.cells z7 47)) (HJZ5.out.alloc (.cells z7 47)) (by have := HG5.out.size; simp; omega) (DimV.stays.slice HD5.out (Keep.alloc w5 (.cells z7 47))) (ListV.stays.slice HS5.out (Keep.alloc w5 (.cells z7 47))) (HO5.out.alloc (.cells z7 47)) (HV5.out.mono fun _ _ h => TreeV.stays.keep h (Keep.alloc w5 (.cells z7 47))) (TreeV.stays.keep HT5.out (Keep.alloc w5 (.cells z7 47))) HGW.out (by simpa using HAT.out) z5 z4.1 z4.2.1 z4.2.2 z3 z1 z2)
      go_end0
      exact ⟨HZ.out.1, rfl, HZ.out.2⟩
    · go_simp
      refine hK.out _ _ ⟨(HJR.out.alloc (.cells z7 47)).cells.1, (HJL.out.alloc (.cells z7 47)).cells.1, (HK.out.alloc (.cells z7 47)).cells.2.2.2.2.2.2⟩ (fun hHeld2 => ?_)
      clear hK K
      try simp only [Act.put, List.setIfInBounds_toArray, List.set_cons_zero, List.set_cons_succ]
      refine wpAnyL_next (i := 5) (by kernel_rfl) rfl (fun K hK => ?_)
      go_simp
      refine (HE.out _ ((HR.out.alloc (.cells z7 47)).grown (grown_drew _ none) (by simp) (by simp))).mono ?_
      rintro e w5 ⟨hg5, hr5, v5, rfl, k, nm2, nu, sh2, B, n1, m1, B', n1', m1', B'', n1'', m1'', rfl, htr⟩
      have HG5 := hide (((World.grownBy_alloc w (.cells z7 47) _).then' (grown_drew _ _) : w.grownBy (w.alloc (.cells z7 47)).drew (some R)).then' hg5)
      have hz5 := hg5.size
      have HR5 := hide hr5
      have HJR5 := hide (HJR.out.grown HG5.out (by simp; omega))
      have HJL5 := hide (HJL.out.grown HG5.out (by simp; omega))
      have HJZ5 := hide (HJZ.out.grown HG5.out (by simp; omega))
      have HK5 := hide (HK.out.grown HG5.out (by simp; omega))
      have HKA : Hid (Keep (amid T M) w w5) := Keep.of_grown HG5.out (fun b hb _ => by have := hb.1; simp; omega)
      have HD5 := hide (DimV.stays.slice HD.out HKA.out)
      have HS5 := hide (ListV.stays.slice HS.out HKA.out)
      have HO5 := hide (HO.out.kept HG5.out (.inr (own_ne HO.out (by omega))))
      have HV5 := hide (HV.out.mono fun _ _ h => TreeV.stays.keep h (Keep.of_grown HG5.out (fun b hb _ => by have : M ≤ b := hb.1; simp; omega)))
      have HT5 := hide (TreeV.stays.weaken (S' := fun b => past M b ∧ some b ≠ Value.ownBlock (.slice A us.length cp)) htr (fun b _ hb => by
          have h11 : ((w.alloc (.cells z7 47)).drew).heap.size ≤ b := hb
          have h12 : w.heap.size ≤ ((w.alloc (.cells z7 47)).drew).heap.size := ((World.grownBy_alloc w (.cells z7 47) _).then' (grown_drew _ _) : w.grownBy _ (some R)).size
          refine ⟨by unfold past; omega, fun e => ?_⟩
          have := (HO.out.lt b e.symm).2
          omega))
      have HN5 : Hid (w5.heap[w.heap.size]? = some (.cells z7 47 (0, 0))) := (hg5.block w.heap.size (by show w.heap.size < (w.alloc (.cells z7 47)).heap.size; simp) (by simp; omega)).trans (World.alloc_heap_new w (.cells z7 47))
      clear hg5 hr5 htr
      refine hK.out _ _ ⟨HJR5.out.cells.1, HJL5.out.cells.1, HK5.out.cells.2.2.2.2.2.2⟩ (fun hHeld3 => ?_)
      clear hK K
      try simp only [Act.put, List.setIfInBounds_toArray, List.set_cons_zero, List.set_cons_succ]
      refine wpAnyL_late (i := 8) (by kernel_rfl) rfl (by kernel_rfl) (fun K hK => ?_)
      refine step_append_lies _ (by rfl) _ _ _ (by rfl) M 47 i0 _ 7 112 Tryz.underlying45 HI.out HI0.out HI1.out HI2.out rfl (by omega) _ _ _ (by rfl) (HO5.out) ⟨w.heap.size, 0, none⟩ 1 1 [.int .i64 0, .string ⟨#[]⟩, .int .i64 0, .bool false, .slice none 0 0, .slice none 0 0, .slice none 0 0] (by rfl) (by rfl) (World.news_of_block (cs := z7) HN5.out) (by intro u hu; simp at hu; rcases hu with rfl | rfl | rfl | rfl | rfl <;> rfl) (by omega) (by unfold maxLen; omega) (by omega) (by have := HG5.out.size; omega) w5.heap.size rfl ?_
      intro g cap w6 hown hgrow hat hlt
      refine hK.out _ _ ?_
      try simp only [Act.put, List.setIfInBounds_toArray]
      refine wpAnyL_rest (by kernel_rfl) ?_
      have hlu : ((us.length : Nat) : Int) < ((us.length : Nat) : Int) + 1 := by omega
      have HOW := hide hown
      have HGW := hide hgrow
      have HAT := hide hat
      have hgM : M ≤ g := (hown.lt g rfl).1
      have HK6 := hide ((HK5.out).grown hgrow (fun e => by have := (HO.out.lt T e.symm).1; omega))
      have y0 : w6.cell? ⟨g, us.length * 7, none⟩ = some (.int .i64 0) := by have := hown.cellAt (us.length * 7 + 0) (by omega); rw [List.getElem?_append_right (by omega)] at this; simpa [hcl] using this
      have x0 := own_frozen hown (us.length * 7)
      have y1 : w6.cell? ⟨g, us.length * 7 + 1, none⟩ = some (.string ⟨#[]⟩) := by have := hown.cellAt (us.length * 7 + 1) (by omega); rw [List.getElem?_append_right (by omega)] at this; simpa [hcl] using this
      have x1 := own_frozen hown (us.length * 7 + 1)
      have y2 : w6.cell? ⟨g, us.length * 7 + 2, none⟩ = some (.int .i64 0) := by have := hown.cellAt (us.length * 7 + 2) (by omega); rw [List.getElem?_append_right (by omega)] at this; simpa [hcl] using this
      have x2 := own_frozen hown (us.length * 7 + 2)
      have y3 : w6.cell? ⟨g, us.length * 7 + 3, none⟩ = some (.bool false) := by have := hown.cellAt (us.length * 7 + 3) (by omega); rw [List.getElem?_append_right (by omega)] at this; simpa [hcl] using this
      have x3 := own_frozen hown (us.length * 7 + 3)
      have y4 : w6.cell? ⟨g, us.length * 7 + 4, none⟩ = some (.slice none 0 0) := by have := hown.cellAt (us.length * 7 + 4) (by omega); rw [List.getElem?_append_right (by omega)] at this; simpa [hcl] using this
      have x4 := own_frozen hown (us.length * 7 + 4)
      have y5 : w6.cell? ⟨g, us.length * 7 + 5, none⟩ = some (.slice none 0 0) := by have := hown.cellAt (us.length * 7 + 5) (by omega); rw [List.getElem?_append_right (by omega)] at this; simpa [hcl] using this
      have x5 := own_frozen hown (us.length * 7 + 5)
      have y6 : w6.cell? ⟨g, us.length * 7 + 6, none⟩ = some (.slice none 0 0) := by have := hown.cellAt (us.length * 7 + 6) (by omega); rw [List.getElem?_append_right (by omega)] at this; simpa [hcl] using this
      have x6 := own_frozen hown (us.length * 7 + 6)
      have yT := HK6.out.cells.2.2.2.2.2.2
      have xT := HK6.out.frozen.2.2.2.2.2.2
      have nT : ¬ g = T := by omega
      have nT2 : ¬ T = g := by omega
      clear hown hgrow hat
      refine wpAny_take (i := 9) (v := ?zv9_3) rfl (by kernel_rfl) (by kernel_rfl) (by kernel_rfl) (fun _ _ _ h => h) (Or.inl ⟨by rfl, ?zy9_3⟩) ?_
      case zy9_3 => (intro wz; go_simp; try with_reducible rfl)
      try simp only [Act.put]
      refine wpAny_take (i := 11) (v := ?zv11_4) rfl (by kernel_rfl) (by kernel_rfl) (by kernel_rfl) (fun _ _ _ h => h) (Or.inl ⟨by rfl, ?zy11_4⟩) ?_
      case zy11_4 => (intro wz; go_simp; try with_reducible rfl)
      try simp only [Act.put]
      refine wpAny_ready (rs := [10, 12]) (by kernel_rfl) (by simp) ?_
      refine AllReady.cons rfl (fun K hK => ?_) ?_
      · go_simp
        refine hK _ _ ?_
        clear hK K
        try simp only [Act.put, List.setIfInBounds_toArray, List.set_cons_zero, List.set_cons_succ]
        refine wpAny_ready (rs := [12]) (by kernel_rfl) (by simp) ?_
        refine AllReady.cons rfl (fun K hK => ?_) AllReady.nil
        go_simp
        refine hK _ _ ?_
        clear hK K
        refine wpAny_done (by kernel_rfl) ?_ _
        obtain ⟨wZ, hwZ⟩ : ∃ wZ, wZ = ((((((((w6.setCell ⟨g, us.length * 7, none⟩ (.int .i64 k)).setCell ⟨g, us.length * 7 + 1, none⟩ (.string nm2)).setCell ⟨g, us.length * 7 + 2, none⟩ (.int .i64 nu)).setCell ⟨g, us.length * 7 + 3, none⟩ (.bool sh2)).setCell ⟨g, us.length * 7 + 4, none⟩ (.slice B n1 m1)).setCell ⟨g, us.length * 7 + 5, none⟩ (.slice B' n1' m1')).setCell ⟨g, us.length * 7 + 6, none⟩ (.slice B'' n1'' m1'')).setCell ⟨T, 6, none⟩ (.slice (some ⟨g, 0, none⟩) (us.length + 1) cap)) := ⟨_, rfl⟩
        have z1 : wZ.ownsRow M 47 7 (.slice (some ⟨g, 0, none⟩) (us.length + 1) cap) (us.length + 1) (cs ++ [.int .i64 k, .string nm2, .int .i64 nu, .bool sh2, .slice B n1 m1, .slice B' n1' m1', .slice B'' n1'' m1'']) := by rw [hwZ]; exact (own_put7 (d0 := (.int .i64 k)) (d1 := (.string nm2)) (d2 := (.int .i64 nu)) (d3 := (.bool sh2)) (d4 := (.slice B n1 m1)) (d5 := (.slice B' n1' m1')) (d6 := (.slice B'' n1'' m1'')) HOW.out hcl).kept (set_out (((((((w6.setCell ⟨g, us.length * 7, none⟩ (.int .i64 k)).setCell ⟨g, us.length * 7 + 1, none⟩ (.string nm2)).setCell ⟨g, us.length * 7 + 2, none⟩ (.int .i64 nu)).setCell ⟨g, us.length * 7 + 3, none⟩ (.bool sh2)).setCell ⟨g, us.length * 7 + 4, none⟩ (.slice B n1 m1)).setCell ⟨g, us.length * 7 + 5, none⟩ (.slice B' n1' m1')).setCell ⟨g, us.length * 7 + 6, none⟩ (.slice B'' n1'' m1'')) T 6 (.slice (some ⟨g, 0, none⟩) (us.length + 1) cap)) (.inr (by simp [Value.ownBlock]; omega))
        have z2 : SevAt wZ T (.int .i64 3) (.string nm) (.int .i64 0) (.bool sh) vs vl (.slice (some ⟨g, 0, none⟩) (us.length + 1) cap) := by rw [hwZ]; exact (HK6.out.grown (put7_out w6 g (us.length * 7) (.int .i64 k) (.string nm2) (.int .i64 nu) (.bool sh2) (.slice B n1 m1) (.slice B' n1' m1') (.slice B'' n1'' m1'')) (by simp; omega)).set6 (.slice (some ⟨g, 0, none⟩) (us.length + 1) cap)
        have z3 : ∀ x, x < w6.heap.size → x ≠ g → x ≠ T → wZ.heap[x]? = w6.heap[x]? := by rw [hwZ]; exact fun x hx h1 h2 => grown_two (put7_out w6 g (us.length * 7) (.int .i64 k) (.string nm2) (.int .i64 nu) (.bool sh2) (.slice B n1 m1) (.slice B' n1' m1') (.slice B'' n1'' m1'')) (set_out (((((((w6.setCell ⟨g, us.length * 7, none⟩ (.int .i64 k)).setCell ⟨g, us.length * 7 + 1, none⟩ (.string nm2)).setCell ⟨g, us.length * 7 + 2, none⟩ (.int .i64 nu)).setCell ⟨g, us.length * 7 + 3, none⟩ (.bool sh2)).setCell ⟨g, us.length * 7 + 4, none⟩ (.slice B n1 m1)).setCell ⟨g, us.length * 7 + 5, none⟩ (.slice B' n1' m1')).setCell ⟨g, us.length * 7 + 6, none⟩ (.slice B'' n1'' m1'')) T 6 (.slice (some ⟨g, 0, none⟩) (us.length + 1) cap)) x hx h1 h2
        have z4 : wZ.os = w6.os ∧ wZ.tape = w6.tape ∧ wZ.output = w6.output := by rw [hwZ]; exact ⟨(set_out (((((((w6.setCell ⟨g, us.length * 7, none⟩ (.int .i64 k)).setCell ⟨g, us.length * 7 + 1, none⟩ (.string nm2)).setCell ⟨g, us.length * 7 + 2, none⟩ (.int .i64 nu)).setCell ⟨g, us.length * 7 + 3, none⟩ (.bool sh2)).setCell ⟨g, us.length * 7 + 4, none⟩ (.slice B n1 m1)).setCell ⟨g, us.length * 7 + 5, none⟩ (.slice B' n1' m1')).setCell ⟨g, us.length * 7 + 6, none⟩ (.slice B'' n1'' m1'')) T 6 (.slice (some ⟨g, 0, none⟩) (us.length + 1) cap)).os.trans (put7_out w6 g (us.length * 7) (.int .i64 k) (.string nm2) (.int .i64 nu) (.bool sh2) (.slice B n1 m1) (.slice B' n1' m1') (.slice B'' n1'' m1'')).os, (set_out (((((((w6.setCell ⟨g, us.length * 7, none⟩ (.int .i64 k)).setCell ⟨g, us.length * 7 + 1, none⟩ (.string nm2)).setCell ⟨g, us.length * 7 + 2, none⟩ (.int .i64 nu)).setCell ⟨g, us.length * 7 + 3, none⟩ (.bool sh2)).setCell ⟨g, us.length * 7 + 4, none⟩ (.slice B n1 m1)).setCell ⟨g, us.length * 7 + 5, none⟩ (.slice B' n1' m1')).setCell ⟨g, us.length * 7 + 6, none⟩ (.slice B'' n1'' m1'')) T 6 (.slice (some ⟨g, 0, none⟩) (us.length + 1) cap)).tape.trans (put7_out w6 g (us.length * 7) (.int .i64 k) (.string nm2) (.int .i64 nu) (.bool sh2) (.slice B n1 m1) (.slice B' n1' m1') (.slice B'' n1'' m1'')).tape, (set_out (((((((w6.setCell ⟨g, us.length * 7, none⟩ (.int .i64 k)).setCell ⟨g, us.length * 7 + 1, none⟩ (.string nm2)).setCell ⟨g, us.length * 7 + 2, none⟩ (.int .i64 nu)).setCell ⟨g, us.length * 7 + 3, none⟩ (.bool sh2)).setCell ⟨g, us.length * 7 + 4, none⟩ (.slice B n1 m1)).setCell ⟨g, us.length * 7 + 5, none⟩ (.slice B' n1' m1')).setCell ⟨g, us.length * 7 + 6, none⟩ (.slice B'' n1'' m1'')) T 6 (.slice (some ⟨g, 0, none⟩) (us.length + 1) cap)).output.trans (put7_out w6 g (us.length * 7) (.int .i64 k) (.string nm2) (.int .i64 nu) (.bool sh2) (.slice B n1 m1) (.slice B' n1' m1') (.slice B'' n1'' m1'')).output⟩
        have z5 : w6.heap.size ≤ wZ.heap.size := by rw [hwZ]; exact Nat.le_trans (put7_out w6 g (us.length * 7) (.int .i64 k) (.string nm2) (.int .i64 nu) (.bool sh2) (.slice B n1 m1) (.slice B' n1' m1') (.slice B'' n1'' m1'')).size (set_out (((((((w6.setCell ⟨g, us.length * 7, none⟩ (.int .i64 k)).setCell ⟨g, us.length * 7 + 1, none⟩ (.string nm2)).setCell ⟨g, us.length * 7 + 2, none⟩ (.int .i64 nu)).setCell ⟨g, us.length * 7 + 3, none⟩ (.bool sh2)).setCell ⟨g, us.length * 7 + 4, none⟩ (.slice B n1 m1)).setCell ⟨g, us.length * 7 + 5, none⟩ (.slice B' n1' m1')).setCell ⟨g, us.length * 7 + 6, none⟩ (.slice B'' n1'' m1'')) T 6 (.slice (some ⟨g, 0, none⟩) (us.length + 1) cap)).size
        rw [← hwZ]
        clear hwZ
        have HZ := hide (callOne_end (w6 := w6) (wZ := wZ) (Wb := w5) (t := t) (L := (L : Int)) h1 h2 h3 h4 h5 h6 h7 h8 h9 h10 (HR5.out) (HG.out.then' HG5.out) (HJR5.out) (HJL5.out) (HJZ5.out) (by have := HG5.out.size; omega) (HD5.out) (HS5.out) (HO5.out) (HV5.out) (HT5.out) HGW.out (by simpa using HAT.out) z5 z4.1 z4.2.1 z4.2.2 z3 z1 z2)
        go_end0
        exact ⟨HZ.out.1, rfl, HZ.out.2⟩
      refine AllReady.cons rfl (fun K hK => ?_) AllReady.nil
      go_simp
      refine hK _ _ ?_
      clear hK K
      try simp only [Act.put, List.setIfInBounds_toArray, List.set_cons_zero, List.set_cons_succ]
      refine wpAny_ready (rs := [10]) (by kernel_rfl) (by simp) ?_
      refine AllReady.cons rfl (fun K hK => ?_) AllReady.nil
      go_simp
      refine hK _ _ ?_
      clear hK K
      refine wpAny_done (by kernel_rfl) ?_ _
      obtain ⟨wZ, hwZ⟩ : ∃ wZ, wZ = ((((((((w6.setCell ⟨T, 6, none⟩ (.slice (some ⟨g, 0, none⟩) (us.length + 1) cap)).setCell ⟨g, us.length * 7, none⟩ (.int .i64 k)).setCell ⟨g, us.length * 7 + 1, none⟩ (.string nm2)).setCell ⟨g, us.length * 7 + 2, none⟩ (.int .i64 nu)).setCell ⟨g, us.length * 7 + 3, none⟩ (.bool sh2)).setCell ⟨g, us.length * 7 + 4, none⟩ (.slice B n1 m1)).setCell ⟨g, us.length * 7 + 5, none⟩ (.slice B' n1' m1')).setCell ⟨g, us.length * 7 + 6, none⟩ (.slice B'' n1'' m1'')) := ⟨_, rfl⟩
      have z1 : wZ.ownsRow M 47 7 (.slice (some ⟨g, 0, none⟩) (us.length + 1) cap) (us.length + 1) (cs ++ [.int .i64 k, .string nm2, .int .i64 nu, .bool sh2, .slice B n1 m1, .slice B' n1' m1', .slice B'' n1'' m1'']) := by rw [hwZ]; exact own_put7 (d0 := (.int .i64 k)) (d1 := (.string nm2)) (d2 := (.int .i64 nu)) (d3 := (.bool sh2)) (d4 := (.slice B n1 m1)) (d5 := (.slice B' n1' m1')) (d6 := (.slice B'' n1'' m1'')) (HOW.out.kept (set_out w6 T 6 (.slice (some ⟨g, 0, none⟩) (us.length + 1) cap)) (.inr (by simp [Value.ownBlock]; omega))) hcl
      have z2 : SevAt wZ T (.int .i64 3) (.string nm) (.int .i64 0) (.bool sh) vs vl (.slice (some ⟨g, 0, none⟩) (us.length + 1) cap) := by rw [hwZ]; exact (HK6.out.set6 (.slice (some ⟨g, 0, none⟩) (us.length + 1) cap)).grown (put7_out (w6.setCell ⟨T, 6, none⟩ (.slice (some ⟨g, 0, none⟩) (us.length + 1) cap)) g (us.length * 7) (.int .i64 k) (.string nm2) (.int .i64 nu) (.bool sh2) (.slice B n1 m1) (.slice B' n1' m1') (.slice B'' n1'' m1'')) (by simp; omega)
      have z3 : ∀ x, x < w6.heap.size → x ≠ g → x ≠ T → wZ.heap[x]? = w6.heap[x]? := by rw [hwZ]; exact fun x hx h1 h2 => grown_two (set_out w6 T 6 (.slice (some ⟨g, 0, none⟩) (us.length + 1) cap)) (put7_out (w6.setCell ⟨T, 6, none⟩ (.slice (some ⟨g, 0, none⟩) (us.length + 1) cap)) g (us.length * 7) (.int .i64 k) (.string nm2) (.int .i64 nu) (.bool sh2) (.slice B n1 m1) (.slice B' n1' m1') (.slice B'' n1'' m1'')) x hx h2 h1
      have z4 : wZ.os = w6.os ∧ wZ.tape = w6.tape ∧ wZ.output = w6.output := by rw [hwZ]; exact ⟨(put7_out (w6.setCell ⟨T, 6, none⟩ (.slice (some ⟨g, 0, none⟩) (us.length + 1) cap)) g (us.length * 7) (.int .i64 k) (.string nm2) (.int .i64 nu) (.bool sh2) (.slice B n1 m1) (.slice B' n1' m1') (.slice B'' n1'' m1'')).os.trans (set_out w6 T 6 (.slice (some ⟨g, 0, none⟩) (us.length + 1) cap)).os, (put7_out (w6.setCell ⟨T, 6, none⟩ (.slice (some ⟨g, 0, none⟩) (us.length + 1) cap)) g (us.length * 7) (.int .i64 k) (.string nm2) (.int .i64 nu) (.bool sh2) (.slice B n1 m1) (.slice B' n1' m1') (.slice B'' n1'' m1'')).tape.trans (set_out w6 T 6 (.slice (some ⟨g, 0, none⟩) (us.length + 1) cap)).tape, (put7_out (w6.setCell ⟨T, 6, none⟩ (.slice (some ⟨g, 0, none⟩) (us.length + 1) cap)) g (us.length * 7) (.int .i64 k) (.string nm2) (.int .i64 nu) (.bool sh2) (.slice B n1 m1) (.slice B' n1' m1') (.slice B'' n1'' m1'')).output.trans (set_out w6 T 6 (.slice (some ⟨g, 0, none⟩) (us.length + 1) cap)).output⟩
      have z5 : w6.heap.size ≤ wZ.heap.size := by rw [hwZ]; exact Nat.le_trans (set_out w6 T 6 (.slice (some ⟨g, 0, none⟩) (us.length + 1) cap)).size (put7_out (w6.setCell ⟨T, 6, none⟩ (.slice (some ⟨g, 0, none⟩) (us.length + 1) cap)) g (us.length * 7) (.int .i64 k) (.string nm2) (.int .i64 nu) (.bool sh2) (.slice B n1 m1) (.slice B' n1' m1') (.slice B'' n1'' m1'')).size
      rw [← hwZ]
      clear hwZ
      have HZ := hide (callOne_end (w6 := w6) (wZ := wZ) (Wb := w5) (t := t) (L := (L : Int)) h1 h2 h3 h4 h5 h6 h7 h8 h9 h10 (HR5.out) (HG.out.then' HG5.out) (HJR5.out) (HJL5.out) (HJZ5.out) (by have := HG5.out.size; omega) (HD5.out) (HS5.out) (HO5.out) (HV5.out) (HT5.out) HGW.out (by simpa using HAT.out) z5 z4.1 z4.2.1 z4.2.2 z3 z1 z2)
      go_end0
      exact ⟨HZ.out.1, rfl, HZ.out.2⟩
end Go.Proofs.YtadhlnlcdljamaaGreatDoor.V
