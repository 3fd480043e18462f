/-
  The reader: call.
-/
import Derived.Test.YtadhlnlcdljamaaGreatDoorTxCallOne
import Derived.Test.YtadhlnlcdljamaaGreatDoorTxProg
namespace Go.Proofs.YtadhlnlcdljamaaGreatDoor.V
set_option maxRecDepth 20000
set_option linter.unusedVariables false
open Go.RowKit

theorem listInfo : (Tryz.prog.info? 85).map (fun i => (i.zero, i.size, i.bytes)) = some (some (.slice none 0 0), 1, 24) := by kernel_rfl
/-- A call whose lists are being read. -/
structure ListsAt (R b1 b2 D T M : Nat) (L : Int) (nm : ByteArray) (sh : Bool) (ds : List (ByteArray × Int)) (vs : Value) (W : World) (ls : List (List Int)) (vl : Value) : Prop where
  r : OneAt 59 W b1 (.pointer (some ⟨R, 0, none⟩))
  l : OneAt 3 W b2 (.int .i64 L)
  z : SevZ W D
  s : M ≤ W.heap.size
  t : SevAt W T (.int .i64 3) (.string nm) (.int .i64 0) (.bool sh) vs vl (.slice none 0 0)
  d : SliceV DimV W (amid T M) ds vs
  k : GrowV ListV 85 1 W M (past M) ls vl
theorem ListsAt.grown {R b1 b2 D T M : Nat} {L : Int} {nm : ByteArray} {sh : Bool} {ds : List (ByteArray × Int)} {vs vl : Value} {W W' : World} {ls : List (List Int)} (h : ListsAt R b1 b2 D T M L nm sh ds vs W ls vl) (hg : W.grownBy W' (some R)) (h1 : R < b1) (h2 : R < b2) (h3 : R < D) (h4 : R < T) (h5 : T < M) : ListsAt R b1 b2 D T M L nm sh ds vs W' ls vl := by
  obtain ⟨r, l, z, s, t, d, k⟩ := h
  refine ⟨r.grown hg (by simp; omega), l.grown hg (by simp; omega), z.grown hg (by simp; omega), Nat.le_trans s hg.size, t.grown hg (by simp; omega), DimV.stays.slice d (Keep.of_grown hg (fun b hb _ => by have := hb.1; simp; omega)), ?_⟩
  refine GrowV.kept ListV.stays k hg (.inr ?_) (fun b hb _ => by have : M ≤ b := hb; simp; omega)
  obtain ⟨cs, h5, _⟩ := k
  exact own_ne h5 (by omega)
theorem lists_snoc {X : Tks} {R G c b1 b2 D T M : Nat} {L : Int} {nm : ByteArray} {sh : Bool} {ds : List (ByteArray × Int)} {vs vl vn : Value} {w0 Wb w6 : World} {j' : Nat} {ls : List (List Int)} {l : List Int} {cs : List Value} {A : Option Addr} {m n : Nat} {g cap : Nat}
    (h1 : R < b1) (h2 : R < b2) (h3 : R < D) (h4 : R < T) (h5 : b1 < T) (h6 : b2 < T) (h7 : D < T) (h8 : w0.heap.size ≤ T) (h9 : G < T) (h10 : T < M)
    (hr : RdAt X R G c Wb j') (hg : w0.grownBy Wb (some R)) (jr : OneAt 59 Wb b1 (.pointer (some ⟨R, 0, none⟩))) (jl : OneAt 3 Wb b2 (.int .i64 L)) (jz : SevZ Wb D) (js : M ≤ Wb.heap.size)
    (jt : SevAt Wb T (.int .i64 3) (.string nm) (.int .i64 0) (.bool sh) vs vl vn) (hvn : vn = .slice none 0 0)
    (jd : SliceV DimV Wb (amid T M) ds vs) (jo : Wb.ownsRow M 85 1 vl ls.length cs) (jv : RowsV (ListV Wb fun b => past M b ∧ some b ≠ vl.ownBlock) ls cs) (jn : SliceV IntV Wb (fun b => past M b ∧ some b ≠ vl.ownBlock) l (.slice A n m))
    (hgr : Wb.grownBy w6 vl.ownBlock) (hat : vl.ownBlock = some g ∨ g = Wb.heap.size) (ho : w6.ownsRow M 85 1 (.slice (some ⟨g, 0, none⟩) (ls.length + 1) cap) (ls.length + 1) (cs ++ [.slice A n m])) :
    w0.grownBy (w6.setCell ⟨T, 5, none⟩ (.slice (some ⟨g, 0, none⟩) (ls.length + 1) cap)) (some R) ∧ RdAt X R G c (w6.setCell ⟨T, 5, none⟩ (.slice (some ⟨g, 0, none⟩) (ls.length + 1) cap)) j' ∧
      ListsAt R b1 b2 D T M L nm sh ds vs (w6.setCell ⟨T, 5, none⟩ (.slice (some ⟨g, 0, none⟩) (ls.length + 1) cap)) (ls ++ [l]) (.slice (some ⟨g, 0, none⟩) (ls.length + 1) cap) := by
  subst hvn
  have hlow : ∀ x, x < M → some x ≠ vl.ownBlock := fun x hx e => by have := (jo.lt x e.symm).1; omega
  have hgM : M ≤ g := (ho.lt g rfl).1
  have hS := set_out w6 T 5 (.slice (some ⟨g, 0, none⟩) (ls.length + 1) cap)
  have hG := GrowV.snoc (a := l) (cs' := [.slice A n m]) (v' := .slice (some ⟨g, 0, none⟩) (ls.length + 1) cap) ListV.stays jv ⟨_, rfl, jn⟩ hgr (hat.elim (fun e => .inl e.symm) (fun e => .inr (by rw [e]; rfl))) ho
  refine ⟨(hg.onto hgr (fun x e => by have := (jo.lt x e).1; omega)).onto hS (fun x e => by cases e; omega), (hr.grown hgr (hlow R (by omega)) (hlow G (by omega))).grown hS (by simp; omega) (by simp; omega), ?_⟩
  refine ⟨(jr.grown hgr (hlow b1 (by omega))).grown hS (by simp; omega), (jl.grown hgr (hlow b2 (by omega))).grown hS (by simp; omega), (jz.grown hgr (hlow D (by omega))).grown hS (by simp; omega), Nat.le_trans (Nat.le_trans js hgr.size) hS.size, (jt.grown hgr (hlow T (by omega))).set5 _, ?_, ?_⟩
  · exact DimV.stays.slice (DimV.stays.slice jd (Keep.of_grown hgr (fun b hb _ => hlow b hb.2))) (Keep.of_grown hS (fun b hb _ => by have := hb.1; simp; omega))
  · exact GrowV.kept ListV.stays hG hS (.inr (by simp [Value.ownBlock]; omega)) (fun b hb _ => by have : M ≤ b := hb; simp; omega)

theorem GrowV.form {α : Type} {p : World → (Nat → Prop) → α → List Value → Prop} {t : TypeId} {k : Nat} {w : World} {B : Nat} {S : Nat → Prop} {us : List α} {v : Value} (h : GrowV p t k w B S us v) : ∃ A c, v = .slice A us.length c := by
  obtain ⟨cs, h1, _⟩ := h
  rcases h1.2 with ⟨rfl, hz⟩ | ⟨g, cap, cur, rfl, _⟩
  · rw [hz]; exact ⟨_, _, rfl⟩
  · exact ⟨_, _, rfl⟩
theorem call_of_lists {R b1 b2 D T M : Nat} {L : Int} {nm : ByteArray} {sh : Bool} {ds : List (ByteArray × Int)} {vs vl : Value} {W : World} {ls : List (List Int)} (hT : T < M) (h : ListsAt R b1 b2 D T M L nm sh ds vs W ls vl) : CallAt R b1 b2 D T W.heap.size L nm sh ds ls W [] := by
  obtain ⟨r, l, z, s, t, d, k⟩ := h
  refine ⟨r, l, z, Nat.le_refl _, vs, vl, _, t, DimV.stays.slice_weaken d (fun b hb h => ⟨h.1, hb⟩), ListV.stays.slice_weaken (k.slice ListV.stays (fun b hb => hb)) (fun b hb h => ⟨by have : M ≤ b := h; omega, hb⟩), GrowV.nil _ _ _ _ _ _⟩

set_option maxRecDepth 100000 in
set_option maxHeartbeats 8000000 in
theorem tCall {X : Tks} {R G c L : Nat} {w : World} {i : Nat} (ok : X.Ok) (E : Nat → Res Tr) (hEp : ∀ j a j', E j = .ok a j' → j < j') (nm : ByteArray) (h : RdAt X R G c w i) (hL : L ≤ 64)
    (hE : ∀ W j, RdAt X R G c W j → Calls Tryz.prog 43 #[.pointer (some ⟨R, 0, none⟩), .int .i64 ((L : Int) + 1)] W (Parsed X R G c (repT W) (E j) W)) :
    Calls Tryz.prog 86 #[.pointer (some ⟨R, 0, none⟩), .string nm, .int .i64 (L : Int)] w (Parsed X R G c (repT w) (callS X E nm i) w) := by
  have hmf : ∀ (fn : Fn) (first cap : Array Value) (w : World), (Instr.makeFunc fn first cap).run Tryz.prog w = .ok (.func fn first cap) w := fun _ _ _ _ => rfl
  obtain ⟨i0, hi, hz0, hz1, hz2⟩ := info_parts listInfo
  have HI := hide hi
  have HI0 := hide hz0
  have HI1 := hide hz1
  have HI2 := hide hz2
  have HOK := hide ok
  have HRR := hide h.ltR
  have HGG := hide h.lt
  have HEX := hide hE
  have HEP := hide hEp
  have hxl := h.len
  have HB1 : Hid (OneAt 59 (((w.alloc (.cells #[.pointer (some ⟨R, 0, none⟩)] 59)).alloc (.cells #[.int .i64 (L : Int)] 3)).alloc (.cells z7 47)) w.heap.size (.pointer (some ⟨R, 0, none⟩))) := ((OneAt.new _ _ _).alloc _).alloc _
  have HB2 : Hid (OneAt 3 (((w.alloc (.cells #[.pointer (some ⟨R, 0, none⟩)] 59)).alloc (.cells #[.int .i64 (L : Int)] 3)).alloc (.cells z7 47)) (w.heap.size + 1) (.int .i64 (L : Int))) := by
    have := (OneAt.new 3 (w.alloc (.cells #[.pointer (some ⟨R, 0, none⟩)] 59)) (.int .i64 (L : Int))).alloc (.cells z7 47)
    simpa [Hid] using this
  have HB3 : Hid (SevZ (((w.alloc (.cells #[.pointer (some ⟨R, 0, none⟩)] 59)).alloc (.cells #[.int .i64 (L : Int)] 3)).alloc (.cells z7 47)) (w.heap.size + 2)) := by
    have := SevAt.new ((w.alloc (.cells #[.pointer (some ⟨R, 0, none⟩)] 59)).alloc (.cells #[.int .i64 (L : Int)] 3)) (.int .i64 0) (.string ⟨#[]⟩) (.int .i64 0) (.bool false) (.slice none 0 0) (.slice none 0 0) (.slice none 0 0)
    simpa [Hid] using this
  have HF0 : Hid (w.grownBy (((w.alloc (.cells #[.pointer (some ⟨R, 0, none⟩)] 59)).alloc (.cells #[.int .i64 (L : Int)] 3)).alloc (.cells z7 47)) (some R)) := ((World.grownBy_alloc _ _ _).then' (World.grownBy_alloc _ _ _)).then' (World.grownBy_alloc _ _ _)
  have HR0 := hide (((h.alloc (.cells #[.pointer (some ⟨R, 0, none⟩)] 59)).alloc (.cells #[.int .i64 (L : Int)] 3)).alloc (.cells z7 47))
  have hc1 := HB1.out.cells.1
  clear h ok hE hEp hi hz0 hz1 hz2
  unfold callS shapedS
  cases hb : ((X.tx i).toList == tC 91) with
  | true =>
    rw [if_pos rfl]
    cases h2 : shapeS X i with
    | bad T k =>
      simp only [Res.bind_bad]
      unfold Parsed thrown faultV
      go_enter Tryz.func86, Tryz.ntmps86
      go_wp2_with (first
        | (go_at_call_of 63 (Value.string { data := #[91] }); refine (tIs HR0.out ⟨#[91]⟩).mono ?_; rw [show (⟨#[91]⟩ : ByteArray).toList = tC 91 by simp, hb]; rintro e w1 ⟨rfl, hb1⟩; have HF1 := hide (HF0.out.then' (hb1.by _)); have HR1 := hide (HR0.out.below hb1); have HU1 := hide (HB1.out.below hb1); have HU2 := hide (HB2.out.below hb1); have HU3 := hide (HB3.out.below hb1); have hs1 : w.heap.size + 3 ≤ w1.heap.size := (by have := hb1.size; simpa using this); have hc1 := (HU1.out.alloc (.cells #[.int .i64 3, .string nm, .int .i64 0, .bool true, .slice none 0 0, .slice none 0 0, .slice none 0 0] 47)).cells.1; clear hb1)
        | (go_at_call 55; refine (tShape HOK.out (HR1.out.alloc (.cells #[.int .i64 3, .string nm, .int .i64 0, .bool true, .slice none 0 0, .slice none 0 0, .slice none 0 0] 47))).mono ?_; rw [h2]; unfold Parsed thrown faultV; rintro e wb ⟨hg, rfl⟩; have HFb := hide ((HF1.out.then' (World.grownBy_alloc w1 (.cells #[.int .i64 3, .string nm, .int .i64 0, .bool true, .slice none 0 0, .slice none 0 0, .slice none 0 0] 47) _)).then' hg); clear hg)
        )
      exact ⟨rfl, HFb.out, rfl⟩
    | ok ds i1 =>
      simp only [Res.bind_ok]
      obtain ⟨r0, hr0⟩ : ∃ r0, r0 = listsL X (X.ts.length + 1) i1 [] := ⟨_, rfl⟩
      rw [← hr0]
      have HR00 := hide hr0
      clear hr0
      go_enter Tryz.func86, Tryz.ntmps86
      go_wp2_with (first
        | (go_at_call_of 63 (Value.string { data := #[91] }); refine (tIs HR0.out ⟨#[91]⟩).mono ?_; rw [show (⟨#[91]⟩ : ByteArray).toList = tC 91 by simp, hb]; rintro e w1 ⟨rfl, hb1⟩; have HF1 := hide (HF0.out.then' (hb1.by _)); have HR1 := hide (HR0.out.below hb1); have HU1 := hide (HB1.out.below hb1); have HU2 := hide (HB2.out.below hb1); have HU3 := hide (HB3.out.below hb1); have hs1 : w.heap.size + 3 ≤ w1.heap.size := (by have := hb1.size; simpa using this); have hc1 := (HU1.out.alloc (.cells #[.int .i64 3, .string nm, .int .i64 0, .bool true, .slice none 0 0, .slice none 0 0, .slice none 0 0] 47)).cells.1; clear hb1)
        | (go_at_call 55; refine (tShape HOK.out (HR1.out.alloc (.cells #[.int .i64 3, .string nm, .int .i64 0, .bool true, .slice none 0 0, .slice none 0 0, .slice none 0 0] 47))).mono ?_; rw [h2]; rintro e w3 ⟨hg, hr, v, rfl, hv⟩; unfold repD at hv; obtain ⟨A3, c3, rfl⟩ := hv.form; have HF3 := hide ((HF1.out.then' (World.grownBy_alloc w1 (.cells #[.int .i64 3, .string nm, .int .i64 0, .bool true, .slice none 0 0, .slice none 0 0, .slice none 0 0] 47) _)).then' hg); have HR3 := hide hr; have HV3 := hide hv; have HU31 := hide ((HU1.out.alloc (.cells #[.int .i64 3, .string nm, .int .i64 0, .bool true, .slice none 0 0, .slice none 0 0, .slice none 0 0] 47)).grown hg (by have := HRR.out; simp; omega)); have HU32 := hide ((HU2.out.alloc (.cells #[.int .i64 3, .string nm, .int .i64 0, .bool true, .slice none 0 0, .slice none 0 0, .slice none 0 0] 47)).grown hg (by have := HRR.out; simp; omega)); have HU33 := hide ((HU3.out.alloc (.cells #[.int .i64 3, .string nm, .int .i64 0, .bool true, .slice none 0 0, .slice none 0 0, .slice none 0 0] 47)).grown hg (by have := HRR.out; simp; omega)); have HT3 := hide ((SevAt.new w1 _ _ _ _ _ _ _).grown hg (by have := HRR.out; simp; omega)); have x4 := HT3.out.frozen.2.2.2.2.1; have y4 := HT3.out.cells.2.2.2.2.1; have hs3 : w1.heap.size + 1 ≤ w3.heap.size := (by have := hg.size; simpa using this); clear hg hr hv)
        )
      have HS4 := hide (set_out w3 w1.heap.size 4 (.slice A3 ds.length c3))
      have hz4 : (w3.setCell ⟨w1.heap.size, 4, none⟩ (.slice A3 ds.length c3)).heap.size = w3.heap.size := by simp [World.setCell]
      have HL : Hid (ListsAt R w.heap.size (w.heap.size + 1) (w.heap.size + 2) w1.heap.size w3.heap.size (L : Int) nm true ds (.slice A3 ds.length c3) (w3.setCell ⟨w1.heap.size, 4, none⟩ (.slice A3 ds.length c3)) [] (.slice none 0 0)) :=
        ⟨HU31.out.grown HS4.out (by simp; omega), HU32.out.grown HS4.out (by simp; omega), HU33.out.grown HS4.out (by simp; omega), by rw [hz4]; exact Nat.le_refl _, HT3.out.set4 _, DimV.stays.slice_weaken (DimV.stays.slice HV3.out (Keep.of_grown HS4.out (fun b hb _ => by have h9 : (w1.alloc (.cells #[.int .i64 3, .string nm, .int .i64 0, .bool true, .slice none 0 0, .slice none 0 0, .slice none 0 0] 47)).heap.size ≤ b := hb; simp at h9 ⊢; omega))) (fun b hb hf => by have h9 : (w1.alloc (.cells #[.int .i64 3, .string nm, .int .i64 0, .bool true, .slice none 0 0, .slice none 0 0, .slice none 0 0] 47)).heap.size ≤ b := hf; rw [hz4] at hb; simp at h9; exact ⟨by omega, hb⟩), GrowV.nil _ _ _ _ _ _⟩
      have HLR := hide (HR3.out.grown HS4.out (by have := HRR.out; simp; omega) (by have := HGG.out; simp; omega))
      have HLF := hide (HF3.out.onto HS4.out (fun g e => by cases e; omega))
      obtain ⟨Wl, hWl⟩ : ∃ Wl, Wl = w3.setCell ⟨w1.heap.size, 4, none⟩ (.slice A3 ds.length c3) := ⟨_, rfl⟩
      obtain ⟨M1, hM1⟩ : ∃ M1, M1 = w3.heap.size := ⟨_, rfl⟩
      have hT1 : w1.heap.size < M1 := by omega
      rw [← hWl] at HL HLR HLF ⊢
      rw [← hM1] at HL
      clear hWl hM1 HS4 hz4 x4 y4
      go_loopw [] (fun wr => ∃ (f j : Nat) (ls : List (List Int)) (vl : Value), RdAt X R G c wr j ∧ w.grownBy wr (some R) ∧ r0 = listsL X f j ls ∧ X.ts.length - j < f ∧ ls.length ≤ j ∧ ListsAt R w.heap.size (w.heap.size + 1) (w.heap.size + 2) w1.heap.size M1 (L : Int) nm true ds (.slice A3 ds.length c3) wr ls vl) (fun wr => X.ts.length + 1 - posOf R wr)
      case atStart => exact ⟨_, i1, [], _, HLR.out, HLF.out, HR00.out, by omega, Nat.zero_le _, HL.out⟩
      case round =>
        obtain ⟨f, j, ls, vl, hR, hG, hsl, hf, hd, hJ⟩ := hrel
        obtain ⟨f, rfl⟩ : ∃ g, f = g + 1 := ⟨f - 1, by omega⟩
        rw [listsL] at hsl
        have HR2 := hide hR
        have HG2 := hide hG
        have HJ2 := hide hJ
        have hjl := hR.le
        have hn1 := HRR.out
        have hn2 := HGG.out
        have hc2 := hJ.r.cells.1
        clear hR hG hJ HLR HLF HL HR00
        cases hb3 : ((X.tx j).toList == tC 123) with
        | true =>
          rw [if_pos hb3] at hsl
          have hjlt := Tks.lt_of hb3 (by simp)
          cases hl : listS X j with
          | bad Te k =>
            rw [hl, Res.bind_bad] at hsl
            have HSL := hide hsl
            clear hsl
            go_wp2_with (go_at_call_of 63 (Value.string { data := #[123] }); refine (tIs HR2.out ⟨#[123]⟩).mono ?_; rw [show (⟨#[123]⟩ : ByteArray).toList = tC 123 by simp, hb3]; rintro e w2 ⟨rfl, hb2⟩; have HR3 := hide (HR2.out.below hb2); have HF3 := hide (HG2.out.then' (hb2.by _)); have HJ3 := hide (HJ2.out.grown (hb2.by _) (by omega) (by omega) (by omega) (by omega) (by omega)); clear hb2)
            obtain ⟨A5, c5, rfl⟩ : ∃ A5 c5, vl = .slice A5 ls.length c5 := GrowV.form HJ3.out.k
            refine wp_region_held_drew (S := fun w' => w'.cell? ⟨w.heap.size, 0, none⟩ = some (.pointer (some ⟨R, 0, none⟩)) ∧ w'.cell? ⟨w1.heap.size, 5, none⟩ = some (.slice A5 ls.length c5)) (by kernel_rfl) ⟨HJ3.out.r.cells.1, HJ3.out.t.cells.2.2.2.2.2.1⟩ (fun hHeld => ?_)
            show wpAnyH _ _ _ _ _ _ _ _ _
            refine wpAnyH_take (i := 0) (v := ?zv1) rfl (by kernel_rfl) (by kernel_rfl) (by kernel_rfl) (fun _ _ _ h => h) (Or.inl ⟨by kernel_rfl, ?zy1⟩) (by assumption) ?_
            case zy1 => (intro wz hSw; (try dsimp only at hSw); go_simp; try with_reducible rfl)
            try simp only [Act.put, List.setIfInBounds_toArray]
            refine wpAnyH_take (i := 1) (v := ?zv2) rfl (by kernel_rfl) (by kernel_rfl) (by kernel_rfl) (fun _ _ _ h => h) (Or.inl ⟨by kernel_rfl, ?zy2⟩) (by assumption) ?_
            case zy2 => (intro wz hSw; (try dsimp only at hSw); go_simp; try with_reducible rfl)
            try simp only [Act.put]
            refine wpAnyH_take (i := 2) (v := ?zv3) rfl (by kernel_rfl) (by kernel_rfl) (by kernel_rfl) (fun _ _ _ h => h) (Or.inl ⟨by kernel_rfl, ?zy3⟩) (by assumption) ?_
            case zy3 => (intro wz hSw; (try dsimp only at hSw); go_simp; try with_reducible rfl)
            try simp only [Act.put]
            refine wpAnyH_ready (rs := [3]) (by kernel_rfl) (by simp) ?_
            refine AllReadyH.cons rfl (fun K hK => ?_) AllReadyH.nil
            go_simp
            refine (tList HOK.out (HR3.out.grown (grown_drew _ none) (by simp) (by simp))).mono ?_
            rw [hl]
            unfold Parsed thrown faultV
            rintro e w6 ⟨hg6, rfl⟩
            refine ⟨rfl, ?_⟩
            rw [HSL.out, Res.bind_bad]
            exact ⟨(HF3.out.then' (grown_drew _ _)).then' hg6, rfl⟩
          | ok l j' =>
            rw [hl, Res.bind_ok] at hsl
            have HSL := hide hsl
            have hj' := listS_lt hl
            clear hsl
            go_wp2_with (go_at_call_of 63 (Value.string { data := #[123] }); refine (tIs HR2.out ⟨#[123]⟩).mono ?_; rw [show (⟨#[123]⟩ : ByteArray).toList = tC 123 by simp, hb3]; rintro e w2 ⟨rfl, hb2⟩; have HR3 := hide (HR2.out.below hb2); have HF3 := hide (HG2.out.then' (hb2.by _)); have HJ3 := hide (HJ2.out.grown (hb2.by _) (by omega) (by omega) (by omega) (by omega) (by omega)); clear hb2)
            obtain ⟨A5, c5, rfl⟩ : ∃ A5 c5, vl = .slice A5 ls.length c5 := GrowV.form HJ3.out.k
            refine wp_region_lapse (S := fun w' => w'.cell? ⟨w.heap.size, 0, none⟩ = some (.pointer (some ⟨R, 0, none⟩)) ∧ w'.cell? ⟨w1.heap.size, 5, none⟩ = some (.slice A5 ls.length c5)) (late := [5, 6, 7]) (by kernel_rfl) ⟨HJ3.out.r.cells.1, HJ3.out.t.cells.2.2.2.2.2.1⟩ (fun hHeld => ?_)
            show wpAnyL _ _ _ _ _ _ _ _ _ _
            refine wpAnyL_take (i := 0) (n := 3) (v := ?zv4) rfl (by kernel_rfl) (by kernel_rfl) (by kernel_rfl) (by kernel_rfl) (by kernel_rfl) (fun _ _ _ h => h) (Or.inl ⟨by kernel_rfl, ?zy4⟩) (by assumption) ?_
            case zy4 => (intro wz hSw; (try dsimp only at hSw); go_simp; try with_reducible rfl)
            try simp only [Act.put, List.setIfInBounds_toArray]
            refine wpAnyL_take (i := 1) (n := 3) (v := ?zv5) rfl (by kernel_rfl) (by kernel_rfl) (by kernel_rfl) (by kernel_rfl) (by kernel_rfl) (fun _ _ _ h => h) (Or.inl ⟨by kernel_rfl, ?zy5⟩) (by assumption) ?_
            case zy5 => (intro wz hSw; (try dsimp only at hSw); go_simp; try with_reducible rfl)
            try simp only [Act.put]
            refine wpAnyL_take (i := 2) (n := 3) (v := ?zv6) rfl (by kernel_rfl) (by kernel_rfl) (by kernel_rfl) (by kernel_rfl) (by kernel_rfl) (fun _ _ _ h => h) (Or.inl ⟨by kernel_rfl, ?zy6⟩) (by assumption) ?_
            case zy6 => (intro wz hSw; (try dsimp only at hSw); go_simp; try with_reducible rfl)
            try simp only [Act.put]
            refine wpAnyL_next (i := 3) (by kernel_rfl) rfl (fun K hK => ?_)
            go_simp
            refine (tList HOK.out (HR3.out.grown (grown_drew _ none) (by simp) (by simp))).mono ?_
            rw [hl]
            rintro e w5 ⟨hg5, hr5, v5, rfl, hv5⟩
            unfold repL at hv5
            obtain ⟨A6, c6, rfl⟩ := hv5.form
            have HG5 := hide ((grown_drew w2 (some R)).then' hg5)
            have HR5 := hide hr5
            have HJ5 := hide (HJ3.out.grown HG5.out (by omega) (by omega) (by omega) (by omega) (by omega))
            obtain ⟨cs, jo3, jv3⟩ := HJ3.out.k
            have HV5 := hide (IntV.stays.slice_weaken (S' := fun b => past M1 b ∧ some b ≠ Value.ownBlock (.slice A5 ls.length c5)) hv5 (fun b _ hb => by
              have h11 : w2.heap.size ≤ b := hb
              have h12 := HJ3.out.s
              refine ⟨by unfold past; omega, fun e => ?_⟩
              have := (jo3.lt b e.symm).2
              omega))
            clear hg5 hr5 hv5 jo3 jv3 cs
            obtain ⟨cs, jo5, jv5⟩ := HJ5.out.k
            have HO5 := hide jo5
            have HW5 := hide jv5
            clear jo5 jv5
            refine hK.out _ _ ⟨HJ5.out.r.cells.1, HJ5.out.t.cells.2.2.2.2.2.1⟩ (fun hHeld2 => ?_)
            clear hK K
            try simp only [Act.put, List.setIfInBounds_toArray, List.set_cons_zero, List.set_cons_succ]
            refine wpAnyL_next (i := 4) (by kernel_rfl) rfl (fun K hK => ?_)
            go_simp
            refine hK.out _ _ ⟨(HJ5.out.r.alloc (.cells #[.slice A6 l.length c6] 85)).cells.1, (HJ5.out.t.alloc (.cells #[.slice A6 l.length c6] 85)).cells.2.2.2.2.2.1⟩ (fun hHeld3 => ?_)
            clear hK K
            try simp only [Act.put, List.setIfInBounds_toArray, List.set_cons_zero, List.set_cons_succ]
            refine wpAnyL_late (i := 5) (by kernel_rfl) rfl (by kernel_rfl) (fun K hK => ?_)
            refine step_append_lies _ (by rfl) _ _ _ (by rfl) M1 85 i0 _ 1 24 Tryz.underlying44 HI.out HI0.out HI1.out HI2.out rfl (by omega) _ _ _ (by rfl) (HO5.out.alloc (.cells #[.slice A6 l.length c6] 85)) ⟨w5.heap.size, 0, none⟩ 1 1 [.slice A6 l.length c6] (by rfl) (by rfl) (cells_new w5 [.slice A6 l.length c6] _) (by intro u hu; simp at hu; subst hu; rfl) (by omega) (by unfold maxLen; omega) (by omega) (by have := HJ5.out.s; simp; omega) (w5.heap.size + 1) (by simp) ?_
            intro g cap w6 hown hgrow hat hlt
            refine hK.out _ _ ?_
            clear hK K
            try simp only [Act.put, List.setIfInBounds_toArray]
            refine wpAnyL_rest (by kernel_rfl) ?_
            have HQ := hide (lists_snoc (L := (L : Int)) (l := l) (by omega) (by omega) (by omega) (by omega) (by omega) (by omega) (by omega) (by omega) (by omega) (by omega) (HR5.out.alloc (.cells #[.slice A6 l.length c6] 85)) ((HF3.out.then' HG5.out).then' (World.grownBy_alloc w5 (.cells #[.slice A6 l.length c6] 85) _)) (HJ5.out.r.alloc _) (HJ5.out.l.alloc _) (HJ5.out.z.alloc _) (by have := HJ5.out.s; simp; omega) (HJ5.out.t.alloc _) rfl (DimV.stays.slice HJ5.out.d (Keep.alloc w5 _)) (HO5.out.alloc _) (HW5.out.mono fun _ _ h => ListV.stays.keep h (Keep.alloc w5 _)) (IntV.stays.slice HV5.out (Keep.alloc w5 _)) hgrow (by simpa using hat) hown)
            have HT6 := hide ((HJ5.out.t.alloc (.cells #[.slice A6 l.length c6] 85)).grown hgrow (fun e => by have := (HO5.out.lt _ e.symm).1; omega))
            have y5 := HT6.out.cells.2.2.2.2.2.1
            have x5 := HT6.out.frozen.2.2.2.2.2.1
            clear hown hgrow hat
            refine wpAny_take (i := 6) (v := ?zv7) rfl (by kernel_rfl) (by kernel_rfl) (by kernel_rfl) (fun _ _ _ h => h) (Or.inl ⟨by rfl, ?zy7⟩) ?_
            case zy7 => (intro wz; go_simp; try with_reducible rfl)
            try simp only [Act.put]
            refine wpAny_ready (rs := [7]) (by kernel_rfl) (by simp) ?_
            refine AllReady.cons rfl (fun K hK => ?_) AllReady.nil
            go_simp
            refine hK _ _ ?_
            clear hK K
            refine wpAny_done (by kernel_rfl) ?_ _
            go_wp2
            go_roundw
            case rel => exact ⟨f, j', _, _, HQ.out.2.1, HQ.out.1, HSL.out, by omega, by rw [List.length_append]; show ls.length + 1 ≤ j'; omega, HQ.out.2.2⟩
            case measure => rw [HQ.out.2.1.pos, HR2.out.pos]; have := HQ.out.2.1.le; omega
        | false =>
          rw [if_neg (by rw [hb3]; simp)] at hsl
          have HSL := hide hsl
          clear hsl
          obtain ⟨A5, c5, rfl⟩ : ∃ A5 c5, vl = .slice A5 ls.length c5 := GrowV.form HJ2.out.k
          cases h7 : brackS X E j with
          | bad Te k =>
            go_wp2_with (first
              | (go_at_call_of 63 (Value.string { data := #[123] }); refine (tIs HR2.out ⟨#[123]⟩).mono ?_; rw [show (⟨#[123]⟩ : ByteArray).toList = tC 123 by simp, hb3]; rintro e w2 ⟨rfl, hb2⟩; have HR3 := hide (HR2.out.below hb2); have HF3 := hide (HG2.out.then' (hb2.by _)); have HJ3 := hide (HJ2.out.grown (hb2.by _) (by omega) (by omega) (by omega) (by omega) (by omega)); have HC3 := hide (call_of_lists (by omega) HJ3.out); have hc3 := HJ3.out.r.cells.1; have hm2 := HJ3.out.s; clear hb2)
              | (go_at_call 40; refine (tBracketed (w0 := w) E (CallAt R w.heap.size (w.heap.size + 1) (w.heap.size + 2) w1.heap.size w2.heap.size (L : Int) nm true ds ls) 90 #[.pointer (some ⟨w1.heap.size, 0, none⟩), .pointer (some ⟨w.heap.size, 0, none⟩), .pointer (some ⟨w.heap.size + 1, 0, none⟩)] (enters Tryz.func90 (by kernel_rfl) (by kernel_rfl)) HEP.out (fun W W' us hJ hg => hJ.grown hg (by omega) (by omega) (by omega) (by omega) (by omega)) (fun W k us hR hG hJ hu => tCallOne (E k) hL (by omega) (by omega) (by omega) (by omega) (by omega) (by omega) (by omega) (by omega) (by omega) (by omega) hR hG hJ hu (fun W' h' => HEX.out W' k h')) HR3.out HF3.out HC3.out).mono ?_; rw [h7]; unfold AllP thrown faultV; rintro e wb ⟨hg, rfl⟩; have HFb := hide hg; clear hg)
              )
            refine ⟨rfl, ?_⟩
            rw [HSL.out, Res.bind_ok, h7, Res.bind_bad]
            exact ⟨HFb.out, rfl⟩
          | ok ks j7 =>
            go_wp2_with (first
              | (go_at_call_of 63 (Value.string { data := #[123] }); refine (tIs HR2.out ⟨#[123]⟩).mono ?_; rw [show (⟨#[123]⟩ : ByteArray).toList = tC 123 by simp, hb3]; rintro e w2 ⟨rfl, hb2⟩; have HR3 := hide (HR2.out.below hb2); have HF3 := hide (HG2.out.then' (hb2.by _)); have HJ3 := hide (HJ2.out.grown (hb2.by _) (by omega) (by omega) (by omega) (by omega) (by omega)); have HC3 := hide (call_of_lists (by omega) HJ3.out); have hc3 := HJ3.out.r.cells.1; have hm2 := HJ3.out.s; clear hb2)
              | (go_at_call 40; refine (tBracketed (w0 := w) E (CallAt R w.heap.size (w.heap.size + 1) (w.heap.size + 2) w1.heap.size w2.heap.size (L : Int) nm true ds ls) 90 #[.pointer (some ⟨w1.heap.size, 0, none⟩), .pointer (some ⟨w.heap.size, 0, none⟩), .pointer (some ⟨w.heap.size + 1, 0, none⟩)] (enters Tryz.func90 (by kernel_rfl) (by kernel_rfl)) HEP.out (fun W W' us hJ hg => hJ.grown hg (by omega) (by omega) (by omega) (by omega) (by omega)) (fun W k us hR hG hJ hu => tCallOne (E k) hL (by omega) (by omega) (by omega) (by omega) (by omega) (by omega) (by omega) (by omega) (by omega) (by omega) hR hG hJ hu (fun W' h' => HEX.out W' k h')) HR3.out HF3.out HC3.out).mono ?_; rw [h7]; unfold AllP; rintro e w7 ⟨hg, rfl, hr, hj7⟩; have HF7 := hide hg; have HR7 := hide hr; obtain ⟨jr, jl, jz, jm, vs7, vl7, vk7, jk, jd, jls, jg⟩ := hj7; obtain ⟨As, cS, rfl⟩ := jd.form; obtain ⟨Al, cL, rfl⟩ := jls.form; obtain ⟨Ak, cK, rfl⟩ := GrowV.form jg; have HD7 := hide jz; have HK7 := hide jk; have HJD := hide jd; have HJS := hide jls; have HJG := hide jg; obtain ⟨a0, a1, a2, a3, a4, a5, a6⟩ := jk.cells; obtain ⟨f0, f1, f2, f3, f4, f5, f6⟩ := jz.frozen; obtain ⟨p0, p1, p2, p3, p4, p5, p6⟩ := jz.cells; clear hg hr jr jl jz jm jk jd jls jg)
              )
            have HJ := hide ((HD7.out).put (.int .i64 3) (.string nm) (.int .i64 0) (.bool true) (.slice As ds.length cS) (.slice Al ls.length cL) (.slice Ak ks.length cK))
            have HO := hide (SevAt.out w7 (w.heap.size + 2) (.int .i64 3) (.string nm) (.int .i64 0) (.bool true) (.slice As ds.length cS) (.slice Al ls.length cL) (.slice Ak ks.length cK))
            obtain ⟨u0, u1, u2, u3, u4, u5, u6⟩ := HJ.out.cells
            obtain ⟨wf, hwf⟩ : ∃ wf, wf = (((((((w7.setCell ⟨w.heap.size + 2, 0, none⟩ (.int .i64 3)).setCell ⟨w.heap.size + 2, 1, none⟩ (.string nm)).setCell ⟨w.heap.size + 2, 2, none⟩ (.int .i64 0)).setCell ⟨w.heap.size + 2, 3, none⟩ (.bool true)).setCell ⟨w.heap.size + 2, 4, none⟩ (.slice As ds.length cS)).setCell ⟨w.heap.size + 2, 5, none⟩ (.slice Al ls.length cL)).setCell ⟨w.heap.size + 2, 6, none⟩ (.slice Ak ks.length cK)) := ⟨_, rfl⟩
            rw [← hwf] at HO u0 u1 u2 u3 u4 u5 u6 ⊢
            clear hwf HJ
            refine bodyPost_ret (v := .agg #[.int .i64 3, .string nm, .int .i64 0, .bool true, .slice As ds.length cS, .slice Al ls.length cL, .slice Ak ks.length cK]) (by simp [results, Tryz.results86, go_sem, u0, u1, u2, u3, u4, u5, u6]) rfl ?_
            rw [HSL.out, Res.bind_ok, h7, Res.bind_ok]
            refine ⟨HF7.out.onto HO.out (fun g e => by cases e; omega), HR7.out.grown HO.out (by simp; omega) (by simp; omega), _, rfl, 3, nm, 0, true, As, _, cS, Al, _, cL, Ak, _, cK, rfl, ?_⟩
            have hgw : w.heap.size + 3 ≤ w1.heap.size := hs1
            rw [TreeV.iff]
            refine ⟨_, _, _, rfl, ?_, ?_, ?_⟩
            · exact DimV.stays.slice_weaken (DimV.stays.slice HJD.out (Keep.of_grown HO.out (fun b hb _ => by have := hb.1; simp; omega))) (fun b _ hb => by have := hb.1; unfold from_; omega)
            · exact ListV.stays.slice_weaken (ListV.stays.slice HJS.out (Keep.of_grown HO.out (fun b hb _ => by have := hb.1; simp; omega))) (fun b _ hb => by have := hb.1; unfold from_; omega)
            · exact TreeV.stays.slice_weaken (TreeV.stays.slice (HJG.out.slice TreeV.stays (fun b hb => hb)) (Keep.of_grown HO.out (fun b hb _ => by have : w2.heap.size ≤ b := hb; simp; omega))) (fun b _ hb => by have : w2.heap.size ≤ b := hb; unfold from_; omega)
  | false =>
    rw [if_neg (by simp)]
    simp only [Res.bind_ok]
    obtain ⟨r0, hr0⟩ : ∃ r0, r0 = listsL X (X.ts.length + 1) i [] := ⟨_, rfl⟩
    rw [← hr0]
    have HR00 := hide hr0
    clear hr0
    go_enter Tryz.func86, Tryz.ntmps86
    go_wp2_with (first
      | (go_at_call_of 63 (Value.string { data := #[91] }); refine (tIs HR0.out ⟨#[91]⟩).mono ?_; rw [show (⟨#[91]⟩ : ByteArray).toList = tC 91 by simp, hb]; rintro e w1 ⟨rfl, hb1⟩; have HF1 := hide (HF0.out.then' (hb1.by _)); have HR1 := hide (HR0.out.below hb1); have HU1 := hide (HB1.out.below hb1); have HU2 := hide (HB2.out.below hb1); have HU3 := hide (HB3.out.below hb1); have hs1 : w.heap.size + 3 ≤ w1.heap.size := (by have := hb1.size; simpa using this); have hc1 := (HU1.out.alloc (.cells #[.int .i64 3, .string nm, .int .i64 0, .bool false, .slice none 0 0, .slice none 0 0, .slice none 0 0] 47)).cells.1; clear hb1)
      )
    have HL : Hid (ListsAt R w.heap.size (w.heap.size + 1) (w.heap.size + 2) w1.heap.size (w1.heap.size + 1) (L : Int) nm false [] (.slice none 0 0) (w1.alloc (.cells #[.int .i64 3, .string nm, .int .i64 0, .bool false, .slice none 0 0, .slice none 0 0, .slice none 0 0] 47)) [] (.slice none 0 0)) :=
      ⟨HU1.out.alloc _, HU2.out.alloc _, HU3.out.alloc _, by simp, SevAt.new w1 _ _ _ _ _ _ _, SliceV.none _ _ _ _ _, GrowV.nil _ _ _ _ _ _⟩
    have HLR := hide (HR1.out.alloc (.cells #[.int .i64 3, .string nm, .int .i64 0, .bool false, .slice none 0 0, .slice none 0 0, .slice none 0 0] 47))
    have HLF := hide (HF1.out.then' (World.grownBy_alloc w1 (.cells #[.int .i64 3, .string nm, .int .i64 0, .bool false, .slice none 0 0, .slice none 0 0, .slice none 0 0] 47) _))
    obtain ⟨Wl, hWl⟩ : ∃ Wl, Wl = w1.alloc (.cells #[.int .i64 3, .string nm, .int .i64 0, .bool false, .slice none 0 0, .slice none 0 0, .slice none 0 0] 47) := ⟨_, rfl⟩
    obtain ⟨M1, hM1⟩ : ∃ M1, M1 = w1.heap.size + 1 := ⟨_, rfl⟩
    have hT1 : w1.heap.size < M1 := by omega
    rw [← hWl] at HL HLR HLF ⊢
    rw [← hM1] at HL
    clear hWl hM1
    go_loopw [] (fun wr => ∃ (f j : Nat) (ls : List (List Int)) (vl : Value), RdAt X R G c wr j ∧ w.grownBy wr (some R) ∧ r0 = listsL X f j ls ∧ X.ts.length - j < f ∧ ls.length ≤ j ∧ ListsAt R w.heap.size (w.heap.size + 1) (w.heap.size + 2) w1.heap.size M1 (L : Int) nm false [] (.slice none 0 0) wr ls vl) (fun wr => X.ts.length + 1 - posOf R wr)
    case atStart => exact ⟨_, i, [], _, HLR.out, HLF.out, HR00.out, by omega, Nat.zero_le _, HL.out⟩
    case round =>
      obtain ⟨f, j, ls, vl, hR, hG, hsl, hf, hd, hJ⟩ := hrel
      obtain ⟨f, rfl⟩ : ∃ g, f = g + 1 := ⟨f - 1, by omega⟩
      rw [listsL] at hsl
      have HR2 := hide hR
      have HG2 := hide hG
      have HJ2 := hide hJ
      have hjl := hR.le
      have hn1 := HRR.out
      have hn2 := HGG.out
      have hc2 := hJ.r.cells.1
      clear hR hG hJ HLR HLF HL HR00
      cases hb3 : ((X.tx j).toList == tC 123) with
      | true =>
        rw [if_pos hb3] at hsl
        have hjlt := Tks.lt_of hb3 (by simp)
        cases hl : listS X j with
        | bad Te k =>
          rw [hl, Res.bind_bad] at hsl
          have HSL := hide hsl
          clear hsl
          go_wp2_with (go_at_call_of 63 (Value.string { data := #[123] }); refine (tIs HR2.out ⟨#[123]⟩).mono ?_; rw [show (⟨#[123]⟩ : ByteArray).toList = tC 123 by simp, hb3]; rintro e w2 ⟨rfl, hb2⟩; have HR3 := hide (HR2.out.below hb2); have HF3 := hide (HG2.out.then' (hb2.by _)); have HJ3 := hide (HJ2.out.grown (hb2.by _) (by omega) (by omega) (by omega) (by omega) (by omega)); clear hb2)
          obtain ⟨A5, c5, rfl⟩ : ∃ A5 c5, vl = .slice A5 ls.length c5 := GrowV.form HJ3.out.k
          refine wp_region_held_drew (S := fun w' => w'.cell? ⟨w.heap.size, 0, none⟩ = some (.pointer (some ⟨R, 0, none⟩)) ∧ w'.cell? ⟨w1.heap.size, 5, none⟩ = some (.slice A5 ls.length c5)) (by kernel_rfl) ⟨HJ3.out.r.cells.1, HJ3.out.t.cells.2.2.2.2.2.1⟩ (fun hHeld => ?_)
          show wpAnyH _ _ _ _ _ _ _ _ _
          refine wpAnyH_take (i := 0) (v := ?zv8) rfl (by kernel_rfl) (by kernel_rfl) (by kernel_rfl) (fun _ _ _ h => h) (Or.inl ⟨by kernel_rfl, ?zy8⟩) (by assumption) ?_
          case zy8 => (intro wz hSw; (try dsimp only at hSw); go_simp; try with_reducible rfl)
          try simp only [Act.put, List.setIfInBounds_toArray]
          refine wpAnyH_take (i := 1) (v := ?zv9) rfl (by kernel_rfl) (by kernel_rfl) (by kernel_rfl) (fun _ _ _ h => h) (Or.inl ⟨by kernel_rfl, ?zy9⟩) (by assumption) ?_
          case zy9 => (intro wz hSw; (try dsimp only at hSw); go_simp; try with_reducible rfl)
          try simp only [Act.put]
          refine wpAnyH_take (i := 2) (v := ?zv10) rfl (by kernel_rfl) (by kernel_rfl) (by kernel_rfl) (fun _ _ _ h => h) (Or.inl ⟨by kernel_rfl, ?zy10⟩) (by assumption) ?_
          case zy10 => (intro wz hSw; (try dsimp only at hSw); go_simp; try with_reducible rfl)
          try simp only [Act.put]
          refine wpAnyH_ready (rs := [3]) (by kernel_rfl) (by simp) ?_
          refine AllReadyH.cons rfl (fun K hK => ?_) AllReadyH.nil
          go_simp
          refine (tList HOK.out (HR3.out.grown (grown_drew _ none) (by simp) (by simp))).mono ?_
          rw [hl]
          unfold Parsed thrown faultV
          rintro e w6 ⟨hg6, rfl⟩
          refine ⟨rfl, ?_⟩
          rw [HSL.out, Res.bind_bad]
          exact ⟨(HF3.out.then' (grown_drew _ _)).then' hg6, rfl⟩
        | ok l j' =>
          rw [hl, Res.bind_ok] at hsl
          have HSL := hide hsl
          have hj' := listS_lt hl
          clear hsl
          go_wp2_with (go_at_call_of 63 (Value.string { data := #[123] }); refine (tIs HR2.out ⟨#[123]⟩).mono ?_; rw [show (⟨#[123]⟩ : ByteArray).toList = tC 123 by simp, hb3]; rintro e w2 ⟨rfl, hb2⟩; have HR3 := hide (HR2.out.below hb2); have HF3 := hide (HG2.out.then' (hb2.by _)); have HJ3 := hide (HJ2.out.grown (hb2.by _) (by omega) (by omega) (by omega) (by omega) (by omega)); clear hb2)
          obtain ⟨A5, c5, rfl⟩ : ∃ A5 c5, vl = .slice A5 ls.length c5 := GrowV.form HJ3.out.k
          refine wp_region_lapse (S := fun w' => w'.cell? ⟨w.heap.size, 0, none⟩ = some (.pointer (some ⟨R, 0, none⟩)) ∧ w'.cell? ⟨w1.heap.size, 5, none⟩ = some (.slice A5 ls.length c5)) (late := [5, 6, 7]) (by kernel_rfl) ⟨HJ3.out.r.cells.1, HJ3.out.t.cells.2.2.2.2.2.1⟩ (fun hHeld => ?_)
          show wpAnyL _ _ _ _ _ _ _ _ _ _
          refine wpAnyL_take (i := 0) (n := 3) (v := ?zv11) rfl (by kernel_rfl) (by kernel_rfl) (by kernel_rfl) (by kernel_rfl) (by kernel_rfl) (fun _ _ _ h => h) (Or.inl ⟨by kernel_rfl, ?zy11⟩) (by assumption) ?_
          case zy11 => (intro wz hSw; (try dsimp only at hSw); go_simp; try with_reducible rfl)
          try simp only [Act.put, List.setIfInBounds_toArray]
          refine wpAnyL_take (i := 1) (n := 3) (v := ?zv12) rfl (by kernel_rfl) (by kernel_rfl) (by kernel_rfl) (by kernel_rfl) (by kernel_rfl) (fun _ _ _ h => h) (Or.inl ⟨by kernel_rfl, ?zy12⟩) (by assumption) ?_
          case zy12 => (intro wz hSw; (try dsimp only at hSw); go_simp; try with_reducible rfl)
          try simp only [Act.put]
          refine wpAnyL_take (i := 2) (n := 3) (v := ?zv13) rfl (by kernel_rfl) (by kernel_rfl) (by kernel_rfl) (by kernel_rfl) (by kernel_rfl) (fun _ _ _ h => h) (Or.inl ⟨by kernel_rfl, ?zy13⟩) (by assumption) ?_
          case zy13 => (intro wz hSw; (try dsimp only at hSw); go_simp; try with_reducible rfl)
          try simp only [Act.put]
          refine wpAnyL_next (i := 3) (by kernel_rfl) rfl (fun K hK => ?_)
          go_simp
          refine (tList HOK.out (HR3.out.grown (grown_drew _ none) (by simp) (by simp))).mono ?_
          rw [hl]
          rintro e w5 ⟨hg5, hr5, v5, rfl, hv5⟩
          unfold repL at hv5
          obtain ⟨A6, c6, rfl⟩ := hv5.form
          have HG5 := hide ((grown_drew w2 (some R)).then' hg5)
          have HR5 := hide hr5
          have HJ5 := hide (HJ3.out.grown HG5.out (by omega) (by omega) (by omega) (by omega) (by omega))
          obtain ⟨cs, jo3, jv3⟩ := HJ3.out.k
          have HV5 := hide (IntV.stays.slice_weaken (S' := fun b => past M1 b ∧ some b ≠ Value.ownBlock (.slice A5 ls.length c5)) hv5 (fun b _ hb => by
            have h11 : w2.heap.size ≤ b := hb
            have h12 := HJ3.out.s
            refine ⟨by unfold past; omega, fun e => ?_⟩
            have := (jo3.lt b e.symm).2
            omega))
          clear hg5 hr5 hv5 jo3 jv3 cs
          obtain ⟨cs, jo5, jv5⟩ := HJ5.out.k
          have HO5 := hide jo5
          have HW5 := hide jv5
          clear jo5 jv5
          refine hK.out _ _ ⟨HJ5.out.r.cells.1, HJ5.out.t.cells.2.2.2.2.2.1⟩ (fun hHeld2 => ?_)
          clear hK K
          try simp only [Act.put, List.setIfInBounds_toArray, List.set_cons_zero, List.set_cons_succ]
          refine wpAnyL_next (i := 4) (by kernel_rfl) rfl (fun K hK => ?_)
          go_simp
          refine hK.out _ _ ⟨(HJ5.out.r.alloc (.cells #[.slice A6 l.length c6] 85)).cells.1, (HJ5.out.t.alloc (.cells #[.slice A6 l.length c6] 85)).cells.2.2.2.2.2.1⟩ (fun hHeld3 => ?_)
          clear hK K
          try simp only [Act.put, List.setIfInBounds_toArray, List.set_cons_zero, List.set_cons_succ]
          refine wpAnyL_late (i := 5) (by kernel_rfl) rfl (by kernel_rfl) (fun K hK => ?_)
          refine step_append_lies _ (by rfl) _ _ _ (by rfl) M1 85 i0 _ 1 24 Tryz.underlying44 HI.out HI0.out HI1.out HI2.out rfl (by omega) _ _ _ (by rfl) (HO5.out.alloc (.cells #[.slice A6 l.length c6] 85)) ⟨w5.heap.size, 0, none⟩ 1 1 [.slice A6 l.length c6] (by rfl) (by rfl) (cells_new w5 [.slice A6 l.length c6] _) (by intro u hu; simp at hu; subst hu; rfl) (by omega) (by unfold maxLen; omega) (by omega) (by have := HJ5.out.s; simp; omega) (w5.heap.size + 1) (by simp) ?_
          intro g cap w6 hown hgrow hat hlt
          refine hK.out _ _ ?_
          clear hK K
          try simp only [Act.put, List.setIfInBounds_toArray]
          refine wpAnyL_rest (by kernel_rfl) ?_
          have HQ := hide (lists_snoc (L := (L : Int)) (l := l) (by omega) (by omega) (by omega) (by omega) (by omega) (by omega) (by omega) (by omega) (by omega) (by omega) (HR5.out.alloc (.cells #[.slice A6 l.length c6] 85)) ((HF3.out.then' HG5.out).then' (World.grownBy_alloc w5 (.cells #[.slice A6 l.length c6] 85) _)) (HJ5.out.r.alloc _) (HJ5.out.l.alloc _) (HJ5.out.z.alloc _) (by have := HJ5.out.s; simp; omega) (HJ5.out.t.alloc _) rfl (DimV.stays.slice HJ5.out.d (Keep.alloc w5 _)) (HO5.out.alloc _) (HW5.out.mono fun _ _ h => ListV.stays.keep h (Keep.alloc w5 _)) (IntV.stays.slice HV5.out (Keep.alloc w5 _)) hgrow (by simpa using hat) hown)
          have HT6 := hide ((HJ5.out.t.alloc (.cells #[.slice A6 l.length c6] 85)).grown hgrow (fun e => by have := (HO5.out.lt _ e.symm).1; omega))
          have y5 := HT6.out.cells.2.2.2.2.2.1
          have x5 := HT6.out.frozen.2.2.2.2.2.1
          clear hown hgrow hat
          refine wpAny_take (i := 6) (v := ?zv14) rfl (by kernel_rfl) (by kernel_rfl) (by kernel_rfl) (fun _ _ _ h => h) (Or.inl ⟨by rfl, ?zy14⟩) ?_
          case zy14 => (intro wz; go_simp; try with_reducible rfl)
          try simp only [Act.put]
          refine wpAny_ready (rs := [7]) (by kernel_rfl) (by simp) ?_
          refine AllReady.cons rfl (fun K hK => ?_) AllReady.nil
          go_simp
          refine hK _ _ ?_
          clear hK K
          refine wpAny_done (by kernel_rfl) ?_ _
          go_wp2
          go_roundw
          case rel => exact ⟨f, j', _, _, HQ.out.2.1, HQ.out.1, HSL.out, by omega, by rw [List.length_append]; show ls.length + 1 ≤ j'; omega, HQ.out.2.2⟩
          case measure => rw [HQ.out.2.1.pos, HR2.out.pos]; have := HQ.out.2.1.le; omega
      | false =>
        rw [if_neg (by rw [hb3]; simp)] at hsl
        have HSL := hide hsl
        clear hsl
        obtain ⟨A5, c5, rfl⟩ : ∃ A5 c5, vl = .slice A5 ls.length c5 := GrowV.form HJ2.out.k
        cases h7 : brackS X E j with
        | bad Te k =>
          go_wp2_with (first
            | (go_at_call_of 63 (Value.string { data := #[123] }); refine (tIs HR2.out ⟨#[123]⟩).mono ?_; rw [show (⟨#[123]⟩ : ByteArray).toList = tC 123 by simp, hb3]; rintro e w2 ⟨rfl, hb2⟩; have HR3 := hide (HR2.out.below hb2); have HF3 := hide (HG2.out.then' (hb2.by _)); have HJ3 := hide (HJ2.out.grown (hb2.by _) (by omega) (by omega) (by omega) (by omega) (by omega)); have HC3 := hide (call_of_lists (by omega) HJ3.out); have hc3 := HJ3.out.r.cells.1; have hm2 := HJ3.out.s; clear hb2)
            | (go_at_call 40; refine (tBracketed (w0 := w) E (CallAt R w.heap.size (w.heap.size + 1) (w.heap.size + 2) w1.heap.size w2.heap.size (L : Int) nm false [] ls) 90 #[.pointer (some ⟨w1.heap.size, 0, none⟩), .pointer (some ⟨w.heap.size, 0, none⟩), .pointer (some ⟨w.heap.size + 1, 0, none⟩)] (enters Tryz.func90 (by kernel_rfl) (by kernel_rfl)) HEP.out (fun W W' us hJ hg => hJ.grown hg (by omega) (by omega) (by omega) (by omega) (by omega)) (fun W k us hR hG hJ hu => tCallOne (E k) hL (by omega) (by omega) (by omega) (by omega) (by omega) (by omega) (by omega) (by omega) (by omega) (by omega) hR hG hJ hu (fun W' h' => HEX.out W' k h')) HR3.out HF3.out HC3.out).mono ?_; rw [h7]; unfold AllP thrown faultV; rintro e wb ⟨hg, rfl⟩; have HFb := hide hg; clear hg)
            )
          refine ⟨rfl, ?_⟩
          rw [HSL.out, Res.bind_ok, h7, Res.bind_bad]
          exact ⟨HFb.out, rfl⟩
        | ok ks j7 =>
          go_wp2_with (first
            | (go_at_call_of 63 (Value.string { data := #[123] }); refine (tIs HR2.out ⟨#[123]⟩).mono ?_; rw [show (⟨#[123]⟩ : ByteArray).toList = tC 123 by simp, hb3]; rintro e w2 ⟨rfl, hb2⟩; have HR3 := hide (HR2.out.below hb2); have HF3 := hide (HG2.out.then' (hb2.by _)); have HJ3 := hide (HJ2.out.grown (hb2.by _) (by omega) (by omega) (by omega) (by omega) (by omega)); have HC3 := hide (call_of_lists (by omega) HJ3.out); have hc3 := HJ3.out.r.cells.1; have hm2 := HJ3.out.s; clear hb2)
            | (go_at_call 40; refine (tBracketed (w0 := w) E (CallAt R w.heap.size (w.heap.size + 1) (w.heap.size + 2) w1.heap.size w2.heap.size (L : Int) nm false [] ls) 90 #[.pointer (some ⟨w1.heap.size, 0, none⟩), .pointer (some ⟨w.heap.size, 0, none⟩), .pointer (some ⟨w.heap.size + 1, 0, none⟩)] (enters Tryz.func90 (by kernel_rfl) (by kernel_rfl)) HEP.out (fun W W' us hJ hg => hJ.grown hg (by omega) (by omega) (by omega) (by omega) (by omega)) (fun W k us hR hG hJ hu => tCallOne (E k) hL (by omega) (by omega) (by omega) (by omega) (by omega) (by omega) (by omega) (by omega) (by omega) (by omega) hR hG hJ hu (fun W' h' => HEX.out W' k h')) HR3.out HF3.out HC3.out).mono ?_; rw [h7]; unfold AllP; rintro e w7 ⟨hg, rfl, hr, hj7⟩; have HF7 := hide hg; have HR7 := hide hr; obtain ⟨jr, jl, jz, jm, vs7, vl7, vk7, jk, jd, jls, jg⟩ := hj7; obtain ⟨As, cS, rfl⟩ := jd.form; obtain ⟨Al, cL, rfl⟩ := jls.form; obtain ⟨Ak, cK, rfl⟩ := GrowV.form jg; have HD7 := hide jz; have HK7 := hide jk; have HJD := hide jd; have HJS := hide jls; have HJG := hide jg; obtain ⟨a0, a1, a2, a3, a4, a5, a6⟩ := jk.cells; obtain ⟨f0, f1, f2, f3, f4, f5, f6⟩ := jz.frozen; obtain ⟨p0, p1, p2, p3, p4, p5, p6⟩ := jz.cells; clear hg hr jr jl jz jm jk jd jls jg)
            )
          have HJ := hide ((HD7.out).put (.int .i64 3) (.string nm) (.int .i64 0) (.bool false) (.slice As 0 cS) (.slice Al ls.length cL) (.slice Ak ks.length cK))
          have HO := hide (SevAt.out w7 (w.heap.size + 2) (.int .i64 3) (.string nm) (.int .i64 0) (.bool false) (.slice As 0 cS) (.slice Al ls.length cL) (.slice Ak ks.length cK))
          obtain ⟨u0, u1, u2, u3, u4, u5, u6⟩ := HJ.out.cells
          obtain ⟨wf, hwf⟩ : ∃ wf, wf = (((((((w7.setCell ⟨w.heap.size + 2, 0, none⟩ (.int .i64 3)).setCell ⟨w.heap.size + 2, 1, none⟩ (.string nm)).setCell ⟨w.heap.size + 2, 2, none⟩ (.int .i64 0)).setCell ⟨w.heap.size + 2, 3, none⟩ (.bool false)).setCell ⟨w.heap.size + 2, 4, none⟩ (.slice As 0 cS)).setCell ⟨w.heap.size + 2, 5, none⟩ (.slice Al ls.length cL)).setCell ⟨w.heap.size + 2, 6, none⟩ (.slice Ak ks.length cK)) := ⟨_, rfl⟩
          rw [← hwf] at HO u0 u1 u2 u3 u4 u5 u6 ⊢
          clear hwf HJ
          refine bodyPost_ret (v := .agg #[.int .i64 3, .string nm, .int .i64 0, .bool false, .slice As 0 cS, .slice Al ls.length cL, .slice Ak ks.length cK]) (by simp [results, Tryz.results86, go_sem, u0, u1, u2, u3, u4, u5, u6]) rfl ?_
          rw [HSL.out, Res.bind_ok, h7, Res.bind_ok]
          refine ⟨HF7.out.onto HO.out (fun g e => by cases e; omega), HR7.out.grown HO.out (by simp; omega) (by simp; omega), _, rfl, 3, nm, 0, false, As, _, cS, Al, _, cL, Ak, _, cK, rfl, ?_⟩
          have hgw : w.heap.size + 3 ≤ w1.heap.size := hs1
          rw [TreeV.iff]
          refine ⟨_, _, _, rfl, ?_, ?_, ?_⟩
          · exact DimV.stays.slice_weaken (DimV.stays.slice HJD.out (Keep.of_grown HO.out (fun b hb _ => by have := hb.1; simp; omega))) (fun b _ hb => by have := hb.1; unfold from_; omega)
          · exact ListV.stays.slice_weaken (ListV.stays.slice HJS.out (Keep.of_grown HO.out (fun b hb _ => by have := hb.1; simp; omega))) (fun b _ hb => by have := hb.1; unfold from_; omega)
          · exact TreeV.stays.slice_weaken (TreeV.stays.slice (HJG.out.slice TreeV.stays (fun b hb => hb)) (Keep.of_grown HO.out (fun b hb _ => by have : w2.heap.size ≤ b := hb; simp; omega))) (fun b _ hb => by have : w2.heap.size ≤ b := hb; unfold from_; omega)
end Go.Proofs.YtadhlnlcdljamaaGreatDoor.V
