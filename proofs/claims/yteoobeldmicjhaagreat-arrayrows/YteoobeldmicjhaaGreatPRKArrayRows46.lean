/-
  ArrayRows: where the document's Do tells no error.
-/
import Derived.Test.YteoobeldmicjhaaGreatPRKArrayRows45
import Derived.Test.YteoobeldmicjhaaGreatPRKArrayRows43
import Derived.Test.YteoobeldmicjhaaGreatPRKArrayRows13
import Derived.Test.YteoobeldmicjhaaGreatPRKArrayRows42
namespace Go.Proofs.YteoobeldmicjhaaGreat.V
set_option maxRecDepth 20000
open Go.RowKit

theorem rowIs_ne_arr {w : World} {G B n : Nat} {f : Nat → Value} {c0 c1 : Value} (h : w.rowIs G 2 n f) (ha : ArrAt w B c0 c1) : G ≠ B := fun e => by
  subst e
  unfold ArrAt at ha
  unfold World.rowIs at h
  obtain ⟨cs, h1, _⟩ := h
  rw [h1] at ha
  cases ha
/-- A new row of noughts. -/
def fRowZ (N n : Nat) : Fact := ⟨fun v w => ∃ G, v = .slice (some ⟨G, 0, none⟩) n n ∧ w.rowIs G 2 n (fun _ => .int .i64 0) ∧ N ≤ G, false⟩
theorem fRowZ_good (N n : Nat) : (fRowZ N n).Good := ⟨fun _ _ _ ⟨G, h1, h2, h3⟩ hb => ⟨G, h1, h2.of_block (hb.block _ h2.lt), h3⟩, fun h => by cases h⟩
def fAggZ (N : Nat) (Z : Option Addr) (nz cz n : Nat) : Fact := ⟨fun v w => ∃ G, v = .agg #[.slice Z nz cz, .slice (some ⟨G, 0, none⟩) n n] ∧ w.rowIs G 2 n (fun _ => .int .i64 0) ∧ N ≤ G, false⟩
theorem fAggZ_good (N : Nat) (Z : Option Addr) (nz cz n : Nat) : (fAggZ N Z nz cz n).Good := ⟨fun _ _ _ ⟨G, h1, h2, h3⟩ hb => ⟨G, h1, h2.of_block (hb.block _ h2.lt), h3⟩, fun h => by cases h⟩

theorem FourAt.below {w w' : World} {b : Nat} {c0 c1 c2 c3 : Value} (h : FourAt w b c0 c1 c2 c3) (hb : Below w.heap.size w w') : FourAt w' b c0 c1 c2 c3 := (hb.block b (Array.getElem?_eq_some_iff.1 h).1).trans h
/-- A new list of two arrays. -/
def fFour (N : Nat) (c0 c1 c2 c3 : Value) : Fact := ⟨fun v W => ∃ B, v = .slice (some ⟨B, 0, none⟩) 2 2 ∧ FourAt W B c0 c1 c2 c3 ∧ N ≤ B, false⟩
theorem fFour_good (N : Nat) (c0 c1 c2 c3 : Value) : (fFour N c0 c1 c2 c3).Good := ⟨fun _ _ _ ⟨B, h1, h2, h3⟩ hb => ⟨B, h1, h2.below hb, h3⟩, fun h => by cases h⟩

set_option maxRecDepth 100000 in
set_option maxHeartbeats 1000000 in
theorem rows_good (ab ao : Nat) (dl dc : Nat) (ds : List Int) (xa : Option Addr) (n xc : Nat) (xs : List Int) (fa : Option Addr) (fl fc : Nat) (gs : List Int) (ya : Option Addr) (m yc : Nat) (ys : List Int) (ua : Option Addr) (un uc : Nat) (us : List Int) (w : World)
    (hda : Lst w (some ⟨ab, ao, none⟩) dl dc ds) (hxa : Ints w xa n xs) (hfa : Lst w fa fl fc gs) (hya : Ints w ya m ys) (hxc : n ≤ xc) (hua : Ints w ua un us) (hE : doE 18 [] [] [] [] [] 2 (pairV ds n gs m) = 0) :
    Calls Tryz.prog 3 #[.agg #[.slice (some ⟨ab, ao, none⟩) dl dc, .slice xa n xc], .agg #[.slice fa fl fc, .slice ya m yc], .slice ua un uc] w fun e w' => e = .returned (.bool true) ∧ Below w.heap.size w w' := by
  obtain ⟨D, long, hl0, hD, hlong, en, haL, hdt⟩ := do_takeL 0 none 0 0 [] none 0 0 [] none 0 0 [] none 0 0 [] none 0 0 [] ds n fa fl fc gs ya m yc ys w (lst_none w) (lst_none w) (lst_none w) (lst_none w) (lst_none w) (by omega) (by omega) (by omega) (by omega) (by omega) hfa hya hE
  have HUA := hide hua
  have HDT := hide hdt
  have HEE := hide hE
  have HHL := hide haL
  have hN6 := (arrE_ok haL).2.2
  obtain ⟨NN, hNN⟩ : ∃ NN, NN = m * long := ⟨_, rfl⟩
  rw [← hNN] at HDT HHL hN6
  have hmk := run_make_row' (P := Tryz.prog) 23 2 (.int .i64 0) 8 Tryz.underlying23 info_int64 rfl .i64 .i64 NN (by omega) (by omega)
  have HEN := hide en
  have HNN := hide hNN
  have HD0 := hide hD
  have HLG := hide hlong
  have HL0 := hide hl0
  clear hua hdt haL hE en hNN hD hlong hl0
  have HDA := hide hda
  have HXA := hide hxa
  have HFA := hide hfa
  have HYA := hide hya
  have HB2 := hide (((Below.refl w.heap.size w).alloc (Nat.le_refl _) (.cells #[.slice (some ⟨ab, ao, none⟩) dl dc, .slice xa n xc] 25)).alloc (by simp) (.cells #[.slice fa fl fc, .slice ya m yc] 25))
  have HA0 := hide ((ArrAt.new w (.slice (some ⟨ab, ao, none⟩) dl dc) (.slice xa n xc)).alloc (.cells #[.slice fa fl fc, .slice ya m yc] 25))
  have ha1 := ArrAt.new (w.alloc (.cells #[.slice (some ⟨ab, ao, none⟩) dl dc, .slice xa n xc] 25)) (.slice fa fl fc) (.slice ya m yc)
  simp only [World.size_alloc] at ha1
  have HA1 := hide ha1
  clear hda hxa hfa hya ha1
  go_enter Tryz.func3, Tryz.ntmps3
  go_wp2_with (first
    | (go_at_call 9; have f4 := FourAt.new (w := w2.alloc (.cells #[.slice Z nz cz, .slice G ng cg] 25)) (B := w2.heap.size + 1) (.slice (some ⟨ab, ao, none⟩) dl dc) (.slice xa n xc) (.slice fa fl fc) (.slice ya m yc) (by simp); obtain ⟨c0, c1, c2, c3⟩ := f4.cells; have hb4 := (HB5.out.alloc HB5.out.size (.cells #[.slice Z nz cz, .slice G ng cg] 25)).alloc (by have := HB5.out.size; simp; omega) (.cells #[.slice (some ⟨ab, ao, none⟩) dl dc, .slice xa n xc, .slice fa fl fc, .slice ya m yc] 25); refine (HDT.out _ (w2.heap.size + 1) 0 2 (some ⟨ab, ao, none⟩) dl dc xa xc xs hb4 c0 c1 c2 c3 (HDA.out.below hb4) (HXA.out.below hb4) hxc).mono ?_; rintro e w3 ⟨⟨Z3, nz3, cz3, G3, rfl, ⟨hi3, hnc3⟩, hi4, hg3⟩, hb⟩; have HB7 := hide (Below.on hb4 hb); have HA7 := hide (((HA5.out.alloc _).alloc _).below hb); have HA8 := hide (((HA6.out.alloc _).alloc _).below hb); have HI3 := hide hi3; have HNC := hide hnc3; have HI4 := hide hi4; have HU := hide (ArrAt.new w3 (.slice Z3 nz3 cz3) (.slice (some ⟨G3, 0, none⟩) NN NN)); clear hnc3 f4 c0 c1 c2 c3 hb4 hb hi3 hi4 hg3 a0 a1 b0 b1; obtain ⟨⟨a0, a1⟩, _⟩ := (HA7.out.alloc (.cells #[.slice Z3 nz3 cz3, .slice (some ⟨G3, 0, none⟩) NN NN] 25)).cells; obtain ⟨⟨b0, b1⟩, _⟩ := (HA8.out.alloc (.cells #[.slice Z3 nz3 cz3, .slice (some ⟨G3, 0, none⟩) NN NN] 25)).cells; obtain ⟨⟨u0, u1⟩, _⟩ := HU.out.cells)
    | (go_at_call 8; have f4 := FourAt.new (w := w1) (B := w1.heap.size) (.slice (some ⟨ab, ao, none⟩) dl dc) (.slice xa n xc) (.slice fa fl fc) (.slice ya m yc) rfl; obtain ⟨c0, c1, c2, c3⟩ := f4.cells; have hb4 := HB3.out.alloc HB3.out.size (.cells #[.slice (some ⟨ab, ao, none⟩) dl dc, .slice xa n xc, .slice fa fl fc, .slice ya m yc] 25); refine (rdo_take w1.heap.size 0 2 (some ⟨ab, ao, none⟩) dl dc ds xa n xc xs fa fl fc gs ya m yc ys _ c0 c1 c2 c3 (HDA.out.below hb4) (HXA.out.below hb4) (HFA.out.below hb4) (HYA.out.below hb4)).mono ?_; rintro e w2 ⟨⟨Z, nz, cz, G, ng, cg, rfl⟩, hb⟩; rw [HEE.out]; have HB5 := hide (Below.on hb4 hb); have HA5 := hide ((HA2.out.alloc _).below hb); have HA6 := hide ((HA3.out.alloc _).below hb); clear f4 c0 c1 c2 c3 hb4 hb a0 a1 b0 b1; obtain ⟨⟨a0, a1⟩, _⟩ := (HA5.out.alloc (.cells #[.slice Z nz cz, .slice G ng cg] 25)).cells; obtain ⟨⟨b0, b1⟩, _⟩ := (HA6.out.alloc (.cells #[.slice Z nz cz, .slice G ng cg] 25)).cells)
    | (go_at_call 7; refine (alive2_any _).mono ?_; rintro e w1 ⟨rfl, hb⟩; have HB3 := hide (Below.on HB2.out hb); have HA2 := hide (HA0.out.below hb); have HA3 := hide (HA1.out.below hb); clear hb; obtain ⟨⟨a0, a1⟩, _⟩ := HA2.out.cells; obtain ⟨⟨b0, b1⟩, _⟩ := HA3.out.cells))
  refine region_made 8 12 [fIs (.pointer (some ⟨w3.heap.size, 0, none⟩)), fIs (.slice Z3 nz3 cz3), fIs (.pointer (some ⟨w3.heap.size, 1, none⟩)), fIs (.slice (some ⟨G3, 0, none⟩) NN NN), fIs (.int .i64 (NN : Int)), fRowZ w3.heap.size NN, fAggZ w3.heap.size Z3 nz3 cz3 NN, fArr w3.heap.size] (by kernel_rfl) (by kernel_rfl) (by kernel_rfl) (fun _ ⟨_, _⟩ ⟨_, _⟩ _ e h => by cases e; exact h) ⟨fIs_good _, fIs_good _, fIs_good _, fIs_good _, fIs_good _, fRowZ_good _ _, fAggZ_good _ _ _ _ _, fArr_good _, trivial⟩ ?mk ?rest
  case mk =>
    refine ⟨fun u wz hb hd => ?_, fun u wz hb hd => ?_, fun u wz hb hd => ?_, fun u wz hb hd => ?_, fun u wz hb hd => ?_, fun u wz hb hd => ?_, fun u wz hb hd => ?_, fun u wz hb hd => ?_, trivial⟩
    all_goals simp only [Act.put, List.setIfInBounds_toArray, List.set_cons_zero, List.set_cons_succ]
    · go_simp
      exact ⟨rfl, Below.refl _ _, fun h => by cases h⟩
    · have e0 : u 0 = .pointer (some ⟨w3.heap.size, 0, none⟩) := hd 0 (by omega) (by kernel_rfl)
      rw [e0]
      have u0' := (hb.cell (p := ⟨w3.heap.size, 0, none⟩) (lt_of_cell u0)).trans u0
      go_simp
      exact ⟨rfl, Below.refl _ _, fun h => by cases h⟩
    · go_simp
      exact ⟨rfl, Below.refl _ _, fun h => by cases h⟩
    · have e2 : u 2 = .pointer (some ⟨w3.heap.size, 1, none⟩) := hd 2 (by omega) (by kernel_rfl)
      rw [e2]
      have u1' := (hb.cell (p := ⟨w3.heap.size, 1, none⟩) (lt_of_cell u1)).trans u1
      go_simp
      exact ⟨rfl, Below.refl _ _, fun h => by cases h⟩
    · have e3 : u 3 = .slice (some ⟨G3, 0, none⟩) NN NN := hd 3 (by omega) (by kernel_rfl)
      rw [e3]
      go_simp
      exact ⟨rfl, Below.refl _ _, fun h => by cases h⟩
    · have e4 : u 4 = .int .i64 (NN : Int) := hd 4 (by omega) (by kernel_rfl)
      rw [e4]
      go_simp
      exact ⟨⟨_, rfl, World.rowIs_made _ _ _ _, by have := hb.size; simp at this; omega⟩, (Below.refl _ _).alloc (Nat.le_refl _) _, fun h => by cases h⟩
    · have e1 : u 1 = .slice Z3 nz3 cz3 := hd 1 (by omega) (by kernel_rfl)
      obtain ⟨B5, e5, h5, l5⟩ := hd 5 (by omega) (by kernel_rfl)
      rw [e1, e5]
      go_simp
      exact ⟨⟨B5, rfl, h5, l5⟩, Below.refl _ _, fun h => by cases h⟩
    · go_simp
      exact ⟨⟨_, rfl, ArrAt.new _ _ _, by have := hb.size; simp at this; omega⟩, (Below.refl _ _).alloc (Nat.le_refl _) _, fun _ b hb => by simp [blk] at hb; omega⟩
  case rest =>
    intro u wz hb hf hp
    have f0 : u 0 = .pointer (some ⟨w3.heap.size, 0, none⟩) := hf 0 (by omega)
    have f1 : u 1 = .slice Z3 nz3 cz3 := hf 1 (by omega)
    have f2 : u 2 = .pointer (some ⟨w3.heap.size, 1, none⟩) := hf 2 (by omega)
    have f3 : u 3 = .slice (some ⟨G3, 0, none⟩) NN NN := hf 3 (by omega)
    have f4 : u 4 = .int .i64 (NN : Int) := hf 4 (by omega)
    obtain ⟨_, f5, _, _⟩ := hf 5 (by omega)
    obtain ⟨G5, f6, hg5, hl5⟩ := hf 6 (by omega)
    obtain ⟨C7, f7, i7, n7⟩ := hf 7 (by omega)
    refine UptoW.rest 1 8 (by rfl) (by kernel_rfl) ?_
    simp only [List.take, List.drop, putOps, Act.put, List.setIfInBounds_toArray, List.set_cons_zero, List.set_cons_succ, Nat.reduceAdd, f0, f1, f2, f3, f4, f5, f6, f7]
    clear f0 f1 f2 f3 f4 f5 f6 f7 hf hp
    have hgc : G5 ≠ C7 := rowIs_ne_arr hg5 i7
    obtain ⟨⟨c0, c1⟩, z0, z1⟩ := i7.cells
    refine wpList_plain rfl (fun K hK => ?_)
    go_simp
    refine hK _ _ (wpList_nil ?_)
    clear hK K c0 c1 z0 z1
    have hC7 : C7 ≠ w3.heap.size := fun e => by
      have h1 := i7
      have h2 := HU.out.below hb
      rw [e] at h1
      unfold ArrAt at h1 h2
      rw [h1] at h2
      cases h2
    have hsl := HU.out.lt
    have hbb := hb.size
    have HW9 := hide (show Below w.heap.size w wz from Below.on (HB7.out.alloc HB7.out.size _) hb)
    have hs3 := HB7.out.size
    have hs4 := HA8.out.lt
    have HB39 := hide ((Below.on ((Below.refl w3.heap.size w3).alloc (Nat.le_refl _) _) hb).setCell (p := ⟨C7, 0, none⟩) (by simpa using n7) (.slice Z3 nz3 cz3) |>.setCell (p := ⟨C7, 1, none⟩) (by simpa using n7) (.slice (some ⟨G5, 0, none⟩) NN NN))
    have K0 := ((HA7.out.alloc _).below hb)
    have K1 := ((HA8.out.alloc _).below hb)
    have KU := HU.out.below hb
    have J3 := (HI3.out.below ((Below.refl _ _).alloc (Nat.le_refl _) _)).below hb
    have J4 := (HI4.out.below ((Below.refl _ _).alloc (Nat.le_refl _) _)).below hb
    have HA9 := hide (i7.put (.slice Z3 nz3 cz3) (.slice (some ⟨G5, 0, none⟩) NN NN))
    have HR9 := hide ((hg5.setOther (a := ⟨C7, 0, none⟩) (by simp; omega) (.slice Z3 nz3 cz3)).setOther (a := ⟨C7, 1, none⟩) (by simp; omega) (.slice (some ⟨G5, 0, none⟩) NN NN))
    have HB9 := hide ((HW9.out.setCell (p := ⟨C7, 0, none⟩) (by simp; omega) (.slice Z3 nz3 cz3)).setCell (p := ⟨C7, 1, none⟩) (by simp; omega) (.slice (some ⟨G5, 0, none⟩) NN NN))
    have HK0 := hide ((K0.set (p := ⟨C7, 0, none⟩) (by simp; omega) (.slice Z3 nz3 cz3)).set (p := ⟨C7, 1, none⟩) (by simp; omega) (.slice (some ⟨G5, 0, none⟩) NN NN))
    have HK1 := hide ((K1.set (p := ⟨C7, 0, none⟩) (by simp; omega) (.slice Z3 nz3 cz3)).set (p := ⟨C7, 1, none⟩) (by simp; omega) (.slice (some ⟨G5, 0, none⟩) NN NN))
    have HKU := hide ((KU.set (p := ⟨C7, 0, none⟩) (by simp; omega) (.slice Z3 nz3 cz3)).set (p := ⟨C7, 1, none⟩) (by simp; omega) (.slice (some ⟨G5, 0, none⟩) NN NN))
    have HJ3 := hide (ints_put_arr J3 i7 (fun _ _ e => by cases e) (fun _ _ e => by cases e) (.slice Z3 nz3 cz3) (.slice (some ⟨G5, 0, none⟩) NN NN))
    have HJ4 := hide (ints_put_arr J4 i7 (fun _ _ e => by cases e) (fun _ _ e => by cases e) (.slice Z3 nz3 cz3) (.slice (some ⟨G5, 0, none⟩) NN NN))
    have hszz : ((wz.setCell ⟨C7, 0, none⟩ (.slice Z3 nz3 cz3)).setCell ⟨C7, 1, none⟩ (.slice (some ⟨G5, 0, none⟩) NN NN)).heap.size = wz.heap.size := by simp
    generalize (wz.setCell ⟨C7, 0, none⟩ (.slice Z3 nz3 cz3)).setCell ⟨C7, 1, none⟩ (.slice (some ⟨G5, 0, none⟩) NN NN) = W9 at *
    clear K0 K1 KU J3 J4 i7 hg5 hb HW9 HA2 HA3 HA5 HA6 HA7 HA8 HB3 HB5 HB7 HU a0 a1 b0 b1 u0 u1
    obtain ⟨⟨v0, v1⟩, _⟩ := HA9.out.cells
    have hrz : W9.rowIs G5 2 NN (fun j => .int .i64 ((List.replicate NN 0)[j]?.getD 0)) := HR9.out.congr (fun j _ => by rw [replicate_zero_at])
    have HRZ := hide hrz
    obtain ⟨US, hUS⟩ : ∃ US, US = us.take (Nat.min un NN) := ⟨_, rfl⟩
    have hUl : US.length ≤ NN := by rw [hUS, List.length_take]; exact Nat.le_trans (Nat.min_le_left _ _) (Nat.min_le_right _ _)
    have HUS := hide hUS
    clear hrz hUS
    go_wp2_with (refine wpList_copy_row rfl (.tmp 46) (.tmp 47) 23 23 rfl 2 Tryz.underlying23 size_int64 (some ⟨G5, 0, none⟩) ua NN NN un uc rfl rfl G5 NN 2 0 (List.replicate NN 0) us US HRZ.out (by simp) (HUA.out.below HB9.out) HUS.out (fun _ => rfl) (by omega) ?_; intro W10 hr10 hbut h010; have HR10 := hide hr10; have HBT := hide hbut; have H010 := hide h010; clear hr10 hbut h010 v0 v1)
    have hsv : Save G5 W9 W10 := Save.of_below (Below.refl _ _) HBT.out H010.out
    have HB10 := hide (Save.below HB9.out hsv (by omega) (Nat.le_refl _))
    have HB31 := hide (Save.below HB39.out hsv (by omega) (Nat.le_refl _))
    have HP0 : Hid (ArrAt W10 w.heap.size (.slice (some ⟨ab, ao, none⟩) dl dc) (.slice xa n xc)) := (HBT.out.1 _ (rowIs_ne_arr HR9.out HK0.out).symm).trans HK0.out
    have HP1 : Hid (ArrAt W10 (w.heap.size + 1) (.slice fa fl fc) (.slice ya m yc)) := (HBT.out.1 _ (rowIs_ne_arr HR9.out HK1.out).symm).trans HK1.out
    have HPF : Hid (ArrAt W10 w3.heap.size (.slice Z3 nz3 cz3) (.slice (some ⟨G3, 0, none⟩) NN NN)) := (HBT.out.1 _ (rowIs_ne_arr HR9.out HKU.out).symm).trans HKU.out
    have HPU : Hid (ArrAt W10 C7 (.slice Z3 nz3 cz3) (.slice (some ⟨G5, 0, none⟩) NN NN)) := (HBT.out.1 _ (rowIs_ne_arr HR9.out HA9.out).symm).trans HA9.out
    have hul : Ints W10 (some ⟨G5, 0, none⟩) NN (copyL (List.replicate NN 0) 0 US) := ⟨(copyL_length _ _ _ (by simp; omega)).trans (by simp), by omega, fun y hy => by
      simp only [copyL, List.mem_append] at hy
      rcases hy with hy | hy | hy
      · simp at hy
      · rw [HUS.out] at hy; exact HUA.out.2.2.1 y (List.mem_of_mem_take hy)
      · have := List.mem_of_mem_drop hy
        simp at this
        omega, .inr ⟨G5, 0, rfl, fun j hj => by rw [Nat.zero_add]; exact HR10.out.cell hj⟩⟩
    obtain ⟨UL, hUL⟩ : ∃ UL, UL = copyL (List.replicate NN 0) 0 US := ⟨_, rfl⟩
    rw [← hUL] at hul
    have HUL := hide hul
    have LDA := HDA.out.below HB10.out
    have ht1 : ds.take 1 = [(D : Int)] := by
      have h0 := HL0.out
      have h1 := HD0.out
      match ds, h0 with
      | d :: r, _ =>
        simp only [List.getElem?_cons_zero, Option.getD_some] at h1
        rw [h1]; rfl
    have hdl : 1 ≤ dl := by have h0 := HL0.out; have := LDA.1.1; omega
    have hdc : 1 ≤ dc := Nat.le_trans hdl LDA.2.1
    have hone := lst_take LDA 1 hdl
    rw [ht1] at hone
    obtain ⟨hpe, hpd⟩ := put_doE HEE.out HD0.out HHL.out
    obtain ⟨D2, long2, hD2, htk2, hlong2, en2, haL2, hput⟩ := do_put2 0 (some ⟨ab, ao, none⟩) 1 dc [(D : Int)] none 0 0 [] none 0 0 [] none 0 0 [] none 0 0 [] (gs ++ ds.drop 1) NN fa fl fc gs ya m yc ys W10 hone (lst_none _) (lst_none _) (lst_none _) (lst_none _) (by omega) (by omega) (by omega) (by omega) (by omega) (HFA.out.below HB10.out) (HYA.out.below HB10.out) hpe
    have eD : D2 = D := by simp only [List.cons.injEq, and_true] at hD2; omega
    have eL : long2 = long := by
      have h1 := HLG.out
      rw [List.drop_left] at hlong2
      omega
    rw [eD, eL, hpd, ← HEN.out] at hput haL2
    obtain ⟨PL, hPL⟩ : ∃ PL, PL = putL UL ys long n m := ⟨_, rfl⟩
    have HPUT : Hid (∀ (W : World) (b cap : Nat), Below W10.heap.size W10 W → FourAt W b (.slice Z3 nz3 cz3) (.slice (some ⟨G5, 0, none⟩) NN NN) (.slice fa fl fc) (.slice ya m yc) → Calls Tryz.prog 9 #[.agg #[.int .i64 19, .slice (some ⟨ab, ao, none⟩) 1 dc, .slice none 0 0, .slice none 0 0, .slice none 0 0, .slice none 0 0, .int .i64 0], .slice (some ⟨b, 0, none⟩) 2 cap] W fun e W' => DoesTo W ds PL n e W' ∧ Below W.heap.size W W') := fun W b cap hW h4 => by
      obtain ⟨c0, c1, c2, c3⟩ := h4.cells
      have := hput W b 0 cap Z3 nz3 cz3 (some ⟨G5, 0, none⟩) NN UL hW c0 c1 c2 c3 ⟨(HI3.out.below HB31.out).below hW, HNC.out⟩ (hul.below hW) (Nat.le_refl _)
      rw [← hPL] at this
      exact this
    have hFl : (takeL xs ys long D NN).length = NN := takeL_length _ _ _ _ _
    have hUl2 : UL.length = NN := hul.1
    have hPl2 : PL.length = n := by rw [hPL]; exact putL_length _ _ _ _ _
    have hXl : xs.length = n := HXA.out.1
    obtain ⟨FL, hFL⟩ : ∃ FL, FL = takeL xs ys long D NN := ⟨_, rfl⟩
    rw [← hFL] at hFl
    have HQ1 : Hid (innerN (gs ++ ds.drop 1) FL (gs ++ ds.drop 1) UL = innS FL UL NN) := by
      rw [Hid, innerN, hFl, hUl2, if_neg (by rw [HHL.out]; simp), if_neg (by rw [HHL.out]; simp), if_pos rfl]
    have HQ2 : Hid (innerE (gs ++ ds.drop 1) FL (gs ++ ds.drop 1) UL = 0) := by
      rw [Hid, innerE, hFl, hUl2, if_neg (by rw [HHL.out]; simp), if_neg (by rw [HHL.out]; simp), if_pos rfl]
    have hback : innS FL UL NN = innS xs PL n := by
      rw [hFL, hPL, HNN.out, HEN.out]
      exact rows_back xs ys UL long D m
    have HQ3 : Hid (innerN ds xs ds PL = innS FL UL NN) := by
      rw [Hid, innerN, hXl, hPl2, if_neg (by rw [haL2]; simp), if_neg (by rw [haL2]; simp), if_pos rfl, hback]
    have HQ4 : Hid (innerE ds xs ds PL = 0) := by
      rw [Hid, innerE, hXl, hPl2, if_neg (by rw [haL2]; simp), if_neg (by rw [haL2]; simp), if_pos rfl]
    obtain ⟨V, hV⟩ : ∃ V, V = innS FL UL NN := ⟨_, rfl⟩
    rw [← hV] at HQ1 HQ3
    have q1 : (V == V) = true := by simp
    have HI3' := hide (HI3.out.below HB31.out)
    have HI4' : Hid (Ints W10 (some ⟨G3, 0, none⟩) NN FL) := by
      have := HI4.out.below HB31.out
      rw [← hFL] at this
      exact this
    have HXA' := hide (HXA.out.below HB10.out)
    have HDA' := hide LDA
    clear hsv hul hone hpe hpd hD2 htk2 hlong2 en2 haL2 hput eD eL LDA ht1 hFl hUl2 hPl2 hXl hback hV hPL hFL hUL HI3 HI4 HR10 HBT H010 HK0 HK1 HKU HA9 HR9 HB9 HB39 HRZ HXA HDA
    obtain ⟨⟨a0, a1⟩, _⟩ := HP0.out.cells
    obtain ⟨⟨b0, b1⟩, _⟩ := HP1.out.cells
    obtain ⟨⟨u0, u1⟩, _⟩ := HPU.out.cells
    refine region_made1 12 14 10 [fIs (.pointer (some ⟨w.heap.size, 0, none⟩)), fIs (.slice (some ⟨ab, ao, none⟩) dl dc), fIs (.slice (some ⟨ab, ao, none⟩) 1 dc), fIs (.agg #[.int .i64 19, .slice (some ⟨ab, ao, none⟩) 1 dc, .slice none 0 0, .slice none 0 0, .slice none 0 0, .slice none 0 0, .int .i64 0]), fIs (.agg #[.slice Z3 nz3 cz3, .slice (some ⟨G5, 0, none⟩) NN NN]), fIs (.agg #[.slice fa fl fc, .slice ya m yc]), fFour W10.heap.size (.slice Z3 nz3 cz3) (.slice (some ⟨G5, 0, none⟩) NN NN) (.slice fa fl fc) (.slice ya m yc), fDo ds PL n, fDo ds PL n, fAgg ds PL n, fIs (.int .i64 0), fArr W10.heap.size] (by kernel_rfl) (by kernel_rfl) (by kernel_rfl) (fun _ ⟨_, _⟩ ⟨_, _⟩ _ e h => by cases e; exact h) ⟨fIs_good _, fIs_good _, fIs_good _, fIs_good _, fIs_good _, fIs_good _, fFour_good _ _ _ _ _, fDo_good _ _ _, fDo_good _ _ _, fAgg_good _ _ _, fIs_good _, fArr_good _, trivial⟩ ?pure ?mk ?rest
    case pure =>
      intro o ho u wz hb hd
      cases ho
      obtain ⟨Z, nz, cz, G, e5, h1, h2⟩ := hd 8 (by omega) (by kernel_rfl)
      refine ⟨.int .i64 0, fun w3 => ?_⟩
      simp only [List.take, putOps, Act.put, List.setIfInBounds_toArray, List.set_cons_zero, List.set_cons_succ, e5]
      go_simp
    case mk =>
      refine ⟨fun u wz hb hd => ?_, fun u wz hb hd => ?_, fun u wz hb hd => ?_, fun u wz hb hd => ?_, fun u wz hb hd => ?_, fun u wz hb hd => ?_, fun u wz hb hd => ?_, fun u wz hb hd => ?_, fun u wz hb hd => ?_, fun u wz hb hd => ?_, fun u wz hb hd => ?_, fun u wz hb hd => ?_, trivial⟩
      all_goals simp only [Act.put, List.setIfInBounds_toArray, List.set_cons_zero, List.set_cons_succ]
      · go_simp
        exact ⟨rfl, Below.refl _ _, fun h => by cases h⟩
      · have e0 : u 0 = .pointer (some ⟨w.heap.size, 0, none⟩) := hd 0 (by omega) (by kernel_rfl)
        rw [e0]
        have a0' := (hb.cell (p := ⟨w.heap.size, 0, none⟩) (lt_of_cell a0)).trans a0
        go_simp
        exact ⟨rfl, Below.refl _ _, fun h => by cases h⟩
      · have e1 : u 1 = .slice (some ⟨ab, ao, none⟩) dl dc := hd 1 (by omega) (by kernel_rfl)
        have k1 : (1 : Int) ≤ (dc : Int) := by omega
        rw [e1]
        go_simp
        exact ⟨rfl, Below.refl _ _, fun h => by cases h⟩
      · have e2 : u 2 = .slice (some ⟨ab, ao, none⟩) 1 dc := hd 2 (by omega) (by kernel_rfl)
        rw [e2]
        go_simp
        exact ⟨rfl, Below.refl _ _, fun h => by cases h⟩
      · have u0' := (hb.cell (p := ⟨C7, 0, none⟩) (lt_of_cell u0)).trans u0
        have u1' := (hb.cell (p := ⟨C7, 1, none⟩) (lt_of_cell u1)).trans u1
        go_simp
        exact ⟨rfl, Below.refl _ _, fun h => by cases h⟩
      · have b0' := (hb.cell (p := ⟨w.heap.size + 1, 0, none⟩) (lt_of_cell b0)).trans b0
        have b1' := (hb.cell (p := ⟨w.heap.size + 1, 1, none⟩) (lt_of_cell b1)).trans b1
        go_simp
        exact ⟨rfl, Below.refl _ _, fun h => by cases h⟩
      · have e4 : u 4 = .agg #[.slice Z3 nz3 cz3, .slice (some ⟨G5, 0, none⟩) NN NN] := hd 4 (by omega) (by kernel_rfl)
        have e5 : u 5 = .agg #[.slice fa fl fc, .slice ya m yc] := hd 5 (by omega) (by kernel_rfl)
        rw [e4, e5]
        go_simp
        exact ⟨⟨_, rfl, FourAt.new _ _ _ _ rfl, hb.size⟩, (Below.refl _ _).alloc (Nat.le_refl _) _, fun h => by cases h⟩
      · have e3 : u 3 = .agg #[.int .i64 19, .slice (some ⟨ab, ao, none⟩) 1 dc, .slice none 0 0, .slice none 0 0, .slice none 0 0, .slice none 0 0, .int .i64 0] := hd 3 (by omega) (by kernel_rfl)
        obtain ⟨B4, e4, h4, hN4⟩ := hd 6 (by omega) (by kernel_rfl)
        rw [e3, e4]
        go_simp
        refine (HPUT.out wz B4 2 hb h4).mono ?_
        rintro e w3 ⟨⟨Z, nz, cz, G, rfl, h1, h2, _⟩, hb2⟩
        exact ⟨⟨Z, nz, cz, G, rfl, h1, h2⟩, hb2, fun h => by cases h⟩
      · obtain ⟨Z, nz, cz, G, e5, h1, h2⟩ := hd 7 (by omega) (by kernel_rfl)
        rw [e5]
        go_simp
        exact ⟨⟨Z, nz, cz, G, rfl, h1, h2⟩, Below.refl _ _, fun h => by cases h⟩
      · obtain ⟨Z, nz, cz, G, e5, h1, h2⟩ := hd 8 (by omega) (by kernel_rfl)
        rw [e5]
        go_simp
        exact ⟨⟨Z, nz, cz, G, rfl, h1, h2⟩, Below.refl _ _, fun h => by cases h⟩
      · obtain ⟨Z, nz, cz, G, e5, h1, h2⟩ := hd 8 (by omega) (by kernel_rfl)
        rw [e5]
        go_simp
        exact ⟨rfl, Below.refl _ _, fun h => by cases h⟩
      · go_simp
        exact ⟨⟨_, rfl, ArrAt.new _ _ _, hb.size⟩, (Below.refl _ _).alloc (Nat.le_refl _) _, fun _ b hb => by simp [blk] at hb; omega⟩
    case rest =>
      intro u wz hb hf hp
      have f0 : u 0 = .pointer (some ⟨w.heap.size, 0, none⟩) := hf 0 (by omega)
      have f1 : u 1 = .slice (some ⟨ab, ao, none⟩) dl dc := hf 1 (by omega)
      have f2 : u 2 = .slice (some ⟨ab, ao, none⟩) 1 dc := hf 2 (by omega)
      have f3 : u 3 = .agg #[.int .i64 19, .slice (some ⟨ab, ao, none⟩) 1 dc, .slice none 0 0, .slice none 0 0, .slice none 0 0, .slice none 0 0, .int .i64 0] := hf 3 (by omega)
      have f4 : u 4 = .agg #[.slice Z3 nz3 cz3, .slice (some ⟨G5, 0, none⟩) NN NN] := hf 4 (by omega)
      have f5 : u 5 = .agg #[.slice fa fl fc, .slice ya m yc] := hf 5 (by omega)
      obtain ⟨_, f6, _, _⟩ := hf 6 (by omega)
      obtain ⟨_, _, _, _, f7, _, _⟩ := hf 7 (by omega)
      obtain ⟨_, _, _, _, f8, _, _⟩ := hf 8 (by omega)
      obtain ⟨Zg, nzg, czg, Gg, f9, ⟨pg, pcg⟩, rg⟩ := hf 9 (by omega)
      have f10 : u 10 = .int .i64 0 := hf 10 (by omega)
      obtain ⟨Cg, f11, i9, n9⟩ := hf 11 (by omega)
      refine UptoW.rest 2 12 (by rfl) (by kernel_rfl) ?_
      simp only [List.take, List.drop, putOps, Act.put, List.setIfInBounds_toArray, List.set_cons_zero, List.set_cons_succ, Nat.reduceAdd, f0, f1, f2, f3, f4, f5, f6, f7, f8, f9, f10, f11]
      clear f0 f1 f2 f3 f4 f5 f6 f7 f8 f9 f10 f11 hf hp a0 a1 b0 b1 u0 u1
      obtain ⟨⟨c0, c1⟩, z0, z1⟩ := i9.cells
      refine wpList_plain rfl (fun K hK => ?_)
      go_simp
      refine hK _ _ ?_
      clear hK K c0 c1 z0 z1
      refine wpList_plain rfl (fun K hK => ?_)
      go_simp
      refine hK _ _ (wpList_nil ?_)
      clear hK K
      have Pg := ints_put_arr pg i9 (fun _ _ e => by cases e) (fun _ _ e => by cases e) (.slice Zg nzg czg) (.slice (some ⟨Gg, 0, none⟩) n n)
      have Rg := ints_put_arr rg i9 (fun _ _ e => by cases e) (fun _ _ e => by cases e) (.slice Zg nzg czg) (.slice (some ⟨Gg, 0, none⟩) n n)
      have HAg := hide (i9.put (.slice Zg nzg czg) (.slice (some ⟨Gg, 0, none⟩) n n))
      have HBg := hide ((hb.setCell (p := ⟨Cg, 0, none⟩) n9 (.slice Zg nzg czg)).setCell (p := ⟨Cg, 1, none⟩) n9 (.slice (some ⟨Gg, 0, none⟩) n n))
      have HPg := hide Pg
      have HRg := hide Rg
      clear Pg Rg i9 pg rg hb n9
      generalize (wz.setCell ⟨Cg, 0, none⟩ (.slice Zg nzg czg)).setCell ⟨Cg, 1, none⟩ (.slice (some ⟨Gg, 0, none⟩) n n) = W12 at *
      have KA := hide (HP0.out.below HBg.out)
      have KF := hide (HPF.out.below HBg.out)
      have KU := hide (HPU.out.below HBg.out)
      obtain ⟨⟨a0, a1⟩, _⟩ := KA.out.cells
      obtain ⟨⟨g0, g1⟩, _⟩ := HAg.out.cells
      have hdd : decide (ds = ds) = true := by simp
      have HDD := hide hdd
      go_wp2_with (first
          | (go_at_call 11; refine (Inner_any _ _ _ ds _ _ _ xs _ _ _ ds _ _ _ PL _ ((HDA'.out.below HBg.out).below HB14.out).1 ((HXA'.out.below HBg.out).below HB14.out) (HPg.out.below HB14.out) (HRg.out.below HB14.out)).mono ?_; rintro e w15 ⟨rfl, hb⟩; rw [HQ3.out, HQ4.out]; have HB15 := hide (Below.on HB14.out hb); clear hb)
          | (go_at_call 11; refine (Inner_any _ _ _ (gs ++ ds.drop 1) _ _ _ FL _ _ _ (gs ++ ds.drop 1) _ _ _ UL _ ((HI3'.out.below HBg.out).below HB13.out) ((HI4'.out.below HBg.out).below HB13.out) ((HI3'.out.below HBg.out).below HB13.out) ((HUL.out.below HBg.out).below HB13.out)).mono ?_; rintro e w14 ⟨rfl, hb⟩; rw [HQ1.out, HQ2.out]; have HB14 := hide (Below.on HB13.out hb); clear hb a0 a1 g0 g1 f0 f1 u0 u1; obtain ⟨⟨a0, a1⟩, _⟩ := (KA.out.below HB14.out).cells; obtain ⟨⟨g0, g1⟩, _⟩ := (HAg.out.below HB14.out).cells)
          | (go_at_call 10; refine (sameList_any _ _ _ ds _ _ _ ds _ HPg.out (HDA'.out.below HBg.out).1).mono ?_; rintro e w13 ⟨rfl, k13, hw⟩; rw [HDD.out]; have HB13 := hide (show Below W12.heap.size W12 w13 from hw ▸ below_drewN _ k13); clear hw a0 a1 g0 g1; obtain ⟨⟨a0, a1⟩, _⟩ := (KA.out.below HB13.out).cells; obtain ⟨⟨g0, g1⟩, _⟩ := (HAg.out.below HB13.out).cells; obtain ⟨⟨f0, f1⟩, _⟩ := (KF.out.below HB13.out).cells; obtain ⟨⟨u0, u1⟩, _⟩ := (KU.out.below HB13.out).cells))
      go_ret
      exact ⟨rfl, Below.on (Below.on HB10.out HBg.out) HB15.out⟩
theorem arrayRows_walk (da : Option Addr) (dl dc : Nat) (ds : List Int) (xa : Option Addr) (n xc : Nat) (xs : List Int) (fa : Option Addr) (fl fc : Nat) (gs : List Int) (ya : Option Addr) (m yc : Nat) (ys : List Int) (ua : Option Addr) (un uc : Nat) (us : List Int) (w : World)
    (hda : Lst w da dl dc ds) (hxa : Ints w xa n xs) (hxc : n ≤ xc) (hfa : Lst w fa fl fc gs) (hya : Ints w ya m ys) (hua : Ints w ua un us) :
    Calls Tryz.prog 3 #[.agg #[.slice da dl dc, .slice xa n xc], .agg #[.slice fa fl fc, .slice ya m yc], .slice ua un uc] w fun e w' => e = .returned (.bool true) ∧ Below w.heap.size w w' := by
  by_cases hE : doE 18 [] [] [] [] [] 2 (pairV ds n gs m) = 0
  · have hl0 : ds.length ≠ 0 := by
      obtain ⟨_, _, hs1, _, _⟩ := pairV_parts hE
      have hsh : shapeP 18 [] [] [] [] [] [ds, gs] = takeP ds gs := rfl
      rw [hsh] at hs1
      unfold takeP at hs1
      by_cases c : ds.length = 0
      · rw [if_pos c] at hs1; exact absurd hs1 (by simp)
      · exact c
    obtain ⟨ab, ao, rfl, _, _⟩ := hda.1.at (by rw [← hda.1.1]; omega)
    exact rows_good ab ao dl dc ds xa n xc xs fa fl fc gs ya m yc ys ua un uc us w hda hxa hfa hya hxc hua hE
  · exact rows_err da dl dc ds xa n xc xs fa fl fc gs ya m yc ys ua un uc w hda hxa hfa hya hE
theorem lst_of_row {w : World} {a : Option Addr} {len cap : Nat} {zs : List Int}
    (h : (a = none ∧ len = 0 ∧ cap = 0 ∧ zs = []) ∨ ∃ x, a = some x ∧ len ≤ cap ∧ cap ≤ maxLen ∧ zs.length = cap ∧ (∀ i, i < zs.length → w.cell? (x.add i) = some (.int .i64 (zs.getD i 0))) ∧ ∀ n ∈ zs, (Lit.int .i64 n).wf = true) : Lst w a len cap (zs.take len) := by
  refine ⟨ints_of_row h, cap_of_row h, fun e => ?_⟩
  rcases h with ⟨_, h, _⟩ | ⟨x, h, _⟩
  · exact h
  · rw [e] at h; cases h
end Go.Proofs.YteoobeldmicjhaaGreat.V
