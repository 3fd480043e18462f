/-
  ArrayAdjoint: the law, over what both Do's and back answer.
-/
import Derived.Test.YteoobeldmicjhaaGreatPAKArrayAdjoint42
import Derived.Test.YteoobeldmicjhaaGreatPAKArrayAdjoint48
import Derived.Test.YteoobeldmicjhaaGreatPAKArrayAdjoint35
import Derived.Deep.CutBlock
namespace Go.Proofs.YteoobeldmicjhaaGreat.V
set_option maxRecDepth 20000
open Go.RowKit

/-- The way back: an operation that makes of L and ys what F2 says, with the dimensions ds. -/
def BackOk (L ds : List Int) (N n : Nat) (F2 : List Int → List Int) (v : Value) (W : World) : Prop := ∃ (k' : Int) (E1 E2 E3 E4 E5 : Value) (x' : Int), v = .agg #[.int .i64 k', E1, E2, E3, E4, E5, .int .i64 x'] ∧
  ∀ (W' : World) (b : Nat) (Z : Option Addr) (nz cz G : Nat) (ys : List Int), Below W.heap.size W W' → ArrAt W' b (.slice Z nz cz) (.slice (some ⟨G, 0, none⟩) N N) → LstQ W' Z nz cz L → Ints W' (some ⟨G, 0, none⟩) N ys →
    Calls Tryz.prog 9 #[.agg #[.int .i64 k', E1, E2, E3, E4, E5, .int .i64 x'], .slice (some ⟨b, 0, none⟩) 1 1] W' fun e W'' => DoesTo W' ds (F2 ys) n e W'' ∧ Below W'.heap.size W' W''
def fBack (L ds : List Int) (N n : Nat) (F2 : List Int → List Int) : Fact := ⟨BackOk L ds N n F2, false⟩
theorem fBack_good (L ds : List Int) (N n : Nat) (F2 : List Int → List Int) : (fBack L ds N n F2).Good := ⟨fun _ _ _ ⟨k', E1, E2, E3, E4, E5, x', h1, h2⟩ hb => ⟨k', E1, E2, E3, E4, E5, x', h1, fun W' b Z nz cz G ys hW => h2 W' b Z nz cz G ys (hb.trans (hW.mono hb.size))⟩, fun h => by cases h⟩
/-- What one answers. -/
def fOne (L f : List Int) (n : Nat) : Fact := ⟨fun v W => ∃ Z nz cz G, v = .tuple #[.agg #[.slice Z nz cz, .slice (some ⟨G, 0, none⟩) n n], .bool true] ∧ (Ints W Z nz L ∧ nz ≤ cz) ∧ Ints W (some ⟨G, 0, none⟩) n f, false⟩
theorem fOne_good (L f : List Int) (n : Nat) : (fOne L f n).Good := ⟨fun _ _ _ ⟨Z, nz, cz, G, h1, ⟨h2, h3⟩, h4⟩ hb => ⟨Z, nz, cz, G, h1, ⟨h2.below hb, h3⟩, h4.below hb⟩, fun h => by cases h⟩

theorem rowIs_ne_op {w : World} {G B n : Nat} {f : Nat → Value} {k x : Int} {v1 v2 v3 v4 v5 : Value} (h : w.rowIs G 2 n f) (ha : OpAt w B k v1 v2 v3 v4 v5 x) : G ≠ B := fun e => by
  subst e
  unfold OpAt at ha
  unfold World.rowIs at h
  obtain ⟨cs, h1, _⟩ := h
  rw [h1] at ha
  cases ha

set_option maxRecDepth 100000 in
set_option maxHeartbeats 4000000 in
theorem adj_good (k x : Int) (V1 V2 V3 V4 V5 : Value) (da : Option Addr) (dl dc : Nat) (ds : List Int) (xa : Option Addr) (n xc : Nat) (xs : List Int) (ua : Option Addr) (un uc : Nat) (us : List Int) (L FL : List Int) (NN : Nat) (F2 : List Int → List Int) (w : World)
    (hk : k = 9 ∨ k = 10 ∨ k = 11 ∨ k = 12 ∨ k = 13 ∨ k = 14 ∨ k = 15) (hda : Ints w da dl ds) (hxa : Ints w xa n xs) (hua : Ints w ua un us) (haD : arrE ds n = 0) (haL : arrE L NN = 0)
    (hR : ∀ (W : World) (b : Nat), Below w.heap.size w W → ArrAt W b (.slice da dl dc) (.slice xa n xc) → Calls Tryz.prog 8 #[.agg #[.int .i64 k, V1, V2, V3, V4, V5, .int .i64 x], .slice (some ⟨b, 0, none⟩) 1 1] W fun e W' => (∃ (Z : Option Addr) (nz cz : Nat) (G : Option Addr) (ng cg : Nat), e = .returned (.tuple #[.agg #[.slice Z nz cz, .slice G ng cg], .int .i64 0])) ∧ Below W.heap.size W W')
    (hO : ∀ (W : World) (b : Nat), Below w.heap.size w W → ArrAt W b (.slice da dl dc) (.slice xa n xc) → Calls Tryz.prog 9 #[.agg #[.int .i64 k, V1, V2, V3, V4, V5, .int .i64 x], .slice (some ⟨b, 0, none⟩) 1 1] W fun e W' => DoesTo W L FL NN e W' ∧ Below W.heap.size W W')
    (hB : ∀ (W : World), Below w.heap.size w W → Calls Tryz.prog 14 #[.agg #[.int .i64 k, V1, V2, V3, V4, V5, .int .i64 x], .slice da dl dc] W fun e W' => (∃ v, e = .returned v ∧ BackOk L ds NN n F2 v W') ∧ Below W.heap.size W W')
    (hI : ∀ ys : List Int, ys.length = NN → (∀ y ∈ ys, -9223372036854775808 ≤ y ∧ y ≤ 9223372036854775807) → innS FL ys NN = innS xs (F2 ys) n ∧ FL.length = NN ∧ (F2 ys).length = n) :
    Calls Tryz.prog 5 #[.agg #[.int .i64 k, V1, V2, V3, V4, V5, .int .i64 x], .agg #[.slice da dl dc, .slice xa n xc], .slice ua un uc] w fun e w' => e = .returned (.bool true) ∧ Below w.heap.size w w' := by
  have HDA := hide hda
  have HXA := hide hxa
  have HUA := hide hua
  have HHD := hide haD
  have HHL := hide haL
  have HR := hide hR
  have HO := hide hO
  have HBK := hide hB
  have HIN := hide hI
  have HK := hide hk
  have hN6 := (arrE_ok haL).2.2
  have hmk := run_make_row' (P := Tryz.prog) 23 2 (.int .i64 0) 8 Tryz.underlying23 info_int64 rfl .i64 .i64 NN (by omega) (by omega)
  have hop := (OpAt.new w k V1 V2 V3 V4 V5 x).alloc (.cells #[.slice da dl dc, .slice xa n xc] 25)
  have har := ArrAt.new (w.alloc (.cells #[.int .i64 k, V1, V2, V3, V4, V5, .int .i64 x] 31)) (.slice da dl dc) (.slice xa n xc)
  simp only [World.size_alloc] at har
  have hb1 := (Below.refl w.heap.size w).alloc (Nat.le_refl _) (.cells #[.int .i64 k, V1, V2, V3, V4, V5, .int .i64 x] 31)
  have HB2 := hide (hb1.alloc hb1.size (.cells #[.slice da dl dc, .slice xa n xc] 25))
  have HOP := hide hop
  have HAR := hide har
  clear hda hxa hua haD haL hR hO hB hI hk hop har hb1
  go_enter Tryz.func5, Tryz.ntmps5
  obtain ⟨W1, hW1⟩ : ∃ W1, W1 = (w.alloc (.cells #[.int .i64 k, V1, V2, V3, V4, V5, .int .i64 x] 31)).alloc (.cells #[.slice da dl dc, .slice xa n xc] 25) := ⟨_, rfl⟩
  rw [← hW1] at HOP HAR HB2
  go_upto_block 0 with (go_at_call 7; rw [← hW1]; refine (alive2_any _).mono ?_; rintro e w1 ⟨rfl, hb⟩; have HB3 := hide hb; have hoc := HOP.out.below hb; obtain ⟨o0, o1, o2, o3, o4, o5, o6⟩ := hoc.cells; clear hb hoc)
  go_cut [] (fun wc => OpAt wc w.heap.size k V1 V2 V3 V4 V5 x ∧ ArrAt wc (w.heap.size + 1) (.slice da dl dc) (.slice xa n xc) ∧ Below w.heap.size w wc)
  case first =>
    have hk := HK.out
    rcases hk with rfl | rfl | rfl | rfl | rfl | rfl | rfl
    all_goals go_wp2
    all_goals go_meet
    all_goals exact ⟨HOP.out.below HB3.out, HAR.out.below HB3.out, Below.on HB2.out HB3.out⟩
  case rest =>
  obtain ⟨ho, ha, hb⟩ := hcut
  clear hW1 HOP HAR HB3 HB2 o0 o1 o2 o3 o4 o5 o6
  obtain ⟨W3, hW3⟩ : ∃ W3, W3 = wc := ⟨_, rfl⟩
  subst hW3
  have HO3 := hide ho
  have HA3 := hide ha
  have HB3 := hide hb
  obtain ⟨o0, o1, o2, o3, o4, o5, o6⟩ := ho.cells
  obtain ⟨⟨a0, a1⟩, _⟩ := ha.cells
  clear ho ha hb HK
  go_wp2_with (first
    | (go_at_call 12; refine (one_gen k x V1 V2 V3 V4 V5 da dl dc xa n xc L FL NN _ (fun W b hW hA => HO.out W b (Below.on HB5.out hW) hA)).mono ?_; rintro e w3 ⟨⟨Z3, nz3, cz3, G3, rfl, ⟨hi3, hnc3⟩, hi4⟩, hb⟩; have HB7 := hide (Below.on HB5.out hb); have HO7 := hide (HO5.out.below hb); have HA7 := hide (HA5.out.below hb); have HI3 := hide hi3; have HI4 := hide hi4; have HNC := hide hnc3; have HU := hide (ArrAt.new w3 (.slice Z3 nz3 cz3) (.slice (some ⟨G3, 0, none⟩) NN NN)); clear hb hi3 hi4 hnc3 o0 o1 o2 o3 o4 o5 o6 a0 a1; obtain ⟨⟨u0, u1⟩, _⟩ := HU.out.cells)
    | (go_at_call 8; have hb4 := HB3.out.alloc HB3.out.size (.cells #[.slice da dl dc, .slice xa n xc] 25); refine (HR.out _ W3.heap.size hb4 (ArrAt.new W3 _ _)).mono ?_; rintro e w2 ⟨⟨Z, nz, cz, G, ng, cg, rfl⟩, hb⟩; have hbx := (Below.refl w2.heap.size w2).alloc (Nat.le_refl _) (.cells #[.slice Z nz cz, .slice G ng cg] 25); have HB5 := hide (Below.on (Below.on hb4 hb) hbx); have HO5 := hide (((HO3.out.alloc _).below hb).below hbx); have HA5 := hide (((HA3.out.alloc _).below hb).below hbx); clear hb4 hb hbx o0 o1 o2 o3 o4 o5 o6 a0 a1; obtain ⟨o0, o1, o2, o3, o4, o5, o6⟩ := HO5.out.cells; obtain ⟨⟨a0, a1⟩, _⟩ := HA5.out.cells))
  refine region_made 8 12 [fIs (.pointer (some ⟨w3.heap.size, 0, none⟩)), fIs (.slice Z3 nz3 cz3), fIs (.pointer (some ⟨w3.heap.size, 1, none⟩)), fIs (.slice (some ⟨G3, 0, none⟩) NN NN), fIs (.int .i64 (NN : Int)), fRowZ w3.heap.size NN, fAggZ w3.heap.size Z3 nz3 cz3 NN, fArr w3.heap.size] (by kernel_rfl) (by kernel_rfl) (by kernel_rfl) (fun _ ⟨_, _⟩ ⟨_, _⟩ _ e h => by cases e; exact h) ⟨fIs_good _, fIs_good _, fIs_good _, fIs_good _, fIs_good _, fRowZ_good _ _, fAggZ_good _ _ _ _ _, fArr_good _, trivial⟩ ?mk ?rest
  case mk =>
    refine ⟨fun u wz hb hd => ?_, fun u wz hb hd => ?_, fun u wz hb hd => ?_, fun u wz hb hd => ?_, fun u wz hb hd => ?_, fun u wz hb hd => ?_, fun u wz hb hd => ?_, fun u wz hb hd => ?_, trivial⟩
    all_goals simp only [Act.put, List.setIfInBounds_toArray, List.set_cons_zero, List.set_cons_succ]
    · go_simp
      exact ⟨rfl, Below.refl _ _, fun h => by cases h⟩
    · have e0 : u 0 = .pointer (some ⟨w3.heap.size, 0, none⟩) := hd 0 (by omega) (by kernel_rfl)
      rw [e0]
      have u0' := (hb.cell (p := ⟨w3.heap.size, 0, none⟩) (lt_of_cell u0)).trans u0
      go_simp
      exact ⟨rfl, Below.refl _ _, fun h => by cases h⟩
    · go_simp
      exact ⟨rfl, Below.refl _ _, fun h => by cases h⟩
    · have e2 : u 2 = .pointer (some ⟨w3.heap.size, 1, none⟩) := hd 2 (by omega) (by kernel_rfl)
      rw [e2]
      have u1' := (hb.cell (p := ⟨w3.heap.size, 1, none⟩) (lt_of_cell u1)).trans u1
      go_simp
      exact ⟨rfl, Below.refl _ _, fun h => by cases h⟩
    · have e3 : u 3 = .slice (some ⟨G3, 0, none⟩) NN NN := hd 3 (by omega) (by kernel_rfl)
      rw [e3]
      go_simp
      exact ⟨rfl, Below.refl _ _, fun h => by cases h⟩
    · have e4 : u 4 = .int .i64 (NN : Int) := hd 4 (by omega) (by kernel_rfl)
      rw [e4]
      go_simp
      exact ⟨⟨_, rfl, World.rowIs_made _ _ _ _, by have := hb.size; simp at this; omega⟩, (Below.refl _ _).alloc (Nat.le_refl _) _, fun h => by cases h⟩
    · have e1 : u 1 = .slice Z3 nz3 cz3 := hd 1 (by omega) (by kernel_rfl)
      obtain ⟨B5, e5, h5, l5⟩ := hd 5 (by omega) (by kernel_rfl)
      rw [e1, e5]
      go_simp
      exact ⟨⟨B5, rfl, h5, l5⟩, Below.refl _ _, fun h => by cases h⟩
    · go_simp
      exact ⟨⟨_, rfl, ArrAt.new _ _ _, by have := hb.size; simp at this; omega⟩, (Below.refl _ _).alloc (Nat.le_refl _) _, fun _ b hb => by simp [blk] at hb; omega⟩
  case rest =>
    intro u wz hb hf hp
    have f0 : u 0 = .pointer (some ⟨w3.heap.size, 0, none⟩) := hf 0 (by omega)
    have f1 : u 1 = .slice Z3 nz3 cz3 := hf 1 (by omega)
    have f2 : u 2 = .pointer (some ⟨w3.heap.size, 1, none⟩) := hf 2 (by omega)
    have f3 : u 3 = .slice (some ⟨G3, 0, none⟩) NN NN := hf 3 (by omega)
    have f4 : u 4 = .int .i64 (NN : Int) := hf 4 (by omega)
    obtain ⟨_, f5, _, _⟩ := hf 5 (by omega)
    obtain ⟨G5, f6, hg5, hl5⟩ := hf 6 (by omega)
    obtain ⟨C7, f7, i7, n7⟩ := hf 7 (by omega)
    refine UptoW.rest 1 8 (by rfl) (by kernel_rfl) ?_
    simp only [List.take, List.drop, putOps, Act.put, List.setIfInBounds_toArray, List.set_cons_zero, List.set_cons_succ, Nat.reduceAdd, f0, f1, f2, f3, f4, f5, f6, f7]
    clear f0 f1 f2 f3 f4 f5 f6 f7 hf hp
    have hgc : G5 ≠ C7 := rowIs_ne_arr hg5 i7
    obtain ⟨⟨c0, c1⟩, z0, z1⟩ := i7.cells
    refine wpList_plain rfl (fun K hK => ?_)
    go_simp
    refine hK _ _ (wpList_nil ?_)
    clear hK K c0 c1 z0 z1
    have hC7 : C7 ≠ w3.heap.size := fun e => by
      have h1 := i7
      have h2 := HU.out.below hb
      rw [e] at h1
      unfold ArrAt at h1 h2
      rw [h1] at h2
      cases h2
    have hsl := HU.out.lt
    have hbb := hb.size
    have HW9 := hide (show Below w.heap.size w wz from Below.on (HB7.out.alloc HB7.out.size _) hb)
    have hs3 := HB7.out.size
    have hs4 := HA7.out.lt
    have hs5 := HO7.out.lt
    have HB39 := hide ((Below.on ((Below.refl w3.heap.size w3).alloc (Nat.le_refl _) _) hb).setCell (p := ⟨C7, 0, none⟩) (by simpa using n7) (.slice Z3 nz3 cz3) |>.setCell (p := ⟨C7, 1, none⟩) (by simpa using n7) (.slice (some ⟨G5, 0, none⟩) NN NN))
    have K0 := ((HA7.out.alloc _).below hb)
    have K1 := ((HO7.out.alloc _).below hb)
    have KU := HU.out.below hb
    have HA9 := hide (i7.put (.slice Z3 nz3 cz3) (.slice (some ⟨G5, 0, none⟩) NN NN))
    have HR9 := hide ((hg5.setOther (a := ⟨C7, 0, none⟩) (by simp; omega) (.slice Z3 nz3 cz3)).setOther (a := ⟨C7, 1, none⟩) (by simp; omega) (.slice (some ⟨G5, 0, none⟩) NN NN))
    have HB9 := hide ((HW9.out.setCell (p := ⟨C7, 0, none⟩) (by simp; omega) (.slice Z3 nz3 cz3)).setCell (p := ⟨C7, 1, none⟩) (by simp; omega) (.slice (some ⟨G5, 0, none⟩) NN NN))
    have HK0 := hide ((K0.set (p := ⟨C7, 0, none⟩) (by simp; omega) (.slice Z3 nz3 cz3)).set (p := ⟨C7, 1, none⟩) (by simp; omega) (.slice (some ⟨G5, 0, none⟩) NN NN))
    have HK1 := hide ((K1.set (p := ⟨C7, 0, none⟩) (by simp; omega) (.slice Z3 nz3 cz3)).set (p := ⟨C7, 1, none⟩) (by simp; omega) (.slice (some ⟨G5, 0, none⟩) NN NN))
    have HKU := hide ((KU.set (p := ⟨C7, 0, none⟩) (by simp; omega) (.slice Z3 nz3 cz3)).set (p := ⟨C7, 1, none⟩) (by simp; omega) (.slice (some ⟨G5, 0, none⟩) NN NN))
    have hszz : ((wz.setCell ⟨C7, 0, none⟩ (.slice Z3 nz3 cz3)).setCell ⟨C7, 1, none⟩ (.slice (some ⟨G5, 0, none⟩) NN NN)).heap.size = wz.heap.size := by simp
    generalize (wz.setCell ⟨C7, 0, none⟩ (.slice Z3 nz3 cz3)).setCell ⟨C7, 1, none⟩ (.slice (some ⟨G5, 0, none⟩) NN NN) = W9 at *
    clear K0 K1 KU i7 hg5 hb HW9 HA3 HA5 HA7 HO3 HO5 HO7 HB3 HB5 HB7 HU u0 u1
    obtain ⟨⟨v0, v1⟩, _⟩ := HA9.out.cells
    have hrz : W9.rowIs G5 2 NN (fun j => .int .i64 ((List.replicate NN 0)[j]?.getD 0)) := HR9.out.congr (fun j _ => by rw [replicate_zero_at])
    have HRZ := hide hrz
    obtain ⟨US, hUS⟩ : ∃ US, US = us.take (Nat.min un NN) := ⟨_, rfl⟩
    have hUl : US.length ≤ NN := by rw [hUS, List.length_take]; exact Nat.le_trans (Nat.min_le_left _ _) (Nat.min_le_right _ _)
    have HUS := hide hUS
    clear hrz hUS
    go_wp2_with (refine wpList_copy_row rfl (.tmp 54) (.tmp 55) 23 23 rfl 2 Tryz.underlying23 size_int64 (some ⟨G5, 0, none⟩) ua NN NN un uc rfl rfl G5 NN 2 0 (List.replicate NN 0) us US HRZ.out (by simp) (HUA.out.below HB9.out) HUS.out (fun _ => rfl) (by omega) ?_; intro W10 hr10 hbut h010; have HR10 := hide hr10; have HBT := hide hbut; have H010 := hide h010; clear hr10 hbut h010 v0 v1)
    have hsv : Save G5 W9 W10 := Save.of_below (Below.refl _ _) HBT.out H010.out
    have HB10 := hide (Save.below HB9.out hsv (by omega) (Nat.le_refl _))
    have HB31 := hide (Save.below HB39.out hsv (by omega) (Nat.le_refl _))
    have HP0 : Hid (ArrAt W10 (w.heap.size + 1) (.slice da dl dc) (.slice xa n xc)) := (HBT.out.1 _ (rowIs_ne_arr HR9.out HK0.out).symm).trans HK0.out
    have HP1 : Hid (OpAt W10 w.heap.size k V1 V2 V3 V4 V5 x) := (HBT.out.1 _ (rowIs_ne_op HR9.out HK1.out).symm).trans HK1.out
    have HPF : Hid (ArrAt W10 w3.heap.size (.slice Z3 nz3 cz3) (.slice (some ⟨G3, 0, none⟩) NN NN)) := (HBT.out.1 _ (rowIs_ne_arr HR9.out HKU.out).symm).trans HKU.out
    have HPU : Hid (ArrAt W10 C7 (.slice Z3 nz3 cz3) (.slice (some ⟨G5, 0, none⟩) NN NN)) := (HBT.out.1 _ (rowIs_ne_arr HR9.out HA9.out).symm).trans HA9.out
    have hul : Ints W10 (some ⟨G5, 0, none⟩) NN (copyL (List.replicate NN 0) 0 US) := ⟨(copyL_length _ _ _ (by simp; omega)).trans (by simp), by omega, fun y hy => by
      simp only [copyL, List.mem_append] at hy
      rcases hy with hy | hy | hy
      · simp at hy
      · rw [HUS.out] at hy; exact HUA.out.2.2.1 y (List.mem_of_mem_take hy)
      · have := List.mem_of_mem_drop hy
        simp at this
        omega, .inr ⟨G5, 0, rfl, fun j hj => by rw [Nat.zero_add]; exact HR10.out.cell hj⟩⟩
    obtain ⟨UL, hUL⟩ : ∃ UL, UL = copyL (List.replicate NN 0) 0 US := ⟨_, rfl⟩
    rw [← hUL] at hul
    have HUL := hide hul
    obtain ⟨hback, hFl, hPl2⟩ := HIN.out UL hul.1 hul.2.2.1
    have hUl2 : UL.length = NN := hul.1
    have hXl : xs.length = n := HXA.out.1
    have haL := HHL.out
    have haD := HHD.out
    obtain ⟨PL, hPL⟩ : ∃ PL, PL = F2 UL := ⟨_, rfl⟩
    rw [← hPL] at hback hPl2
    have HQ1 : Hid (innerN L FL L UL = innS FL UL NN) := by
      rw [Hid, innerN, hFl, hUl2, if_neg (by rw [haL]; simp), if_neg (by rw [haL]; simp), if_pos rfl]
    have HQ2 : Hid (innerE L FL L UL = 0) := by
      rw [Hid, innerE, hFl, hUl2, if_neg (by rw [haL]; simp), if_neg (by rw [haL]; simp), if_pos rfl]
    have HQ3 : Hid (innerN ds xs ds PL = innS FL UL NN) := by
      rw [Hid, innerN, hXl, hPl2, if_neg (by rw [haD]; simp), if_neg (by rw [haD]; simp), if_pos rfl, hback]
    have HQ4 : Hid (innerE ds xs ds PL = 0) := by
      rw [Hid, innerE, hXl, hPl2, if_neg (by rw [haD]; simp), if_neg (by rw [haD]; simp), if_pos rfl]
    obtain ⟨V, hV⟩ : ∃ V, V = innS FL UL NN := ⟨_, rfl⟩
    rw [← hV] at HQ1 HQ3
    have q1 : (V == V) = true := by simp
    have HI3' := hide (HI3.out.below HB31.out)
    have HI4' := hide (HI4.out.below HB31.out)
    have HXA' := hide (HXA.out.below HB10.out)
    have HDA' := hide (HDA.out.below HB10.out)
    have HPLE := hide hPL
    clear hsv hul hFl hUl2 hPl2 hXl hback hV hPL hUL haL haD HI3 HI4 HR10 HBT H010 HK0 HK1 HKU HA9 HR9 HB9 HB39 HRZ HXA HDA
    obtain ⟨o0, o1, o2, o3, o4, o5, o6⟩ := HP1.out.cells
    obtain ⟨⟨a0, a1⟩, _⟩ := HP0.out.cells
    obtain ⟨⟨u0, u1⟩, _⟩ := HPU.out.cells
    refine region_made1 10 14 8 [fIs (.agg #[.int .i64 k, V1, V2, V3, V4, V5, .int .i64 x]), fIs (.pointer (some ⟨w.heap.size + 1, 0, none⟩)), fIs (.slice da dl dc), fBack L ds NN n F2, fIs (.agg #[.slice Z3 nz3 cz3, .slice (some ⟨G5, 0, none⟩) NN NN]), fOne ds PL n, fOne ds PL n, fAgg ds PL n, fIs (.bool true), fArr W10.heap.size] (by kernel_rfl) (by kernel_rfl) (by kernel_rfl) (fun _ ⟨_, _⟩ ⟨_, _⟩ _ e h => by cases e; exact h) ⟨fIs_good _, fIs_good _, fIs_good _, fBack_good _ _ _ _ _, fIs_good _, fOne_good _ _ _, fOne_good _ _ _, fAgg_good _ _ _, fIs_good _, fArr_good _, trivial⟩ ?pure ?mk ?rest
    case pure =>
      intro o ho u wz hb hd
      cases ho
      obtain ⟨Z, nz, cz, G, e5, h1, h2⟩ := hd 6 (by omega) (by kernel_rfl)
      refine ⟨.bool true, fun w3 => ?_⟩
      simp only [List.take, putOps, Act.put, List.setIfInBounds_toArray, List.set_cons_zero, List.set_cons_succ, e5]
      go_simp
    case mk =>
      refine ⟨fun u wz hb hd => ?_, fun u wz hb hd => ?_, fun u wz hb hd => ?_, fun u wz hb hd => ?_, fun u wz hb hd => ?_, fun u wz hb hd => ?_, fun u wz hb hd => ?_, fun u wz hb hd => ?_, fun u wz hb hd => ?_, fun u wz hb hd => ?_, trivial⟩
      all_goals simp only [Act.put, List.setIfInBounds_toArray, List.set_cons_zero, List.set_cons_succ]
      · have o0' := (hb.cell (p := ⟨w.heap.size, 0, none⟩) (lt_of_cell o0)).trans o0
        have o1' := (hb.cell (p := ⟨w.heap.size, 1, none⟩) (lt_of_cell o1)).trans o1
        have o2' := (hb.cell (p := ⟨w.heap.size, 2, none⟩) (lt_of_cell o2)).trans o2
        have o3' := (hb.cell (p := ⟨w.heap.size, 3, none⟩) (lt_of_cell o3)).trans o3
        have o4' := (hb.cell (p := ⟨w.heap.size, 4, none⟩) (lt_of_cell o4)).trans o4
        have o5' := (hb.cell (p := ⟨w.heap.size, 5, none⟩) (lt_of_cell o5)).trans o5
        have o6' := (hb.cell (p := ⟨w.heap.size, 6, none⟩) (lt_of_cell o6)).trans o6
        go_simp
        exact ⟨rfl, Below.refl _ _, fun h => by cases h⟩
      · go_simp
        exact ⟨rfl, Below.refl _ _, fun h => by cases h⟩
      · have e1 : u 1 = .pointer (some ⟨w.heap.size + 1, 0, none⟩) := hd 1 (by omega) (by kernel_rfl)
        rw [e1]
        have a0' := (hb.cell (p := ⟨w.heap.size + 1, 0, none⟩) (lt_of_cell a0)).trans a0
        go_simp
        exact ⟨rfl, Below.refl _ _, fun h => by cases h⟩
      · have e0 : u 0 = .agg #[.int .i64 k, V1, V2, V3, V4, V5, .int .i64 x] := hd 0 (by omega) (by kernel_rfl)
        have e2 : u 2 = .slice da dl dc := hd 2 (by omega) (by kernel_rfl)
        rw [e0, e2]
        go_simp
        refine (HBK.out wz (Below.on HB10.out hb)).mono ?_
        rintro e w3 ⟨⟨v, rfl, h1⟩, hb2⟩
        exact ⟨h1, hb2, fun h => by cases h⟩
      · have u0' := (hb.cell (p := ⟨C7, 0, none⟩) (lt_of_cell u0)).trans u0
        have u1' := (hb.cell (p := ⟨C7, 1, none⟩) (lt_of_cell u1)).trans u1
        go_simp
        exact ⟨rfl, Below.refl _ _, fun h => by cases h⟩
      · obtain ⟨k', E1, E2, E3, E4, E5, x', e3, hbk⟩ := hd 3 (by omega) (by kernel_rfl)
        have e4 : u 4 = .agg #[.slice Z3 nz3 cz3, .slice (some ⟨G5, 0, none⟩) NN NN] := hd 4 (by omega) (by kernel_rfl)
        rw [e3, e4]
        go_simp
        refine (one_gen k' x' E1 E2 E3 E4 E5 Z3 nz3 cz3 (some ⟨G5, 0, none⟩) NN NN ds PL n wz (fun W b hW hA => ?_)).mono ?_
        · rw [HPLE.out]; exact hbk W b Z3 nz3 cz3 G5 UL hW hA ⟨(HI3'.out.below hb).below hW, HNC.out⟩ ((HUL.out.below hb).below hW)
        · rintro e w3 ⟨⟨Z, nz, cz, G, rfl, h1, h2⟩, hb2⟩
          exact ⟨⟨Z, nz, cz, G, rfl, h1, h2⟩, hb2, fun h => by cases h⟩
      · obtain ⟨Z, nz, cz, G, e5, h1, h2⟩ := hd 5 (by omega) (by kernel_rfl)
        rw [e5]
        go_simp
        exact ⟨⟨Z, nz, cz, G, rfl, h1, h2⟩, Below.refl _ _, fun h => by cases h⟩
      · obtain ⟨Z, nz, cz, G, e5, h1, h2⟩ := hd 6 (by omega) (by kernel_rfl)
        rw [e5]
        go_simp
        exact ⟨⟨Z, nz, cz, G, rfl, h1, h2⟩, Below.refl _ _, fun h => by cases h⟩
      · obtain ⟨Z, nz, cz, G, e5, h1, h2⟩ := hd 6 (by omega) (by kernel_rfl)
        rw [e5]
        go_simp
        exact ⟨rfl, Below.refl _ _, fun h => by cases h⟩
      · go_simp
        exact ⟨⟨_, rfl, ArrAt.new _ _ _, hb.size⟩, (Below.refl _ _).alloc (Nat.le_refl _) _, fun _ b hb => by simp [blk] at hb; omega⟩
    case rest =>
      intro u wz hb hf hp
      have f0 : u 0 = .agg #[.int .i64 k, V1, V2, V3, V4, V5, .int .i64 x] := hf 0 (by omega)
      have f1 : u 1 = .pointer (some ⟨w.heap.size + 1, 0, none⟩) := hf 1 (by omega)
      have f2 : u 2 = .slice da dl dc := hf 2 (by omega)
      obtain ⟨_, _, _, _, _, _, _, f3, _⟩ := hf 3 (by omega)
      have f4 : u 4 = .agg #[.slice Z3 nz3 cz3, .slice (some ⟨G5, 0, none⟩) NN NN] := hf 4 (by omega)
      obtain ⟨_, _, _, _, f5, _, _⟩ := hf 5 (by omega)
      obtain ⟨_, _, _, _, f6, _, _⟩ := hf 6 (by omega)
      obtain ⟨Zg, nzg, czg, Gg, f7, ⟨pg, pcg⟩, rg⟩ := hf 7 (by omega)
      have f8 : u 8 = .bool true := hf 8 (by omega)
      obtain ⟨Cg, f9, i9, n9⟩ := hf 9 (by omega)
      refine UptoW.rest 2 10 (by rfl) (by kernel_rfl) ?_
      simp only [List.take, List.drop, putOps, Act.put, List.setIfInBounds_toArray, List.set_cons_zero, List.set_cons_succ, Nat.reduceAdd, f0, f1, f2, f3, f4, f5, f6, f7, f8, f9]
      clear f0 f1 f2 f3 f4 f5 f6 f7 f8 f9 hf hp a0 a1 o0 o1 o2 o3 o4 o5 o6 u0 u1
      obtain ⟨⟨c0, c1⟩, z0, z1⟩ := i9.cells
      refine wpList_plain rfl (fun K hK => ?_)
      go_simp
      refine hK _ _ ?_
      clear hK K c0 c1 z0 z1
      refine wpList_plain rfl (fun K hK => ?_)
      go_simp
      refine hK _ _ (wpList_nil ?_)
      clear hK K
      have Pg := ints_put_arr pg i9 (fun _ _ e => by cases e) (fun _ _ e => by cases e) (.slice Zg nzg czg) (.slice (some ⟨Gg, 0, none⟩) n n)
      have Rg := ints_put_arr rg i9 (fun _ _ e => by cases e) (fun _ _ e => by cases e) (.slice Zg nzg czg) (.slice (some ⟨Gg, 0, none⟩) n n)
      have HAg := hide (i9.put (.slice Zg nzg czg) (.slice (some ⟨Gg, 0, none⟩) n n))
      have HBg := hide ((hb.setCell (p := ⟨Cg, 0, none⟩) n9 (.slice Zg nzg czg)).setCell (p := ⟨Cg, 1, none⟩) n9 (.slice (some ⟨Gg, 0, none⟩) n n))
      have HPg := hide Pg
      have HRg := hide Rg
      clear Pg Rg i9 pg rg hb n9
      generalize (wz.setCell ⟨Cg, 0, none⟩ (.slice Zg nzg czg)).setCell ⟨Cg, 1, none⟩ (.slice (some ⟨Gg, 0, none⟩) n n) = W12 at *
      have KA := hide (HP0.out.below HBg.out)
      have KF := hide (HPF.out.below HBg.out)
      have KU := hide (HPU.out.below HBg.out)
      obtain ⟨⟨a0, a1⟩, _⟩ := KA.out.cells
      obtain ⟨⟨g0, g1⟩, _⟩ := HAg.out.cells
      have hdd : decide (ds = ds) = true := by simp
      have HDD := hide hdd
      go_wp2_with (first
          | (go_at_call 11; refine (Inner_any _ _ _ ds _ _ _ xs _ _ _ ds _ _ _ PL _ ((HDA'.out.below HBg.out).below HB14.out) ((HXA'.out.below HBg.out).below HB14.out) (HPg.out.below HB14.out) (HRg.out.below HB14.out)).mono ?_; rintro e w15 ⟨rfl, hb⟩; rw [HQ3.out, HQ4.out]; have HB15 := hide (Below.on HB14.out hb); clear hb)
          | (go_at_call 11; refine (Inner_any _ _ _ L _ _ _ FL _ _ _ L _ _ _ UL _ ((HI3'.out.below HBg.out).below HB13.out) ((HI4'.out.below HBg.out).below HB13.out) ((HI3'.out.below HBg.out).below HB13.out) ((HUL.out.below HBg.out).below HB13.out)).mono ?_; rintro e w14 ⟨rfl, hb⟩; rw [HQ1.out, HQ2.out]; have HB14 := hide (Below.on HB13.out hb); clear hb a0 a1 g0 g1 f0 f1 u0 u1; obtain ⟨⟨a0, a1⟩, _⟩ := (KA.out.below HB14.out).cells; obtain ⟨⟨g0, g1⟩, _⟩ := (HAg.out.below HB14.out).cells)
          | (go_at_call 10; refine (sameList_any _ _ _ ds _ _ _ ds _ HPg.out (HDA'.out.below HBg.out)).mono ?_; rintro e w13 ⟨rfl, k13, hw⟩; rw [HDD.out]; have HB13 := hide (show Below W12.heap.size W12 w13 from hw ▸ below_drewN _ k13); clear hw a0 a1 g0 g1; obtain ⟨⟨a0, a1⟩, _⟩ := (KA.out.below HB13.out).cells; obtain ⟨⟨g0, g1⟩, _⟩ := (HAg.out.below HB13.out).cells; obtain ⟨⟨f0, f1⟩, _⟩ := (KF.out.below HB13.out).cells; obtain ⟨⟨u0, u1⟩, _⟩ := (KU.out.below HB13.out).cells))
      go_ret
      exact ⟨rfl, Below.on (Below.on HB10.out HBg.out) HB15.out⟩
end Go.Proofs.YteoobeldmicjhaaGreat.V
