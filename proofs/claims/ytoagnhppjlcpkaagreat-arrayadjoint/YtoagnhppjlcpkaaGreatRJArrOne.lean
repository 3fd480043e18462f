/-
  Contract: adjointlaw2.one, whatever is asked, where Do tells no error.
-/
import Derived.Test.YtoagnhppjlcpkaaGreatRGLinMath
import Derived.Test.YtoagnhppjlcpkaaGreatRGArrInner
import Derived.Test.YtoagnhppjlcpkaaGreatRJArrWeakA
import Derived.Deep.CutBlock
import Derived.Test.YtoagnhppjlcpkaaGreatRKIdxMath
namespace Go.Proofs.YtoagnhppjlcpkaaGreat.V
set_option maxRecDepth 20000
open Go.RowKit

set_option maxRecDepth 100000 in
set_option maxHeartbeats 2000000 in
theorem one_gen (k x : Int) (E1 E2 E3 E4 E5 : Value) (da : Option Addr) (dl dc : Nat) (xa : Option Addr) (n1 xc : Nat) (L F : List Int) (N : Nat) (w : World)
    (hS : ∀ (W : World) (b : Nat), Below w.heap.size w W → ArrAt W b (.slice da dl dc) (.slice xa n1 xc) → Calls Tryz.prog 7 #[.agg #[.int .i64 k, E1, E2, E3, E4, E5, .int .i64 x], .slice (some ⟨b, 0, none⟩) 1 1] W fun e W' => DoesTo W L F N e W' ∧ Below W.heap.size W W') :
    Calls Tryz.prog 11 #[.agg #[.int .i64 k, E1, E2, E3, E4, E5, .int .i64 x], .agg #[.slice da dl dc, .slice xa n1 xc]] w fun e w' =>
      (∃ (Z : Option Addr) (nz cz G : Nat), e = .returned (.tuple #[.agg #[.slice Z nz cz, .slice (some ⟨G, 0, none⟩) N N], .bool true]) ∧ (Ints w' Z nz L ∧ nz ≤ cz) ∧ Ints w' (some ⟨G, 0, none⟩) N F) ∧ Below w.heap.size w w' := by
  have HB1 := (Below.refl w.heap.size w).alloc (Nat.le_refl _) (.cells #[.int .i64 k, E1, E2, E3, E4, E5, .int .i64 x] 24)
  have HB2 := HB1.alloc HB1.size (.cells #[.slice da dl dc, .slice xa n1 xc] 28)
  have HB3 := HB2.alloc HB2.size (.cells #[.slice none 0 0, .slice none 0 0] 28)
  have HB4 := HB3.alloc HB3.size (.cells #[.slice da dl dc, .slice xa n1 xc] 28)
  have HB := hide HB4
  have b1 := ((OpAt.new w k E1 E2 E3 E4 E5 x).alloc (.cells #[.slice da dl dc, .slice xa n1 xc] 28)).alloc (.cells #[.slice none 0 0, .slice none 0 0] 28)
  have a1 := (ArrAt.new (w.alloc (.cells #[.int .i64 k, E1, E2, E3, E4, E5, .int .i64 x] 24)) (.slice da dl dc) (.slice xa n1 xc)).alloc (.cells #[.slice none 0 0, .slice none 0 0] 28)
  have a3 := (ArrAt.new ((w.alloc (.cells #[.int .i64 k, E1, E2, E3, E4, E5, .int .i64 x] 24)).alloc (.cells #[.slice da dl dc, .slice xa n1 xc] 28)) (.slice none 0 0) (.slice none 0 0)).alloc (.cells #[.slice da dl dc, .slice xa n1 xc] 28)
  have a4 := ArrAt.new (((w.alloc (.cells #[.int .i64 k, E1, E2, E3, E4, E5, .int .i64 x] 24)).alloc (.cells #[.slice da dl dc, .slice xa n1 xc] 28)).alloc (.cells #[.slice none 0 0, .slice none 0 0] 28)) (.slice da dl dc) (.slice xa n1 xc)
  simp only [World.size_alloc] at a1 a3 a4
  obtain ⟨o0, o1, o2, o3, o4, o5, o6⟩ := b1.cells
  obtain ⟨⟨p0, p1⟩, _⟩ := a1.cells
  have HA3 := hide a3
  have HS := hide (hS _ (w.heap.size + 1 + 1 + 1) HB.out a4)
  clear b1 a1 a3 a4 HB1 HB2 HB3 HB4 hS
  go_enter Tryz.func11, Tryz.ntmps11
  go_wp2_with (go_at_call 7; refine HS.out.mono ?_; rintro e w1 ⟨⟨Z, nz, cz, G, rfl, ⟨hi1, hnc⟩, hi2, hg⟩, hb⟩; have HI1 := hide hi1; have HNC := hide hnc; have HI2 := hide hi2; have HB7 := hide (Below.on HB.out hb); have HA7 := hide (HA3.out.below hb); have HA8 := hide (HA7.out.alloc (.cells #[.slice Z nz cz, .slice (some ⟨G, 0, none⟩) N N] 28)); have HB8 := hide (HB7.out.alloc HB7.out.size (.cells #[.slice Z nz cz, .slice (some ⟨G, 0, none⟩) N N] 28)); obtain ⟨⟨a0, a1⟩, fa0, fa1⟩ := HA8.out.cells; clear hi1 hi2 hnc hb p0 p1 o0 o1 o2 o3 o4 o5 o6 hg)
  obtain ⟨⟨u0, u1⟩, _⟩ := (HA8.out.put (.slice Z nz cz) (.slice (some ⟨G, 0, none⟩) N N)).cells
  have hl := HA7.out.lt
  have HBF := hide ((HB8.out.setCell (p := ⟨w.heap.size + 1 + 1, 0, none⟩) (by simp; omega) (.slice Z nz cz)).setCell (p := ⟨w.heap.size + 1 + 1, 1, none⟩) (by simp; omega) (.slice (some ⟨G, 0, none⟩) N N))
  refine bodyPost_ret (v := .tuple #[.agg #[.slice Z nz cz, .slice (some ⟨G, 0, none⟩) N N], .bool true]) (by simp [results, Tryz.results11, go_sem, u0, u1]) rfl ⟨⟨Z, nz, cz, G, rfl, ⟨?_, HNC.out⟩, ?_⟩, HBF.out⟩
  · exact ints_put_arr (HI1.out.below ((Below.refl _ _).alloc (Nat.le_refl _) _)) HA8.out (fun _ _ e => by cases e) (fun _ _ e => by cases e) _ _
  · exact ints_put_arr (HI2.out.below ((Below.refl _ _).alloc (Nat.le_refl _) _)) HA8.out (fun _ _ e => by cases e) (fun _ _ e => by cases e) _ _
end Go.Proofs.YtoagnhppjlcpkaaGreat.V

/-
  ArrayAdjoint: the law, over what both Do's and back answer.
-/
namespace Go.Proofs.YtoagnhppjlcpkaaGreat.V
set_option maxRecDepth 20000
open Go.RowKit

/-- The way back: an operation that makes of L and ys what F2 says, with the dimensions ds. -/
def BackOk (L ds : List Int) (N n : Nat) (F2 : List Int → List Int) (v : Value) (W : World) : Prop := ∃ (k' : Int) (E1 E2 E3 E4 E5 : Value) (x' : Int), v = .agg #[.int .i64 k', E1, E2, E3, E4, E5, .int .i64 x'] ∧
  ∀ (W' : World) (b : Nat) (Z : Option Addr) (nz cz G : Nat) (ys : List Int), Below W.heap.size W W' → ArrAt W' b (.slice Z nz cz) (.slice (some ⟨G, 0, none⟩) N N) → LstQ W' Z nz cz L → Ints W' (some ⟨G, 0, none⟩) N ys →
    Calls Tryz.prog 7 #[.agg #[.int .i64 k', E1, E2, E3, E4, E5, .int .i64 x'], .slice (some ⟨b, 0, none⟩) 1 1] W' fun e W'' => DoesTo W' ds (F2 ys) n e W'' ∧ Below W'.heap.size W' W''
def fBack (L ds : List Int) (N n : Nat) (F2 : List Int → List Int) : Fact := ⟨BackOk L ds N n F2, false⟩
theorem fBack_good (L ds : List Int) (N n : Nat) (F2 : List Int → List Int) : (fBack L ds N n F2).Good := ⟨fun _ _ _ ⟨k', E1, E2, E3, E4, E5, x', h1, h2⟩ hb => ⟨k', E1, E2, E3, E4, E5, x', h1, fun W' b Z nz cz G ys hW => h2 W' b Z nz cz G ys (hb.trans (hW.mono hb.size))⟩, fun h => by cases h⟩
/-- What one answers. -/
def fOne (L f : List Int) (n : Nat) : Fact := ⟨fun v W => ∃ Z nz cz G, v = .tuple #[.agg #[.slice Z nz cz, .slice (some ⟨G, 0, none⟩) n n], .bool true] ∧ (Ints W Z nz L ∧ nz ≤ cz) ∧ Ints W (some ⟨G, 0, none⟩) n f, false⟩
theorem fOne_good (L f : List Int) (n : Nat) : (fOne L f n).Good := ⟨fun _ _ _ ⟨Z, nz, cz, G, h1, ⟨h2, h3⟩, h4⟩ hb => ⟨Z, nz, cz, G, h1, ⟨h2.below hb, h3⟩, h4.below hb⟩, fun h => by cases h⟩

theorem rowIs_ne_op {w : World} {G B n : Nat} {f : Nat → Value} {k x : Int} {v1 v2 v3 v4 v5 : Value} (h : w.rowIs G 2 n f) (ha : OpAt w B k v1 v2 v3 v4 v5 x) : G ≠ B := fun e => by
  subst e
  unfold OpAt at ha
  unfold World.rowIs at h
  obtain ⟨cs, h1, _⟩ := h
  rw [h1] at ha
  cases ha

set_option maxRecDepth 100000 in
set_option maxHeartbeats 4000000 in
theorem adj_good (k x : Int) (V1 V2 V3 V4 V5 : Value) (da : Option Addr) (dl dc : Nat) (ds : List Int) (xa : Option Addr) (n xc : Nat) (xs : List Int) (ua : Option Addr) (un uc : Nat) (us : List Int) (L FL : List Int) (NN : Nat) (F2 : List Int → List Int) (w : World)
    (hk : k = 9 ∨ k = 10 ∨ k = 11 ∨ k = 12 ∨ k = 13 ∨ k = 14 ∨ k = 15) (hda : Ints w da dl ds) (hxa : Ints w xa n xs) (hua : Ints w ua un us) (haD : arrE ds n = 0) (haL : arrE L NN = 0)
    (hR : ∀ (W : World) (b : Nat), Below w.heap.size w W → ArrAt W b (.slice da dl dc) (.slice xa n xc) → Calls Tryz.prog 8 #[.agg #[.int .i64 k, V1, V2, V3, V4, V5, .int .i64 x], .slice (some ⟨b, 0, none⟩) 1 1] W fun e W' => (∃ (Z : Option Addr) (nz cz : Nat) (G : Option Addr) (ng cg : Nat), e = .returned (.tuple #[.agg #[.slice Z nz cz, .slice G ng cg], .int .i64 0])) ∧ Below W.heap.size W W')
    (hO : ∀ (W : World) (b : Nat), Below w.heap.size w W → ArrAt W b (.slice da dl dc) (.slice xa n xc) → Calls Tryz.prog 7 #[.agg #[.int .i64 k, V1, V2, V3, V4, V5, .int .i64 x], .slice (some ⟨b, 0, none⟩) 1 1] W fun e W' => DoesTo W L FL NN e W' ∧ Below W.heap.size W W')
    (hB : ∀ (W : World), Below w.heap.size w W → Calls Tryz.prog 12 #[.agg #[.int .i64 k, V1, V2, V3, V4, V5, .int .i64 x], .slice da dl dc] W fun e W' => (∃ v, e = .returned v ∧ BackOk L ds NN n F2 v W') ∧ Below W.heap.size W W')
    (hI : ∀ ys : List Int, ys.length = NN → (∀ y ∈ ys, -9223372036854775808 ≤ y ∧ y ≤ 9223372036854775807) → innS FL ys NN = innS xs (F2 ys) n ∧ FL.length = NN ∧ (F2 ys).length = n) :
    Calls Tryz.prog 4 #[.agg #[.int .i64 k, V1, V2, V3, V4, V5, .int .i64 x], .agg #[.slice da dl dc, .slice xa n xc], .slice ua un uc] w fun e w' => e = .returned (.bool true) ∧ Below w.heap.size w w' := by
  have HDA := hide hda
  have HXA := hide hxa
  have HUA := hide hua
  have HHD := hide haD
  have HHL := hide haL
  have HR := hide hR
  have HO := hide hO
  have HBK := hide hB
  have HIN := hide hI
  have HK := hide hk
  have hN6 := (arrE_ok haL).2.2
  have hmk := run_make_row' (P := Tryz.prog) 26 2 (.int .i64 0) 8 Tryz.underlying26 info_int64 rfl .i64 .i64 NN (by omega) (by omega)
  have hop := (OpAt.new w k V1 V2 V3 V4 V5 x).alloc (.cells #[.slice da dl dc, .slice xa n xc] 28)
  have har := ArrAt.new (w.alloc (.cells #[.int .i64 k, V1, V2, V3, V4, V5, .int .i64 x] 24)) (.slice da dl dc) (.slice xa n xc)
  simp only [World.size_alloc] at har
  have hb1 := (Below.refl w.heap.size w).alloc (Nat.le_refl _) (.cells #[.int .i64 k, V1, V2, V3, V4, V5, .int .i64 x] 24)
  have HB2 := hide (hb1.alloc hb1.size (.cells #[.slice da dl dc, .slice xa n xc] 28))
  have HOP := hide hop
  have HAR := hide har
  clear hda hxa hua haD haL hR hO hB hI hk hop har hb1
  go_enter Tryz.func4, Tryz.ntmps4
  obtain ⟨W1, hW1⟩ : ∃ W1, W1 = (w.alloc (.cells #[.int .i64 k, V1, V2, V3, V4, V5, .int .i64 x] 24)).alloc (.cells #[.slice da dl dc, .slice xa n xc] 28) := ⟨_, rfl⟩
  rw [← hW1] at HOP HAR HB2
  go_upto_block 0 with (go_at_call 10; rw [← hW1]; refine (alive2_any _).mono ?_; rintro e w1 ⟨rfl, hb⟩; have HB3 := hide hb; have hoc := HOP.out.below hb; obtain ⟨o0, o1, o2, o3, o4, o5, o6⟩ := hoc.cells; clear hb hoc)
  go_cut [] (fun wc => OpAt wc w.heap.size k V1 V2 V3 V4 V5 x ∧ ArrAt wc (w.heap.size + 1) (.slice da dl dc) (.slice xa n xc) ∧ Below w.heap.size w wc)
  case first =>
    have hk := HK.out
    rcases hk with rfl | rfl | rfl | rfl | rfl | rfl | rfl
    all_goals go_wp2
    all_goals go_meet
    all_goals exact ⟨HOP.out.below HB3.out, HAR.out.below HB3.out, Below.on HB2.out HB3.out⟩
  case rest =>
  obtain ⟨ho, ha, hb⟩ := hcut
  clear hW1 HOP HAR HB3 HB2 o0 o1 o2 o3 o4 o5 o6
  obtain ⟨W3, hW3⟩ : ∃ W3, W3 = wc := ⟨_, rfl⟩
  subst hW3
  have HO3 := hide ho
  have HA3 := hide ha
  have HB3 := hide hb
  obtain ⟨o0, o1, o2, o3, o4, o5, o6⟩ := ho.cells
  obtain ⟨⟨a0, a1⟩, _⟩ := ha.cells
  clear ho ha hb HK
  go_wp2_with (first
    | (go_at_call 11; refine (one_gen k x V1 V2 V3 V4 V5 da dl dc xa n xc L FL NN _ (fun W b hW hA => HO.out W b (Below.on HB5.out hW) hA)).mono ?_; rintro e w3 ⟨⟨Z3, nz3, cz3, G3, rfl, ⟨hi3, hnc3⟩, hi4⟩, hb⟩; have HB7 := hide (Below.on HB5.out hb); have HO7 := hide (HO5.out.below hb); have HA7 := hide (HA5.out.below hb); have HI3 := hide hi3; have HI4 := hide hi4; have HNC := hide hnc3; have HU := hide (ArrAt.new w3 (.slice Z3 nz3 cz3) (.slice (some ⟨G3, 0, none⟩) NN NN)); clear hb hi3 hi4 hnc3 o0 o1 o2 o3 o4 o5 o6 a0 a1; obtain ⟨⟨u0, u1⟩, _⟩ := HU.out.cells)
    | (go_at_call 8; have hb4 := HB3.out.alloc HB3.out.size (.cells #[.slice da dl dc, .slice xa n xc] 28); refine (HR.out _ W3.heap.size hb4 (ArrAt.new W3 _ _)).mono ?_; rintro e w2 ⟨⟨Z, nz, cz, G, ng, cg, rfl⟩, hb⟩; have hbx := (Below.refl w2.heap.size w2).alloc (Nat.le_refl _) (.cells #[.slice Z nz cz, .slice G ng cg] 28); have HB5 := hide (Below.on (Below.on hb4 hb) hbx); have HO5 := hide (((HO3.out.alloc _).below hb).below hbx); have HA5 := hide (((HA3.out.alloc _).below hb).below hbx); clear hb4 hb hbx o0 o1 o2 o3 o4 o5 o6 a0 a1; obtain ⟨o0, o1, o2, o3, o4, o5, o6⟩ := HO5.out.cells; obtain ⟨⟨a0, a1⟩, _⟩ := HA5.out.cells))
  refine region_made 8 12 [fIs (.pointer (some ⟨w3.heap.size, 0, none⟩)), fIs (.slice Z3 nz3 cz3), fIs (.pointer (some ⟨w3.heap.size, 1, none⟩)), fIs (.slice (some ⟨G3, 0, none⟩) NN NN), fIs (.int .i64 (NN : Int)), fRowZ w3.heap.size NN, fAggZ w3.heap.size Z3 nz3 cz3 NN, fArr w3.heap.size] (by kernel_rfl) (by kernel_rfl) (by kernel_rfl) (fun _ ⟨_, _⟩ ⟨_, _⟩ _ e h => by cases e; exact h) ⟨fIs_good _, fIs_good _, fIs_good _, fIs_good _, fIs_good _, fRowZ_good _ _, fAggZ_good _ _ _ _ _, fArr_good _, trivial⟩ ?mk ?rest
  case mk =>
    refine ⟨fun u wz hb hd => ?_, fun u wz hb hd => ?_, fun u wz hb hd => ?_, fun u wz hb hd => ?_, fun u wz hb hd => ?_, fun u wz hb hd => ?_, fun u wz hb hd => ?_, fun u wz hb hd => ?_, trivial⟩
    all_goals simp only [Act.put, List.setIfInBounds_toArray, List.set_cons_zero, List.set_cons_succ]
    · go_simp
      exact ⟨rfl, Below.refl _ _, fun h => by cases h⟩
    · have e0 : u 0 = .pointer (some ⟨w3.heap.size, 0, none⟩) := hd 0 (by omega) (by kernel_rfl)
      rw [e0]
      have u0' := (hb.cell (p := ⟨w3.heap.size, 0, none⟩) (lt_of_cell u0)).trans u0
      go_simp
      exact ⟨rfl, Below.refl _ _, fun h => by cases h⟩
    · go_simp
      exact ⟨rfl, Below.refl _ _, fun h => by cases h⟩
    · have e2 : u 2 = .pointer (some ⟨w3.heap.size, 1, none⟩) := hd 2 (by omega) (by kernel_rfl)
      rw [e2]
      have u1' := (hb.cell (p := ⟨w3.heap.size, 1, none⟩) (lt_of_cell u1)).trans u1
      go_simp
      exact ⟨rfl, Below.refl _ _, fun h => by cases h⟩
    · have e3 : u 3 = .slice (some ⟨G3, 0, none⟩) NN NN := hd 3 (by omega) (by kernel_rfl)
      rw [e3]
      go_simp
      exact ⟨rfl, Below.refl _ _, fun h => by cases h⟩
    · have e4 : u 4 = .int .i64 (NN : Int) := hd 4 (by omega) (by kernel_rfl)
      rw [e4]
      go_simp
      exact ⟨⟨_, rfl, World.rowIs_made _ _ _ _, by have := hb.size; simp at this; omega⟩, (Below.refl _ _).alloc (Nat.le_refl _) _, fun h => by cases h⟩
    · have e1 : u 1 = .slice Z3 nz3 cz3 := hd 1 (by omega) (by kernel_rfl)
      obtain ⟨B5, e5, h5, l5⟩ := hd 5 (by omega) (by kernel_rfl)
      rw [e1, e5]
      go_simp
      exact ⟨⟨B5, rfl, h5, l5⟩, Below.refl _ _, fun h => by cases h⟩
    · go_simp
      exact ⟨⟨_, rfl, ArrAt.new _ _ _, by have := hb.size; simp at this; omega⟩, (Below.refl _ _).alloc (Nat.le_refl _) _, fun _ b hb => by simp [blk] at hb; omega⟩
  case rest =>
    intro u wz hb hf hp
    have f0 : u 0 = .pointer (some ⟨w3.heap.size, 0, none⟩) := hf 0 (by omega)
    have f1 : u 1 = .slice Z3 nz3 cz3 := hf 1 (by omega)
    have f2 : u 2 = .pointer (some ⟨w3.heap.size, 1, none⟩) := hf 2 (by omega)
    have f3 : u 3 = .slice (some ⟨G3, 0, none⟩) NN NN := hf 3 (by omega)
    have f4 : u 4 = .int .i64 (NN : Int) := hf 4 (by omega)
    obtain ⟨_, f5, _, _⟩ := hf 5 (by omega)
    obtain ⟨G5, f6, hg5, hl5⟩ := hf 6 (by omega)
    obtain ⟨C7, f7, i7, n7⟩ := hf 7 (by omega)
    refine UptoW.rest 1 8 (by rfl) (by kernel_rfl) ?_
    simp only [List.take, List.drop, putOps, Act.put, List.setIfInBounds_toArray, List.set_cons_zero, List.set_cons_succ, Nat.reduceAdd, f0, f1, f2, f3, f4, f5, f6, f7]
    clear f0 f1 f2 f3 f4 f5 f6 f7 hf hp
    have hgc : G5 ≠ C7 := rowIs_ne_arr hg5 i7
    obtain ⟨⟨c0, c1⟩, z0, z1⟩ := i7.cells
    refine wpList_plain rfl (fun K hK => ?_)
    go_simp
    refine hK _ _ (wpList_nil ?_)
    clear hK K c0 c1 z0 z1
    have hC7 : C7 ≠ w3.heap.size := fun e => by
      have h1 := i7
      have h2 := HU.out.below hb
      rw [e] at h1
      unfold ArrAt at h1 h2
      rw [h1] at h2
      cases h2
    have hsl := HU.out.lt
    have hbb := hb.size
    have HW9 := hide (show Below w.heap.size w wz from Below.on (HB7.out.alloc HB7.out.size _) hb)
    have hs3 := HB7.out.size
    have hs4 := HA7.out.lt
    have hs5 := HO7.out.lt
    have HB39 := hide ((Below.on ((Below.refl w3.heap.size w3).alloc (Nat.le_refl _) _) hb).setCell (p := ⟨C7, 0, none⟩) (by simpa using n7) (.slice Z3 nz3 cz3) |>.setCell (p := ⟨C7, 1, none⟩) (by simpa using n7) (.slice (some ⟨G5, 0, none⟩) NN NN))
    have K0 := ((HA7.out.alloc _).below hb)
    have K1 := ((HO7.out.alloc _).below hb)
    have KU := HU.out.below hb
    have HA9 := hide (i7.put (.slice Z3 nz3 cz3) (.slice (some ⟨G5, 0, none⟩) NN NN))
    have HR9 := hide ((hg5.setOther (a := ⟨C7, 0, none⟩) (by simp; omega) (.slice Z3 nz3 cz3)).setOther (a := ⟨C7, 1, none⟩) (by simp; omega) (.slice (some ⟨G5, 0, none⟩) NN NN))
    have HB9 := hide ((HW9.out.setCell (p := ⟨C7, 0, none⟩) (by simp; omega) (.slice Z3 nz3 cz3)).setCell (p := ⟨C7, 1, none⟩) (by simp; omega) (.slice (some ⟨G5, 0, none⟩) NN NN))
    have HK0 := hide ((K0.set (p := ⟨C7, 0, none⟩) (by simp; omega) (.slice Z3 nz3 cz3)).set (p := ⟨C7, 1, none⟩) (by simp; omega) (.slice (some ⟨G5, 0, none⟩) NN NN))
    have HK1 := hide ((K1.set (p := ⟨C7, 0, none⟩) (by simp; omega) (.slice Z3 nz3 cz3)).set (p := ⟨C7, 1, none⟩) (by simp; omega) (.slice (some ⟨G5, 0, none⟩) NN NN))
    have HKU := hide ((KU.set (p := ⟨C7, 0, none⟩) (by simp; omega) (.slice Z3 nz3 cz3)).set (p := ⟨C7, 1, none⟩) (by simp; omega) (.slice (some ⟨G5, 0, none⟩) NN NN))
    have hszz : ((wz.setCell ⟨C7, 0, none⟩ (.slice Z3 nz3 cz3)).setCell ⟨C7, 1, none⟩ (.slice (some ⟨G5, 0, none⟩) NN NN)).heap.size = wz.heap.size := by simp
    generalize (wz.setCell ⟨C7, 0, none⟩ (.slice Z3 nz3 cz3)).setCell ⟨C7, 1, none⟩ (.slice (some ⟨G5, 0, none⟩) NN NN) = W9 at *
    clear K0 K1 KU i7 hg5 hb HW9 HA3 HA5 HA7 HO3 HO5 HO7 HB3 HB5 HB7 HU u0 u1
    obtain ⟨⟨v0, v1⟩, _⟩ := HA9.out.cells
    have hrz : W9.rowIs G5 2 NN (fun j => .int .i64 ((List.replicate NN 0)[j]?.getD 0)) := HR9.out.congr (fun j _ => by rw [replicate_zero_at])
    have HRZ := hide hrz
    obtain ⟨US, hUS⟩ : ∃ US, US = us.take (Nat.min un NN) := ⟨_, rfl⟩
    have hUl : US.length ≤ NN := by rw [hUS, List.length_take]; exact Nat.le_trans (Nat.min_le_left _ _) (Nat.min_le_right _ _)
    have HUS := hide hUS
    clear hrz hUS
    go_wp2_with (refine wpList_copy_row rfl (.tmp 54) (.tmp 55) 26 26 rfl 2 Tryz.underlying26 size_int64 (some ⟨G5, 0, none⟩) ua NN NN un uc rfl rfl G5 NN 2 0 (List.replicate NN 0) us US HRZ.out (by simp) (HUA.out.below HB9.out) HUS.out (fun _ => rfl) (by omega) ?_; intro W10 hr10 hbut h010; have HR10 := hide hr10; have HBT := hide hbut; have H010 := hide h010; clear hr10 hbut h010 v0 v1)
    have hsv : Save G5 W9 W10 := Save.of_below (Below.refl _ _) HBT.out H010.out
    have HB10 := hide (Save.below HB9.out hsv (by omega) (Nat.le_refl _))
    have HB31 := hide (Save.below HB39.out hsv (by omega) (Nat.le_refl _))
    have HP0 : Hid (ArrAt W10 (w.heap.size + 1) (.slice da dl dc) (.slice xa n xc)) := (HBT.out.1 _ (rowIs_ne_arr HR9.out HK0.out).symm).trans HK0.out
    have HP1 : Hid (OpAt W10 w.heap.size k V1 V2 V3 V4 V5 x) := (HBT.out.1 _ (rowIs_ne_op HR9.out HK1.out).symm).trans HK1.out
    have HPF : Hid (ArrAt W10 w3.heap.size (.slice Z3 nz3 cz3) (.slice (some ⟨G3, 0, none⟩) NN NN)) := (HBT.out.1 _ (rowIs_ne_arr HR9.out HKU.out).symm).trans HKU.out
    have HPU : Hid (ArrAt W10 C7 (.slice Z3 nz3 cz3) (.slice (some ⟨G5, 0, none⟩) NN NN)) := (HBT.out.1 _ (rowIs_ne_arr HR9.out HA9.out).symm).trans HA9.out
    have hul : Ints W10 (some ⟨G5, 0, none⟩) NN (copyL (List.replicate NN 0) 0 US) := ⟨(copyL_length _ _ _ (by simp; omega)).trans (by simp), by omega, fun y hy => by
      simp only [copyL, List.mem_append] at hy
      rcases hy with hy | hy | hy
      · simp at hy
      · rw [HUS.out] at hy; exact HUA.out.2.2.1 y (List.mem_of_mem_take hy)
      · have := List.mem_of_mem_drop hy
        simp at this
        omega, .inr ⟨G5, 0, rfl, fun j hj => by rw [Nat.zero_add]; exact HR10.out.cell hj⟩⟩
    obtain ⟨UL, hUL⟩ : ∃ UL, UL = copyL (List.replicate NN 0) 0 US := ⟨_, rfl⟩
    rw [← hUL] at hul
    have HUL := hide hul
    obtain ⟨hback, hFl, hPl2⟩ := HIN.out UL hul.1 hul.2.2.1
    have hUl2 : UL.length = NN := hul.1
    have hXl : xs.length = n := HXA.out.1
    have haL := HHL.out
    have haD := HHD.out
    obtain ⟨PL, hPL⟩ : ∃ PL, PL = F2 UL := ⟨_, rfl⟩
    rw [← hPL] at hback hPl2
    have HQ1 : Hid (innerN L FL L UL = innS FL UL NN) := by
      rw [Hid, innerN, hFl, hUl2, if_neg (by rw [haL]; simp), if_neg (by rw [haL]; simp), if_pos rfl]
    have HQ2 : Hid (innerE L FL L UL = 0) := by
      rw [Hid, innerE, hFl, hUl2, if_neg (by rw [haL]; simp), if_neg (by rw [haL]; simp), if_pos rfl]
    have HQ3 : Hid (innerN ds xs ds PL = innS FL UL NN) := by
      rw [Hid, innerN, hXl, hPl2, if_neg (by rw [haD]; simp), if_neg (by rw [haD]; simp), if_pos rfl, hback]
    have HQ4 : Hid (innerE ds xs ds PL = 0) := by
      rw [Hid, innerE, hXl, hPl2, if_neg (by rw [haD]; simp), if_neg (by rw [haD]; simp), if_pos rfl]
    obtain ⟨V, hV⟩ : ∃ V, V = innS FL UL NN := ⟨_, rfl⟩
    rw [← hV] at HQ1 HQ3
    have q1 : (V == V) = true := by simp
    have HI3' := hide (HI3.out.below HB31.out)
    have HI4' := hide (HI4.out.below HB31.out)
    have HXA' := hide (HXA.out.below HB10.out)
    have HDA' := hide (HDA.out.below HB10.out)
    have HPLE := hide hPL
    clear hsv hul hFl hUl2 hPl2 hXl hback hV hPL hUL haL haD HI3 HI4 HR10 HBT H010 HK0 HK1 HKU HA9 HR9 HB9 HB39 HRZ HXA HDA
    obtain ⟨o0, o1, o2, o3, o4, o5, o6⟩ := HP1.out.cells
    obtain ⟨⟨a0, a1⟩, _⟩ := HP0.out.cells
    obtain ⟨⟨u0, u1⟩, _⟩ := HPU.out.cells
    refine region_made1 10 14 8 [fIs (.agg #[.int .i64 k, V1, V2, V3, V4, V5, .int .i64 x]), fIs (.pointer (some ⟨w.heap.size + 1, 0, none⟩)), fIs (.slice da dl dc), fBack L ds NN n F2, fIs (.agg #[.slice Z3 nz3 cz3, .slice (some ⟨G5, 0, none⟩) NN NN]), fOne ds PL n, fOne ds PL n, fAgg ds PL n, fIs (.bool true), fArr W10.heap.size] (by kernel_rfl) (by kernel_rfl) (by kernel_rfl) (fun _ ⟨_, _⟩ ⟨_, _⟩ _ e h => by cases e; exact h) ⟨fIs_good _, fIs_good _, fIs_good _, fBack_good _ _ _ _ _, fIs_good _, fOne_good _ _ _, fOne_good _ _ _, fAgg_good _ _ _, fIs_good _, fArr_good _, trivial⟩ ?pure ?mk ?rest
    case pure =>
      intro o ho u wz hb hd
      cases ho
      obtain ⟨Z, nz, cz, G, e5, h1, h2⟩ := hd 6 (by omega) (by kernel_rfl)
      refine ⟨.bool true, fun w3 => ?_⟩
      simp only [List.take, putOps, Act.put, List.setIfInBounds_toArray, List.set_cons_zero, List.set_cons_succ, e5]
      go_simp
    case mk =>
      refine ⟨fun u wz hb hd => ?_, fun u wz hb hd => ?_, fun u wz hb hd => ?_, fun u wz hb hd => ?_, fun u wz hb hd => ?_, fun u wz hb hd => ?_, fun u wz hb hd => ?_, fun u wz hb hd => ?_, fun u wz hb hd => ?_, fun u wz hb hd => ?_, trivial⟩
      all_goals simp only [Act.put, List.setIfInBounds_toArray, List.set_cons_zero, List.set_cons_succ]
      · have o0' := (hb.cell (p := ⟨w.heap.size, 0, none⟩) (lt_of_cell o0)).trans o0
        have o1' := (hb.cell (p := ⟨w.heap.size, 1, none⟩) (lt_of_cell o1)).trans o1
        have o2' := (hb.cell (p := ⟨w.heap.size, 2, none⟩) (lt_of_cell o2)).trans o2
        have o3' := (hb.cell (p := ⟨w.heap.size, 3, none⟩) (lt_of_cell o3)).trans o3
        have o4' := (hb.cell (p := ⟨w.heap.size, 4, none⟩) (lt_of_cell o4)).trans o4
        have o5' := (hb.cell (p := ⟨w.heap.size, 5, none⟩) (lt_of_cell o5)).trans o5
        have o6' := (hb.cell (p := ⟨w.heap.size, 6, none⟩) (lt_of_cell o6)).trans o6
        go_simp
        exact ⟨rfl, Below.refl _ _, fun h => by cases h⟩
      · go_simp
        exact ⟨rfl, Below.refl _ _, fun h => by cases h⟩
      · have e1 : u 1 = .pointer (some ⟨w.heap.size + 1, 0, none⟩) := hd 1 (by omega) (by kernel_rfl)
        rw [e1]
        have a0' := (hb.cell (p := ⟨w.heap.size + 1, 0, none⟩) (lt_of_cell a0)).trans a0
        go_simp
        exact ⟨rfl, Below.refl _ _, fun h => by cases h⟩
      · have e0 : u 0 = .agg #[.int .i64 k, V1, V2, V3, V4, V5, .int .i64 x] := hd 0 (by omega) (by kernel_rfl)
        have e2 : u 2 = .slice da dl dc := hd 2 (by omega) (by kernel_rfl)
        rw [e0, e2]
        go_simp
        refine (HBK.out wz (Below.on HB10.out hb)).mono ?_
        rintro e w3 ⟨⟨v, rfl, h1⟩, hb2⟩
        exact ⟨h1, hb2, fun h => by cases h⟩
      · have u0' := (hb.cell (p := ⟨C7, 0, none⟩) (lt_of_cell u0)).trans u0
        have u1' := (hb.cell (p := ⟨C7, 1, none⟩) (lt_of_cell u1)).trans u1
        go_simp
        exact ⟨rfl, Below.refl _ _, fun h => by cases h⟩
      · obtain ⟨k', E1, E2, E3, E4, E5, x', e3, hbk⟩ := hd 3 (by omega) (by kernel_rfl)
        have e4 : u 4 = .agg #[.slice Z3 nz3 cz3, .slice (some ⟨G5, 0, none⟩) NN NN] := hd 4 (by omega) (by kernel_rfl)
        rw [e3, e4]
        go_simp
        refine (one_gen k' x' E1 E2 E3 E4 E5 Z3 nz3 cz3 (some ⟨G5, 0, none⟩) NN NN ds PL n wz (fun W b hW hA => ?_)).mono ?_
        · rw [HPLE.out]; exact hbk W b Z3 nz3 cz3 G5 UL hW hA ⟨(HI3'.out.below hb).below hW, HNC.out⟩ ((HUL.out.below hb).below hW)
        · rintro e w3 ⟨⟨Z, nz, cz, G, rfl, h1, h2⟩, hb2⟩
          exact ⟨⟨Z, nz, cz, G, rfl, h1, h2⟩, hb2, fun h => by cases h⟩
      · obtain ⟨Z, nz, cz, G, e5, h1, h2⟩ := hd 5 (by omega) (by kernel_rfl)
        rw [e5]
        go_simp
        exact ⟨⟨Z, nz, cz, G, rfl, h1, h2⟩, Below.refl _ _, fun h => by cases h⟩
      · obtain ⟨Z, nz, cz, G, e5, h1, h2⟩ := hd 6 (by omega) (by kernel_rfl)
        rw [e5]
        go_simp
        exact ⟨⟨Z, nz, cz, G, rfl, h1, h2⟩, Below.refl _ _, fun h => by cases h⟩
      · obtain ⟨Z, nz, cz, G, e5, h1, h2⟩ := hd 6 (by omega) (by kernel_rfl)
        rw [e5]
        go_simp
        exact ⟨rfl, Below.refl _ _, fun h => by cases h⟩
      · go_simp
        exact ⟨⟨_, rfl, ArrAt.new _ _ _, hb.size⟩, (Below.refl _ _).alloc (Nat.le_refl _) _, fun _ b hb => by simp [blk] at hb; omega⟩
    case rest =>
      intro u wz hb hf hp
      have f0 : u 0 = .agg #[.int .i64 k, V1, V2, V3, V4, V5, .int .i64 x] := hf 0 (by omega)
      have f1 : u 1 = .pointer (some ⟨w.heap.size + 1, 0, none⟩) := hf 1 (by omega)
      have f2 : u 2 = .slice da dl dc := hf 2 (by omega)
      obtain ⟨_, _, _, _, _, _, _, f3, _⟩ := hf 3 (by omega)
      have f4 : u 4 = .agg #[.slice Z3 nz3 cz3, .slice (some ⟨G5, 0, none⟩) NN NN] := hf 4 (by omega)
      obtain ⟨_, _, _, _, f5, _, _⟩ := hf 5 (by omega)
      obtain ⟨_, _, _, _, f6, _, _⟩ := hf 6 (by omega)
      obtain ⟨Zg, nzg, czg, Gg, f7, ⟨pg, pcg⟩, rg⟩ := hf 7 (by omega)
      have f8 : u 8 = .bool true := hf 8 (by omega)
      obtain ⟨Cg, f9, i9, n9⟩ := hf 9 (by omega)
      refine UptoW.rest 2 10 (by rfl) (by kernel_rfl) ?_
      simp only [List.take, List.drop, putOps, Act.put, List.setIfInBounds_toArray, List.set_cons_zero, List.set_cons_succ, Nat.reduceAdd, f0, f1, f2, f3, f4, f5, f6, f7, f8, f9]
      clear f0 f1 f2 f3 f4 f5 f6 f7 f8 f9 hf hp a0 a1 o0 o1 o2 o3 o4 o5 o6 u0 u1
      obtain ⟨⟨c0, c1⟩, z0, z1⟩ := i9.cells
      refine wpList_plain rfl (fun K hK => ?_)
      go_simp
      refine hK _ _ ?_
      clear hK K c0 c1 z0 z1
      refine wpList_plain rfl (fun K hK => ?_)
      go_simp
      refine hK _ _ (wpList_nil ?_)
      clear hK K
      have Pg := ints_put_arr pg i9 (fun _ _ e => by cases e) (fun _ _ e => by cases e) (.slice Zg nzg czg) (.slice (some ⟨Gg, 0, none⟩) n n)
      have Rg := ints_put_arr rg i9 (fun _ _ e => by cases e) (fun _ _ e => by cases e) (.slice Zg nzg czg) (.slice (some ⟨Gg, 0, none⟩) n n)
      have HAg := hide (i9.put (.slice Zg nzg czg) (.slice (some ⟨Gg, 0, none⟩) n n))
      have HBg := hide ((hb.setCell (p := ⟨Cg, 0, none⟩) n9 (.slice Zg nzg czg)).setCell (p := ⟨Cg, 1, none⟩) n9 (.slice (some ⟨Gg, 0, none⟩) n n))
      have HPg := hide Pg
      have HRg := hide Rg
      clear Pg Rg i9 pg rg hb n9
      generalize (wz.setCell ⟨Cg, 0, none⟩ (.slice Zg nzg czg)).setCell ⟨Cg, 1, none⟩ (.slice (some ⟨Gg, 0, none⟩) n n) = W12 at *
      have KA := hide (HP0.out.below HBg.out)
      have KF := hide (HPF.out.below HBg.out)
      have KU := hide (HPU.out.below HBg.out)
      obtain ⟨⟨a0, a1⟩, _⟩ := KA.out.cells
      obtain ⟨⟨g0, g1⟩, _⟩ := HAg.out.cells
      have hdd : decide (ds = ds) = true := by simp
      have HDD := hide hdd
      go_wp2_with (first
          | (go_at_call 14; refine (Inner_any _ _ _ ds _ _ _ xs _ _ _ ds _ _ _ PL _ ((HDA'.out.below HBg.out).below HB14.out) ((HXA'.out.below HBg.out).below HB14.out) (HPg.out.below HB14.out) (HRg.out.below HB14.out)).mono ?_; rintro e w15 ⟨rfl, hb⟩; rw [HQ3.out, HQ4.out]; have HB15 := hide (Below.on HB14.out hb); clear hb)
          | (go_at_call 14; refine (Inner_any _ _ _ L _ _ _ FL _ _ _ L _ _ _ UL _ ((HI3'.out.below HBg.out).below HB13.out) ((HI4'.out.below HBg.out).below HB13.out) ((HI3'.out.below HBg.out).below HB13.out) ((HUL.out.below HBg.out).below HB13.out)).mono ?_; rintro e w14 ⟨rfl, hb⟩; rw [HQ1.out, HQ2.out]; have HB14 := hide (Below.on HB13.out hb); clear hb a0 a1 g0 g1 f0 f1 u0 u1; obtain ⟨⟨a0, a1⟩, _⟩ := (KA.out.below HB14.out).cells; obtain ⟨⟨g0, g1⟩, _⟩ := (HAg.out.below HB14.out).cells)
          | (go_at_call 13; refine (sameList_any _ _ _ ds _ _ _ ds _ HPg.out (HDA'.out.below HBg.out)).mono ?_; rintro e w13 ⟨rfl, k13, hw⟩; rw [HDD.out]; have HB13 := hide (show Below W12.heap.size W12 w13 from hw ▸ below_drewN _ k13); clear hw a0 a1 g0 g1; obtain ⟨⟨a0, a1⟩, _⟩ := (KA.out.below HB13.out).cells; obtain ⟨⟨g0, g1⟩, _⟩ := (HAg.out.below HB13.out).cells; obtain ⟨⟨f0, f1⟩, _⟩ := (KF.out.below HB13.out).cells; obtain ⟨⟨u0, u1⟩, _⟩ := (KU.out.below HB13.out).cells))
      go_ret
      exact ⟨rfl, Below.on (Below.on HB10.out HBg.out) HB15.out⟩
end Go.Proofs.YtoagnhppjlcpkaaGreat.V

/-
  ArrayAdjoint, by kind.
-/
namespace Go.Proofs.YtoagnhppjlcpkaaGreat.V
set_option maxRecDepth 20000
open Go.RowKit

theorem adj_kind9 (x : Int) (ea : Option Addr) (el ec : Nat) (es : List Int) (pa : Option Addr) (pl pc : Nat) (ps : List Int) (la : Option Addr) (ll lc : Nat) (lo : List Int) (ha : Option Addr) (hl hc : Nat) (hi : List Int) (ta : Option Addr) (tl tc : Nat) (st : List Int) (da : Option Addr) (dl dc : Nat) (ds : List Int) (xa : Option Addr) (n xc : Nat) (xs : List Int) (ua : Option Addr) (un uc : Nat) (us : List Int) (w : World)
    (he : Lst w ea el ec es) (hp : Lst w pa pl pc ps) (hlo : Lst w la ll lc lo) (hhi : Lst w ha hl hc hi) (hst : Lst w ta tl tc st) (hda : Lst w da dl dc ds) (hxa : Ints w xa n xs) (hxc : n ≤ xc) (hua : Ints w ua un us) (hE : doE 9 es ps lo hi st 1 (oneV ds n) = 0) :
    Calls Tryz.prog 4 #[.agg #[.int .i64 9, .slice ea el ec, .slice pa pl pc, .slice la ll lc, .slice ha hl hc, .slice ta tl tc, .int .i64 x], .agg #[.slice da dl dc, .slice xa n xc], .slice ua un uc] w fun e w' => e = .returned (.bool true) ∧ Below w.heap.size w w' := by
  obtain ⟨haD, haL, htw, htk, h2E, hbd⟩ := adj_9 hE
  have hn := nn_of haD
  have hdl := hda.1.1
  have h6 := (sizeE_ok (arrE_ok haD).1).1
  have hel := he.1.1
  have hes6 := (sizeE_ok (arrE_ok haL).1).1
  refine adj_good 9 x (.slice ea el ec) (.slice pa pl pc) (.slice la ll lc) (.slice ha hl hc) (.slice ta tl tc) da dl dc ds xa n xc xs ua un uc us (es) (lookL xs (readsV 0 es (sprS es.length (stepsV ds) ps))) ((prod es).toNat) (fun ys => addS (List.replicate n 0) (readsV 0 es (sprS es.length (stepsV ds) ps)) ys (prod es).toNat) w (by omega) hda.1 hxa hua haD haL (fun W b hW hA => ?_) (fun W b hW hA => ?_) (fun W hW => ?_) (fun ys hyl hyb => ?_)
  · refine (rdo_9R x ea el ec es pa pl pc ps la ll lc lo ha hl hc hi ta tl tc st b 0 1 da dl dc ds xa n xc xs W (he.below hW) (hp.below hW) (hlo.below hW) (hhi.below hW) (hst.below hW) hA.cells.1.1 (by rw [Nat.zero_add]; exact hA.cells.1.2) (hda.below hW) (hxa.below hW) hE).mono ?_
    rintro e W' ⟨⟨Z, nz, cz, G, gr, rfl, _⟩, hb⟩
    exact ⟨⟨_, _, _, _, _, _, rfl⟩, hb⟩
  · have h1 := do_9Q x ea el ec es pa pl pc ps la ll lc lo ha hl hc hi ta tl tc st ds n w he hp hlo hhi hst hE W b 0 1 da dl dc xa xc xs hW hA.cells.1.1 (by rw [Nat.zero_add]; exact hA.cells.1.2) (hda.below hW).q (hxa.below hW) hxc
    exact h1
  · refine (back_9 ea el ec pa pl pc la ll lc ha hl hc ta tl tc x da dl dc ps W (hp.below hW).1 (by omega)).mono ?_
    rintro e W' ⟨⟨X, nx, cx, rfl, hl2⟩, hb⟩
    rw [← hel] at hl2
    refine ⟨⟨_, rfl, 10, .slice none 0 0, .slice X nx cx, .slice none 0 0, .slice none 0 0, .slice none 0 0, 0, rfl, fun W2 b Z nz cz G ys hW2 hA hZ hys => ?_⟩, hb⟩
    have h1 := do_10Q 0 none 0 0 [] X nx cx (freeL ps es.length) none 0 0 [] none 0 0 [] none 0 0 [] es (prod es).toNat W' (lst_none _) hl2 (lst_none _) (lst_none _) (lst_none _) h2E W2 b 0 1 Z nz cz (some ⟨G, 0, none⟩) _ ys hW2 hA.cells.1.1 (by rw [Nat.zero_add]; exact hA.cells.1.2) hZ hys (Nat.le_refl _)
    rw [htw, htk, hn] at h1
    exact h1
  · exact ⟨adj_core hbd (by rw [readsV_length]; exact Nat.le_refl _), by rw [lookL_length, readsV_length], by rw [addS_length]; simp⟩
theorem adj_kind10 (x : Int) (ea : Option Addr) (el ec : Nat) (es : List Int) (pa : Option Addr) (pl pc : Nat) (ps : List Int) (la : Option Addr) (ll lc : Nat) (lo : List Int) (ha : Option Addr) (hl hc : Nat) (hi : List Int) (ta : Option Addr) (tl tc : Nat) (st : List Int) (da : Option Addr) (dl dc : Nat) (ds : List Int) (xa : Option Addr) (n xc : Nat) (xs : List Int) (ua : Option Addr) (un uc : Nat) (us : List Int) (w : World)
    (he : Lst w ea el ec es) (hp : Lst w pa pl pc ps) (hlo : Lst w la ll lc lo) (hhi : Lst w ha hl hc hi) (hst : Lst w ta tl tc st) (hda : Lst w da dl dc ds) (hxa : Ints w xa n xs) (hxc : n ≤ xc) (hua : Ints w ua un us) (hE : doE 10 es ps lo hi st 1 (oneV ds n) = 0) :
    Calls Tryz.prog 4 #[.agg #[.int .i64 10, .slice ea el ec, .slice pa pl pc, .slice la ll lc, .slice ha hl hc, .slice ta tl tc, .int .i64 x], .agg #[.slice da dl dc, .slice xa n xc], .slice ua un uc] w fun e w' => e = .returned (.bool true) ∧ Below w.heap.size w w' := by
  obtain ⟨haD, haL, h2E, hbd⟩ := adj_10 hE
  have hn := nn_of haD
  have hdl := hda.1.1
  have h6 := (sizeE_ok (arrE_ok haD).1).1
  refine adj_good 10 x (.slice ea el ec) (.slice pa pl pc) (.slice la ll lc) (.slice ha hl hc) (.slice ta tl tc) da dl dc ds xa n xc xs ua un uc us (taken ds (freeL ps ds.length)) (addS (List.replicate (prod (taken ds (freeL ps ds.length))).toNat 0) (readsV 0 ds (sprS ds.length (stepsV (taken ds (freeL ps ds.length))) (freeL ps ds.length))) xs n) ((prod (taken ds (freeL ps ds.length))).toNat) (fun ys => lookL ys (readsV 0 ds (sprS ds.length (stepsV (taken ds (freeL ps ds.length))) (freeL ps ds.length)))) w (by omega) hda.1 hxa hua haD haL (fun W b hW hA => ?_) (fun W b hW hA => ?_) (fun W hW => ?_) (fun ys hyl hyb => ?_)
  · refine (rdo_10R x ea el ec es pa pl pc ps la ll lc lo ha hl hc hi ta tl tc st b 0 1 da dl dc ds xa n xc xs W (he.below hW) (hp.below hW) (hlo.below hW) (hhi.below hW) (hst.below hW) hA.cells.1.1 (by rw [Nat.zero_add]; exact hA.cells.1.2) (hda.below hW) (hxa.below hW) hE).mono ?_
    rintro e W' ⟨⟨Z, nz, cz, G, gr, rfl, _⟩, hb⟩
    exact ⟨⟨_, _, _, _, _, _, rfl⟩, hb⟩
  · have h1 := do_10Q x ea el ec es pa pl pc ps la ll lc lo ha hl hc hi ta tl tc st ds n w he hp hlo hhi hst hE W b 0 1 da dl dc xa xc xs hW hA.cells.1.1 (by rw [Nat.zero_add]; exact hA.cells.1.2) (hda.below hW).q (hxa.below hW) hxc
    exact h1
  · refine (back_10 ea el ec pa pl pc la ll lc ha hl hc ta tl tc x da dl dc ps W (hp.below hW).1 (by omega)).mono ?_
    rintro e W' ⟨⟨X, nx, cx, rfl, hl2⟩, hb⟩
    rw [← hdl] at hl2
    refine ⟨⟨_, rfl, 9, .slice da dl dc, .slice X nx cx, .slice none 0 0, .slice none 0 0, .slice none 0 0, 0, rfl, fun W2 b Z nz cz G ys hW2 hA hZ hys => ?_⟩, hb⟩
    have h1 := do_9Q 0 da dl dc ds X nx cx (freeL ps ds.length) none 0 0 [] none 0 0 [] none 0 0 [] (taken ds (freeL ps ds.length)) (prod (taken ds (freeL ps ds.length))).toNat W' ((hda.below hW).below hb) hl2 (lst_none _) (lst_none _) (lst_none _) h2E W2 b 0 1 Z nz cz (some ⟨G, 0, none⟩) _ ys hW2 hA.cells.1.1 (by rw [Nat.zero_add]; exact hA.cells.1.2) hZ hys (Nat.le_refl _)
    rw [hn] at h1
    exact h1
  · exact ⟨by rw [innS_comm, ← adj_core (xs := ys) (ys := xs) hbd (by rw [readsV_length]; omega), innS_comm], by rw [addS_length]; simp, by rw [lookL_length, readsV_length, hn]⟩
theorem adj_kind11 (x : Int) (ea : Option Addr) (el ec : Nat) (es : List Int) (pa : Option Addr) (pl pc : Nat) (ps : List Int) (la : Option Addr) (ll lc : Nat) (lo : List Int) (ha : Option Addr) (hl hc : Nat) (hi : List Int) (ta : Option Addr) (tl tc : Nat) (st : List Int) (da : Option Addr) (dl dc : Nat) (ds : List Int) (xa : Option Addr) (n xc : Nat) (xs : List Int) (ua : Option Addr) (un uc : Nat) (us : List Int) (w : World)
    (he : Lst w ea el ec es) (hp : Lst w pa pl pc ps) (hlo : Lst w la ll lc lo) (hhi : Lst w ha hl hc hi) (hst : Lst w ta tl tc st) (hda : Lst w da dl dc ds) (hxa : Ints w xa n xs) (hxc : n ≤ xc) (hua : Ints w ua un us) (hE : doE 11 es ps lo hi st 1 (oneV ds n) = 0) :
    Calls Tryz.prog 4 #[.agg #[.int .i64 11, .slice ea el ec, .slice pa pl pc, .slice la ll lc, .slice ha hl hc, .slice ta tl tc, .int .i64 x], .agg #[.slice da dl dc, .slice xa n xc], .slice ua un uc] w fun e w' => e = .returned (.bool true) ∧ Below w.heap.size w w' := by
  obtain ⟨haD, haL, hperm, hpr, htb, h2E⟩ := adj_11 hE
  have hn := nn_of haD
  have hdl := hda.1.1
  have h6 := (sizeE_ok (arrE_ok haD).1).1
  have hpl := hp.1.1
  have hpl2 := hperm.1
  obtain ⟨hm1, hm2⟩ := turn_maps (arrE_ok haD).1 hperm
  rw [hn] at hm1 hm2
  refine adj_good 11 x (.slice ea el ec) (.slice pa pl pc) (.slice la ll lc) (.slice ha hl hc) (.slice ta tl tc) da dl dc ds xa n xc xs ua un uc us (taken ds ps) (lookL xs (readsV 0 (taken ds ps) (taken (stepsV ds) ps))) (n) (fun ys => lookL ys (readsV 0 ds (taken (stepsV (taken ds ps)) (invL ps)))) w (by omega) hda.1 hxa hua haD haL (fun W b hW hA => ?_) (fun W b hW hA => ?_) (fun W hW => ?_) (fun ys hyl hyb => ?_)
  · refine (rdo_11R x ea el ec es pa pl pc ps la ll lc lo ha hl hc hi ta tl tc st b 0 1 da dl dc ds xa n xc xs W (he.below hW) (hp.below hW) (hlo.below hW) (hhi.below hW) (hst.below hW) hA.cells.1.1 (by rw [Nat.zero_add]; exact hA.cells.1.2) (hda.below hW) (hxa.below hW) hE).mono ?_
    rintro e W' ⟨⟨Z, nz, cz, G, gr, rfl, _⟩, hb⟩
    exact ⟨⟨_, _, _, _, _, _, rfl⟩, hb⟩
  · have h1 := do_11Q x ea el ec es pa pl pc ps la ll lc lo ha hl hc hi ta tl tc st ds n w he hp hlo hhi hst hE W b 0 1 da dl dc xa xc xs hW hA.cells.1.1 (by rw [Nat.zero_add]; exact hA.cells.1.2) (hda.below hW).q (hxa.below hW) hxc
    rw [hpr, hn] at h1
    exact h1
  · refine (back_11 ea el ec pa pl pc la ll lc ha hl hc ta tl tc x da dl dc ps W (hp.below hW).1 (by rw [← hpl, hpl2]; exact hperm) (by omega)).mono ?_
    rintro e W' ⟨⟨X, nx, cx, rfl, hl2⟩, hb⟩
    refine ⟨⟨_, rfl, 11, .slice none 0 0, .slice X nx cx, .slice none 0 0, .slice none 0 0, .slice none 0 0, 0, rfl, fun W2 b Z nz cz G ys hW2 hA hZ hys => ?_⟩, hb⟩
    have h1 := do_11Q 0 none 0 0 [] X nx cx (invL ps) none 0 0 [] none 0 0 [] none 0 0 [] (taken ds ps) n W' (lst_none _) hl2 (lst_none _) (lst_none _) (lst_none _) h2E W2 b 0 1 Z nz cz (some ⟨G, 0, none⟩) _ ys hW2 hA.cells.1.1 (by rw [Nat.zero_add]; exact hA.cells.1.2) hZ hys (Nat.le_refl _)
    rw [htb, hn] at h1
    exact h1
  · exact ⟨adj_perm (by rw [readsV_length, hpr, hn]) (by rw [readsV_length, hn]) hm1 hm2 hyb, by rw [lookL_length, readsV_length, hpr, hn], by rw [lookL_length, readsV_length, hn]⟩
theorem adj_kind12 (x : Int) (ea : Option Addr) (el ec : Nat) (es : List Int) (pa : Option Addr) (pl pc : Nat) (ps : List Int) (la : Option Addr) (ll lc : Nat) (lo : List Int) (ha : Option Addr) (hl hc : Nat) (hi : List Int) (ta : Option Addr) (tl tc : Nat) (st : List Int) (da : Option Addr) (dl dc : Nat) (ds : List Int) (xa : Option Addr) (n xc : Nat) (xs : List Int) (ua : Option Addr) (un uc : Nat) (us : List Int) (w : World)
    (he : Lst w ea el ec es) (hp : Lst w pa pl pc ps) (hlo : Lst w la ll lc lo) (hhi : Lst w ha hl hc hi) (hst : Lst w ta tl tc st) (hda : Lst w da dl dc ds) (hxa : Ints w xa n xs) (hxc : n ≤ xc) (hua : Ints w ua un us) (hE : doE 12 es ps lo hi st 1 (oneV ds n) = 0) :
    Calls Tryz.prog 4 #[.agg #[.int .i64 12, .slice ea el ec, .slice pa pl pc, .slice la ll lc, .slice ha hl hc, .slice ta tl tc, .int .i64 x], .agg #[.slice da dl dc, .slice xa n xc], .slice ua un uc] w fun e w' => e = .returned (.bool true) ∧ Below w.heap.size w w' := by
  obtain ⟨haD, haL, h2E⟩ := adj_12 hE
  have hn := nn_of haD
  have hdl := hda.1.1
  have h6 := (sizeE_ok (arrE_ok haD).1).1
  refine adj_good 12 x (.slice ea el ec) (.slice pa pl pc) (.slice la ll lc) (.slice ha hl hc) (.slice ta tl tc) da dl dc ds xa n xc xs ua un uc us (es) (xs) (n) (fun ys => ys) w (by omega) hda.1 hxa hua haD haL (fun W b hW hA => ?_) (fun W b hW hA => ?_) (fun W hW => ?_) (fun ys hyl hyb => ?_)
  · refine (rdo_12R x ea el ec es pa pl pc ps la ll lc lo ha hl hc hi ta tl tc st b 0 1 da dl dc ds xa n xc xs W (he.below hW) (hp.below hW) (hlo.below hW) (hhi.below hW) (hst.below hW) hA.cells.1.1 (by rw [Nat.zero_add]; exact hA.cells.1.2) (hda.below hW) (hxa.below hW) hE).mono ?_
    rintro e W' ⟨⟨Z, nz, cz, G, gr, rfl, _⟩, hb⟩
    exact ⟨⟨_, _, _, _, _, _, rfl⟩, hb⟩
  · have h1 := do_12Q x ea el ec es pa pl pc ps la ll lc lo ha hl hc hi ta tl tc st ds n w he hp hlo hhi hst hE W b 0 1 da dl dc xa xc xs hW hA.cells.1.1 (by rw [Nat.zero_add]; exact hA.cells.1.2) (hda.below hW).q (hxa.below hW) hxc
    exact h1
  · refine (back_12 ea el ec pa pl pc la ll lc ha hl hc ta tl tc x da dl dc W).mono ?_
    rintro e W' ⟨rfl, hb⟩
    refine ⟨⟨_, rfl, 12, .slice da dl dc, .slice none 0 0, .slice none 0 0, .slice none 0 0, .slice none 0 0, 0, rfl, fun W2 b Z nz cz G ys hW2 hA hZ hys => ?_⟩, hb⟩
    have h1 := do_12Q 0 da dl dc ds none 0 0 [] none 0 0 [] none 0 0 [] none 0 0 [] es n W' ((hda.below hW).below hb) (lst_none _) (lst_none _) (lst_none _) (lst_none _) h2E W2 b 0 1 Z nz cz (some ⟨G, 0, none⟩) _ ys hW2 hA.cells.1.1 (by rw [Nat.zero_add]; exact hA.cells.1.2) hZ hys (Nat.le_refl _)
    exact h1
  · exact ⟨rfl, hxa.1, hyl⟩
theorem adj_kind13 (x : Int) (ea : Option Addr) (el ec : Nat) (es : List Int) (pa : Option Addr) (pl pc : Nat) (ps : List Int) (la : Option Addr) (ll lc : Nat) (lo : List Int) (ha : Option Addr) (hl hc : Nat) (hi : List Int) (ta : Option Addr) (tl tc : Nat) (st : List Int) (da : Option Addr) (dl dc : Nat) (ds : List Int) (xa : Option Addr) (n xc : Nat) (xs : List Int) (ua : Option Addr) (un uc : Nat) (us : List Int) (w : World)
    (he : Lst w ea el ec es) (hp : Lst w pa pl pc ps) (hlo : Lst w la ll lc lo) (hhi : Lst w ha hl hc hi) (hst : Lst w ta tl tc st) (hda : Lst w da dl dc ds) (hxa : Ints w xa n xs) (hxc : n ≤ xc) (hua : Ints w ua un us) (hE : doE 13 es ps lo hi st 1 (oneV ds n) = 0) :
    Calls Tryz.prog 4 #[.agg #[.int .i64 13, .slice ea el ec, .slice pa pl pc, .slice la ll lc, .slice ha hl hc, .slice ta tl tc, .int .i64 x], .agg #[.slice da dl dc, .slice xa n xc], .slice ua un uc] w fun e w' => e = .returned (.bool true) ∧ Below w.heap.size w w' := by
  obtain ⟨haD, haL, ⟨l1, l2, l3⟩, hok, hpd, h2E, hbd⟩ := adj_13 hE
  have hn := nn_of haD
  have hdl := hda.1.1
  have h6 := (sizeE_ok (arrE_ok haD).1).1
  have q1 := hlo.1.1
  have q2 := hhi.1.1
  have q3 := hst.1.1
  refine adj_good 13 x (.slice ea el ec) (.slice pa pl pc) (.slice la ll lc) (.slice ha hl hc) (.slice ta tl tc) da dl dc ds xa n xc xs ua un uc us (cutD ds lo hi st) (lookL xs (readsV (cutAcc 0 (stepsV ds) lo ds.length) (cutD ds lo hi st) (cutS (stepsV ds) st))) ((prod (cutD ds lo hi st)).toNat) (fun ys => addS (List.replicate n 0) (readsV (cutAcc 0 (stepsV ds) lo ds.length) (cutD ds lo hi st) (cutS (stepsV ds) st)) ys (prod (cutD ds lo hi st)).toNat) w (by omega) hda.1 hxa hua haD haL (fun W b hW hA => ?_) (fun W b hW hA => ?_) (fun W hW => ?_) (fun ys hyl hyb => ?_)
  · refine (rdo_13R x ea el ec es pa pl pc ps la ll lc lo ha hl hc hi ta tl tc st b 0 1 da dl dc ds xa n xc xs W (he.below hW) (hp.below hW) (hlo.below hW) (hhi.below hW) (hst.below hW) hA.cells.1.1 (by rw [Nat.zero_add]; exact hA.cells.1.2) (hda.below hW) (hxa.below hW) hE).mono ?_
    rintro e W' ⟨⟨Z, nz, cz, G, gr, rfl, _⟩, hb⟩
    exact ⟨⟨_, _, _, _, _, _, rfl⟩, hb⟩
  · have h1 := do_13Q x ea el ec es pa pl pc ps la ll lc lo ha hl hc hi ta tl tc st ds n w he hp hlo hhi hst hE W b 0 1 da dl dc xa xc xs hW hA.cells.1.1 (by rw [Nat.zero_add]; exact hA.cells.1.2) (hda.below hW).q (hxa.below hW) hxc
    exact h1
  · refine (back_13 ea el ec pa pl pc la ll lc ha hl hc ta tl tc x da dl dc ds lo hi st W (hda.below hW).1 (hlo.below hW).1 (hhi.below hW).1 (hst.below hW).1 (by omega) (by omega) (by omega) (by omega) (fun j hj => hok j (by omega))).mono ?_
    rintro e W' ⟨⟨X, nx, cx, rfl, hl2⟩, hb⟩
    refine ⟨⟨_, rfl, 14, .slice none 0 0, .slice none 0 0, .slice la ll lc, .slice X nx cx, .slice ta tl tc, 0, rfl, fun W2 b Z nz cz G ys hW2 hA hZ hys => ?_⟩, hb⟩
    have h1 := do_14Q 0 none 0 0 [] none 0 0 [] la ll lc lo X nx cx (bkHi ds lo hi st) ta tl tc st (cutD ds lo hi st) (prod (cutD ds lo hi st)).toNat W' (lst_none _) (lst_none _) ((hlo.below hW).below hb) hl2 ((hst.below hW).below hb) h2E W2 b 0 1 Z nz cz (some ⟨G, 0, none⟩) _ ys hW2 hA.cells.1.1 (by rw [Nat.zero_add]; exact hA.cells.1.2) hZ hys (Nat.le_refl _)
    rw [hpd, hn] at h1
    exact h1
  · exact ⟨adj_core hbd (by rw [readsV_length]; exact Nat.le_refl _), by rw [lookL_length, readsV_length], by rw [addS_length]; simp⟩
theorem adj_kind14 (x : Int) (ea : Option Addr) (el ec : Nat) (es : List Int) (pa : Option Addr) (pl pc : Nat) (ps : List Int) (la : Option Addr) (ll lc : Nat) (lo : List Int) (ha : Option Addr) (hl hc : Nat) (hi : List Int) (ta : Option Addr) (tl tc : Nat) (st : List Int) (da : Option Addr) (dl dc : Nat) (ds : List Int) (xa : Option Addr) (n xc : Nat) (xs : List Int) (ua : Option Addr) (un uc : Nat) (us : List Int) (w : World)
    (he : Lst w ea el ec es) (hp : Lst w pa pl pc ps) (hlo : Lst w la ll lc lo) (hhi : Lst w ha hl hc hi) (hst : Lst w ta tl tc st) (hda : Lst w da dl dc ds) (hxa : Ints w xa n xs) (hxc : n ≤ xc) (hua : Ints w ua un us) (hE : doE 14 es ps lo hi st 1 (oneV ds n) = 0) :
    Calls Tryz.prog 4 #[.agg #[.int .i64 14, .slice ea el ec, .slice pa pl pc, .slice la ll lc, .slice ha hl hc, .slice ta tl tc, .int .i64 x], .agg #[.slice da dl dc, .slice xa n xc], .slice ua un uc] w fun e w' => e = .returned (.bool true) ∧ Below w.heap.size w w' := by
  obtain ⟨haD, haL, ⟨l1, l2, l3⟩, hok, hpd, h2E, hbd⟩ := adj_14 hE
  have hn := nn_of haD
  have hdl := hda.1.1
  have h6 := (sizeE_ok (arrE_ok haD).1).1
  have q1 := hlo.1.1
  have q2 := hhi.1.1
  have q3 := hst.1.1
  refine adj_good 14 x (.slice ea el ec) (.slice pa pl pc) (.slice la ll lc) (.slice ha hl hc) (.slice ta tl tc) da dl dc ds xa n xc xs ua un uc us (padD ds lo hi st) (addS (List.replicate (prod (padD ds lo hi st)).toNat 0) (readsV (cutAcc 0 (stepsV (padD ds lo hi st)) lo (padD ds lo hi st).length) ds (cutS (stepsV (padD ds lo hi st)) st)) xs n) ((prod (padD ds lo hi st)).toNat) (fun ys => lookL ys (readsV (cutAcc 0 (stepsV (padD ds lo hi st)) lo (padD ds lo hi st).length) ds (cutS (stepsV (padD ds lo hi st)) st))) w (by omega) hda.1 hxa hua haD haL (fun W b hW hA => ?_) (fun W b hW hA => ?_) (fun W hW => ?_) (fun ys hyl hyb => ?_)
  · refine (rdo_14R x ea el ec es pa pl pc ps la ll lc lo ha hl hc hi ta tl tc st b 0 1 da dl dc ds xa n xc xs W (he.below hW) (hp.below hW) (hlo.below hW) (hhi.below hW) (hst.below hW) hA.cells.1.1 (by rw [Nat.zero_add]; exact hA.cells.1.2) (hda.below hW) (hxa.below hW) hE).mono ?_
    rintro e W' ⟨⟨Z, nz, cz, G, gr, rfl, _⟩, hb⟩
    exact ⟨⟨_, _, _, _, _, _, rfl⟩, hb⟩
  · have h1 := do_14Q x ea el ec es pa pl pc ps la ll lc lo ha hl hc hi ta tl tc st ds n w he hp hlo hhi hst hE W b 0 1 da dl dc xa xc xs hW hA.cells.1.1 (by rw [Nat.zero_add]; exact hA.cells.1.2) (hda.below hW).q (hxa.below hW) hxc
    exact h1
  · refine (back_14 ea el ec pa pl pc la ll lc ha hl hc ta tl tc x da dl dc ds lo hi st W (hda.below hW).1 (hlo.below hW).1 (hhi.below hW).1 (hst.below hW).1 (by omega) (by omega) (by omega) (by omega) (fun j hj => hok j (by omega))).mono ?_
    rintro e W' ⟨⟨X, nx, cx, rfl, hl2⟩, hb⟩
    refine ⟨⟨_, rfl, 13, .slice none 0 0, .slice none 0 0, .slice la ll lc, .slice X nx cx, .slice ta tl tc, 0, rfl, fun W2 b Z nz cz G ys hW2 hA hZ hys => ?_⟩, hb⟩
    have h1 := do_13Q 0 none 0 0 [] none 0 0 [] la ll lc lo X nx cx (pdHi ds lo st) ta tl tc st (padD ds lo hi st) (prod (padD ds lo hi st)).toNat W' (lst_none _) (lst_none _) ((hlo.below hW).below hb) hl2 ((hst.below hW).below hb) h2E W2 b 0 1 Z nz cz (some ⟨G, 0, none⟩) _ ys hW2 hA.cells.1.1 (by rw [Nat.zero_add]; exact hA.cells.1.2) hZ hys (Nat.le_refl _)
    rw [hpd, hn] at h1
    exact h1
  · exact ⟨by rw [innS_comm, ← adj_core (xs := ys) (ys := xs) hbd (by rw [readsV_length]; omega), innS_comm], by rw [addS_length]; simp, by rw [lookL_length, readsV_length, hn]⟩
theorem adj_kind15 (x : Int) (ea : Option Addr) (el ec : Nat) (es : List Int) (pa : Option Addr) (pl pc : Nat) (ps : List Int) (la : Option Addr) (ll lc : Nat) (lo : List Int) (ha : Option Addr) (hl hc : Nat) (hi : List Int) (ta : Option Addr) (tl tc : Nat) (st : List Int) (da : Option Addr) (dl dc : Nat) (ds : List Int) (xa : Option Addr) (n xc : Nat) (xs : List Int) (ua : Option Addr) (un uc : Nat) (us : List Int) (w : World)
    (he : Lst w ea el ec es) (hp : Lst w pa pl pc ps) (hlo : Lst w la ll lc lo) (hhi : Lst w ha hl hc hi) (hst : Lst w ta tl tc st) (hda : Lst w da dl dc ds) (hxa : Ints w xa n xs) (hxc : n ≤ xc) (hua : Ints w ua un us) (hE : doE 15 es ps lo hi st 1 (oneV ds n) = 0) :
    Calls Tryz.prog 4 #[.agg #[.int .i64 15, .slice ea el ec, .slice pa pl pc, .slice la ll lc, .slice ha hl hc, .slice ta tl tc, .int .i64 x], .agg #[.slice da dl dc, .slice xa n xc], .slice ua un uc] w fun e w' => e = .returned (.bool true) ∧ Below w.heap.size w w' := by
  obtain ⟨haD, hrise⟩ := adj_15 hE
  have hn := nn_of haD
  have hdl := hda.1.1
  have h6 := (sizeE_ok (arrE_ok haD).1).1
  have haL := haD
  have h2E := hE
  have hm1 := flip_maps (arrE_ok haD).1 hrise
  rw [hn] at hm1
  refine adj_good 15 x (.slice ea el ec) (.slice pa pl pc) (.slice la ll lc) (.slice ha hl hc) (.slice ta tl tc) da dl dc ds xa n xc xs ua un uc us (ds) (lookL xs (readsV (flipAcc 0 ds (stepsV ds) ps ps.length) ds (flipL (stepsV ds) ps))) (n) (fun ys => lookL ys (readsV (flipAcc 0 ds (stepsV ds) ps ps.length) ds (flipL (stepsV ds) ps))) w (by omega) hda.1 hxa hua haD haL (fun W b hW hA => ?_) (fun W b hW hA => ?_) (fun W hW => ?_) (fun ys hyl hyb => ?_)
  · refine (rdo_15R x ea el ec es pa pl pc ps la ll lc lo ha hl hc hi ta tl tc st b 0 1 da dl dc ds xa n xc xs W (he.below hW) (hp.below hW) (hlo.below hW) (hhi.below hW) (hst.below hW) hA.cells.1.1 (by rw [Nat.zero_add]; exact hA.cells.1.2) (hda.below hW) (hxa.below hW) hE).mono ?_
    rintro e W' ⟨⟨Z, nz, cz, G, gr, rfl, _⟩, hb⟩
    exact ⟨⟨_, _, _, _, _, _, rfl⟩, hb⟩
  · have h1 := do_15Q x ea el ec es pa pl pc ps la ll lc lo ha hl hc hi ta tl tc st ds n w he hp hlo hhi hst hE W b 0 1 da dl dc xa xc xs hW hA.cells.1.1 (by rw [Nat.zero_add]; exact hA.cells.1.2) (hda.below hW).q (hxa.below hW) hxc
    rw [hn] at h1
    exact h1
  · refine (back_15 ea el ec pa pl pc la ll lc ha hl hc ta tl tc x da dl dc W).mono ?_
    rintro e W' ⟨rfl, hb⟩
    refine ⟨⟨_, rfl, 15, .slice ea el ec, .slice pa pl pc, .slice la ll lc, .slice ha hl hc, .slice ta tl tc, x, rfl, fun W2 b Z nz cz G ys hW2 hA hZ hys => ?_⟩, hb⟩
    have h1 := do_15Q x ea el ec es pa pl pc ps la ll lc lo ha hl hc hi ta tl tc st ds n W' ((he.below hW).below hb) ((hp.below hW).below hb) ((hlo.below hW).below hb) ((hhi.below hW).below hb) ((hst.below hW).below hb) h2E W2 b 0 1 Z nz cz (some ⟨G, 0, none⟩) _ ys hW2 hA.cells.1.1 (by rw [Nat.zero_add]; exact hA.cells.1.2) hZ hys (Nat.le_refl _)
    rw [hn] at h1
    exact h1
  · exact ⟨adj_perm (by rw [readsV_length, hn]) (by rw [readsV_length, hn]) hm1 hm1 hyb, by rw [lookL_length, readsV_length, hn], by rw [lookL_length, readsV_length, hn]⟩
end Go.Proofs.YtoagnhppjlcpkaaGreat.V

/-
  ArrayAdjoint: the law.
-/
namespace Go.Proofs.YtoagnhppjlcpkaaGreat.V
set_option maxRecDepth 20000
open Go.RowKit

set_option maxRecDepth 100000 in
set_option maxHeartbeats 2000000 in
theorem adj_other (k x : Int) (ea : Option Addr) (el ec : Nat) (pa : Option Addr) (pl pc : Nat) (la : Option Addr) (ll lc : Nat) (ha : Option Addr) (hl hc : Nat) (ta : Option Addr) (tl tc : Nat) (da : Option Addr) (dl dc : Nat) (xa : Option Addr) (n xc : Nat) (ua : Option Addr) (un uc : Nat) (w : World) (hk : ¬ (9 ≤ k ∧ k ≤ 15)) :
    Calls Tryz.prog 4 #[.agg #[.int .i64 k, .slice ea el ec, .slice pa pl pc, .slice la ll lc, .slice ha hl hc, .slice ta tl tc, .int .i64 x], .agg #[.slice da dl dc, .slice xa n xc], .slice ua un uc] w fun e w' => e = .returned (.bool true) ∧ Below w.heap.size w w' := by
  have HB1 := (Below.refl w.heap.size w).alloc (Nat.le_refl _) (.cells #[.int .i64 k, .slice ea el ec, .slice pa pl pc, .slice la ll lc, .slice ha hl hc, .slice ta tl tc, .int .i64 x] 24)
  have HB2 := hide (HB1.alloc HB1.size (.cells #[.slice da dl dc, .slice xa n xc] 28))
  have HOP := hide ((OpAt.new w k (.slice ea el ec) (.slice pa pl pc) (.slice la ll lc) (.slice ha hl hc) (.slice ta tl tc) x).alloc (.cells #[.slice da dl dc, .slice xa n xc] 28))
  have har := ArrAt.new (w.alloc (.cells #[.int .i64 k, .slice ea el ec, .slice pa pl pc, .slice la ll lc, .slice ha hl hc, .slice ta tl tc, .int .i64 x] 24)) (.slice da dl dc) (.slice xa n xc)
  simp only [World.size_alloc] at har
  have HAR := hide har
  obtain ⟨W1, hW1⟩ : ∃ W1, W1 = (w.alloc (.cells #[.int .i64 k, .slice ea el ec, .slice pa pl pc, .slice la ll lc, .slice ha hl hc, .slice ta tl tc, .int .i64 x] 24)).alloc (.cells #[.slice da dl dc, .slice xa n xc] 28) := ⟨_, rfl⟩
  rw [← hW1] at HB2 HOP HAR
  clear har HB1
  have h9 : (k == 9) = false := by simp; omega
  have h10 : (k == 10) = false := by simp; omega
  have h11 : (k == 11) = false := by simp; omega
  have h12 : (k == 12) = false := by simp; omega
  have h13 : (k == 13) = false := by simp; omega
  have h14 : (k == 14) = false := by simp; omega
  have h15 : (k == 15) = false := by simp; omega
  clear hk
  go_enter Tryz.func4, Tryz.ntmps4
  go_wp2_with (go_at_call 10; rw [← hW1]; refine (alive2_any _).mono ?_; rintro e w1 ⟨rfl, hb⟩; have HB3 := hide (Below.on HB2.out hb); have HO3 := hide (HOP.out.below hb); have HA3 := hide (HAR.out.below hb); obtain ⟨o0, o1, o2, o3, o4, o5, o6⟩ := HO3.out.cells; obtain ⟨⟨a0, a1⟩, _⟩ := HA3.out.cells; clear hb)
  go_ret
  exact ⟨rfl, HB3.out⟩

set_option maxRecDepth 100000 in
set_option maxHeartbeats 2000000 in
theorem adj_err (k x : Int) (ea : Option Addr) (el ec : Nat) (es : List Int) (pa : Option Addr) (pl pc : Nat) (ps : List Int) (la : Option Addr) (ll lc : Nat) (lo : List Int) (ha : Option Addr) (hl hc : Nat) (hi : List Int) (ta : Option Addr) (tl tc : Nat) (st : List Int) (da : Option Addr) (dl dc : Nat) (ds : List Int) (xa : Option Addr) (n xc : Nat) (ua : Option Addr) (un uc : Nat) (w : World)
    (he : Lst w ea el ec es) (hp : Lst w pa pl pc ps) (hlo : Lst w la ll lc lo) (hhi : Lst w ha hl hc hi) (hst : Lst w ta tl tc st) (hda : Lst w da dl dc ds) (hk : 9 ≤ k ∧ k ≤ 15) (hE : doE k es ps lo hi st 1 (oneV ds n) ≠ 0) :
    Calls Tryz.prog 4 #[.agg #[.int .i64 k, .slice ea el ec, .slice pa pl pc, .slice la ll lc, .slice ha hl hc, .slice ta tl tc, .int .i64 x], .agg #[.slice da dl dc, .slice xa n xc], .slice ua un uc] w fun e w' => e = .returned (.bool true) ∧ Below w.heap.size w w' := by
  have HB1 := (Below.refl w.heap.size w).alloc (Nat.le_refl _) (.cells #[.int .i64 k, .slice ea el ec, .slice pa pl pc, .slice la ll lc, .slice ha hl hc, .slice ta tl tc, .int .i64 x] 24)
  have HB2 := hide (HB1.alloc HB1.size (.cells #[.slice da dl dc, .slice xa n xc] 28))
  have HOP := hide ((OpAt.new w k (.slice ea el ec) (.slice pa pl pc) (.slice la ll lc) (.slice ha hl hc) (.slice ta tl tc) x).alloc (.cells #[.slice da dl dc, .slice xa n xc] 28))
  have har := ArrAt.new (w.alloc (.cells #[.int .i64 k, .slice ea el ec, .slice pa pl pc, .slice la ll lc, .slice ha hl hc, .slice ta tl tc, .int .i64 x] 24)) (.slice da dl dc) (.slice xa n xc)
  simp only [World.size_alloc] at har
  have HAR := hide har
  obtain ⟨W1, hW1⟩ : ∃ W1, W1 = (w.alloc (.cells #[.int .i64 k, .slice ea el ec, .slice pa pl pc, .slice la ll lc, .slice ha hl hc, .slice ta tl tc, .int .i64 x] 24)).alloc (.cells #[.slice da dl dc, .slice xa n xc] 28) := ⟨_, rfl⟩
  rw [← hW1] at HB2 HOP HAR
  clear har HB1
  have HE := hide he
  have HP := hide hp
  have HLO := hide hlo
  have HHI := hide hhi
  have HST := hide hst
  have HDA := hide hda
  have HK := hide hk
  have HEE : Hid (doE k es ps lo hi st 1 (fun _ => ⟨da, dl, dc, ds, xa, n, xc⟩) ≠ 0) := by
    rw [Hid, doE_congr (v := fun _ => ⟨da, dl, dc, ds, xa, n, xc⟩) (v' := oneV ds n) (fun j _ => ⟨rfl, rfl⟩)]; exact hE
  obtain ⟨E, hEe⟩ : ∃ E, E = doE k es ps lo hi st 1 (fun _ => ⟨da, dl, dc, ds, xa, n, xc⟩) := ⟨_, rfl⟩
  have hEb : (E != 0) = true := by have := HEE.out; rw [← hEe] at this; simp [this]
  have HEQ := hide hEe
  clear he hp hlo hhi hst hda hk hE hEe
  go_enter Tryz.func4, Tryz.ntmps4
  go_upto_block 0 with (go_at_call 10; rw [← hW1]; refine (alive2_any _).mono ?_; rintro e w1 ⟨rfl, hb⟩; have HB3 := hide (Below.on HB2.out hb); have HO3 := hide (HOP.out.below hb); have HA3 := hide (HAR.out.below hb); obtain ⟨o0, o1, o2, o3, o4, o5, o6⟩ := HO3.out.cells; obtain ⟨⟨a0, a1⟩, _⟩ := HA3.out.cells; clear hb)
  go_cut [] (fun wc => wc = w1)
  case first =>
    have hk := HK.out
    have hk' : k = 9 ∨ k = 10 ∨ k = 11 ∨ k = 12 ∨ k = 13 ∨ k = 14 ∨ k = 15 := by omega
    clear hk
    rcases hk' with rfl | rfl | rfl | rfl | rfl | rfl | rfl
    all_goals go_wp2
    all_goals go_meet
    all_goals rfl
  case rest =>
  subst hcut
  go_wp2_with (go_at_call 8; have hb4 := HB3.out.alloc HB3.out.size (.cells #[.slice da dl dc, .slice xa n xc] 28); have hA4 := ArrAt.new wc (.slice da dl dc) (.slice xa n xc); refine (rDo_badR k HK.out x ea el ec es pa pl pc ps la ll lc lo ha hl hc hi ta tl tc st (some ⟨wc.heap.size, 0, none⟩) 1 1 (fun _ => ⟨da, dl, dc, ds, xa, n, xc⟩) _ (HE.out.below hb4) (HP.out.below hb4) (HLO.out.below hb4) (HHI.out.below hb4) (HST.out.below hb4) (.inr ⟨wc.heap.size, 0, rfl, fun j hj => by obtain rfl : j = 0 := by { omega }; exact ⟨hA4.cells.1.1, hA4.cells.1.2, HDA.out.below hb4⟩⟩) (by omega) HEE.out).mono ?_; rintro e w5 ⟨rfl, hb⟩; rw [← HEQ.out]; have HB5 := hide (Below.on hb4 hb); clear hb4 hA4 hb)
  go_ret
  exact ⟨rfl, HB5.out.alloc HB5.out.size _⟩

theorem arrayAdjoint_walk (k x : Int) (ea : Option Addr) (el ec : Nat) (es : List Int) (pa : Option Addr) (pl pc : Nat) (ps : List Int) (la : Option Addr) (ll lc : Nat) (lo : List Int) (ha : Option Addr) (hl hc : Nat) (hi : List Int) (ta : Option Addr) (tl tc : Nat) (st : List Int) (da : Option Addr) (dl dc : Nat) (ds : List Int) (xa : Option Addr) (n xc : Nat) (xs : List Int) (ua : Option Addr) (un uc : Nat) (us : List Int) (w : World)
    (he : Lst w ea el ec es) (hp : Lst w pa pl pc ps) (hlo : Lst w la ll lc lo) (hhi : Lst w ha hl hc hi) (hst : Lst w ta tl tc st) (hda : Lst w da dl dc ds) (hxa : Ints w xa n xs) (hxc : n ≤ xc) (hua : Ints w ua un us) :
    Calls Tryz.prog 4 #[.agg #[.int .i64 k, .slice ea el ec, .slice pa pl pc, .slice la ll lc, .slice ha hl hc, .slice ta tl tc, .int .i64 x], .agg #[.slice da dl dc, .slice xa n xc], .slice ua un uc] w fun e w' => e = .returned (.bool true) ∧ Below w.heap.size w w' := by
  by_cases hk : 9 ≤ k ∧ k ≤ 15
  · by_cases hE : doE k es ps lo hi st 1 (oneV ds n) = 0
    · have hk' : k = 9 ∨ k = 10 ∨ k = 11 ∨ k = 12 ∨ k = 13 ∨ k = 14 ∨ k = 15 := by omega
      rcases hk' with rfl | rfl | rfl | rfl | rfl | rfl | rfl
      · exact adj_kind9 x ea el ec es pa pl pc ps la ll lc lo ha hl hc hi ta tl tc st da dl dc ds xa n xc xs ua un uc us w he hp hlo hhi hst hda hxa hxc hua hE
      · exact adj_kind10 x ea el ec es pa pl pc ps la ll lc lo ha hl hc hi ta tl tc st da dl dc ds xa n xc xs ua un uc us w he hp hlo hhi hst hda hxa hxc hua hE
      · exact adj_kind11 x ea el ec es pa pl pc ps la ll lc lo ha hl hc hi ta tl tc st da dl dc ds xa n xc xs ua un uc us w he hp hlo hhi hst hda hxa hxc hua hE
      · exact adj_kind12 x ea el ec es pa pl pc ps la ll lc lo ha hl hc hi ta tl tc st da dl dc ds xa n xc xs ua un uc us w he hp hlo hhi hst hda hxa hxc hua hE
      · exact adj_kind13 x ea el ec es pa pl pc ps la ll lc lo ha hl hc hi ta tl tc st da dl dc ds xa n xc xs ua un uc us w he hp hlo hhi hst hda hxa hxc hua hE
      · exact adj_kind14 x ea el ec es pa pl pc ps la ll lc lo ha hl hc hi ta tl tc st da dl dc ds xa n xc xs ua un uc us w he hp hlo hhi hst hda hxa hxc hua hE
      · exact adj_kind15 x ea el ec es pa pl pc ps la ll lc lo ha hl hc hi ta tl tc st da dl dc ds xa n xc xs ua un uc us w he hp hlo hhi hst hda hxa hxc hua hE
    · exact adj_err k x ea el ec es pa pl pc ps la ll lc lo ha hl hc hi ta tl tc st da dl dc ds xa n xc ua un uc w he hp hlo hhi hst hda hk hE
  · exact adj_other k x ea el ec pa pl pc la ll lc ha hl hc ta tl tc da dl dc xa n xc ua un uc w hk
end Go.Proofs.YtoagnhppjlcpkaaGreat.V
