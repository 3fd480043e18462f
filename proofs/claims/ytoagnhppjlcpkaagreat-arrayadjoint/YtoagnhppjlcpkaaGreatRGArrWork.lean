/-
  Contracts: the closure of array.entry, array.work, of Add, Sub and Mul.
-/
import Derived.Test.YtoagnhppjlcpkaaGreatRHArrEntry
import Derived.Test.YtoagnhppjlcpkaaGreatRGArrOthers
import Derived.Test.YtoagnhppjlcpkaaGreatRGArrSeen
import Derived.Test.YtoagnhppjlcpkaaGreatRGSteps
import Derived.Test.YtoagnhppjlcpkaaGreatRGEven
namespace Go.Proofs.YtoagnhppjlcpkaaGreat.V
set_option maxRecDepth 20000
open Go.RowKit

set_option maxRecDepth 100000 in
set_option maxHeartbeats 1000000 in
theorem ent3_any (k : Int) (hk : k = 3 ∨ k = 4 ∨ k = 5) (i B1 B2 B3 : Nat) (xa : Option Addr) (n xc : Nat) (xs : List Int) (ya : Option Addr) (m yc : Nat) (ys : List Int) (w : World)
    (h1 : Boxed w B1 98 (.func (Fn.func (twoF k)) #[] #[])) (h2 : Boxed w B2 26 (.slice xa n xc)) (h3 : Boxed w B3 26 (.slice ya m yc)) (hx : Ints w xa n xs) (hy : Ints w ya m ys) (hi : i < n) (hj : i < m) :
    Calls Tryz.prog 76 #[.int .i64 i, .pointer (some ⟨B1, 0, none⟩), .pointer (some ⟨B2, 0, none⟩), .pointer (some ⟨B3, 0, none⟩)] w fun e w' => e = .returned (.int .i64 (twoV k (xs[i]?.getD 0) (ys[i]?.getD 0))) ∧ w'.heap = w.heap ∧ Below 0 w w' := by
  have hm1 := hx.2.1
  have hm2 := hy.2.1
  obtain ⟨b, off, rfl, hb, hc⟩ := hx.at (by omega)
  obtain ⟨b', off', rfl, hb', hc'⟩ := hy.at (by omega)
  have cx := hc i hi
  have cy := hc' i hj
  obtain ⟨X, hX⟩ : ∃ X, X = xs[i]?.getD 0 := ⟨_, rfl⟩
  obtain ⟨Y, hY⟩ : ∃ Y, Y = ys[i]?.getD 0 := ⟨_, rfl⟩
  rw [← hX] at cx ⊢
  rw [← hY] at cy ⊢
  have c1 := h1.cell
  have c2 := h2.cell
  have c3 := h3.cell
  have i1 : (0 : Int) ≤ (i : Int) := Int.natCast_nonneg _
  have i2 : (i : Int) < (n : Int) := by omega
  have i3 : (i : Int) < (m : Int) := by omega
  have HCF : Hid (∀ (args : Array Value) (w : World), (callFunc (twoF k) args).run Tryz.prog w = .ok (.enter (twoF k) args) w) := by
    rcases hk with rfl | rfl | rfl
    · exact enters Tryz.func98 (by kernel_rfl) (by kernel_rfl)
    · exact enters Tryz.func99 (by kernel_rfl) (by kernel_rfl)
    · exact enters Tryz.func100 (by kernel_rfl) (by kernel_rfl)
  have hcf := HCF.out
  have HK := hide hk
  clear hx hy hc hc' hX hY h1 h2 h3 hk hi hj
  go_enter Tryz.func76, Tryz.ntmps76
  go_wp2_with fail
  go_region_held3 (fun w' => w'.cell? ⟨B1, 0, none⟩ = some (.func (Fn.func (twoF k)) #[] #[]) ∧ w'.cell? ⟨B2, 0, none⟩ = some (.slice (some ⟨b, off, none⟩) n xc) ∧ w'.cell? ⟨B3, 0, none⟩ = some (.slice (some ⟨b', off', none⟩) m yc) ∧ w'.cell? ⟨b, off + i, none⟩ = some (.int .i64 X) ∧ w'.cell? ⟨b', off' + i, none⟩ = some (.int .i64 Y)) (refine ⟨?_, ?_, ?_, ?_, ?_⟩ <;> with_reducible (repeat (first | assumption | apply drew_cell))) ((refine (two_any k X Y HK.out _).mono ?_; rintro e w' ⟨rfl, hw'⟩; obtain rfl := hw'.symm))
  all_goals go_wp2
  all_goals go_ret
  all_goals exact ⟨rfl, rfl, (Below.refl _ _).drew⟩

/-- What the operation makes of two rows. -/
def twoL (k : Int) (xs ys : List Int) (n : Nat) : List Int := (List.range n).map fun i => twoV k (xs[i]?.getD 0) (ys[i]?.getD 0)
theorem twoL_length (k : Int) (xs ys : List Int) (n : Nat) : (twoL k xs ys n).length = n := by simp [twoL]
theorem twoL_at (k : Int) (xs ys : List Int) (n i : Nat) (h : i < n) : (twoL k xs ys n)[i]?.getD 0 = twoV k (xs[i]?.getD 0) (ys[i]?.getD 0) := by simp [twoL, h]
/-- All blocks that stood there but one are as they were. -/
def Save (g : Nat) (w w' : World) : Prop := (∀ c, c < w.heap.size → c ≠ g → w'.heap[c]? = w.heap[c]?) ∧ Below 0 w w'
theorem Save.of_below {g : Nat} {w w1 w2 : World} (h : Below w.heap.size w w1) (h2 : But g w1 w2) (h0 : Below 0 w1 w2) : Save g w w2 :=
  ⟨fun c hc hne => (h2.1 c hne).trans (h.block c hc), (h.mono (Nat.zero_le _)).trans h0⟩
theorem Save.below {g B : Nat} {w w1 w2 : World} (h : Below B w w1) (h2 : Save g w1 w2) (hg : B ≤ g) (hB : B ≤ w.heap.size) : Below B w w2 :=
  ⟨h2.2.os.trans h.os, h2.2.tape.trans h.tape, h2.2.output.trans h.output, Nat.le_trans h.size h2.2.size, fun c hc => (h2.1 c (by have := h.size; omega) (by omega)).trans (h.block c hc)⟩
/-- The row does not lie in block g. -/
def OffG (g : Nat) (a : Option Addr) : Prop := ∀ b o, a = some ⟨b, o, none⟩ → b ≠ g

set_option maxRecDepth 100000 in
set_option maxHeartbeats 4000000 in
theorem work_two (k x : Int) (hk : k = 3 ∨ k = 4 ∨ k = 5) (vd va vl vh vs od : Value) (g n : Nat) (b off cap : Nat) (xa : Option Addr) (xc : Nat) (xs : List Int) (ya : Option Addr) (yc : Nat) (ys zs : List Int) (w : World)
    (hx : w.cell? ⟨b, off + 1, none⟩ = some (.slice xa n xc)) (hy : w.cell? ⟨b, off + 3, none⟩ = some (.slice ya n yc)) (ix : Ints w xa n xs) (iy : Ints w ya n ys) (ox : OffG g xa) (oy : OffG g ya) (hrow : w.rowIs g 2 n (onWay (twoL k xs ys n) zs 0)) :
    Calls Tryz.prog 19 #[.agg #[od, .slice (some ⟨g, 0, none⟩) n n], .agg #[.int .i64 k, vd, va, vl, vh, vs, .int .i64 x], .slice (some ⟨b, off, none⟩) 2 cap] w fun e w' => e = .returned (.tuple #[]) ∧ w'.rowIs g 2 n (onWay (twoL k xs ys n) zs n) ∧ Save g w w' := by
  have hn := ix.2.1
  have hgl : g < w.heap.size := hrow.lt
  have HIX := hide ix
  have HIY := hide iy
  have HR := hide hrow
  have HB1 := hide ((Below.refl w.heap.size w).alloc (Nat.le_refl _) (.cells #[od, .slice (some ⟨g, 0, none⟩) n n] 28))
  have HB2 := hide (HB1.out.alloc HB1.out.size (.cells #[.int .i64 k, vd, va, vl, vh, vs, .int .i64 x] 24))
  have HAR := hide ((ArrAt.new w od (.slice (some ⟨g, 0, none⟩) n n)).alloc (.cells #[.int .i64 k, vd, va, vl, vh, vs, .int .i64 x] 24))
  have hop := OpAt.new (w.alloc (.cells #[od, .slice (some ⟨g, 0, none⟩) n n] 28)) k vd va vl vh vs x
  simp only [World.size_alloc] at hop
  have HOP := hide hop
  obtain ⟨⟨r0, r1⟩, _⟩ := HAR.out.cells
  obtain ⟨o0, o1, o2, o3, o4, o5, o6⟩ := HOP.out.cells
  have HX2 := hide (alloc_cell (o := .cells #[.int .i64 k, vd, va, vl, vh, vs, .int .i64 x] 24) (alloc_cell (o := .cells #[od, .slice (some ⟨g, 0, none⟩) n n] 28) hx))
  have HY2 := hide (alloc_cell (o := .cells #[.int .i64 k, vd, va, vl, vh, vs, .int .i64 x] 24) (alloc_cell (o := .cells #[od, .slice (some ⟨g, 0, none⟩) n n] 28) hy))
  obtain ⟨q12, q10, q14, q16, q17, q18, q19⟩ : (k == 12) = false ∧ (k == 10) = false ∧ (k == 14) = false ∧ (k == 16) = false ∧ (k == 17) = false ∧ (k == 18) = false ∧ (k == 19) = false := by
    rcases hk with rfl | rfl | rfl <;> decide
  have HK := hide hk
  have hcf : ∀ (args : Array Value) (w : World), (callFunc 76 args).run Tryz.prog w = .ok (.enter 76 args) w := enters Tryz.func76 (by kernel_rfl) (by kernel_rfl)
  have HCF := hide hcf
  have HOX := hide ox
  have HOY := hide oy
  clear hx hy ix iy hrow hop hk hcf ox oy
  go_enter Tryz.func19, Tryz.ntmps19
  go_wp2_with fail
  go_region_held3 (fun w' => w'.cell? ⟨w.heap.size, 1, none⟩ = some (.slice (some ⟨g, 0, none⟩) n n) ∧ w'.cell? ⟨w.heap.size + 1, 0, none⟩ = some (.int .i64 k) ∧ w'.cell? ⟨w.heap.size + 1, 1, none⟩ = some vd ∧ w'.cell? ⟨w.heap.size + 1, 2, none⟩ = some va ∧ w'.cell? ⟨w.heap.size + 1, 3, none⟩ = some vl ∧ w'.cell? ⟨w.heap.size + 1, 4, none⟩ = some vh ∧ w'.cell? ⟨w.heap.size + 1, 5, none⟩ = some vs ∧ w'.cell? ⟨w.heap.size + 1, 6, none⟩ = some (.int .i64 x)) (refine ⟨?_, ?_, ?_, ?_, ?_, ?_, ?_, ?_⟩ <;> with_reducible (repeat (first | assumption | apply drew_cell))) ((first
    | (go_at_call 36; refine (entry_two k x HK.out vd va vl vh vs b off cap xa n xc ya n yc _ (drew_cell HX2.out) (drew_cell HY2.out)).mono ?_; rintro e w3 ⟨⟨B1, B2, B3, rfl, hbx, hsz⟩, hb⟩; have HBX := hide hbx; have HSZ : Hid (w.heap.size ≤ B1 ∧ w.heap.size ≤ B2 ∧ w.heap.size ≤ B3) := ⟨Nat.le_trans HB2.out.size hsz.1, Nat.le_trans HB2.out.size hsz.2.1, Nat.le_trans HB2.out.size hsz.2.2⟩; have HB3 := hide (Below.on HB2.out.drew hb); have HAR3 := hide ((HAR.out.below ((Below.refl _ _).drew)).below hb); have HOP3 := hide ((HOP.out.below ((Below.refl _ _).drew)).below hb); obtain ⟨⟨r30, r31⟩, _⟩ := HAR3.out.cells; obtain ⟨o30, o31, o32, o33, o34, o35, o36⟩ := HOP3.out.cells; clear hbx hsz hb)
    | (go_at_call 35; refine (fill_any 76 #[.pointer (some ⟨B1, 0, none⟩), .pointer (some ⟨B2, 0, none⟩), .pointer (some ⟨B3, 0, none⟩)] g n (twoL k xs ys n) zs (twoL_length _ _ _ _) _ hn HCF.out (HR.out.of_block (HB3.out.block g hgl)) (fun i W hi hW => by {
        rw [twoL_at _ _ _ _ _ hi]
        have hs := HSZ.out
        exact ent3_any k HK.out i B1 B2 B3 xa n xc xs ya n yc ys W ((hW.1 B1 (by omega)).trans HBX.out.1) ((hW.1 B2 (by omega)).trans HBX.out.2.1) ((hW.1 B3 (by omega)).trans HBX.out.2.2) (hW.ints (HIX.out.below HB3.out) HOX.out) (hW.ints (HIY.out.below HB3.out) HOY.out) hi hi })).mono ?_; rintro e w4 ⟨rfl, hr4, hbut, h04⟩; have H04 := hide h04; have HR4 := hide hr4; have HBU := hide hbut; have HAR4 : Hid (ArrAt w4 w.heap.size _ _) := (HBU.out.1 w.heap.size (by omega)).trans HAR3.out; have HOP4 : Hid (OpAt w4 (w.heap.size + 1) _ _ _ _ _ _ _) := (HBU.out.1 (w.heap.size + 1) (by omega)).trans HOP3.out; obtain ⟨⟨r40, r41⟩, _⟩ := HAR4.out.cells; obtain ⟨o40, o41, o42, o43, o44, o45, o46⟩ := HOP4.out.cells; clear hr4 hbut h04)))
  all_goals go_wp2
  all_goals exact bodyPost_end (v := .tuple #[]) (by simp [results, Tryz.results19, go_sem]) rfl ⟨rfl, HR4.out, Save.of_below HB3.out HBU.out H04.out⟩
end Go.Proofs.YtoagnhppjlcpkaaGreat.V

/-
  Contracts: array.Dims, of Add, Sub and Mul, of two lists of dimensions that are the same.
-/
namespace Go.Proofs.YtoagnhppjlcpkaaGreat.V
set_option maxRecDepth 20000
open Go.RowKit

set_option maxRecDepth 100000 in
set_option maxHeartbeats 1000000 in
theorem sameDims2 (R : Nat) (da : Option Addr) (dl dc : Nat) (ea : Option Addr) (el ec : Nat) (ds : List Int) (w : World)
    (q0 : w.cell? ⟨R, 0, none⟩ = some (.slice da dl dc)) (q1 : w.cell? ⟨R, 1, none⟩ = some (.slice ea el ec)) (hd : Ints w da dl ds) (he : Ints w ea el ds) (hz : sizeE ds = 0) :
    Calls Tryz.prog 62 #[.slice (some ⟨R, 0, none⟩) 2 2] w fun e w' => (∃ g, e = .returned (.tuple #[.slice (some ⟨g, 0, none⟩) dl dl, .int .i64 0]) ∧ RowI w' g dl ds ∧ w.heap.size ≤ g) ∧ Below w.heap.size w w' := by
  have h6 : dl ≤ 6 := by have := (sizeE_ok hz).1; have := hd.1; omega
  have HD := hide hd
  have HE := hide he
  have HQ0 := hide q0
  have HQ1 := hide q1
  have hR : R < w.heap.size := lt_of_cell q0
  clear hd he q0 q1 hz
  go_enter Tryz.func62, Tryz.ntmps62
  go_wp2
  go_loopw [8] (fun i wr => ∃ k : Nat, k ≤ 2 ∧ i = .int .i64 k ∧ Below w.heap.size w wr) (fun i _ => 2 - (intOf i).toNat)
  case atStart => exact ⟨0, by omega, rfl, Below.refl _ _⟩
  case round =>
    obtain ⟨k, hk, rfl, hB⟩ := hrel
    have HB := hide hB
    clear hB
    have k0 : wr.cell? ⟨R, 0, none⟩ = some (.slice da dl dc) := (HB.out.cell (p := ⟨R, 0, none⟩) hR).trans HQ0.out
    have k1 : wr.cell? ⟨R, 1, none⟩ = some (.slice ea el ec) := (HB.out.cell (p := ⟨R, 1, none⟩) hR).trans HQ1.out
    have hcases : k = 0 ∨ k = 1 ∨ k = 2 := by omega
    rcases hcases with rfl | rfl | rfl
    · go_wp2_with (go_at_call 25; refine (equal_any _ _ _ ds _ _ _ ds _ (HD.out.below HB.out) (HD.out.below HB.out)).mono ?_; rintro e w1 ⟨rfl, n1, hw1⟩; rw [decide_eq_true (rfl : ds = ds)]; have HB1 := hide (Below.on HB.out (hw1 ▸ below_drewN _ n1)); clear hw1)
      go_roundw
      case rel => exact ⟨1, by omega, by go_num, HB1.out⟩
      case measure => simp [intOf]
    · go_wp2_with (go_at_call 25; refine (equal_any _ _ _ ds _ _ _ ds _ (HE.out.below HB.out) (HD.out.below HB.out)).mono ?_; rintro e w1 ⟨rfl, n1, hw1⟩; rw [decide_eq_true (rfl : ds = ds)]; have HB1 := hide (Below.on HB.out (hw1 ▸ below_drewN _ n1)); clear hw1)
      go_roundw
      case rel => exact ⟨2, by omega, by go_num, HB1.out⟩
      case measure => simp [intOf]
    · go_wp2_with (go_at_call 53; refine (afresh_any _ _ _ ds _ (HD.out.below HB.out) (by omega)).mono ?_; rintro e w1 ⟨⟨g, rfl, hr, hg⟩, hb⟩; have HR := hide hr; have HB1 := hide (Below.on HB.out hb); have hgg : w.heap.size ≤ g := Nat.le_trans HB.out.size hg; clear hr hb hg)
      go_ret2
      exact ⟨⟨g, rfl, HR.out, hgg⟩, HB1.out⟩

set_option maxRecDepth 100000 in
set_option maxHeartbeats 2000000 in
theorem shape2 (k : Int) (hk : k = 3 ∨ k = 4 ∨ k = 5) (R : Nat) (da : Option Addr) (dl dc : Nat) (ea : Option Addr) (el ec : Nat) (ds : List Int) (w : World)
    (q0 : w.cell? ⟨R, 0, none⟩ = some (.slice da dl dc)) (q1 : w.cell? ⟨R, 1, none⟩ = some (.slice ea el ec)) (hd : Ints w da dl ds) (he : Ints w ea el ds) (hz : sizeE ds = 0) :
    Calls Tryz.prog 28 #[.agg #[.int .i64 k, .slice none 0 0, .slice none 0 0, .slice none 0 0, .slice none 0 0, .slice none 0 0, .int .i64 0], .slice (some ⟨R, 0, none⟩) 2 2] w fun e w' => (∃ g, e = .returned (.tuple #[.slice (some ⟨g, 0, none⟩) dl dl, .int .i64 0]) ∧ RowI w' g dl ds ∧ w.heap.size ≤ g) ∧ Below w.heap.size w w' := by
  have HB1 := hide ((Below.refl w.heap.size w).alloc (Nat.le_refl _) (.cells #[.int .i64 k, .slice none 0 0, .slice none 0 0, .slice none 0 0, .slice none 0 0, .slice none 0 0, .int .i64 0] 24))
  have HOP := hide (OpAt.new w k (.slice none 0 0) (.slice none 0 0) (.slice none 0 0) (.slice none 0 0) (.slice none 0 0) 0)
  obtain ⟨o0, o1, o2, o3, o4, o5, o6⟩ := HOP.out.cells
  have HS := hide (sameDims2 R da dl dc ea el ec ds (w.alloc (.cells #[.int .i64 k, .slice none 0 0, .slice none 0 0, .slice none 0 0, .slice none 0 0, .slice none 0 0, .int .i64 0] 24)) (alloc_cell q0) (alloc_cell q1) (hd.below HB1.out) (he.below HB1.out) hz)
  clear q0 q1 hd he hz
  rcases hk with rfl | rfl | rfl
  all_goals go_enter Tryz.func28, Tryz.ntmps28
  all_goals go_wp2_with (go_at_call 62; refine HS.out.mono ?_; rintro e w1 ⟨⟨g, rfl, hr, hg⟩, hb⟩; have HR := hide hr; have HB2 := hide (Below.on HB1.out hb); have hgg : w.heap.size ≤ g := Nat.le_trans HB1.out.size hg; clear hr hb hg)
  all_goals go_ret2
  all_goals exact ⟨⟨g, rfl, HR.out, hgg⟩, HB2.out⟩

theorem takes_two {k : Int} (hk : k = 3 ∨ k = 4 ∨ k = 5) : takesE k 2 = 0 := by rcases hk with rfl | rfl | rfl <;> decide

set_option maxRecDepth 100000 in
set_option maxHeartbeats 2000000 in
theorem Dims2 (k : Int) (hk : k = 3 ∨ k = 4 ∨ k = 5) (R : Nat) (da : Option Addr) (dl dc : Nat) (ea : Option Addr) (el ec : Nat) (ds : List Int) (w : World)
    (q0 : w.cell? ⟨R, 0, none⟩ = some (.slice da dl dc)) (q1 : w.cell? ⟨R, 1, none⟩ = some (.slice ea el ec)) (hd : Ints w da dl ds) (he : Ints w ea el ds) (hz : sizeE ds = 0) :
    Calls Tryz.prog 17 #[.agg #[.int .i64 k, .slice none 0 0, .slice none 0 0, .slice none 0 0, .slice none 0 0, .slice none 0 0, .int .i64 0], .slice (some ⟨R, 0, none⟩) 2 2] w fun e w' => (∃ g, e = .returned (.tuple #[.slice (some ⟨g, 0, none⟩) dl dl, .int .i64 0]) ∧ RowI w' g dl ds ∧ w.heap.size ≤ g) ∧ Below w.heap.size w w' := by
  have HB1 := hide ((Below.refl w.heap.size w).alloc (Nat.le_refl _) (.cells #[.int .i64 k, .slice none 0 0, .slice none 0 0, .slice none 0 0, .slice none 0 0, .slice none 0 0, .int .i64 0] 24))
  have HOP := hide (OpAt.new w k (.slice none 0 0) (.slice none 0 0) (.slice none 0 0) (.slice none 0 0) (.slice none 0 0) 0)
  obtain ⟨o0, o1, o2, o3, o4, o5, o6⟩ := HOP.out.cells
  have h6 : dl ≤ 6 := by have := (sizeE_ok hz).1; have := hd.1; omega
  have HD := hide hd
  have HE := hide he
  have HZ := hide hz
  have HQ0 := hide q0
  have HQ1 := hide q1
  have hR : R < w.heap.size := lt_of_cell q0
  have HTT := hide (takes_two hk)
  have HK := hide hk
  clear q0 q1 hd he hz hk
  go_enter Tryz.func17, Tryz.ntmps17
  go_wp2_with (go_at_call 15; refine (takes_any _ _ _).mono ?_; rintro e w' ⟨rfl, hw'⟩; obtain rfl := hw'.symm; rw [HTT.out])
  go_loopw [25] (fun i wr => ∃ j : Nat, j ≤ 2 ∧ i = .int .i64 j ∧ OpAt wr w.heap.size k (.slice none 0 0) (.slice none 0 0) (.slice none 0 0) (.slice none 0 0) (.slice none 0 0) 0 ∧ Below w.heap.size w wr) (fun i _ => 2 - (intOf i).toNat)
  case atStart => exact ⟨0, by omega, rfl, HOP.out, HB1.out⟩
  case round =>
    obtain ⟨j, hj, rfl, ho, hB⟩ := hrel
    have HO := hide ho
    have HB := hide hB
    clear ho hB o0 o1 o2 o3 o4 o5 o6
    have k0 : wr.cell? ⟨R, 0, none⟩ = some (.slice da dl dc) := (HB.out.cell (p := ⟨R, 0, none⟩) hR).trans HQ0.out
    have k1 : wr.cell? ⟨R, 1, none⟩ = some (.slice ea el ec) := (HB.out.cell (p := ⟨R, 1, none⟩) hR).trans HQ1.out
    have hcases : j = 0 ∨ j = 1 ∨ j = 2 := by omega
    rcases hcases with rfl | rfl | rfl
    · go_wp2_with (go_at_call 27; refine (size_any _ _ _ ds _ (HD.out.below HB.out)).mono ?_; rintro e w' ⟨rfl, hw'⟩; obtain rfl := hw'.symm; rw [HZ.out])
      go_roundw
      case rel => exact ⟨1, by omega, by go_num, HO.out, HB.out⟩
      case measure => simp [intOf]
    · go_wp2_with (go_at_call 27; refine (size_any _ _ _ ds _ (HE.out.below HB.out)).mono ?_; rintro e w' ⟨rfl, hw'⟩; obtain rfl := hw'.symm; rw [HZ.out])
      go_roundw
      case rel => exact ⟨2, by omega, by go_num, HO.out, HB.out⟩
      case measure => simp [intOf]
    · have HS := hide (shape2 k HK.out R da dl dc ea el ec ds wr k0 k1 (HD.out.below HB.out) (HE.out.below HB.out) HZ.out)
      obtain ⟨o0, o1, o2, o3, o4, o5, o6⟩ := HO.out.cells
      have HLD := hide HD.out.1
      have HBD := hide HD.out.2.2.1
      go_wp2_with (first
        | (go_at_call 28; refine HS.out.mono ?_; rintro e w1 ⟨⟨g, rfl, hr, hg⟩, hb⟩; have HR := hide hr; have HB2 := hide (Below.on HB.out hb); have hgg : w.heap.size ≤ g := Nat.le_trans HB.out.size hg; clear hr hb hg)
        | (go_at_call 27; refine (size_any _ _ _ ds _ (ints_of_rowI HR.out HLD.out (by omega) HBD.out)).mono ?_; rintro e w' ⟨rfl, hw'⟩; obtain rfl := hw'.symm; rw [HZ.out]))
      go_ret2
      exact ⟨⟨g, rfl, HR.out, hgg⟩, HB2.out⟩
end Go.Proofs.YtoagnhppjlcpkaaGreat.V

/-
  Contract: array.Do, of Add, Sub and Mul, of right arrays with the same dimensions.
-/
namespace Go.Proofs.YtoagnhppjlcpkaaGreat.V
set_option maxRecDepth 20000
open Go.RowKit

theorem info_int64 : (Tryz.prog.info? 2).map (fun i => (i.zero, i.size, i.bytes)) = some (some (.int .i64 0), 1, 8) := by kernel_rfl
theorem twoV_bd (k a b : Int) : -9223372036854775808 ≤ twoV k a b ∧ twoV k a b ≤ 9223372036854775807 := by
  unfold twoV wrap64
  omega
theorem twoL_bd (k : Int) (xs ys : List Int) (n : Nat) : ∀ x ∈ twoL k xs ys n, -9223372036854775808 ≤ x ∧ x ≤ 9223372036854775807 := by
  intro x hx
  simp only [twoL, List.mem_map] at hx
  obtain ⟨i, _, rfl⟩ := hx
  exact twoV_bd _ _ _
theorem arrE_ok {ds : List Int} {n : Nat} (h : arrE ds n = 0) : sizeE ds = 0 ∧ (n : Int) = prod ds ∧ n ≤ 65536 := by
  unfold arrE at h
  by_cases c : sizeE ds ≠ 0
  · rw [if_pos c] at h; exact absurd h c
  rw [if_neg c] at h
  have c' : sizeE ds = 0 := Decidable.not_not.1 c
  by_cases d : (n : Int) ≠ sizeN ds
  · rw [if_pos d] at h; simp at h
  have d' : (n : Int) = sizeN ds := Decidable.not_not.1 d
  rw [size_prod c'] at d'
  have := sizeE_ok c'
  refine ⟨c', d', ?_⟩
  by_cases p : ∀ x ∈ ds, 1 ≤ x
  · have := (this.2.2.1 p).1; omega
  · have hz : (0 : Int) ∈ ds := by
      simp only [Classical.not_forall] at p
      obtain ⟨x, hx, hn⟩ := p
      have := this.2.1 x hx
      obtain rfl : x = 0 := by omega
      exact hx
    have e := this.2.2.2 hz
    rw [size_prod c'] at e
    omega
theorem ArrAt.set {w : World} {b : Nat} {c0 c1 : Value} (h : ArrAt w b c0 c1) {p : Addr} (hne : b ≠ p.block) (u : Value) : ArrAt (w.setCell p u) b c0 c1 := (Below.heap_setCell _ _ _ _ hne).trans h
theorem ArrAt.put {w : World} {b : Nat} {c0 c1 : Value} (h : ArrAt w b c0 c1) (d0 d1 : Value) : ArrAt ((w.setCell ⟨b, 0, none⟩ d0).setCell ⟨b, 1, none⟩ d1) b d0 d1 := by
  unfold ArrAt at *
  simp [World.setCell, Array.getElem?_modify, h]
/-- The row of the arguments' dimensions, as far as it has come. -/
def rowD (u v : Value) (j t : Nat) : Value := if t < j then (if t = 0 then u else v) else .slice none 0 0

set_option maxRecDepth 100000 in
set_option maxHeartbeats 4000000 in
theorem Do_two (k : Int) (hk : k = 3 ∨ k = 4 ∨ k = 5) (b off cap : Nat) (da : Option Addr) (dl dc : Nat) (ea : Option Addr) (el ec : Nat) (ds : List Int) (n : Nat) (xa : Option Addr) (xc : Nat) (xs : List Int) (ya : Option Addr) (yc : Nat) (ys : List Int) (w : World)
    (c0 : w.cell? ⟨b, off, none⟩ = some (.slice da dl dc)) (c1 : w.cell? ⟨b, off + 1, none⟩ = some (.slice xa n xc)) (c2 : w.cell? ⟨b, off + 2, none⟩ = some (.slice ea el ec)) (c3 : w.cell? ⟨b, off + 3, none⟩ = some (.slice ya n yc))
    (hd : Ints w da dl ds) (he : Ints w ea el ds) (ix : Ints w xa n xs) (iy : Ints w ya n ys) (hE : arrE ds n = 0) :
    Calls Tryz.prog 7 #[.agg #[.int .i64 k, .slice none 0 0, .slice none 0 0, .slice none 0 0, .slice none 0 0, .slice none 0 0, .int .i64 0], .slice (some ⟨b, off, none⟩) 2 cap] w fun e w' =>
      (∃ g G : Nat, e = .returned (.tuple #[.agg #[.slice (some ⟨g, 0, none⟩) dl dl, .slice (some ⟨G, 0, none⟩) n n], .int .i64 0]) ∧ Ints w' (some ⟨g, 0, none⟩) dl ds ∧ Ints w' (some ⟨G, 0, none⟩) n (twoL k xs ys n) ∧ w.heap.size ≤ g ∧ w.heap.size ≤ G) ∧ Below w.heap.size w w' := by
  obtain ⟨z1, z2, z3⟩ := arrE_ok hE
  have HZ := hide z1
  have HN := hide z2
  have HE := hide hE
  have HD := hide hd
  have HE2 := hide he
  have HIX := hide ix
  have HIY := hide iy
  have HK := hide hk
  have HTT := hide (takes_two hk)
  have hbl : b < w.heap.size := lt_of_cell c0
  have HC0 := hide c0
  have HC1 := hide c1
  have HC2 := hide c2
  have HC3 := hide c3
  have HB1 := hide ((Below.refl w.heap.size w).alloc (Nat.le_refl _) (.cells #[.int .i64 k, .slice none 0 0, .slice none 0 0, .slice none 0 0, .slice none 0 0, .slice none 0 0, .int .i64 0] 24))
  have HB2 := hide (HB1.out.alloc HB1.out.size (.cells #[.slice none 0 0, .slice none 0 0] 28))
  have HOP := hide ((OpAt.new w k (.slice none 0 0) (.slice none 0 0) (.slice none 0 0) (.slice none 0 0) (.slice none 0 0) 0).alloc (.cells #[.slice none 0 0, .slice none 0 0] 28))
  have har := ArrAt.new (w.alloc (.cells #[.int .i64 k, .slice none 0 0, .slice none 0 0, .slice none 0 0, .slice none 0 0, .slice none 0 0, .int .i64 0] 24)) (.slice none 0 0) (.slice none 0 0)
  simp only [World.size_alloc] at har
  have HAR := hide har
  obtain ⟨o0, o1, o2, o3, o4, o5, o6⟩ := HOP.out.cells
  have hmk : ∀ w : World, (Instr.makeSlice 45 (.int .i64 2) (.int .i64 2)).run Tryz.prog w = .ok (.slice (some ⟨w.heap.size, 0, none⟩) 2 2) (w.alloc (.cells (madeCells #[.slice none 0 0] 2) 22)) := run_make_row' (P := Tryz.prog) 45 22 (.slice none 0 0) 24 Tryz.underlying45 info_ints rfl .i64 .i64 2 (by omega) (by omega)
  have hmk2 := run_make_row' (P := Tryz.prog) 26 2 (.int .i64 0) 8 Tryz.underlying26 info_int64 rfl .i64 .i64 n (by omega) (by omega)
  clear hk hd he ix iy hE z1 z2 har c0 c1 c2 c3
  go_enter Tryz.func7, Tryz.ntmps7
  go_wp2_with (go_at_call 15; refine (takes_any _ _ _).mono ?_; rintro e w' ⟨rfl, hw'⟩; obtain rfl := hw'.symm; rw [HTT.out])
  go_loopw [28] (fun i wr => ∃ j : Nat, j ≤ 2 ∧ i = .int .i64 j ∧ wr.rowIs (w.heap.size + 1 + 1) 22 2 (rowD (.slice da dl dc) (.slice ea el ec) j) ∧ OpAt wr w.heap.size k (.slice none 0 0) (.slice none 0 0) (.slice none 0 0) (.slice none 0 0) (.slice none 0 0) 0 ∧ ArrAt wr (w.heap.size + 1) (.slice none 0 0) (.slice none 0 0) ∧ Below w.heap.size w wr) (fun i _ => 2 - (intOf i).toNat)
  case atStart =>
    refine ⟨0, by omega, rfl, ?_, HOP.out.alloc _, HAR.out.alloc _, HB2.out.alloc HB2.out.size _⟩
    have := World.rowIs_made ((w.alloc (.cells #[.int .i64 k, .slice none 0 0, .slice none 0 0, .slice none 0 0, .slice none 0 0, .slice none 0 0, .int .i64 0] 24)).alloc (.cells #[.slice none 0 0, .slice none 0 0] 28)) (.slice none 0 0) 2 22
    simp only [World.size_alloc] at this
    exact this.congr (fun t _ => by simp [rowD])
  case round =>
    obtain ⟨j, hj, rfl, hrow, hop, har, hB⟩ := hrel
    have HR := hide hrow
    have HO := hide hop
    have HA := hide har
    have HB := hide hB
    clear hrow hop har hB o0 o1 o2 o3 o4 o5 o6
    have hcases : j = 0 ∨ j = 1 ∨ j = 2 := by omega
    rcases hcases with rfl | rfl | rfl
    · have s0 : wr.cell? ⟨b, off, none⟩ = some (.slice da dl dc) := (HB.out.cell (p := ⟨b, off, none⟩) hbl).trans HC0.out
      have s1 : wr.cell? ⟨b, off + 1, none⟩ = some (.slice xa n xc) := (HB.out.cell (p := ⟨b, off + 1, none⟩) hbl).trans HC1.out
      have HAN := hide (ArrAt.new wr (.slice da dl dc) (.slice xa n xc))
      have HBN := hide (HB.out.alloc HB.out.size (.cells #[.slice da dl dc, .slice xa n xc] 28))
      obtain ⟨⟨a0, a1⟩, _⟩ := HAN.out.cells
      go_wp2_with (go_at_call 16; refine (awrong_any da dl dc ds xa n xc _ (HD.out.below HBN.out)).mono ?_; rintro e w1 ⟨rfl, hb⟩; rw [HE.out]; have HB3 := hide (Below.on HBN.out hb); have HA3 := hide ((HA.out.alloc _).below hb); have HO3 := hide ((HO.out.alloc _).below hb); have HR3 := hide ((HR.out.of_block (Below.heap_alloc _ (.cells #[.slice da dl dc, .slice xa n xc] 28) _ HR.out.lt)).of_block (hb.block _ (by have := HR.out.lt; simp; omega))); have HAN3 := hide (HAN.out.below hb); clear a0 a1 hb; obtain ⟨⟨a0, a1⟩, _⟩ := HAN3.out.cells; have hr := HR3.out.cell (i := 0) (by omega); have hf := HR3.out.frozen 0)
      go_roundw
      case rel =>
        refine ⟨1, by omega, by go_num, (HR3.out.set 0 (.slice da dl dc)).congr (fun t ht => ?_), HO3.out.set (p := ⟨w.heap.size + 1 + 1, 0, none⟩) (by simp; omega) _, HA3.out.set (p := ⟨w.heap.size + 1 + 1, 0, none⟩) (by simp) _, HB3.out.setCell (p := ⟨w.heap.size + 1 + 1, 0, none⟩) (by simp; omega) _⟩
        have : t = 0 ∨ t = 1 := by omega
        rcases this with rfl | rfl <;> simp [rowD]
      case measure => simp [intOf]
    · have s0 : wr.cell? ⟨b, off + 2, none⟩ = some (.slice ea el ec) := (HB.out.cell (p := ⟨b, off + 2, none⟩) hbl).trans HC2.out
      have s1 : wr.cell? ⟨b, off + 3, none⟩ = some (.slice ya n yc) := (HB.out.cell (p := ⟨b, off + 3, none⟩) hbl).trans HC3.out
      have HAN := hide (ArrAt.new wr (.slice ea el ec) (.slice ya n yc))
      have HBN := hide (HB.out.alloc HB.out.size (.cells #[.slice ea el ec, .slice ya n yc] 28))
      obtain ⟨⟨a0, a1⟩, _⟩ := HAN.out.cells
      go_wp2_with (go_at_call 16; refine (awrong_any ea el ec ds ya n yc _ (HE2.out.below HBN.out)).mono ?_; rintro e w1 ⟨rfl, hb⟩; rw [HE.out]; have HB3 := hide (Below.on HBN.out hb); have HA3 := hide ((HA.out.alloc _).below hb); have HO3 := hide ((HO.out.alloc _).below hb); have HR3 := hide ((HR.out.of_block (Below.heap_alloc _ (.cells #[.slice ea el ec, .slice ya n yc] 28) _ HR.out.lt)).of_block (hb.block _ (by have := HR.out.lt; simp; omega))); have HAN3 := hide (HAN.out.below hb); clear a0 a1 hb; obtain ⟨⟨a0, a1⟩, _⟩ := HAN3.out.cells; have hr := HR3.out.cell (i := 1) (by omega); have hf := HR3.out.frozen 1)
      go_roundw
      case rel =>
        refine ⟨2, by omega, by go_num, (HR3.out.set 1 (.slice ea el ec)).congr (fun t ht => ?_), HO3.out.set (p := ⟨w.heap.size + 1 + 1, 1, none⟩) (by simp; omega) _, HA3.out.set (p := ⟨w.heap.size + 1 + 1, 1, none⟩) (by simp) _, HB3.out.setCell (p := ⟨w.heap.size + 1 + 1, 1, none⟩) (by simp; omega) _⟩
        have : t = 0 ∨ t = 1 := by omega
        rcases this with rfl | rfl <;> simp [rowD]
      case measure => simp [intOf]
    · have q0 : wr.cell? ⟨w.heap.size + 1 + 1, 0, none⟩ = some (.slice da dl dc) := HR.out.cell (i := 0) (by omega)
      have q1 : wr.cell? ⟨w.heap.size + 1 + 1, 1, none⟩ = some (.slice ea el ec) := HR.out.cell (i := 1) (by omega)
      have HS := hide (Dims2 k HK.out (w.heap.size + 1 + 1) da dl dc ea el ec ds wr q0 q1 (HD.out.below HB.out) (HE2.out.below HB.out) HZ.out)
      obtain ⟨o0, o1, o2, o3, o4, o5, o6⟩ := HO.out.cells
      have HLD := hide HD.out.1
      have HBD := hide HD.out.2.2.1
      have h6 : dl ≤ 6 := by have := (sizeE_ok HZ.out).1; have := HLD.out; omega
      clear q0 q1
      by_cases hn0 : (0 : Int) < (n : Int)
      case neg =>
        have hn2 : decide ((0 : Int) < (n : Int)) = false := decide_eq_false hn0
        have hn3 : n = 0 := by omega
        have hn4 : decide (0 < n) = false := decide_eq_false (by omega)
        have hn5 : ¬ 0 < n := by omega
        have HN3 := hide hn3
        clear hn3 hn0
        go_wp2_with (first
          | (go_at_call 17; refine HS.out.mono ?_; rintro e w1 ⟨⟨g, rfl, hr, hg⟩, hb⟩; have HRD := hide hr; have HB2 := hide (Below.on HB.out hb); have hgg : wr.heap.size ≤ g := hg; have hna := HA.out.lt; have HO2 := hide (HO.out.below hb); have HA2 := hide (HA.out.below hb); have hgl : g < w1.heap.size := hr.lt; clear hr hb hg o0 o1 o2 o3 o4 o5 o6; obtain ⟨o0, o1, o2, o3, o4, o5, o6⟩ := HO2.out.cells)
          | (go_at_call 18; refine (count_any _ _ _ ds _ (ints_of_rowI HRD.out HLD.out (by omega) HBD.out) (count_ok HZ.out)).mono ?_; rintro e w' ⟨rfl, hw'⟩; obtain rfl := hw'.symm; rw [← HN.out]; have HO5 := hide ((HO2.out.alloc (.cells (madeCells #[.int .i64 0] n) 2)).alloc (.cells #[.slice (some ⟨g, 0, none⟩) dl dl, .slice (some ⟨w1.heap.size, 0, none⟩) n n] 28)); have HA5 := hide ((HA2.out.alloc (.cells (madeCells #[.int .i64 0] n) 2)).alloc (.cells #[.slice (some ⟨g, 0, none⟩) dl dl, .slice (some ⟨w1.heap.size, 0, none⟩) n n] 28)); have HB5 := hide ((HB2.out.alloc HB2.out.size (.cells (madeCells #[.int .i64 0] n) 2)).alloc (HB2.out.alloc HB2.out.size (.cells (madeCells #[.int .i64 0] n) 2)).size (.cells #[.slice (some ⟨g, 0, none⟩) dl dl, .slice (some ⟨w1.heap.size, 0, none⟩) n n] 28)); have hx5 := ArrAt.new (w1.alloc (.cells (madeCells #[.int .i64 0] n) 2)) (.slice (some ⟨g, 0, none⟩) dl dl) (.slice (some ⟨w1.heap.size, 0, none⟩) n n); simp only [World.size_alloc] at hx5; have HX5 := hide hx5; clear o0 o1 o2 o3 o4 o5 o6 hx5; obtain ⟨o0, o1, o2, o3, o4, o5, o6⟩ := HO5.out.cells; obtain ⟨⟨x0, x1⟩, _⟩ := HX5.out.cells; obtain ⟨⟨a0, a1⟩, fa0, fa1⟩ := HA5.out.cells))
        obtain ⟨⟨u0, u1⟩, _⟩ := (HA5.out.put (.slice (some ⟨g, 0, none⟩) dl dl) (.slice (some ⟨w1.heap.size, 0, none⟩) n n)).cells
        have hs1 := HB2.out.size
        have ha1 := HA2.out.lt
        refine bodyPost_ret (v := .tuple #[.agg #[.slice (some ⟨g, 0, none⟩) dl dl, .slice (some ⟨w1.heap.size, 0, none⟩) n n], .int .i64 0]) (by simp [results, Tryz.results7, go_sem, u0, u1]) rfl ⟨⟨g, w1.heap.size, rfl, ?_, ?_, by have := HB.out.size; omega, hs1⟩, ?_⟩
        · exact ints_of_rowI ((((HRD.out.of_block (Below.heap_alloc _ (.cells (madeCells #[.int .i64 0] n) 2) _ hgl)).of_block (Below.heap_alloc _ (.cells #[.slice (some ⟨g, 0, none⟩) dl dl, .slice (some ⟨w1.heap.size, 0, none⟩) n n] 28) _ (by simp; omega))).setOther (a := ⟨w.heap.size + 1, 0, none⟩) (by simp; omega) _).setOther (a := ⟨w.heap.size + 1, 1, none⟩) (by simp; omega) _) HLD.out (by omega) HBD.out
        · exact ⟨twoL_length _ _ _ _, by omega, twoL_bd _ _ _ _, .inl HN3.out⟩
        · exact (HB5.out.setCell (p := ⟨w.heap.size + 1, 0, none⟩) (by simp) _).setCell (p := ⟨w.heap.size + 1, 1, none⟩) (by simp) _
      have hxl : ∀ b' o', xa = some ⟨b', o', none⟩ → b' < w.heap.size := fun b' o' e' => by
        obtain ⟨bb, oo, e2, hbb, _⟩ := HIX.out.at (by omega)
        rw [e'] at e2; cases e2; exact hbb
      have hyl : ∀ b' o', ya = some ⟨b', o', none⟩ → b' < w.heap.size := fun b' o' e' => by
        obtain ⟨bb, oo, e2, hbb, _⟩ := HIY.out.at (by omega)
        rw [e'] at e2; cases e2; exact hbb
      have HXL := hide hxl
      have HYL := hide hyl
      clear hxl hyl
      go_wp2_with (first
        | (go_at_call 17; refine HS.out.mono ?_; rintro e w1 ⟨⟨g, rfl, hr, hg⟩, hb⟩; have HRD := hide hr; have HB2 := hide (Below.on HB.out hb); have hgg : wr.heap.size ≤ g := hg; have hna := HA.out.lt; have HO2 := hide (HO.out.below hb); have HA2 := hide (HA.out.below hb); have hgl : g < w1.heap.size := hr.lt; clear hr hb hg o0 o1 o2 o3 o4 o5 o6; obtain ⟨o0, o1, o2, o3, o4, o5, o6⟩ := HO2.out.cells)
        | (go_at_call 18; refine (count_any _ _ _ ds _ (ints_of_rowI HRD.out HLD.out (by omega) HBD.out) (count_ok HZ.out)).mono ?_; rintro e w' ⟨rfl, hw'⟩; obtain rfl := hw'.symm; rw [← HN.out]; have HO5 := hide ((HO2.out.alloc (.cells (madeCells #[.int .i64 0] n) 2)).alloc (.cells #[.slice (some ⟨g, 0, none⟩) dl dl, .slice (some ⟨w1.heap.size, 0, none⟩) n n] 28)); have HA5 := hide ((HA2.out.alloc (.cells (madeCells #[.int .i64 0] n) 2)).alloc (.cells #[.slice (some ⟨g, 0, none⟩) dl dl, .slice (some ⟨w1.heap.size, 0, none⟩) n n] 28)); have HB5 := hide ((HB2.out.alloc HB2.out.size (.cells (madeCells #[.int .i64 0] n) 2)).alloc (HB2.out.alloc HB2.out.size (.cells (madeCells #[.int .i64 0] n) 2)).size (.cells #[.slice (some ⟨g, 0, none⟩) dl dl, .slice (some ⟨w1.heap.size, 0, none⟩) n n] 28)); have hx5 := ArrAt.new (w1.alloc (.cells (madeCells #[.int .i64 0] n) 2)) (.slice (some ⟨g, 0, none⟩) dl dl) (.slice (some ⟨w1.heap.size, 0, none⟩) n n); simp only [World.size_alloc] at hx5; have HX5 := hide hx5; clear o0 o1 o2 o3 o4 o5 o6 hx5; obtain ⟨o0, o1, o2, o3, o4, o5, o6⟩ := HO5.out.cells; obtain ⟨⟨x0, x1⟩, _⟩ := HX5.out.cells)
        | (go_at_call 19; refine (work_two k 0 HK.out (.slice none 0 0) (.slice none 0 0) (.slice none 0 0) (.slice none 0 0) (.slice none 0 0) (.slice (some ⟨g, 0, none⟩) dl dl) w1.heap.size n b off cap xa xc xs ya yc ys [] _ ((HB5.out.cell (p := ⟨b, off + 1, none⟩) hbl).trans HC1.out) ((HB5.out.cell (p := ⟨b, off + 3, none⟩) hbl).trans HC3.out) (HIX.out.below HB5.out) (HIY.out.below HB5.out) (fun b' o' e' => by { have := HXL.out b' o' e'; have := HB2.out.size; omega }) (fun b' o' e' => by { have := HYL.out b' o' e'; have := HB2.out.size; omega }) ((World.rowIs_made w1 (.int .i64 0) n 2).of_block (Below.heap_alloc _ _ _ (by simp)) |>.congr (fun j _ => by simp [onWay]))).mono ?_; rintro e w6 ⟨rfl, hr6, hsv⟩; have hs1 := HB2.out.size; have ha1 := HA2.out.lt; have HR6 := hide hr6; have HX6 : Hid (ArrAt w6 (w1.heap.size + 1) _ _) := (hsv.1 (w1.heap.size + 1) (by simp) (by omega)).trans HX5.out; have HA6 : Hid (ArrAt w6 (w.heap.size + 1) _ _) := (hsv.1 (w.heap.size + 1) (by simp; omega) (by omega)).trans HA5.out; have HD6 : Hid (RowI w6 g dl ds) := ((HRD.out.of_block (Below.heap_alloc _ (.cells (madeCells #[.int .i64 0] n) 2) _ hgl)).of_block (Below.heap_alloc _ (.cells #[.slice (some ⟨g, 0, none⟩) dl dl, .slice (some ⟨w1.heap.size, 0, none⟩) n n] 28) _ (by simp; omega))).of_block (hsv.1 g (by simp; omega) (by omega)); have HB6 := hide (Save.below HB5.out hsv (by omega) (Nat.le_refl _)); clear hsv hr6 x0 x1 o0 o1 o2 o3 o4 o5 o6; obtain ⟨⟨x0, x1⟩, _⟩ := HX6.out.cells; obtain ⟨⟨a0, a1⟩, fa0, fa1⟩ := HA6.out.cells))
      obtain ⟨⟨u0, u1⟩, _⟩ := (HA6.out.put (.slice (some ⟨g, 0, none⟩) dl dl) (.slice (some ⟨w1.heap.size, 0, none⟩) n n)).cells
      have hs1 := HB2.out.size
      have ha1 := HA2.out.lt
      refine bodyPost_ret (v := .tuple #[.agg #[.slice (some ⟨g, 0, none⟩) dl dl, .slice (some ⟨w1.heap.size, 0, none⟩) n n], .int .i64 0]) (by simp [results, Tryz.results7, go_sem, u0, u1]) rfl ⟨⟨g, w1.heap.size, rfl, ?_, ?_, by have := HB.out.size; omega, hs1⟩, ?_⟩
      · exact ints_of_rowI ((HD6.out.setOther (a := ⟨w.heap.size + 1, 0, none⟩) (by simp; omega) _).setOther (a := ⟨w.heap.size + 1, 1, none⟩) (by simp; omega) _) HLD.out (by omega) HBD.out
      · have hr7 := (onWay_all HR6.out); have hr8 := ((hr7.setOther (a := ⟨w.heap.size + 1, 0, none⟩) (by simp; omega) (.slice (some ⟨g, 0, none⟩) dl dl)).setOther (a := ⟨w.heap.size + 1, 1, none⟩) (by simp; omega) (.slice (some ⟨w1.heap.size, 0, none⟩) n n)); exact ⟨twoL_length _ _ _ _, by omega, twoL_bd _ _ _ _, .inr ⟨_, _, rfl, fun j hj => by rw [Nat.zero_add]; exact hr8.cell hj⟩⟩
      · exact (HB6.out.setCell (p := ⟨w.heap.size + 1, 0, none⟩) (by simp) _).setCell (p := ⟨w.heap.size + 1, 1, none⟩) (by simp) _
end Go.Proofs.YtoagnhppjlcpkaaGreat.V

/-
  Contract: adjointlaw2.two, of right arrays with the same dimensions.
-/
namespace Go.Proofs.YtoagnhppjlcpkaaGreat.V
set_option maxRecDepth 20000
open Go.RowKit

/-- A block of four values. -/
def FourAt (w : World) (b : Nat) (c0 c1 c2 c3 : Value) : Prop := w.heap[b]? = some (.cells #[c0, c1, c2, c3] 28 (0, 0))
theorem FourAt.new {w : World} {B : Nat} (c0 c1 c2 c3 : Value) (h : w.heap.size = B) : FourAt (w.alloc (.cells #[c0, c1, c2, c3] 28)) B c0 c1 c2 c3 := h ▸ World.alloc_heap_new w _
theorem FourAt.cells {w : World} {b : Nat} {c0 c1 c2 c3 : Value} (h : FourAt w b c0 c1 c2 c3) : w.cell? ⟨b, 0, none⟩ = some c0 ∧ w.cell? ⟨b, 1, none⟩ = some c1 ∧ w.cell? ⟨b, 2, none⟩ = some c2 ∧ w.cell? ⟨b, 3, none⟩ = some c3 := by
  unfold FourAt at h
  refine ⟨?_, ?_, ?_, ?_⟩ <;> simp [World.cell?, h]

end Go.Proofs.YtoagnhppjlcpkaaGreat.V

/-
  Contracts: adjointref2.SameArray of arrays that are the same; adjointlaw2.alike.
-/
namespace Go.Proofs.YtoagnhppjlcpkaaGreat.V
set_option maxRecDepth 20000
open Go.RowKit

end Go.Proofs.YtoagnhppjlcpkaaGreat.V

/-
  Contract: adjointlaw2.alike.
-/
namespace Go.Proofs.YtoagnhppjlcpkaaGreat.V
set_option maxRecDepth 20000
open Go.RowKit

/-- What is told of the j-th array. -/
structure ArrV where
  da : Option Addr
  dl : Nat
  dc : Nat
  ds : List Int
  xa : Option Addr
  xl : Nat
  xc : Nat
def ArrV.d (v : ArrV) : Value := .slice v.da v.dl v.dc
def ArrV.x (v : ArrV) : Value := .slice v.xa v.xl v.xc
end Go.Proofs.YtoagnhppjlcpkaaGreat.V
