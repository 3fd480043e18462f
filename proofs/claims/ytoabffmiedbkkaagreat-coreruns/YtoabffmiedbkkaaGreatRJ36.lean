/-
  Contract: array.entry, of Add, Sub and Mul. Contracts: the closure of array.entry, array.work, of Add, Sub and Mul. Contracts: array.ofTwo, entry and work, of Max and Less.
-/
import Derived.Test.YtoabffmiedbkkaaGreatRJ31
import Derived.Test.YtoabffmiedbkkaaGreatRJ2
import Derived.Test.YtoabffmiedbkkaaGreatRJ35
import Derived.Deep.RegionHeld3
import Derived.Laws.EntriesVeiled
namespace Go.Proofs.YtoabffmiedbkkaaGreat.V
set_option maxRecDepth 20000
open Go.RowKit

theorem boxed_new {W : World} {B : Nat} {t : TypeId} {v : Value} (h : W.heap.size = B) : Boxed (W.alloc (.cells #[v] t)) B t v := h ▸ Boxed.new W t v
theorem setc_cell {w : World} {p : Addr} {C i : Nat} {v u : Value} (h : w.cell? p = some v) (hne : p.block ≠ C) : (w.setCell ⟨C, i, none⟩ u).cell? p = some v := (World.cell?_setCell_far w ⟨C, i, none⟩ p u (fun e => hne e.symm)).trans h
theorem boxed_drew {W : World} {B : Nat} {t : TypeId} {v : Value} (h : Boxed W B t v) : Boxed W.drew B t v := h

set_option maxRecDepth 100000 in
set_option maxHeartbeats 4000000 in
theorem entry_two (k x : Int) (hk : k = 3 ∨ k = 4 ∨ k = 5) (vd va vl vh vs : Value) (b off cap : Nat) (xa : Option Addr) (n xc : Nat) (ya : Option Addr) (m yc : Nat) (w : World)
    (hx : w.cell? ⟨b, off + 1, none⟩ = some (.slice xa n xc)) (hy : w.cell? ⟨b, off + 3, none⟩ = some (.slice ya m yc)) :
    Calls Tryz.prog 74 #[.agg #[.int .i64 k, vd, va, vl, vh, vs, .int .i64 x], .slice (some ⟨b, off, none⟩) 2 cap] w fun e w' =>
      (∃ B1 B2 B3, e = .returned (.func (Fn.func 101) #[] #[.pointer (some ⟨B1, 0, none⟩), .pointer (some ⟨B2, 0, none⟩), .pointer (some ⟨B3, 0, none⟩)]) ∧
        (Boxed w' B1 153 (.func (Fn.func (twoF k)) #[] #[]) ∧ Boxed w' B2 25 (.slice xa n xc) ∧ Boxed w' B3 25 (.slice ya m yc)) ∧ w.heap.size ≤ B1 ∧ w.heap.size ≤ B2 ∧ w.heap.size ≤ B3) ∧ Below w.heap.size w w' := by
  have HOP := hide (OpAt.new w k vd va vl vh vs x)
  have HB1 := hide ((Below.refl w.heap.size w).alloc (Nat.le_refl _) (.cells #[.int .i64 k, vd, va, vl, vh, vs, .int .i64 x] 104))
  obtain ⟨o0, o1, o2, o3, o4, o5, o6⟩ := HOP.out.cells
  have hx1 := alloc_cell (o := .cells #[.int .i64 k, vd, va, vl, vh, vs, .int .i64 x] 104) hx
  have hy1 := alloc_cell (o := .cells #[.int .i64 k, vd, va, vl, vh, vs, .int .i64 x] 104) hy
  have hbl : b < w.heap.size := lt_of_cell hx
  obtain ⟨q2, q9, q11, q13, q15, q8⟩ : (k == 2) = false ∧ (k == 9) = false ∧ (k == 11) = false ∧ (k == 13) = false ∧ (k == 15) = false ∧ (k == 8) = false := by
    rcases hk with rfl | rfl | rfl <;> decide
  have HK := hide hk
  have hWs : (w.alloc (.cells #[.int .i64 k, vd, va, vl, vh, vs, .int .i64 x] 104)).heap.size = w.heap.size + 1 := by simp
  clear hx hy hk HOP
  go_enter Tryz.func74, Tryz.ntmps74
  go_wp2_with fail
  generalize hW : w.alloc (.cells #[.int .i64 k, vd, va, vl, vh, vs, .int .i64 x] 104) = W at HB1 o0 o1 o2 o3 o4 o5 o6 hx1 hy1 hWs ⊢
  have HWS := hide hWs
  clear hW hWs
  go_cut [8, 9, 10] (fun v1 v2 v3 wc => ∃ B1 B2 B3 : Nat, v1 = .pointer (some ⟨B1, 0, none⟩) ∧ v2 = .pointer (some ⟨B2, 0, none⟩) ∧ v3 = .pointer (some ⟨B3, 0, none⟩) ∧ (Boxed wc B1 153 (.func (Fn.func (twoF k)) #[] #[]) ∧ Boxed wc B2 25 (.slice xa n xc) ∧ Boxed wc B3 25 (.slice ya m yc)) ∧ (w.heap.size ≤ B1 ∧ w.heap.size ≤ B2 ∧ w.heap.size ≤ B3) ∧ Below w.heap.size w wc)
  case first =>
    have HX1 : Hid (Boxed (((W.alloc (.cells #[.nilFunc] 153)).alloc (.cells #[.slice none 0 0] 25)).alloc (.cells #[.slice none 0 0] 25)) W.heap.size 153 .nilFunc) := ((Boxed.new W _ _).alloc _).alloc _
    have HX2 : Hid (Boxed (((W.alloc (.cells #[.func (Fn.func (twoF k)) #[] #[]] 153)).alloc (.cells #[.slice none 0 0] 25)).alloc (.cells #[.slice none 0 0] 25)) (W.heap.size + 1) 25 (.slice none 0 0)) := (boxed_new (by simp)).alloc _
    have HX3 : Hid (Boxed (((W.alloc (.cells #[.func (Fn.func (twoF k)) #[] #[]] 153)).alloc (.cells #[.slice xa n xc] 25)).alloc (.cells #[.slice none 0 0] 25)) (W.heap.size + 1 + 1) 25 (.slice none 0 0)) := boxed_new (by simp)
    have x1 := HX1.out.cell
    have f1 := HX1.out.frozen
    have x2 := HX2.out.cell
    have f2 := HX2.out.frozen
    have x3 := HX3.out.cell
    have f3 := HX3.out.frozen
    have x1' : World.cell? ((((W.alloc (.cells #[.nilFunc] 153)).alloc (.cells #[.slice none 0 0] 25)).alloc (.cells #[.slice none 0 0] 25)).drew) ⟨W.heap.size, 0, none⟩ = _ := x1
    have f1' : World.frozen? ((((W.alloc (.cells #[.nilFunc] 153)).alloc (.cells #[.slice none 0 0] 25)).alloc (.cells #[.slice none 0 0] 25)).drew) ⟨W.heap.size, 0, none⟩ = _ := f1
    go_region_held3 (fun w' => w'.cell? ⟨w.heap.size, 0, none⟩ = some (.int .i64 k) ∧ w'.cell? ⟨b, off + 1, none⟩ = some (.slice xa n xc) ∧ w'.cell? ⟨b, off + 3, none⟩ = some (.slice ya m yc)) (refine ⟨?_, ?_, ?_⟩ <;> with_reducible (repeat (first | assumption | apply drew_cell | apply alloc_cell | (refine setc_cell ?_ ?_; rotate_left; · (simp; omega))))) ((go_at_call 100; refine (ofTwo_any k HK.out _).mono ?_; rintro e w' ⟨rfl, hw'⟩; obtain rfl := hw'.symm))
    all_goals go_wp2
    all_goals go_meet
    all_goals refine ⟨_, _, _, rfl, rfl, rfl, ⟨?_, ?_, ?_⟩, (by have := HWS.out; omega), ?_⟩
    all_goals with_reducible (repeat (first | exact HB1.out | exact boxed_new (by simp) | refine Boxed.alloc ?_ _ | apply boxed_drew | apply bl_drew | apply bl_alloc))
  case rest =>
    obtain ⟨B1, B2, B3, rfl, rfl, rfl, hbx, hsz, hB⟩ := hcut
    have HBX := hide hbx
    have HB := hide hB
    clear hbx hB
    go_wp2
    go_ret
    exact ⟨⟨B1, B2, B3, rfl, HBX.out, hsz⟩, HB.out⟩
end Go.Proofs.YtoabffmiedbkkaaGreat.V
namespace Go.Proofs.YtoabffmiedbkkaaGreat.V
set_option maxRecDepth 20000
open Go.RowKit

set_option maxRecDepth 100000 in
set_option maxHeartbeats 1000000 in
theorem ent3_any (k : Int) (hk : k = 3 ∨ k = 4 ∨ k = 5) (i B1 B2 B3 : Nat) (xa : Option Addr) (n xc : Nat) (xs : List Int) (ya : Option Addr) (m yc : Nat) (ys : List Int) (w : World)
    (h1 : Boxed w B1 153 (.func (Fn.func (twoF k)) #[] #[])) (h2 : Boxed w B2 25 (.slice xa n xc)) (h3 : Boxed w B3 25 (.slice ya m yc)) (hx : Ints w xa n xs) (hy : Ints w ya m ys) (hi : i < n) (hj : i < m) :
    Calls Tryz.prog 101 #[.int .i64 i, .pointer (some ⟨B1, 0, none⟩), .pointer (some ⟨B2, 0, none⟩), .pointer (some ⟨B3, 0, none⟩)] w fun e w' => e = .returned (.int .i64 (twoV k (xs[i]?.getD 0) (ys[i]?.getD 0))) ∧ w'.heap = w.heap ∧ Below 0 w w' := by
  have hm1 := hx.2.1
  have hm2 := hy.2.1
  obtain ⟨b, off, rfl, hb, hc⟩ := hx.at (by omega)
  obtain ⟨b', off', rfl, hb', hc'⟩ := hy.at (by omega)
  have cx := hc i hi
  have cy := hc' i hj
  obtain ⟨X, hX⟩ : ∃ X, X = xs[i]?.getD 0 := ⟨_, rfl⟩
  obtain ⟨Y, hY⟩ : ∃ Y, Y = ys[i]?.getD 0 := ⟨_, rfl⟩
  rw [← hX] at cx ⊢
  rw [← hY] at cy ⊢
  have c1 := h1.cell
  have c2 := h2.cell
  have c3 := h3.cell
  have i1 : (0 : Int) ≤ (i : Int) := Int.natCast_nonneg _
  have i2 : (i : Int) < (n : Int) := by omega
  have i3 : (i : Int) < (m : Int) := by omega
  have HCF : Hid (∀ (args : Array Value) (w : World), (callFunc (twoF k) args).run Tryz.prog w = .ok (.enter (twoF k) args) w) := by
    rcases hk with rfl | rfl | rfl
    · exact enters Tryz.func119 (by kernel_rfl) (by kernel_rfl)
    · exact enters Tryz.func120 (by kernel_rfl) (by kernel_rfl)
    · exact enters Tryz.func121 (by kernel_rfl) (by kernel_rfl)
  have hcf := HCF.out
  have HK := hide hk
  clear hx hy hc hc' hX hY h1 h2 h3 hk hi hj
  go_enter Tryz.func101, Tryz.ntmps101
  go_wp2_with fail
  go_region_held3 (fun w' => w'.cell? ⟨B1, 0, none⟩ = some (.func (Fn.func (twoF k)) #[] #[]) ∧ w'.cell? ⟨B2, 0, none⟩ = some (.slice (some ⟨b, off, none⟩) n xc) ∧ w'.cell? ⟨B3, 0, none⟩ = some (.slice (some ⟨b', off', none⟩) m yc) ∧ w'.cell? ⟨b, off + i, none⟩ = some (.int .i64 X) ∧ w'.cell? ⟨b', off' + i, none⟩ = some (.int .i64 Y)) (refine ⟨?_, ?_, ?_, ?_, ?_⟩ <;> with_reducible (repeat (first | assumption | apply drew_cell))) ((refine (two_any k X Y HK.out _).mono ?_; rintro e w' ⟨rfl, hw'⟩; obtain rfl := hw'.symm))
  all_goals go_wp2
  all_goals go_ret
  all_goals exact ⟨rfl, rfl, (Below.refl _ _).drew⟩

/-- What the operation makes of two rows. -/
def twoL (k : Int) (xs ys : List Int) (n : Nat) : List Int := (List.range n).map fun i => twoV k (xs[i]?.getD 0) (ys[i]?.getD 0)
theorem twoL_length (k : Int) (xs ys : List Int) (n : Nat) : (twoL k xs ys n).length = n := by simp [twoL]
theorem twoL_at (k : Int) (xs ys : List Int) (n i : Nat) (h : i < n) : (twoL k xs ys n)[i]?.getD 0 = twoV k (xs[i]?.getD 0) (ys[i]?.getD 0) := by simp [twoL, h]
/-- All blocks that stood there but one are as they were. -/
def Save (g : Nat) (w w' : World) : Prop := (∀ c, c < w.heap.size → c ≠ g → w'.heap[c]? = w.heap[c]?) ∧ Below 0 w w'
theorem Save.of_below {g : Nat} {w w1 w2 : World} (h : Below w.heap.size w w1) (h2 : But g w1 w2) (h0 : Below 0 w1 w2) : Save g w w2 :=
  ⟨fun c hc hne => (h2.1 c hne).trans (h.block c hc), (h.mono (Nat.zero_le _)).trans h0⟩
theorem Save.below {g B : Nat} {w w1 w2 : World} (h : Below B w w1) (h2 : Save g w1 w2) (hg : B ≤ g) (hB : B ≤ w.heap.size) : Below B w w2 :=
  ⟨h2.2.os.trans h.os, h2.2.tape.trans h.tape, h2.2.output.trans h.output, Nat.le_trans h.size h2.2.size, fun c hc => (h2.1 c (by have := h.size; omega) (by omega)).trans (h.block c hc)⟩
/-- The row does not lie in block g. -/
def OffG (g : Nat) (a : Option Addr) : Prop := ∀ b o, a = some ⟨b, o, none⟩ → b ≠ g

set_option maxRecDepth 100000 in
set_option maxHeartbeats 4000000 in
theorem work_two (k x : Int) (hk : k = 3 ∨ k = 4 ∨ k = 5) (vd va vl vh vs od : Value) (g n : Nat) (b off cap : Nat) (xa : Option Addr) (xc : Nat) (xs : List Int) (ya : Option Addr) (yc : Nat) (ys zs : List Int) (w : World)
    (hx : w.cell? ⟨b, off + 1, none⟩ = some (.slice xa n xc)) (hy : w.cell? ⟨b, off + 3, none⟩ = some (.slice ya n yc)) (ix : Ints w xa n xs) (iy : Ints w ya n ys) (ox : OffG g xa) (oy : OffG g ya) (hrow : w.rowIs g 2 n (onWay (twoL k xs ys n) zs 0)) :
    Calls Tryz.prog 62 #[.agg #[od, .slice (some ⟨g, 0, none⟩) n n], .agg #[.int .i64 k, vd, va, vl, vh, vs, .int .i64 x], .slice (some ⟨b, off, none⟩) 2 cap] w fun e w' => e = .returned (.tuple #[]) ∧ w'.rowIs g 2 n (onWay (twoL k xs ys n) zs n) ∧ Save g w w' := by
  have hn := ix.2.1
  have hgl : g < w.heap.size := hrow.lt
  have HIX := hide ix
  have HIY := hide iy
  have HR := hide hrow
  have HB1 := hide ((Below.refl w.heap.size w).alloc (Nat.le_refl _) (.cells #[od, .slice (some ⟨g, 0, none⟩) n n] 101))
  have HB2 := hide (HB1.out.alloc HB1.out.size (.cells #[.int .i64 k, vd, va, vl, vh, vs, .int .i64 x] 104))
  have HAR := hide ((ArrAt.new w od (.slice (some ⟨g, 0, none⟩) n n)).alloc (.cells #[.int .i64 k, vd, va, vl, vh, vs, .int .i64 x] 104))
  have hop := OpAt.new (w.alloc (.cells #[od, .slice (some ⟨g, 0, none⟩) n n] 101)) k vd va vl vh vs x
  simp only [World.size_alloc] at hop
  have HOP := hide hop
  obtain ⟨⟨r0, r1⟩, _⟩ := HAR.out.cells
  obtain ⟨o0, o1, o2, o3, o4, o5, o6⟩ := HOP.out.cells
  have HX2 := hide (alloc_cell (o := .cells #[.int .i64 k, vd, va, vl, vh, vs, .int .i64 x] 104) (alloc_cell (o := .cells #[od, .slice (some ⟨g, 0, none⟩) n n] 101) hx))
  have HY2 := hide (alloc_cell (o := .cells #[.int .i64 k, vd, va, vl, vh, vs, .int .i64 x] 104) (alloc_cell (o := .cells #[od, .slice (some ⟨g, 0, none⟩) n n] 101) hy))
  obtain ⟨q12, q10, q14, q16, q17, q18, q19⟩ : (k == 12) = false ∧ (k == 10) = false ∧ (k == 14) = false ∧ (k == 16) = false ∧ (k == 17) = false ∧ (k == 18) = false ∧ (k == 19) = false := by
    rcases hk with rfl | rfl | rfl <;> decide
  have HK := hide hk
  have hcf : ∀ (args : Array Value) (w : World), (callFunc 101 args).run Tryz.prog w = .ok (.enter 101 args) w := enters Tryz.func101 (by kernel_rfl) (by kernel_rfl)
  have HCF := hide hcf
  have HOX := hide ox
  have HOY := hide oy
  clear hx hy ix iy hrow hop hk hcf ox oy
  go_enter Tryz.func62, Tryz.ntmps62
  go_wp2_with fail
  go_region_held3 (fun w' => w'.cell? ⟨w.heap.size, 1, none⟩ = some (.slice (some ⟨g, 0, none⟩) n n) ∧ w'.cell? ⟨w.heap.size + 1, 0, none⟩ = some (.int .i64 k) ∧ w'.cell? ⟨w.heap.size + 1, 1, none⟩ = some vd ∧ w'.cell? ⟨w.heap.size + 1, 2, none⟩ = some va ∧ w'.cell? ⟨w.heap.size + 1, 3, none⟩ = some vl ∧ w'.cell? ⟨w.heap.size + 1, 4, none⟩ = some vh ∧ w'.cell? ⟨w.heap.size + 1, 5, none⟩ = some vs ∧ w'.cell? ⟨w.heap.size + 1, 6, none⟩ = some (.int .i64 x)) (refine ⟨?_, ?_, ?_, ?_, ?_, ?_, ?_, ?_⟩ <;> with_reducible (repeat (first | assumption | apply drew_cell))) ((first
    | (go_at_call 74; refine (entry_two k x HK.out vd va vl vh vs b off cap xa n xc ya n yc _ (drew_cell HX2.out) (drew_cell HY2.out)).mono ?_; rintro e w3 ⟨⟨B1, B2, B3, rfl, hbx, hsz⟩, hb⟩; have HBX := hide hbx; have HSZ : Hid (w.heap.size ≤ B1 ∧ w.heap.size ≤ B2 ∧ w.heap.size ≤ B3) := ⟨Nat.le_trans HB2.out.size hsz.1, Nat.le_trans HB2.out.size hsz.2.1, Nat.le_trans HB2.out.size hsz.2.2⟩; have HB3 := hide (Below.on HB2.out.drew hb); have HAR3 := hide ((HAR.out.below ((Below.refl _ _).drew)).below hb); have HOP3 := hide ((HOP.out.below ((Below.refl _ _).drew)).below hb); obtain ⟨⟨r30, r31⟩, _⟩ := HAR3.out.cells; obtain ⟨o30, o31, o32, o33, o34, o35, o36⟩ := HOP3.out.cells; clear hbx hsz hb)
    | (go_at_call 73; refine (fill_any 101 #[.pointer (some ⟨B1, 0, none⟩), .pointer (some ⟨B2, 0, none⟩), .pointer (some ⟨B3, 0, none⟩)] g n (twoL k xs ys n) zs (twoL_length _ _ _ _) _ hn HCF.out (HR.out.of_block (HB3.out.block g hgl)) (fun i W hi hW => by {
        rw [twoL_at _ _ _ _ _ hi]
        have hs := HSZ.out
        exact ent3_any k HK.out i B1 B2 B3 xa n xc xs ya n yc ys W ((hW.1 B1 (by omega)).trans HBX.out.1) ((hW.1 B2 (by omega)).trans HBX.out.2.1) ((hW.1 B3 (by omega)).trans HBX.out.2.2) (hW.ints (HIX.out.below HB3.out) HOX.out) (hW.ints (HIY.out.below HB3.out) HOY.out) hi hi })).mono ?_; rintro e w4 ⟨rfl, hr4, hbut, h04⟩; have H04 := hide h04; have HR4 := hide hr4; have HBU := hide hbut; have HAR4 : Hid (ArrAt w4 w.heap.size _ _) := (HBU.out.1 w.heap.size (by omega)).trans HAR3.out; have HOP4 : Hid (OpAt w4 (w.heap.size + 1) _ _ _ _ _ _ _) := (HBU.out.1 (w.heap.size + 1) (by omega)).trans HOP3.out; obtain ⟨⟨r40, r41⟩, _⟩ := HAR4.out.cells; obtain ⟨o40, o41, o42, o43, o44, o45, o46⟩ := HOP4.out.cells; clear hr4 hbut h04)))
  all_goals go_wp2
  all_goals exact bodyPost_end (v := .tuple #[]) (by simp [results, Tryz.results62, go_sem]) rfl ⟨rfl, HR4.out, Save.of_below HB3.out HBU.out H04.out⟩
end Go.Proofs.YtoabffmiedbkkaaGreat.V
namespace Go.Proofs.YtoabffmiedbkkaaGreat.V
set_option maxRecDepth 20000
open Go.RowKit

/-- What Max and Less make of two numbers. -/
def mxV (k a b : Int) : Int := if k = 6 then (if a < b then b else a) else (if a < b then 1 else 0)
def mxF (k : Int) : Nat := if k = 6 then 122 else 123
theorem mx_any (k a b : Int) (hk : k = 6 ∨ k = 7) (w : World) : Calls Tryz.prog (mxF k) #[.int .i64 a, .int .i64 b] w fun e w' => e = .returned (.int .i64 (mxV k a b)) ∧ w' = w := by
  rcases hk with rfl | rfl
  · show Calls Tryz.prog 122 _ _ _
    have hv : mxV 6 a b = if a < b then b else a := rfl
    rw [hv]
    go_enter Tryz.func122, Tryz.ntmps122
    go_wp2
    all_goals go_ret
    all_goals exact ⟨rfl, rfl⟩
  · show Calls Tryz.prog 123 _ _ _
    have hv : mxV 7 a b = if a < b then 1 else 0 := rfl
    rw [hv]
    by_cases c : a < b
    · have q : decide (a < b) = true := by simp [c]
      rw [if_pos c]
      clear c hv
      go_enter Tryz.func123, Tryz.ntmps123
      go_wp2
      go_ret
      exact ⟨rfl, rfl⟩
    · have q : decide (a < b) = false := by simp; omega
      rw [if_neg c]
      clear c hv
      go_enter Tryz.func123, Tryz.ntmps123
      go_wp2
      go_ret
      exact ⟨rfl, rfl⟩
theorem ofTwo_mx (k : Int) (hk : k = 6 ∨ k = 7) (w : World) : Calls Tryz.prog 100 #[.int .i64 k] w fun e w' => e = .returned (.func (Fn.func (mxF k)) #[] #[]) ∧ w' = w := by
  rcases hk with rfl | rfl
  all_goals
    go_enter Tryz.func100, Tryz.ntmps100
    go_wp2
    go_ret
    exact ⟨rfl, rfl⟩

set_option maxRecDepth 100000 in
set_option maxHeartbeats 4000000 in
theorem entry_mx (k x : Int) (hk : k = 6 ∨ k = 7) (vd va vl vh vs : Value) (b off cap : Nat) (xa : Option Addr) (n xc : Nat) (ya : Option Addr) (m yc : Nat) (w : World)
    (hx : w.cell? ⟨b, off + 1, none⟩ = some (.slice xa n xc)) (hy : w.cell? ⟨b, off + 3, none⟩ = some (.slice ya m yc)) :
    Calls Tryz.prog 74 #[.agg #[.int .i64 k, vd, va, vl, vh, vs, .int .i64 x], .slice (some ⟨b, off, none⟩) 2 cap] w fun e w' =>
      (∃ B1 B2 B3, e = .returned (.func (Fn.func 101) #[] #[.pointer (some ⟨B1, 0, none⟩), .pointer (some ⟨B2, 0, none⟩), .pointer (some ⟨B3, 0, none⟩)]) ∧
        (Boxed w' B1 153 (.func (Fn.func (mxF k)) #[] #[]) ∧ Boxed w' B2 25 (.slice xa n xc) ∧ Boxed w' B3 25 (.slice ya m yc)) ∧ w.heap.size ≤ B1 ∧ w.heap.size ≤ B2 ∧ w.heap.size ≤ B3) ∧ Below w.heap.size w w' := by
  have HOP := hide (OpAt.new w k vd va vl vh vs x)
  have HB1 := hide ((Below.refl w.heap.size w).alloc (Nat.le_refl _) (.cells #[.int .i64 k, vd, va, vl, vh, vs, .int .i64 x] 104))
  obtain ⟨o0, o1, o2, o3, o4, o5, o6⟩ := HOP.out.cells
  have hx1 := alloc_cell (o := .cells #[.int .i64 k, vd, va, vl, vh, vs, .int .i64 x] 104) hx
  have hy1 := alloc_cell (o := .cells #[.int .i64 k, vd, va, vl, vh, vs, .int .i64 x] 104) hy
  have hbl : b < w.heap.size := lt_of_cell hx
  obtain ⟨q2, q9, q11, q13, q15, q8⟩ : (k == 2) = false ∧ (k == 9) = false ∧ (k == 11) = false ∧ (k == 13) = false ∧ (k == 15) = false ∧ (k == 8) = false := by
    rcases hk with rfl | rfl <;> decide
  have HK := hide hk
  have hWs : (w.alloc (.cells #[.int .i64 k, vd, va, vl, vh, vs, .int .i64 x] 104)).heap.size = w.heap.size + 1 := by simp
  clear hx hy hk HOP
  go_enter Tryz.func74, Tryz.ntmps74
  go_wp2_with fail
  generalize hW : w.alloc (.cells #[.int .i64 k, vd, va, vl, vh, vs, .int .i64 x] 104) = W at HB1 o0 o1 o2 o3 o4 o5 o6 hx1 hy1 hWs ⊢
  have HWS := hide hWs
  clear hW hWs
  go_cut [8, 9, 10] (fun v1 v2 v3 wc => ∃ B1 B2 B3 : Nat, v1 = .pointer (some ⟨B1, 0, none⟩) ∧ v2 = .pointer (some ⟨B2, 0, none⟩) ∧ v3 = .pointer (some ⟨B3, 0, none⟩) ∧ (Boxed wc B1 153 (.func (Fn.func (mxF k)) #[] #[]) ∧ Boxed wc B2 25 (.slice xa n xc) ∧ Boxed wc B3 25 (.slice ya m yc)) ∧ (w.heap.size ≤ B1 ∧ w.heap.size ≤ B2 ∧ w.heap.size ≤ B3) ∧ Below w.heap.size w wc)
  case first =>
    have HX1 : Hid (Boxed (((W.alloc (.cells #[.nilFunc] 153)).alloc (.cells #[.slice none 0 0] 25)).alloc (.cells #[.slice none 0 0] 25)) W.heap.size 153 .nilFunc) := ((Boxed.new W _ _).alloc _).alloc _
    have HX2 : Hid (Boxed (((W.alloc (.cells #[.func (Fn.func (mxF k)) #[] #[]] 153)).alloc (.cells #[.slice none 0 0] 25)).alloc (.cells #[.slice none 0 0] 25)) (W.heap.size + 1) 25 (.slice none 0 0)) := (boxed_new (by simp)).alloc _
    have HX3 : Hid (Boxed (((W.alloc (.cells #[.func (Fn.func (mxF k)) #[] #[]] 153)).alloc (.cells #[.slice xa n xc] 25)).alloc (.cells #[.slice none 0 0] 25)) (W.heap.size + 1 + 1) 25 (.slice none 0 0)) := boxed_new (by simp)
    have x1 := HX1.out.cell
    have f1 := HX1.out.frozen
    have x2 := HX2.out.cell
    have f2 := HX2.out.frozen
    have x3 := HX3.out.cell
    have f3 := HX3.out.frozen
    have x1' : World.cell? ((((W.alloc (.cells #[.nilFunc] 153)).alloc (.cells #[.slice none 0 0] 25)).alloc (.cells #[.slice none 0 0] 25)).drew) ⟨W.heap.size, 0, none⟩ = _ := x1
    have f1' : World.frozen? ((((W.alloc (.cells #[.nilFunc] 153)).alloc (.cells #[.slice none 0 0] 25)).alloc (.cells #[.slice none 0 0] 25)).drew) ⟨W.heap.size, 0, none⟩ = _ := f1
    go_region_held3 (fun w' => w'.cell? ⟨w.heap.size, 0, none⟩ = some (.int .i64 k) ∧ w'.cell? ⟨b, off + 1, none⟩ = some (.slice xa n xc) ∧ w'.cell? ⟨b, off + 3, none⟩ = some (.slice ya m yc)) (refine ⟨?_, ?_, ?_⟩ <;> with_reducible (repeat (first | assumption | apply drew_cell | apply alloc_cell | (refine setc_cell ?_ ?_; rotate_left; · (simp; omega))))) ((go_at_call 100; refine (ofTwo_mx k HK.out _).mono ?_; rintro e w' ⟨rfl, hw'⟩; obtain rfl := hw'.symm))
    all_goals go_wp2
    all_goals go_meet
    all_goals refine ⟨_, _, _, rfl, rfl, rfl, ⟨?_, ?_, ?_⟩, (by have := HWS.out; omega), ?_⟩
    all_goals with_reducible (repeat (first | exact HB1.out | exact boxed_new (by simp) | refine Boxed.alloc ?_ _ | apply boxed_drew | apply bl_drew | apply bl_alloc))
  case rest =>
    obtain ⟨B1, B2, B3, rfl, rfl, rfl, hbx, hsz, hB⟩ := hcut
    have HBX := hide hbx
    have HB := hide hB
    clear hbx hB
    go_wp2
    go_ret
    exact ⟨⟨B1, B2, B3, rfl, HBX.out, hsz⟩, HB.out⟩

set_option maxRecDepth 100000 in
set_option maxHeartbeats 1000000 in
theorem ent3_mx (k : Int) (hk : k = 6 ∨ k = 7) (i B1 B2 B3 : Nat) (xa : Option Addr) (n xc : Nat) (xs : List Int) (ya : Option Addr) (m yc : Nat) (ys : List Int) (w : World)
    (h1 : Boxed w B1 153 (.func (Fn.func (mxF k)) #[] #[])) (h2 : Boxed w B2 25 (.slice xa n xc)) (h3 : Boxed w B3 25 (.slice ya m yc)) (hx : Ints w xa n xs) (hy : Ints w ya m ys) (hi : i < n) (hj : i < m) :
    Calls Tryz.prog 101 #[.int .i64 i, .pointer (some ⟨B1, 0, none⟩), .pointer (some ⟨B2, 0, none⟩), .pointer (some ⟨B3, 0, none⟩)] w fun e w' => e = .returned (.int .i64 (mxV k (xs[i]?.getD 0) (ys[i]?.getD 0))) ∧ w'.heap = w.heap ∧ Below 0 w w' := by
  have hm1 := hx.2.1
  have hm2 := hy.2.1
  obtain ⟨b, off, rfl, hb, hc⟩ := hx.at (by omega)
  obtain ⟨b', off', rfl, hb', hc'⟩ := hy.at (by omega)
  have cx := hc i hi
  have cy := hc' i hj
  obtain ⟨X, hX⟩ : ∃ X, X = xs[i]?.getD 0 := ⟨_, rfl⟩
  obtain ⟨Y, hY⟩ : ∃ Y, Y = ys[i]?.getD 0 := ⟨_, rfl⟩
  rw [← hX] at cx ⊢
  rw [← hY] at cy ⊢
  have c1 := h1.cell
  have c2 := h2.cell
  have c3 := h3.cell
  have i1 : (0 : Int) ≤ (i : Int) := Int.natCast_nonneg _
  have i2 : (i : Int) < (n : Int) := by omega
  have i3 : (i : Int) < (m : Int) := by omega
  have HCF : Hid (∀ (args : Array Value) (w : World), (callFunc (mxF k) args).run Tryz.prog w = .ok (.enter (mxF k) args) w) := by
    rcases hk with rfl | rfl
    · exact enters Tryz.func122 (by kernel_rfl) (by kernel_rfl)
    · exact enters Tryz.func123 (by kernel_rfl) (by kernel_rfl)
  have hcf := HCF.out
  have HK := hide hk
  clear hx hy hc hc' hX hY h1 h2 h3 hk hi hj
  go_enter Tryz.func101, Tryz.ntmps101
  go_wp2_with fail
  go_region_held3 (fun w' => w'.cell? ⟨B1, 0, none⟩ = some (.func (Fn.func (mxF k)) #[] #[]) ∧ w'.cell? ⟨B2, 0, none⟩ = some (.slice (some ⟨b, off, none⟩) n xc) ∧ w'.cell? ⟨B3, 0, none⟩ = some (.slice (some ⟨b', off', none⟩) m yc) ∧ w'.cell? ⟨b, off + i, none⟩ = some (.int .i64 X) ∧ w'.cell? ⟨b', off' + i, none⟩ = some (.int .i64 Y)) (refine ⟨?_, ?_, ?_, ?_, ?_⟩ <;> with_reducible (repeat (first | assumption | apply drew_cell))) ((refine (mx_any k X Y HK.out _).mono ?_; rintro e w' ⟨rfl, hw'⟩; obtain rfl := hw'.symm))
  all_goals go_wp2
  all_goals go_ret
  all_goals exact ⟨rfl, rfl, (Below.refl _ _).drew⟩

/-- What the operation makes of two rows. -/
def mxL (k : Int) (xs ys : List Int) (n : Nat) : List Int := (List.range n).map fun i => mxV k (xs[i]?.getD 0) (ys[i]?.getD 0)
theorem mxL_length (k : Int) (xs ys : List Int) (n : Nat) : (mxL k xs ys n).length = n := by simp [mxL]
theorem mxL_at (k : Int) (xs ys : List Int) (n i : Nat) (h : i < n) : (mxL k xs ys n)[i]?.getD 0 = mxV k (xs[i]?.getD 0) (ys[i]?.getD 0) := by simp [mxL, h]

set_option maxRecDepth 100000 in
set_option maxHeartbeats 4000000 in
theorem work_mx (k x : Int) (hk : k = 6 ∨ k = 7) (vd va vl vh vs od : Value) (g n : Nat) (b off cap : Nat) (xa : Option Addr) (xc : Nat) (xs : List Int) (ya : Option Addr) (yc : Nat) (ys zs : List Int) (w : World)
    (hx : w.cell? ⟨b, off + 1, none⟩ = some (.slice xa n xc)) (hy : w.cell? ⟨b, off + 3, none⟩ = some (.slice ya n yc)) (ix : Ints w xa n xs) (iy : Ints w ya n ys) (ox : OffG g xa) (oy : OffG g ya) (hrow : w.rowIs g 2 n (onWay (mxL k xs ys n) zs 0)) :
    Calls Tryz.prog 62 #[.agg #[od, .slice (some ⟨g, 0, none⟩) n n], .agg #[.int .i64 k, vd, va, vl, vh, vs, .int .i64 x], .slice (some ⟨b, off, none⟩) 2 cap] w fun e w' => e = .returned (.tuple #[]) ∧ w'.rowIs g 2 n (onWay (mxL k xs ys n) zs n) ∧ Save g w w' := by
  have hn := ix.2.1
  have hgl : g < w.heap.size := hrow.lt
  have HIX := hide ix
  have HIY := hide iy
  have HR := hide hrow
  have HB1 := hide ((Below.refl w.heap.size w).alloc (Nat.le_refl _) (.cells #[od, .slice (some ⟨g, 0, none⟩) n n] 101))
  have HB2 := hide (HB1.out.alloc HB1.out.size (.cells #[.int .i64 k, vd, va, vl, vh, vs, .int .i64 x] 104))
  have HAR := hide ((ArrAt.new w od (.slice (some ⟨g, 0, none⟩) n n)).alloc (.cells #[.int .i64 k, vd, va, vl, vh, vs, .int .i64 x] 104))
  have hop := OpAt.new (w.alloc (.cells #[od, .slice (some ⟨g, 0, none⟩) n n] 101)) k vd va vl vh vs x
  simp only [World.size_alloc] at hop
  have HOP := hide hop
  obtain ⟨⟨r0, r1⟩, _⟩ := HAR.out.cells
  obtain ⟨o0, o1, o2, o3, o4, o5, o6⟩ := HOP.out.cells
  have HX2 := hide (alloc_cell (o := .cells #[.int .i64 k, vd, va, vl, vh, vs, .int .i64 x] 104) (alloc_cell (o := .cells #[od, .slice (some ⟨g, 0, none⟩) n n] 101) hx))
  have HY2 := hide (alloc_cell (o := .cells #[.int .i64 k, vd, va, vl, vh, vs, .int .i64 x] 104) (alloc_cell (o := .cells #[od, .slice (some ⟨g, 0, none⟩) n n] 101) hy))
  obtain ⟨q12, q10, q14, q16, q17, q18, q19⟩ : (k == 12) = false ∧ (k == 10) = false ∧ (k == 14) = false ∧ (k == 16) = false ∧ (k == 17) = false ∧ (k == 18) = false ∧ (k == 19) = false := by
    rcases hk with rfl | rfl <;> decide
  have HK := hide hk
  have hcf : ∀ (args : Array Value) (w : World), (callFunc 101 args).run Tryz.prog w = .ok (.enter 101 args) w := enters Tryz.func101 (by kernel_rfl) (by kernel_rfl)
  have HCF := hide hcf
  have HOX := hide ox
  have HOY := hide oy
  clear hx hy ix iy hrow hop hk hcf ox oy
  go_enter Tryz.func62, Tryz.ntmps62
  go_wp2_with fail
  go_region_held3 (fun w' => w'.cell? ⟨w.heap.size, 1, none⟩ = some (.slice (some ⟨g, 0, none⟩) n n) ∧ w'.cell? ⟨w.heap.size + 1, 0, none⟩ = some (.int .i64 k) ∧ w'.cell? ⟨w.heap.size + 1, 1, none⟩ = some vd ∧ w'.cell? ⟨w.heap.size + 1, 2, none⟩ = some va ∧ w'.cell? ⟨w.heap.size + 1, 3, none⟩ = some vl ∧ w'.cell? ⟨w.heap.size + 1, 4, none⟩ = some vh ∧ w'.cell? ⟨w.heap.size + 1, 5, none⟩ = some vs ∧ w'.cell? ⟨w.heap.size + 1, 6, none⟩ = some (.int .i64 x)) (refine ⟨?_, ?_, ?_, ?_, ?_, ?_, ?_, ?_⟩ <;> with_reducible (repeat (first | assumption | apply drew_cell))) ((first
    | (go_at_call 74; refine (entry_mx k x HK.out vd va vl vh vs b off cap xa n xc ya n yc _ (drew_cell HX2.out) (drew_cell HY2.out)).mono ?_; rintro e w3 ⟨⟨B1, B2, B3, rfl, hbx, hsz⟩, hb⟩; have HBX := hide hbx; have HSZ : Hid (w.heap.size ≤ B1 ∧ w.heap.size ≤ B2 ∧ w.heap.size ≤ B3) := ⟨Nat.le_trans HB2.out.size hsz.1, Nat.le_trans HB2.out.size hsz.2.1, Nat.le_trans HB2.out.size hsz.2.2⟩; have HB3 := hide (Below.on HB2.out.drew hb); have HAR3 := hide ((HAR.out.below ((Below.refl _ _).drew)).below hb); have HOP3 := hide ((HOP.out.below ((Below.refl _ _).drew)).below hb); obtain ⟨⟨r30, r31⟩, _⟩ := HAR3.out.cells; obtain ⟨o30, o31, o32, o33, o34, o35, o36⟩ := HOP3.out.cells; clear hbx hsz hb)
    | (go_at_call 73; refine (fill_any 101 #[.pointer (some ⟨B1, 0, none⟩), .pointer (some ⟨B2, 0, none⟩), .pointer (some ⟨B3, 0, none⟩)] g n (mxL k xs ys n) zs (mxL_length _ _ _ _) _ hn HCF.out (HR.out.of_block (HB3.out.block g hgl)) (fun i W hi hW => by {
        rw [mxL_at _ _ _ _ _ hi]
        have hs := HSZ.out
        exact ent3_mx k HK.out i B1 B2 B3 xa n xc xs ya n yc ys W ((hW.1 B1 (by omega)).trans HBX.out.1) ((hW.1 B2 (by omega)).trans HBX.out.2.1) ((hW.1 B3 (by omega)).trans HBX.out.2.2) (hW.ints (HIX.out.below HB3.out) HOX.out) (hW.ints (HIY.out.below HB3.out) HOY.out) hi hi })).mono ?_; rintro e w4 ⟨rfl, hr4, hbut, h04⟩; have H04 := hide h04; have HR4 := hide hr4; have HBU := hide hbut; have HAR4 : Hid (ArrAt w4 w.heap.size _ _) := (HBU.out.1 w.heap.size (by omega)).trans HAR3.out; have HOP4 : Hid (OpAt w4 (w.heap.size + 1) _ _ _ _ _ _ _) := (HBU.out.1 (w.heap.size + 1) (by omega)).trans HOP3.out; obtain ⟨⟨r40, r41⟩, _⟩ := HAR4.out.cells; obtain ⟨o40, o41, o42, o43, o44, o45, o46⟩ := HOP4.out.cells; clear hr4 hbut h04)))
  all_goals go_wp2
  all_goals exact bodyPost_end (v := .tuple #[]) (by simp [results, Tryz.results62, go_sem]) rfl ⟨rfl, HR4.out, Save.of_below HB3.out HBU.out H04.out⟩

end Go.Proofs.YtoabffmiedbkkaaGreat.V
