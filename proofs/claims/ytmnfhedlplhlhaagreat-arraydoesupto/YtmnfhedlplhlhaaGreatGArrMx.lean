/-
  Contracts: array.ofTwo, entry and work, of Max and Less.
-/
import Derived.Test.YtmnfhedlplhlhaaGreatGArrWork
import Derived.Test.YtmnfhedlplhlhaaGreatGArrDotF
namespace Go.Proofs.YtmnfhedlplhlhaaGreat.V
set_option maxRecDepth 20000
open Go.RowKit

/-- What Max and Less make of two numbers. -/
def mxV (k a b : Int) : Int := if k = 6 then (if a < b then b else a) else (if a < b then 1 else 0)
def mxF (k : Int) : Nat := if k = 6 then 99 else 100
theorem mx_any (k a b : Int) (hk : k = 6 ∨ k = 7) (w : World) : Calls Tryz.prog (mxF k) #[.int .i64 a, .int .i64 b] w fun e w' => e = .returned (.int .i64 (mxV k a b)) ∧ w' = w := by
  rcases hk with rfl | rfl
  · show Calls Tryz.prog 99 _ _ _
    have hv : mxV 6 a b = if a < b then b else a := rfl
    rw [hv]
    go_enter Tryz.func99, Tryz.ntmps99
    go_wp2
    all_goals go_ret
    all_goals exact ⟨rfl, rfl⟩
  · show Calls Tryz.prog 100 _ _ _
    have hv : mxV 7 a b = if a < b then 1 else 0 := rfl
    rw [hv]
    by_cases c : a < b
    · have q : decide (a < b) = true := by simp [c]
      rw [if_pos c]
      clear c hv
      go_enter Tryz.func100, Tryz.ntmps100
      go_wp2
      go_ret
      exact ⟨rfl, rfl⟩
    · have q : decide (a < b) = false := by simp; omega
      rw [if_neg c]
      clear c hv
      go_enter Tryz.func100, Tryz.ntmps100
      go_wp2
      go_ret
      exact ⟨rfl, rfl⟩
theorem ofTwo_mx (k : Int) (hk : k = 6 ∨ k = 7) (w : World) : Calls Tryz.prog 75 #[.int .i64 k] w fun e w' => e = .returned (.func (Fn.func (mxF k)) #[] #[]) ∧ w' = w := by
  rcases hk with rfl | rfl
  all_goals
    go_enter Tryz.func75, Tryz.ntmps75
    go_wp2
    go_ret
    exact ⟨rfl, rfl⟩

set_option maxRecDepth 100000 in
set_option maxHeartbeats 4000000 in
theorem entry_mx (k x : Int) (hk : k = 6 ∨ k = 7) (vd va vl vh vs : Value) (b off cap : Nat) (xa : Option Addr) (n xc : Nat) (ya : Option Addr) (m yc : Nat) (w : World)
    (hx : w.cell? ⟨b, off + 1, none⟩ = some (.slice xa n xc)) (hy : w.cell? ⟨b, off + 3, none⟩ = some (.slice ya m yc)) :
    Calls Tryz.prog 36 #[.agg #[.int .i64 k, vd, va, vl, vh, vs, .int .i64 x], .slice (some ⟨b, off, none⟩) 2 cap] w fun e w' =>
      (∃ B1 B2 B3, e = .returned (.func (Fn.func 76) #[] #[.pointer (some ⟨B1, 0, none⟩), .pointer (some ⟨B2, 0, none⟩), .pointer (some ⟨B3, 0, none⟩)]) ∧
        (Boxed w' B1 98 (.func (Fn.func (mxF k)) #[] #[]) ∧ Boxed w' B2 26 (.slice xa n xc) ∧ Boxed w' B3 26 (.slice ya m yc)) ∧ w.heap.size ≤ B1 ∧ w.heap.size ≤ B2 ∧ w.heap.size ≤ B3) ∧ Below w.heap.size w w' := by
  have HOP := hide (OpAt.new w k vd va vl vh vs x)
  have HB1 := hide ((Below.refl w.heap.size w).alloc (Nat.le_refl _) (.cells #[.int .i64 k, vd, va, vl, vh, vs, .int .i64 x] 24))
  obtain ⟨o0, o1, o2, o3, o4, o5, o6⟩ := HOP.out.cells
  have hx1 := alloc_cell (o := .cells #[.int .i64 k, vd, va, vl, vh, vs, .int .i64 x] 24) hx
  have hy1 := alloc_cell (o := .cells #[.int .i64 k, vd, va, vl, vh, vs, .int .i64 x] 24) hy
  have hbl : b < w.heap.size := lt_of_cell hx
  obtain ⟨q2, q9, q11, q13, q15, q8⟩ : (k == 2) = false ∧ (k == 9) = false ∧ (k == 11) = false ∧ (k == 13) = false ∧ (k == 15) = false ∧ (k == 8) = false := by
    rcases hk with rfl | rfl <;> decide
  have HK := hide hk
  have hWs : (w.alloc (.cells #[.int .i64 k, vd, va, vl, vh, vs, .int .i64 x] 24)).heap.size = w.heap.size + 1 := by simp
  clear hx hy hk HOP
  go_enter Tryz.func36, Tryz.ntmps36
  go_wp2_with fail
  generalize hW : w.alloc (.cells #[.int .i64 k, vd, va, vl, vh, vs, .int .i64 x] 24) = W at HB1 o0 o1 o2 o3 o4 o5 o6 hx1 hy1 hWs ⊢
  have HWS := hide hWs
  clear hW hWs
  go_cut [8, 9, 10] (fun v1 v2 v3 wc => ∃ B1 B2 B3 : Nat, v1 = .pointer (some ⟨B1, 0, none⟩) ∧ v2 = .pointer (some ⟨B2, 0, none⟩) ∧ v3 = .pointer (some ⟨B3, 0, none⟩) ∧ (Boxed wc B1 98 (.func (Fn.func (mxF k)) #[] #[]) ∧ Boxed wc B2 26 (.slice xa n xc) ∧ Boxed wc B3 26 (.slice ya m yc)) ∧ (w.heap.size ≤ B1 ∧ w.heap.size ≤ B2 ∧ w.heap.size ≤ B3) ∧ Below w.heap.size w wc)
  case first =>
    have HX1 : Hid (Boxed (((W.alloc (.cells #[.nilFunc] 98)).alloc (.cells #[.slice none 0 0] 26)).alloc (.cells #[.slice none 0 0] 26)) W.heap.size 98 .nilFunc) := ((Boxed.new W _ _).alloc _).alloc _
    have HX2 : Hid (Boxed (((W.alloc (.cells #[.func (Fn.func (mxF k)) #[] #[]] 98)).alloc (.cells #[.slice none 0 0] 26)).alloc (.cells #[.slice none 0 0] 26)) (W.heap.size + 1) 26 (.slice none 0 0)) := (boxed_new (by simp)).alloc _
    have HX3 : Hid (Boxed (((W.alloc (.cells #[.func (Fn.func (mxF k)) #[] #[]] 98)).alloc (.cells #[.slice xa n xc] 26)).alloc (.cells #[.slice none 0 0] 26)) (W.heap.size + 1 + 1) 26 (.slice none 0 0)) := boxed_new (by simp)
    have x1 := HX1.out.cell
    have f1 := HX1.out.frozen
    have x2 := HX2.out.cell
    have f2 := HX2.out.frozen
    have x3 := HX3.out.cell
    have f3 := HX3.out.frozen
    have x1' : World.cell? ((((W.alloc (.cells #[.nilFunc] 98)).alloc (.cells #[.slice none 0 0] 26)).alloc (.cells #[.slice none 0 0] 26)).drew) ⟨W.heap.size, 0, none⟩ = _ := x1
    have f1' : World.frozen? ((((W.alloc (.cells #[.nilFunc] 98)).alloc (.cells #[.slice none 0 0] 26)).alloc (.cells #[.slice none 0 0] 26)).drew) ⟨W.heap.size, 0, none⟩ = _ := f1
    go_region_held3 (fun w' => w'.cell? ⟨w.heap.size, 0, none⟩ = some (.int .i64 k) ∧ w'.cell? ⟨b, off + 1, none⟩ = some (.slice xa n xc) ∧ w'.cell? ⟨b, off + 3, none⟩ = some (.slice ya m yc)) (refine ⟨?_, ?_, ?_⟩ <;> with_reducible (repeat (first | assumption | apply drew_cell | apply alloc_cell | (refine setc_cell ?_ ?_; rotate_left; · (simp; omega))))) ((go_at_call 75; refine (ofTwo_mx k HK.out _).mono ?_; rintro e w' ⟨rfl, hw'⟩; obtain rfl := hw'.symm))
    all_goals go_wp2
    all_goals go_meet
    all_goals refine ⟨_, _, _, rfl, rfl, rfl, ⟨?_, ?_, ?_⟩, (by have := HWS.out; omega), ?_⟩
    all_goals with_reducible (repeat (first | exact HB1.out | exact boxed_new (by simp) | refine Boxed.alloc ?_ _ | apply boxed_drew | apply bl_drew | apply bl_alloc))
  case rest =>
    obtain ⟨B1, B2, B3, rfl, rfl, rfl, hbx, hsz, hB⟩ := hcut
    have HBX := hide hbx
    have HB := hide hB
    clear hbx hB
    go_wp2
    go_ret
    exact ⟨⟨B1, B2, B3, rfl, HBX.out, hsz⟩, HB.out⟩

set_option maxRecDepth 100000 in
set_option maxHeartbeats 1000000 in
theorem ent3_mx (k : Int) (hk : k = 6 ∨ k = 7) (i B1 B2 B3 : Nat) (xa : Option Addr) (n xc : Nat) (xs : List Int) (ya : Option Addr) (m yc : Nat) (ys : List Int) (w : World)
    (h1 : Boxed w B1 98 (.func (Fn.func (mxF k)) #[] #[])) (h2 : Boxed w B2 26 (.slice xa n xc)) (h3 : Boxed w B3 26 (.slice ya m yc)) (hx : Ints w xa n xs) (hy : Ints w ya m ys) (hi : i < n) (hj : i < m) :
    Calls Tryz.prog 76 #[.int .i64 i, .pointer (some ⟨B1, 0, none⟩), .pointer (some ⟨B2, 0, none⟩), .pointer (some ⟨B3, 0, none⟩)] w fun e w' => e = .returned (.int .i64 (mxV k (xs[i]?.getD 0) (ys[i]?.getD 0))) ∧ w'.heap = w.heap ∧ Below 0 w w' := by
  have hm1 := hx.2.1
  have hm2 := hy.2.1
  obtain ⟨b, off, rfl, hb, hc⟩ := hx.at (by omega)
  obtain ⟨b', off', rfl, hb', hc'⟩ := hy.at (by omega)
  have cx := hc i hi
  have cy := hc' i hj
  obtain ⟨X, hX⟩ : ∃ X, X = xs[i]?.getD 0 := ⟨_, rfl⟩
  obtain ⟨Y, hY⟩ : ∃ Y, Y = ys[i]?.getD 0 := ⟨_, rfl⟩
  rw [← hX] at cx ⊢
  rw [← hY] at cy ⊢
  have c1 := h1.cell
  have c2 := h2.cell
  have c3 := h3.cell
  have i1 : (0 : Int) ≤ (i : Int) := Int.natCast_nonneg _
  have i2 : (i : Int) < (n : Int) := by omega
  have i3 : (i : Int) < (m : Int) := by omega
  have HCF : Hid (∀ (args : Array Value) (w : World), (callFunc (mxF k) args).run Tryz.prog w = .ok (.enter (mxF k) args) w) := by
    rcases hk with rfl | rfl
    · exact enters Tryz.func99 (by kernel_rfl) (by kernel_rfl)
    · exact enters Tryz.func100 (by kernel_rfl) (by kernel_rfl)
  have hcf := HCF.out
  have HK := hide hk
  clear hx hy hc hc' hX hY h1 h2 h3 hk hi hj
  go_enter Tryz.func76, Tryz.ntmps76
  go_wp2_with fail
  go_region_held3 (fun w' => w'.cell? ⟨B1, 0, none⟩ = some (.func (Fn.func (mxF k)) #[] #[]) ∧ w'.cell? ⟨B2, 0, none⟩ = some (.slice (some ⟨b, off, none⟩) n xc) ∧ w'.cell? ⟨B3, 0, none⟩ = some (.slice (some ⟨b', off', none⟩) m yc) ∧ w'.cell? ⟨b, off + i, none⟩ = some (.int .i64 X) ∧ w'.cell? ⟨b', off' + i, none⟩ = some (.int .i64 Y)) (refine ⟨?_, ?_, ?_, ?_, ?_⟩ <;> with_reducible (repeat (first | assumption | apply drew_cell))) ((refine (mx_any k X Y HK.out _).mono ?_; rintro e w' ⟨rfl, hw'⟩; obtain rfl := hw'.symm))
  all_goals go_wp2
  all_goals go_ret
  all_goals exact ⟨rfl, rfl, (Below.refl _ _).drew⟩

/-- What the operation makes of two rows. -/
def mxL (k : Int) (xs ys : List Int) (n : Nat) : List Int := (List.range n).map fun i => mxV k (xs[i]?.getD 0) (ys[i]?.getD 0)
theorem mxL_length (k : Int) (xs ys : List Int) (n : Nat) : (mxL k xs ys n).length = n := by simp [mxL]
theorem mxL_at (k : Int) (xs ys : List Int) (n i : Nat) (h : i < n) : (mxL k xs ys n)[i]?.getD 0 = mxV k (xs[i]?.getD 0) (ys[i]?.getD 0) := by simp [mxL, h]

set_option maxRecDepth 100000 in
set_option maxHeartbeats 4000000 in
theorem work_mx (k x : Int) (hk : k = 6 ∨ k = 7) (vd va vl vh vs od : Value) (g n : Nat) (b off cap : Nat) (xa : Option Addr) (xc : Nat) (xs : List Int) (ya : Option Addr) (yc : Nat) (ys zs : List Int) (w : World)
    (hx : w.cell? ⟨b, off + 1, none⟩ = some (.slice xa n xc)) (hy : w.cell? ⟨b, off + 3, none⟩ = some (.slice ya n yc)) (ix : Ints w xa n xs) (iy : Ints w ya n ys) (ox : OffG g xa) (oy : OffG g ya) (hrow : w.rowIs g 2 n (onWay (mxL k xs ys n) zs 0)) :
    Calls Tryz.prog 19 #[.agg #[od, .slice (some ⟨g, 0, none⟩) n n], .agg #[.int .i64 k, vd, va, vl, vh, vs, .int .i64 x], .slice (some ⟨b, off, none⟩) 2 cap] w fun e w' => e = .returned (.tuple #[]) ∧ w'.rowIs g 2 n (onWay (mxL k xs ys n) zs n) ∧ Save g w w' := by
  have hn := ix.2.1
  have hgl : g < w.heap.size := hrow.lt
  have HIX := hide ix
  have HIY := hide iy
  have HR := hide hrow
  have HB1 := hide ((Below.refl w.heap.size w).alloc (Nat.le_refl _) (.cells #[od, .slice (some ⟨g, 0, none⟩) n n] 28))
  have HB2 := hide (HB1.out.alloc HB1.out.size (.cells #[.int .i64 k, vd, va, vl, vh, vs, .int .i64 x] 24))
  have HAR := hide ((ArrAt.new w od (.slice (some ⟨g, 0, none⟩) n n)).alloc (.cells #[.int .i64 k, vd, va, vl, vh, vs, .int .i64 x] 24))
  have hop := OpAt.new (w.alloc (.cells #[od, .slice (some ⟨g, 0, none⟩) n n] 28)) k vd va vl vh vs x
  simp only [World.size_alloc] at hop
  have HOP := hide hop
  obtain ⟨⟨r0, r1⟩, _⟩ := HAR.out.cells
  obtain ⟨o0, o1, o2, o3, o4, o5, o6⟩ := HOP.out.cells
  have HX2 := hide (alloc_cell (o := .cells #[.int .i64 k, vd, va, vl, vh, vs, .int .i64 x] 24) (alloc_cell (o := .cells #[od, .slice (some ⟨g, 0, none⟩) n n] 28) hx))
  have HY2 := hide (alloc_cell (o := .cells #[.int .i64 k, vd, va, vl, vh, vs, .int .i64 x] 24) (alloc_cell (o := .cells #[od, .slice (some ⟨g, 0, none⟩) n n] 28) hy))
  obtain ⟨q12, q10, q14, q16, q17, q18, q19⟩ : (k == 12) = false ∧ (k == 10) = false ∧ (k == 14) = false ∧ (k == 16) = false ∧ (k == 17) = false ∧ (k == 18) = false ∧ (k == 19) = false := by
    rcases hk with rfl | rfl <;> decide
  have HK := hide hk
  have hcf : ∀ (args : Array Value) (w : World), (callFunc 76 args).run Tryz.prog w = .ok (.enter 76 args) w := enters Tryz.func76 (by kernel_rfl) (by kernel_rfl)
  have HCF := hide hcf
  have HOX := hide ox
  have HOY := hide oy
  clear hx hy ix iy hrow hop hk hcf ox oy
  go_enter Tryz.func19, Tryz.ntmps19
  go_wp2_with fail
  go_region_held3 (fun w' => w'.cell? ⟨w.heap.size, 1, none⟩ = some (.slice (some ⟨g, 0, none⟩) n n) ∧ w'.cell? ⟨w.heap.size + 1, 0, none⟩ = some (.int .i64 k) ∧ w'.cell? ⟨w.heap.size + 1, 1, none⟩ = some vd ∧ w'.cell? ⟨w.heap.size + 1, 2, none⟩ = some va ∧ w'.cell? ⟨w.heap.size + 1, 3, none⟩ = some vl ∧ w'.cell? ⟨w.heap.size + 1, 4, none⟩ = some vh ∧ w'.cell? ⟨w.heap.size + 1, 5, none⟩ = some vs ∧ w'.cell? ⟨w.heap.size + 1, 6, none⟩ = some (.int .i64 x)) (refine ⟨?_, ?_, ?_, ?_, ?_, ?_, ?_, ?_⟩ <;> with_reducible (repeat (first | assumption | apply drew_cell))) ((first
    | (go_at_call 36; refine (entry_mx k x HK.out vd va vl vh vs b off cap xa n xc ya n yc _ (drew_cell HX2.out) (drew_cell HY2.out)).mono ?_; rintro e w3 ⟨⟨B1, B2, B3, rfl, hbx, hsz⟩, hb⟩; have HBX := hide hbx; have HSZ : Hid (w.heap.size ≤ B1 ∧ w.heap.size ≤ B2 ∧ w.heap.size ≤ B3) := ⟨Nat.le_trans HB2.out.size hsz.1, Nat.le_trans HB2.out.size hsz.2.1, Nat.le_trans HB2.out.size hsz.2.2⟩; have HB3 := hide (Below.on HB2.out.drew hb); have HAR3 := hide ((HAR.out.below ((Below.refl _ _).drew)).below hb); have HOP3 := hide ((HOP.out.below ((Below.refl _ _).drew)).below hb); obtain ⟨⟨r30, r31⟩, _⟩ := HAR3.out.cells; obtain ⟨o30, o31, o32, o33, o34, o35, o36⟩ := HOP3.out.cells; clear hbx hsz hb)
    | (go_at_call 35; refine (fill_any 76 #[.pointer (some ⟨B1, 0, none⟩), .pointer (some ⟨B2, 0, none⟩), .pointer (some ⟨B3, 0, none⟩)] g n (mxL k xs ys n) zs (mxL_length _ _ _ _) _ hn HCF.out (HR.out.of_block (HB3.out.block g hgl)) (fun i W hi hW => by {
        rw [mxL_at _ _ _ _ _ hi]
        have hs := HSZ.out
        exact ent3_mx k HK.out i B1 B2 B3 xa n xc xs ya n yc ys W ((hW.1 B1 (by omega)).trans HBX.out.1) ((hW.1 B2 (by omega)).trans HBX.out.2.1) ((hW.1 B3 (by omega)).trans HBX.out.2.2) (hW.ints (HIX.out.below HB3.out) HOX.out) (hW.ints (HIY.out.below HB3.out) HOY.out) hi hi })).mono ?_; rintro e w4 ⟨rfl, hr4, hbut, h04⟩; have H04 := hide h04; have HR4 := hide hr4; have HBU := hide hbut; have HAR4 : Hid (ArrAt w4 w.heap.size _ _) := (HBU.out.1 w.heap.size (by omega)).trans HAR3.out; have HOP4 : Hid (OpAt w4 (w.heap.size + 1) _ _ _ _ _ _ _) := (HBU.out.1 (w.heap.size + 1) (by omega)).trans HOP3.out; obtain ⟨⟨r40, r41⟩, _⟩ := HAR4.out.cells; obtain ⟨o40, o41, o42, o43, o44, o45, o46⟩ := HOP4.out.cells; clear hr4 hbut h04)))
  all_goals go_wp2
  all_goals exact bodyPost_end (v := .tuple #[]) (by simp [results, Tryz.results19, go_sem]) rfl ⟨rfl, HR4.out, Save.of_below HB3.out HBU.out H04.out⟩

end Go.Proofs.YtmnfhedlplhlhaaGreat.V

/-
  Contracts: array.entry and work, of Pick.
-/
namespace Go.Proofs.YtmnfhedlplhlhaaGreat.V
set_option maxRecDepth 20000
open Go.RowKit

/-- What Pick makes of three rows. -/
def pickL (xs ys zs : List Int) (n : Nat) : List Int := (List.range n).map fun i => if xs[i]?.getD 0 ≠ 0 then ys[i]?.getD 0 else zs[i]?.getD 0
theorem pickL_length (xs ys zs : List Int) (n : Nat) : (pickL xs ys zs n).length = n := by simp [pickL]
theorem pickL_at (xs ys zs : List Int) (n i : Nat) (h : i < n) : (pickL xs ys zs n)[i]?.getD 0 = if xs[i]?.getD 0 ≠ 0 then ys[i]?.getD 0 else zs[i]?.getD 0 := by simp [pickL, h]

set_option maxRecDepth 100000 in
set_option maxHeartbeats 2000000 in
theorem ent2_any (i B1 B2 B3 n : Nat) (xa : Option Addr) (xc : Nat) (ya : Option Addr) (yc : Nat) (za : Option Addr) (zc : Nat) (xs ys zs : List Int) (w : World)
    (h1 : Boxed w B1 26 (.slice xa n xc)) (h2 : Boxed w B2 26 (.slice ya n yc)) (h3 : Boxed w B3 26 (.slice za n zc)) (hx : Ints w xa n xs) (hy : Ints w ya n ys) (hz : Ints w za n zs) (hi : i < n) :
    Calls Tryz.prog 74 #[.int .i64 i, .pointer (some ⟨B1, 0, none⟩), .pointer (some ⟨B2, 0, none⟩), .pointer (some ⟨B3, 0, none⟩)] w fun e w' => e = .returned (.int .i64 (if xs[i]?.getD 0 ≠ 0 then ys[i]?.getD 0 else zs[i]?.getD 0)) ∧ w'.heap = w.heap ∧ Below 0 w w' := by
  have hm1 := hx.2.1
  obtain ⟨b, off, rfl, _, hc⟩ := hx.at (by omega)
  obtain ⟨b', off', rfl, _, hc'⟩ := hy.at (by omega)
  obtain ⟨b2, off2, rfl, _, hc2⟩ := hz.at (by omega)
  have cx := hc i hi
  have cy := hc' i hi
  have cz := hc2 i hi
  generalize xs[i]?.getD 0 = X at *
  generalize ys[i]?.getD 0 = Y at *
  generalize zs[i]?.getD 0 = Z at *
  have c1 := h1.cell
  have c2 := h2.cell
  have c3 := h3.cell
  have i1 : (0 : Int) ≤ (i : Int) := Int.natCast_nonneg _
  have i2 : (i : Int) < (n : Int) := by omega
  clear hx hy hz hc hc' hc2 h1 h2 h3
  by_cases c : X = 0
  · have q : (X != 0) = false := by simp [c]
    rw [if_neg (by simp [c])]
    clear c
    go_enter Tryz.func74, Tryz.ntmps74
    go_wp2
    go_ret
    exact ⟨rfl, rfl, Below.refl _ _⟩
  · have q : (X != 0) = true := by simp [c]
    rw [if_pos (by simp [c])]
    clear c
    go_enter Tryz.func74, Tryz.ntmps74
    go_wp2
    go_ret
    exact ⟨rfl, rfl, Below.refl _ _⟩

set_option maxRecDepth 100000 in
set_option maxHeartbeats 2000000 in
theorem entry_pick (x : Int) (vd va vl vh vs : Value) (b off cap n : Nat) (xa : Option Addr) (xc : Nat) (ya : Option Addr) (yc : Nat) (za : Option Addr) (zc : Nat) (w : World)
    (h0 : w.cell? ⟨b, off + 1, none⟩ = some (.slice xa n xc)) (h1 : w.cell? ⟨b, off + 3, none⟩ = some (.slice ya n yc)) (h2 : w.cell? ⟨b, off + 5, none⟩ = some (.slice za n zc)) :
    Calls Tryz.prog 36 #[.agg #[.int .i64 8, vd, va, vl, vh, vs, .int .i64 x], .slice (some ⟨b, off, none⟩) 3 cap] w fun e w' =>
      (∃ B1 B2 B3, e = .returned (.func (Fn.func 74) #[] #[.pointer (some ⟨B1, 0, none⟩), .pointer (some ⟨B2, 0, none⟩), .pointer (some ⟨B3, 0, none⟩)]) ∧
        (Boxed w' B1 26 (.slice xa n xc) ∧ Boxed w' B2 26 (.slice ya n yc) ∧ Boxed w' B3 26 (.slice za n zc)) ∧ w.heap.size ≤ B1 ∧ w.heap.size ≤ B2 ∧ w.heap.size ≤ B3) ∧ Below w.heap.size w w' := by
  have HB1 := hide ((Below.refl w.heap.size w).alloc (Nat.le_refl _) (.cells #[.int .i64 8, vd, va, vl, vh, vs, .int .i64 x] 24))
  have HOP := hide (OpAt.new w 8 vd va vl vh vs x)
  obtain ⟨o0, o1, o2, o3, o4, o5, o6⟩ := HOP.out.cells
  have k0 := (HB1.out.cell (p := ⟨b, off + 1, none⟩) (lt_of_cell h0)).trans h0
  have k1 := (HB1.out.cell (p := ⟨b, off + 3, none⟩) (lt_of_cell h1)).trans h1
  have k2 := (HB1.out.cell (p := ⟨b, off + 5, none⟩) (lt_of_cell h2)).trans h2
  have hbl : b < w.heap.size := lt_of_cell h0
  have hWs : (w.alloc (.cells #[.int .i64 8, vd, va, vl, vh, vs, .int .i64 x] 24)).heap.size = w.heap.size + 1 := by simp
  clear h0 h1 h2 HOP
  go_enter Tryz.func36, Tryz.ntmps36
  go_wp2_with fail
  generalize hW : w.alloc (.cells #[.int .i64 8, vd, va, vl, vh, vs, .int .i64 x] 24) = W at HB1 o0 o1 o2 o3 o4 o5 o6 k0 k1 k2 hWs ⊢
  have HWS := hide hWs
  clear hW hWs
  go_cut [5, 6, 7] (fun v1 v2 v3 wc => ∃ B1 B2 B3 : Nat, v1 = .pointer (some ⟨B1, 0, none⟩) ∧ v2 = .pointer (some ⟨B2, 0, none⟩) ∧ v3 = .pointer (some ⟨B3, 0, none⟩) ∧ (Boxed wc B1 26 (.slice xa n xc) ∧ Boxed wc B2 26 (.slice ya n yc) ∧ Boxed wc B3 26 (.slice za n zc)) ∧ (w.heap.size ≤ B1 ∧ w.heap.size ≤ B2 ∧ w.heap.size ≤ B3) ∧ Below w.heap.size w wc)
  case first =>
    have HX1 : Hid (Boxed (((W.alloc (.cells #[.slice none 0 0] 26)).alloc (.cells #[.slice none 0 0] 26)).alloc (.cells #[.slice none 0 0] 26)) W.heap.size 26 (.slice none 0 0)) := ((Boxed.new W _ _).alloc _).alloc _
    have HX2 : Hid (Boxed (((W.alloc (.cells #[.slice xa n xc] 26)).alloc (.cells #[.slice none 0 0] 26)).alloc (.cells #[.slice none 0 0] 26)) (W.heap.size + 1) 26 (.slice none 0 0)) := (boxed_new (by simp)).alloc _
    have HX3 : Hid (Boxed (((W.alloc (.cells #[.slice xa n xc] 26)).alloc (.cells #[.slice ya n yc] 26)).alloc (.cells #[.slice none 0 0] 26)) (W.heap.size + 1 + 1) 26 (.slice none 0 0)) := boxed_new (by simp)
    have x1 := HX1.out.cell
    have f1 := HX1.out.frozen
    have x2 := HX2.out.cell
    have f2 := HX2.out.frozen
    have x3 := HX3.out.cell
    have f3 := HX3.out.frozen
    have x1' : World.cell? ((((W.alloc (.cells #[.slice none 0 0] 26)).alloc (.cells #[.slice none 0 0] 26)).alloc (.cells #[.slice none 0 0] 26)).drew) ⟨W.heap.size, 0, none⟩ = _ := x1
    have f1' : World.frozen? ((((W.alloc (.cells #[.slice none 0 0] 26)).alloc (.cells #[.slice none 0 0] 26)).alloc (.cells #[.slice none 0 0] 26)).drew) ⟨W.heap.size, 0, none⟩ = _ := f1
    go_region_held3 (fun w' => w'.cell? ⟨b, off + 1, none⟩ = some (.slice xa n xc) ∧ w'.cell? ⟨b, off + 3, none⟩ = some (.slice ya n yc) ∧ w'.cell? ⟨b, off + 5, none⟩ = some (.slice za n zc)) (refine ⟨?_, ?_, ?_⟩ <;> with_reducible (repeat (first | assumption | apply drew_cell | apply alloc_cell | (refine setc_cell ?_ ?_; rotate_left; · (simp; omega))))) (fail)
    all_goals go_wp2
    all_goals go_meet
    all_goals refine ⟨_, _, _, rfl, rfl, rfl, ⟨?_, ?_, ?_⟩, (by have := HWS.out; omega), ?_⟩
    all_goals with_reducible (repeat (first | exact HB1.out | exact boxed_new (by simp) | refine Boxed.alloc ?_ _ | apply boxed_drew | apply bl_drew | apply bl_alloc))
  case rest =>
    obtain ⟨B1, B2, B3, rfl, rfl, rfl, hbx, hsz, hB⟩ := hcut
    have HBX := hide hbx
    have HB := hide hB
    clear hbx hB
    go_wp2
    go_ret
    exact ⟨⟨B1, B2, B3, rfl, HBX.out, hsz⟩, HB.out⟩

set_option maxRecDepth 100000 in
set_option maxHeartbeats 2000000 in
theorem work_pick (x : Int) (vd va vl vh vs od : Value) (g n : Nat) (b off cap : Nat) (xa : Option Addr) (xc : Nat) (ya : Option Addr) (yc : Nat) (za : Option Addr) (zc : Nat) (xs ys zs ws : List Int) (w : World)
    (h0 : w.cell? ⟨b, off + 1, none⟩ = some (.slice xa n xc)) (h1 : w.cell? ⟨b, off + 3, none⟩ = some (.slice ya n yc)) (h2 : w.cell? ⟨b, off + 5, none⟩ = some (.slice za n zc)) (ix : Ints w xa n xs) (iy : Ints w ya n ys) (iz : Ints w za n zs) (ox : OffG g xa) (oy : OffG g ya) (oz : OffG g za) (hrow : w.rowIs g 2 n (onWay (pickL xs ys zs n) ws 0)) :
    Calls Tryz.prog 19 #[.agg #[od, .slice (some ⟨g, 0, none⟩) n n], .agg #[.int .i64 8, vd, va, vl, vh, vs, .int .i64 x], .slice (some ⟨b, off, none⟩) 3 cap] w fun e w' => e = .returned (.tuple #[]) ∧ w'.rowIs g 2 n (onWay (pickL xs ys zs n) ws n) ∧ Save g w w' := by
  have hn := ix.2.1
  have hgl : g < w.heap.size := hrow.lt
  have HIX := hide ix
  have HIY := hide iy
  have HIZ := hide iz
  have HR := hide hrow
  have HB1 := hide ((Below.refl w.heap.size w).alloc (Nat.le_refl _) (.cells #[od, .slice (some ⟨g, 0, none⟩) n n] 28))
  have HB2 := hide (HB1.out.alloc HB1.out.size (.cells #[.int .i64 8, vd, va, vl, vh, vs, .int .i64 x] 24))
  have HAR := hide ((ArrAt.new w od (.slice (some ⟨g, 0, none⟩) n n)).alloc (.cells #[.int .i64 8, vd, va, vl, vh, vs, .int .i64 x] 24))
  have hop := OpAt.new (w.alloc (.cells #[od, .slice (some ⟨g, 0, none⟩) n n] 28)) 8 vd va vl vh vs x
  simp only [World.size_alloc] at hop
  have HOP := hide hop
  obtain ⟨⟨r0, r1⟩, _⟩ := HAR.out.cells
  obtain ⟨o0, o1, o2, o3, o4, o5, o6⟩ := HOP.out.cells
  have k0 := (HB2.out.cell (p := ⟨b, off + 1, none⟩) (lt_of_cell h0)).trans h0
  have k1 := (HB2.out.cell (p := ⟨b, off + 3, none⟩) (lt_of_cell h1)).trans h1
  have k2 := (HB2.out.cell (p := ⟨b, off + 5, none⟩) (lt_of_cell h2)).trans h2
  have HK0 := hide k0
  have HK1 := hide k1
  have HK2 := hide k2
  have hcf : ∀ (args : Array Value) (w : World), (callFunc 74 args).run Tryz.prog w = .ok (.enter 74 args) w := enters Tryz.func74 (by kernel_rfl) (by kernel_rfl)
  have HCF := hide hcf
  have HOX := hide ox
  have HOY := hide oy
  have HOZ := hide oz
  clear h0 h1 h2 k0 k1 k2 ix iy iz hrow hop hcf ox oy oz
  go_enter Tryz.func19, Tryz.ntmps19
  go_wp2_with fail
  go_region_held3 (fun w' => w'.cell? ⟨w.heap.size, 1, none⟩ = some (.slice (some ⟨g, 0, none⟩) n n) ∧ w'.cell? ⟨w.heap.size + 1, 0, none⟩ = some (.int .i64 8) ∧ w'.cell? ⟨w.heap.size + 1, 1, none⟩ = some vd ∧ w'.cell? ⟨w.heap.size + 1, 2, none⟩ = some va ∧ w'.cell? ⟨w.heap.size + 1, 3, none⟩ = some vl ∧ w'.cell? ⟨w.heap.size + 1, 4, none⟩ = some vh ∧ w'.cell? ⟨w.heap.size + 1, 5, none⟩ = some vs ∧ w'.cell? ⟨w.heap.size + 1, 6, none⟩ = some (.int .i64 x)) (refine ⟨?_, ?_, ?_, ?_, ?_, ?_, ?_, ?_⟩ <;> with_reducible (repeat (first | assumption | apply drew_cell))) ((first
      | (go_at_call 36; refine (entry_pick x vd va vl vh vs b off cap n xa xc ya yc za zc _ (drew_cell HK0.out) (drew_cell HK1.out) (drew_cell HK2.out)).mono ?_; rintro e w3 ⟨⟨B1, B2, B3, rfl, hbx, hsz⟩, hb⟩; have HBX := hide hbx; have HSZ : Hid (w.heap.size ≤ B1 ∧ w.heap.size ≤ B2 ∧ w.heap.size ≤ B3) := ⟨Nat.le_trans HB2.out.size hsz.1, Nat.le_trans HB2.out.size hsz.2.1, Nat.le_trans HB2.out.size hsz.2.2⟩; have HB3 := hide (Below.on HB2.out.drew hb); have HAR3 := hide ((HAR.out.below ((Below.refl _ _).drew)).below hb); have HOP3 := hide ((HOP.out.below ((Below.refl _ _).drew)).below hb); obtain ⟨⟨r30, r31⟩, _⟩ := HAR3.out.cells; obtain ⟨o30, o31, o32, o33, o34, o35, o36⟩ := HOP3.out.cells; clear hbx hsz hb)
      | (go_at_call 35; refine (fill_any 74 #[.pointer (some ⟨B1, 0, none⟩), .pointer (some ⟨B2, 0, none⟩), .pointer (some ⟨B3, 0, none⟩)] g n (pickL xs ys zs n) ws (pickL_length _ _ _ _) _ hn HCF.out (HR.out.of_block (HB3.out.block g hgl)) (fun i W hi hW => by {
          rw [pickL_at _ _ _ _ _ hi]
          have hs := HSZ.out
          exact ent2_any i B1 B2 B3 n xa xc ya yc za zc xs ys zs W ((hW.1 B1 (by omega)).trans HBX.out.1) ((hW.1 B2 (by omega)).trans HBX.out.2.1) ((hW.1 B3 (by omega)).trans HBX.out.2.2) (hW.ints (HIX.out.below HB3.out) HOX.out) (hW.ints (HIY.out.below HB3.out) HOY.out) (hW.ints (HIZ.out.below HB3.out) HOZ.out) hi })).mono ?_; rintro e w4 ⟨rfl, hr4, hbut, h04⟩; have H04 := hide h04; have HR4 := hide hr4; have HBU := hide hbut; have HAR4 : Hid (ArrAt w4 w.heap.size _ _) := (HBU.out.1 w.heap.size (by omega)).trans HAR3.out; have HOP4 : Hid (OpAt w4 (w.heap.size + 1) _ _ _ _ _ _ _) := (HBU.out.1 (w.heap.size + 1) (by omega)).trans HOP3.out; obtain ⟨⟨r40, r41⟩, _⟩ := HAR4.out.cells; obtain ⟨o40, o41, o42, o43, o44, o45, o46⟩ := HOP4.out.cells; clear hr4 hbut h04)))
  all_goals go_wp2
  all_goals exact bodyPost_end (v := .tuple #[]) (by simp [results, Tryz.results19, go_sem]) rfl ⟨rfl, HR4.out, Save.of_below HB3.out HBU.out H04.out⟩
end Go.Proofs.YtmnfhedlplhlhaaGreat.V
