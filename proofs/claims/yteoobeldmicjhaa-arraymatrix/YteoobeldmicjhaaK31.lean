/-
  Contracts: array.entry and array.work of what looks at an array through a view. Contract: the closure of array.dot. Contract: array.side.laid.
-/
import Derived.Test.YteoobeldmicjhaaK30
import Derived.Test.YteoobeldmicjhaaK23
import Derived.Test.YteoobeldmicjhaaK2
import Derived.Test.YteoobeldmicjhaaK24
import Derived.Test.YteoobeldmicjhaaK22
namespace Go.Proofs.Yteoobeldmicjhaa.V
open Go.RowKit

theorem Looks.mono {w W : World} {c0 c1 : Value} {Q : List Int} {e : Ending} {w' : World} (h : Looks W c0 c1 Q e w') (hs : w.heap.size ≤ W.heap.size) : Looks w c0 c1 Q e w' := by
  obtain ⟨B1, B2, P, p, c, h1, h2, h3, h4⟩ := h
  exact ⟨B1, B2, P, p, c, h1, h2, ⟨Nat.le_trans hs h3.1, Nat.le_trans hs h3.2⟩, fun b o e => Nat.le_trans hs (h4 b o e)⟩

set_option maxRecDepth 100000 in
set_option maxHeartbeats 4000000 in
theorem entry_look (k x : Int) (hk : k = 9 ∨ k = 11 ∨ k = 13 ∨ k = 15) (vd va vl vh vs : Value) (b off m cap : Nat) (c0 c1 : Value) (Q : List Int) (w : World) (hm : 0 < m)
    (h0 : w.cell? ⟨b, off, none⟩ = some c0) (h1 : w.cell? ⟨b, off + 1, none⟩ = some c1)
    (hlook : ∀ W, Below w.heap.size w W → Calls Try.prog 49 #[.agg #[.int .i64 k, vd, va, vl, vh, vs, .int .i64 x], .agg #[c0, c1]] W fun e W' => Looks W c0 c1 Q e W' ∧ Below W.heap.size W W') :
    Calls Try.prog 24 #[.agg #[.int .i64 k, vd, va, vl, vh, vs, .int .i64 x], .slice (some ⟨b, off, none⟩) m cap] w fun e w' => Looks w c0 c1 Q e w' ∧ Below w.heap.size w w' := by
  have HB1 := hide ((Below.refl w.heap.size w).alloc (Nat.le_refl _) (.cells #[.int .i64 k, vd, va, vl, vh, vs, .int .i64 x] 30))
  have HOP := hide (OpAt.new w k vd va vl vh vs x)
  obtain ⟨o0, o1, o2, o3, o4, o5, o6⟩ := HOP.out.cells
  have a0 := alloc_cell (o := .cells #[.int .i64 k, vd, va, vl, vh, vs, .int .i64 x] 30) h0
  have a1 := alloc_cell (o := .cells #[.int .i64 k, vd, va, vl, vh, vs, .int .i64 x] 30) h1
  have HLK := hide (hlook _ HB1.out.drew)
  have i0 : (0 : Int) < (m : Int) := by omega
  clear h0 h1 hlook
  rcases hk with rfl | rfl | rfl | rfl
  all_goals go_enter Try.func24, Try.ntmps24
  all_goals go_wp2_with fail
  all_goals go_region_with (go_at_call 49; refine HLK.out.mono ?_; rintro e w2 ⟨hlk, hb⟩; have HL2 := hide (hlk.mono HB1.out.size); have HB2 := hide (Below.on HB1.out.drew hb); obtain ⟨B1, B2, P, p, c, rfl, _⟩ := hlk; clear hb)
  all_goals go_wp2
  all_goals go_ret
  all_goals exact ⟨HL2.out, HB2.out⟩

/-- What is looked at. -/
def lookL (xs Q : List Int) : List Int := Q.map fun q => xs[q.toNat]?.getD 0
theorem lookL_length (xs Q : List Int) : (lookL xs Q).length = Q.length := by simp [lookL]
theorem lookL_at (xs Q : List Int) (i : Nat) (h : i < Q.length) : (lookL xs Q)[i]?.getD 0 = xs[(Q[i]?.getD 0).toNat]?.getD 0 := by simp [lookL, h]
theorem lookL_bd {xs Q : List Int} (hb : ∀ x ∈ xs, -9223372036854775808 ≤ x ∧ x ≤ 9223372036854775807) : ∀ y ∈ lookL xs Q, -9223372036854775808 ≤ y ∧ y ≤ 9223372036854775807 := by
  intro y hy
  simp only [lookL, List.mem_map] at hy
  obtain ⟨q, _, rfl⟩ := hy
  by_cases h : q.toNat < xs.length
  · exact hb _ (mem_getD xs _ h)
  · simp [List.getElem?_eq_none (Nat.le_of_not_lt h)]

set_option maxRecDepth 100000 in
set_option maxHeartbeats 4000000 in
theorem work_look (k x : Int) (hk : k = 9 ∨ k = 11 ∨ k = 13 ∨ k = 15) (vd va vl vh vs : Value) (Z : Option Addr) (nz cz g n : Nat) (b off m cap : Nat) (c0 : Value) (xa : Option Addr) (xl xc : Nat) (xs Q : List Int) (w : World) (hm : 0 < m)
    (h0 : w.cell? ⟨b, off, none⟩ = some c0) (h1 : w.cell? ⟨b, off + 1, none⟩ = some (.slice xa xl xc)) (ix : Ints w xa xl xs) (ox : OffG g xa) (hrow : w.rowIs g 2 n (fun _ => .int .i64 0)) (hn : n ≤ 9223372036854775807)
    (hQ : Q.length = n) (hq : ∀ i, i < n → 0 ≤ Q[i]?.getD 0 ∧ Q[i]?.getD 0 < xl)
    (hlook : ∀ W, Below w.heap.size w W → Calls Try.prog 49 #[.agg #[.int .i64 k, vd, va, vl, vh, vs, .int .i64 x], .agg #[c0, .slice xa xl xc]] W fun e W' => Looks W c0 (.slice xa xl xc) Q e W' ∧ Below W.heap.size W W') :
    Calls Try.prog 14 #[.agg #[.slice Z nz cz, .slice (some ⟨g, 0, none⟩) n n], .agg #[.int .i64 k, vd, va, vl, vh, vs, .int .i64 x], .slice (some ⟨b, off, none⟩) m cap] w fun e w' => e = .returned (.tuple #[]) ∧ w'.rowIs g 2 n (fun j => .int .i64 ((lookL xs Q)[j]?.getD 0)) ∧ Save g w w' := by
  have hgl : g < w.heap.size := hrow.lt
  have HIX := hide ix
  have HR := hide hrow
  have HQ := hide hQ
  have HQB := hide hq
  have HB1 := hide ((Below.refl w.heap.size w).alloc (Nat.le_refl _) (.cells #[.slice Z nz cz, .slice (some ⟨g, 0, none⟩) n n] 25))
  have HB2 := hide (HB1.out.alloc HB1.out.size (.cells #[.int .i64 k, vd, va, vl, vh, vs, .int .i64 x] 30))
  have HAR := hide ((ArrAt.new w (.slice Z nz cz) (.slice (some ⟨g, 0, none⟩) n n)).alloc (.cells #[.int .i64 k, vd, va, vl, vh, vs, .int .i64 x] 30))
  have hop := OpAt.new (w.alloc (.cells #[.slice Z nz cz, .slice (some ⟨g, 0, none⟩) n n] 25)) k vd va vl vh vs x
  simp only [World.size_alloc] at hop
  have HOP := hide hop
  obtain ⟨⟨r0, r1⟩, _⟩ := HAR.out.cells
  obtain ⟨o0, o1, o2, o3, o4, o5, o6⟩ := HOP.out.cells
  have HEN := hide (entry_look k x hk vd va vl vh vs b off m cap c0 (.slice xa xl xc) Q _ hm (drew_cell (alloc_cell (o := .cells #[.int .i64 k, vd, va, vl, vh, vs, .int .i64 x] 30) (alloc_cell (o := .cells #[.slice Z nz cz, .slice (some ⟨g, 0, none⟩) n n] 25) h0))) (drew_cell (alloc_cell (o := .cells #[.int .i64 k, vd, va, vl, vh, vs, .int .i64 x] 30) (alloc_cell (o := .cells #[.slice Z nz cz, .slice (some ⟨g, 0, none⟩) n n] 25) h1))) (fun W hW => hlook W (Below.trans (HB2.out.drew) (hW.mono HB2.out.size))))
  obtain ⟨q12, q10, q14, q16, q17, q18, q19⟩ : (k == 12) = false ∧ (k == 10) = false ∧ (k == 14) = false ∧ (k == 16) = false ∧ (k == 17) = false ∧ (k == 18) = false ∧ (k == 19) = false := by
    rcases hk with rfl | rfl | rfl | rfl <;> decide
  have hcf : ∀ (args : Array Value) (w : World), (callFunc 70 args).run Try.prog w = .ok (.enter 70 args) w := enters Try.func70 (by kernel_rfl) (by kernel_rfl)
  have HCF := hide hcf
  have HOX := hide ox
  clear h0 h1 ix hrow hop hk hcf ox hlook hQ hq
  go_enter Try.func14, Try.ntmps14
  go_wp2_with fail
  go_region_held3 (fun w' => w'.cell? ⟨w.heap.size, 1, none⟩ = some (.slice (some ⟨g, 0, none⟩) n n) ∧ w'.cell? ⟨w.heap.size + 1, 0, none⟩ = some (.int .i64 k) ∧ w'.cell? ⟨w.heap.size + 1, 1, none⟩ = some vd ∧ w'.cell? ⟨w.heap.size + 1, 2, none⟩ = some va ∧ w'.cell? ⟨w.heap.size + 1, 3, none⟩ = some vl ∧ w'.cell? ⟨w.heap.size + 1, 4, none⟩ = some vh ∧ w'.cell? ⟨w.heap.size + 1, 5, none⟩ = some vs ∧ w'.cell? ⟨w.heap.size + 1, 6, none⟩ = some (.int .i64 x)) (refine ⟨?_, ?_, ?_, ?_, ?_, ?_, ?_, ?_⟩ <;> with_reducible (repeat (first | assumption | apply drew_cell))) ((first
    | (go_at_call 24; refine HEN.out.mono ?_; rintro e w3 ⟨⟨B1, B2, P, p, c, rfl, hbx, hsz, hfar⟩, hb⟩; have HBX := hide hbx; have HFA : Hid (Far w.heap.size P) := fun b o e => Nat.le_trans HB2.out.size (hfar b o e); have HSZ : Hid (w.heap.size ≤ B1 ∧ w.heap.size ≤ B2) := ⟨Nat.le_trans HB2.out.size hsz.1, Nat.le_trans HB2.out.size hsz.2⟩; have HB3 := hide (Below.on HB2.out.drew hb); have HAR3 := hide ((HAR.out.below ((Below.refl _ _).drew)).below hb); have HOP3 := hide ((HOP.out.below ((Below.refl _ _).drew)).below hb); obtain ⟨⟨r30, r31⟩, _⟩ := HAR3.out.cells; obtain ⟨o30, o31, o32, o33, o34, o35, o36⟩ := HOP3.out.cells; clear hbx hsz hb hfar)
    | (go_at_call 23; refine (fill_any 70 #[.pointer (some ⟨B1, 0, none⟩), .pointer (some ⟨B2, 0, none⟩)] g n (lookL xs Q) [] ((lookL_length _ _).trans HQ.out) _ hn HCF.out ((HR.out.of_block (HB3.out.block g hgl)).congr (fun j _ => by simp [onWay])) (fun i W hi hW => by {
        have hql : i < Q.length := by rw [HQ.out]; exact hi
        rw [lookL_at _ _ _ hql]
        have hs := HSZ.out
        have hqb := HQB.out i hi
        have hip := hW.ints HBX.out.2.2 (fun b' o' e' => by have := HFA.out b' o' e'; omega)
        exact look1_any i B1 B2 c0 xa xl xc xs P p c Q W ((hW.1 B1 (by omega)).trans HBX.out.1) ((hW.1 B2 (by omega)).trans HBX.out.2.1) (hW.ints (HIX.out.below HB3.out) HOX.out) hip (by rw [← hip.1]; exact hql) hqb.1 hqb.2 })).mono ?_; rintro e w4 ⟨rfl, hr4, hbut, h04⟩; have H04 := hide h04; have HR4 := hide (onWay_all hr4); have HBU := hide hbut; have HAR4 : Hid (ArrAt w4 w.heap.size _ _) := (HBU.out.1 w.heap.size (by omega)).trans HAR3.out; have HOP4 : Hid (OpAt w4 (w.heap.size + 1) _ _ _ _ _ _ _) := (HBU.out.1 (w.heap.size + 1) (by omega)).trans HOP3.out; obtain ⟨⟨r40, r41⟩, _⟩ := HAR4.out.cells; obtain ⟨o40, o41, o42, o43, o44, o45, o46⟩ := HOP4.out.cells; clear hr4 hbut h04)))
  all_goals go_wp2
  all_goals exact bodyPost_end (v := .tuple #[]) (by simp [results, Try.results14, go_sem]) rfl ⟨rfl, HR4.out, Save.of_below HB3.out HBU.out H04.out⟩
end Go.Proofs.Yteoobeldmicjhaa.V
namespace Go.Proofs.Yteoobeldmicjhaa.V
open Go.RowKit

theorem wr_nat (n : Nat) (h : n ≤ 9223372036854775807) : wrap64 (n : Int) = (n : Int) := by
  rw [w64, wrap_in _ (by omega) (by omega)]
theorem wr_div (i c : Nat) (h : i ≤ 65536) : wrap64 ((i : Int) / (c : Int)) = ((i / c : Nat) : Int) := by
  rw [← Int.natCast_ediv]
  exact wr_nat _ (Nat.le_trans (Nat.div_le_self _ _) (by omega))
theorem wr_mul (a b : Nat) (h : a * b ≤ 9223372036854775807) : wrap64 ((a : Int) * (b : Int)) = ((a * b : Nat) : Int) := by
  rw [← Int.natCast_mul]
  exact wr_nat _ h
theorem wr_mul1 (a b : Nat) (h : a * b + b ≤ 9223372036854775807) : wrap64 (((a : Int) + 1) * (b : Int)) = ((a * b + b : Nat) : Int) := by
  rw [Int.add_mul, Int.one_mul, ← Int.natCast_mul, ← Int.natCast_add]
  exact wr_nat _ h
set_option maxRecDepth 100000 in
set_option maxHeartbeats 4000000 in
theorem dot1_any (i r t u col rl cl long cols rows : Nat) (Bc Br Bx Bl By : Nat) (bx ox lenx xc : Nat) (x : List Int) (bY oy leny yc : Nat) (y : List Int) (w : World)
    (c1 : Boxed w Bc 3 (.int .i64 cols)) (c2 : Boxed w Br 3 (.int .i64 rows)) (c3 : Boxed w Bx 23 (.slice (some ⟨bx, ox, none⟩) lenx xc)) (c4 : Boxed w Bl 3 (.int .i64 long)) (c5 : Boxed w By 23 (.slice (some ⟨bY, oy, none⟩) leny yc))
    (hx : Ints w (some ⟨bx, ox, none⟩) lenx x) (hy : Ints w (some ⟨bY, oy, none⟩) leny y) (hxc : lenx ≤ xc) (hyc : leny ≤ yc) (hX : xc ≤ 9223372036854775807) (hY : yc ≤ 9223372036854775807)
    (hc0 : 0 < cols) (hr0 : 0 < rows) (hr : r = i / cols) (ht : t = r / rows) (hu : u = i % cols) (hcol : col = t * cols + u) (hrl : rl = r * long) (hcl : cl = col * long) (hi : i ≤ 65536) (b1 : rl + long ≤ lenx) (b2 : cl + long ≤ leny) (h5 : col ≤ 65536) (h6 : cols ≤ 65536) (h7 : rows ≤ 65536) (h8 : lenx ≤ 65536) (h9 : leny ≤ 65536) :
    Calls Try.prog 46 #[.int .i64 i, .pointer (some ⟨Bc, 0, none⟩), .pointer (some ⟨Br, 0, none⟩), .pointer (some ⟨Bx, 0, none⟩), .pointer (some ⟨Bl, 0, none⟩), .pointer (some ⟨By, 0, none⟩)] w fun e w' => e = .returned (.int .i64 (innS (sub x rl long) (sub y cl long) long)) ∧ w'.heap = w.heap ∧ Below 0 w w' := by
  have HX := hide (ints_sub hx rl long b1)
  have HY := hide (ints_sub hy cl long b2)
  have k1 := c1.cell
  have k2 := c2.cell
  have k3 := c3.cell
  have k4 := c4.cell
  have k5 := c5.cell
  obtain ⟨tc, htc⟩ : ∃ tc, tc = t * cols := ⟨_, rfl⟩
  have HTC := hide htc
  have HRR := hide hr
  have HTT := hide ht
  have HUU := hide hu
  have HCO : Hid (col = tc + u) := by rw [Hid, htc]; exact hcol
  have HRL := hide hrl
  have HCL := hide hcl
  have hr6 : r ≤ i := by rw [hr]; exact Nat.div_le_self _ _
  have hu6 : u < cols := by rw [hu]; exact Nat.mod_lt _ hc0
  clear hr ht hu hcol hrl hcl htc
  have htc6 : tc ≤ 65536 := Nat.le_trans (Nat.le_add_right tc u) (HCO.out ▸ h5)
  have htl : t * cols ≤ 9223372036854775807 := HTC.out ▸ (by omega)
  have hrb : r * long ≤ 9223372036854775807 := HRL.out ▸ (by omega)
  have hrb2 : r * long + long ≤ 9223372036854775807 := HRL.out ▸ (by omega)
  have hcb : col * long ≤ 9223372036854775807 := HCL.out ▸ (by omega)
  have hcb2 : col * long + long ≤ 9223372036854775807 := HCL.out ▸ (by omega)
  have hu7 : u ≤ 9223372036854775807 := by omega
  have HE1 : Hid (wrap64 ((i : Int) / (cols : Int)) = (r : Int)) := HRR.out ▸ wr_div i cols hi
  have HE2 : Hid (wrap64 ((r : Int) / (rows : Int)) = (t : Int)) := HTT.out ▸ wr_div r rows (Nat.le_trans hr6 hi)
  have HE3 : Hid (wrap64 ((t : Int) * (cols : Int)) = (tc : Int)) := HTC.out ▸ wr_mul t cols htl
  have HE4 : Hid ((i : Int) % (cols : Int) = (u : Int)) := HUU.out ▸ (Int.natCast_emod i cols).symm
  have HE4' : Hid (wrap64 (u : Int) = (u : Int)) := wr_nat u hu7
  have HE6 : Hid (wrap64 ((r : Int) * (long : Int)) = (rl : Int)) := HRL.out ▸ wr_mul r long hrb
  have HE7 : Hid (wrap64 (((r : Int) + 1) * (long : Int)) = ((rl + long : Nat) : Int)) := HRL.out ▸ wr_mul1 r long hrb2
  have HE8 : Hid (wrap64 ((col : Int) * (long : Int)) = (cl : Int)) := HCL.out ▸ wr_mul col long hcb
  have HE9 : Hid (wrap64 (((col : Int) + 1) * (long : Int)) = ((cl + long : Nat) : Int)) := HCL.out ▸ wr_mul1 col long hcb2
  have HE5 : Hid ((tc : Int) + (u : Int) = (col : Int)) := HCO.out ▸ (Int.natCast_add tc u).symm
  have HE5' : Hid (wrap64 (col : Int) = (col : Int)) := wr_nat col (by omega)
  clear htl hrb hrb2 hcb hcb2 hu7
  have n1 : (cols : Int) ≠ 0 := by omega
  have n2 : (rows : Int) ≠ 0 := by omega
  clear c1 c2 c3 c4 c5 hx hy
  have HBB := hide (And.intro b1 (And.intro b2 (And.intro hxc (And.intro hyc (And.intro hX (And.intro hY (And.intro h8 h9)))))))
  clear b1 b2 hxc hyc hX hY h8 h9 h7 hc0 hr0
  go_enter Try.func46, Try.ntmps46
  go_wp2_with fail
  simp only [HE1.out]
  go_cut [9] (fun v wc => v = .int .i64 col ∧ ∃ nq, wc = w.drewN nq)
  case first =>
    go_quiet (fail)
    all_goals go_wp2
    all_goals go_meet
    all_goals exact ⟨by rw [HE2.out, HE3.out, HE4.out, HE5.out, HE5'.out], nq, rfl⟩
  case rest =>
    obtain ⟨rfl, nq, rfl⟩ := hcut
    have k3' := (below_drewN _ nq).cell (p := ⟨Bx, 0, none⟩) (lt_of_cell k3) |>.trans k3
    have k4' := (below_drewN _ nq).cell (p := ⟨Bl, 0, none⟩) (lt_of_cell k4) |>.trans k4
    have k5' := (below_drewN _ nq).cell (p := ⟨By, 0, none⟩) (lt_of_cell k5) |>.trans k5
    obtain ⟨b1, b2, hxc, hyc, hX, hY, h8, h9⟩ := HBB.out
    clear n1 n2 k1 k2
    have e6 : IntKind.i64.wrap ((r : Int) * (long : Int)) = (rl : Int) := by rw [← w64]; exact HE6.out
    have e7 : IntKind.i64.wrap (((r : Int) + 1) * (long : Int)) = (rl : Int) + (long : Int) := by rw [← w64, HE7.out]; simp
    have e8 : IntKind.i64.wrap ((col : Int) * (long : Int)) = (cl : Int) := by rw [← w64]; exact HE8.out
    have e9 : IntKind.i64.wrap (((col : Int) + 1) * (long : Int)) = (cl : Int) + (long : Int) := by rw [← w64, HE9.out]; simp
    have e10 : IntKind.i64.wrap ((r : Int) + 1) = (r : Int) + 1 := by rw [wrap_in _ (by omega) (by omega)]
    have e11 : IntKind.i64.wrap ((col : Int) + 1) = (col : Int) + 1 := by rw [wrap_in _ (by omega) (by omega)]
    have HBX : Hid (rl + long ≤ xc) := Nat.le_trans b1 hxc
    have HBY : Hid (cl + long ≤ yc) := Nat.le_trans b2 hyc
    have j1 : (rl : Int) ≤ (rl : Int) + (long : Int) := by omega
    have j2 : (rl : Int) + (long : Int) ≤ (xc : Int) := by omega
    have j3 : (cl : Int) ≤ (cl : Int) + (long : Int) := by omega
    have j4 : (cl : Int) + (long : Int) ≤ (yc : Int) := by omega
    have j5 : (0 : Int) ≤ (rl : Int) := Int.natCast_nonneg _
    have j6 : (0 : Int) ≤ (cl : Int) := Int.natCast_nonneg _
    clear k3' k4' k5' hr6 hu6 htc6 b1 b2 hxc hyc h8 h9 hi h6
    go_wp2_with fail
    go_quiet ((go_at_call 47; refine (inner_any _ long _ (sub x rl long) _ long _ (sub y cl long) _ ((ints_if HX.out HBX.out).below (below_drewN _ _)) ((ints_if HY.out HBY.out).below (below_drewN _ _)) (Nat.le_refl _)).mono ?_; rintro e w' ⟨rfl, rfl⟩; exact ⟨rfl, _, rfl⟩))
    all_goals go_wp2
    all_goals go_ret
    all_goals exact ⟨rfl, rfl, below_drewN 0 _⟩
end Go.Proofs.Yteoobeldmicjhaa.V
namespace Go.Proofs.Yteoobeldmicjhaa.V
open Go.RowKit

/-- A Turn that may be asked. -/
theorem seen11 (da : Option Addr) (dl dc : Nat) (ds : List Int) (X : Option Addr) (k c : Nat) (ps : List Int) (W : World) (hd : Ints W da dl ds) (hp : Ints W X k ps) (hz : sizeE ds = 0) (ht : turnE 0 ds (stepsV ds) ps = 0) :
    Calls Try.prog 29 #[.agg #[.int .i64 11, .slice none 0 0, .slice X k c, .slice none 0 0, .slice none 0 0, .slice none 0 0, .int .i64 0], .slice da dl dc] W fun e W' => Seen 0 (taken ds ps) (taken (stepsV ds) ps) e W' ∧ Below W.heap.size W W' := by
  refine (seen_turn 11 0 da dl dc ds none 0 0 [] X k c ps none 0 0 [] none 0 0 [] none 0 0 [] W hd (ints_nil W) hp (ints_nil W) (ints_nil W) (ints_nil W) hz rfl).mono ?_
  rintro e W' ⟨⟨a, b, c', d, f, g, rfl, h1, h2, _⟩, hb⟩
  rw [ht] at h1 h2 ⊢
  exact ⟨⟨a, b, c', d, f, g, 0, rfl, h1, h2⟩, hb⟩

set_option maxRecDepth 100000 in
set_option maxHeartbeats 4000000 in
theorem laid_any (la : Option Addr) (ll lc : Nat) (lo : List Int) (ga : Option Addr) (gl gc : Nat) (fr : List Int) (pa : Option Addr) (pl pc : Nat) (ps : List Int) (da : Option Addr) (dl dc : Nat) (ds : List Int) (xa : Option Addr) (n xc : Nat) (xs Q : List Int) (w : World)
    (hlo : Lst w la ll lc lo) (hfr : Lst w ga gl gc fr) (hps : Lst w pa pl pc ps) (hd : Ints w da dl ds) (hx : Ints w xa n xs) (hn : n ≤ 65536) (h6 : ll + gl + pl ≤ 6) (hz : sizeE ds = 0) (ht : turnE 0 ds (stepsV ds) (lo ++ fr ++ ps) = 0)
    (hQ : Q = readsV 0 (taken ds (lo ++ fr ++ ps)) (taken (stepsV ds) (lo ++ fr ++ ps))) (hw : wrongE 0 (taken ds (lo ++ fr ++ ps)) (taken (stepsV ds) (lo ++ fr ++ ps)) = 0) (hql : Q.length = n) (hqb : ∀ i, i < n → 0 ≤ Q[i]?.getD 0 ∧ Q[i]?.getD 0 < n) :
    Calls Try.prog 44 #[.agg #[.slice la ll lc, .slice ga gl gc, .slice pa pl pc], .agg #[.slice da dl dc, .slice xa n xc]] w fun e w' => (∃ G, e = .returned (.slice (some ⟨G, 0, none⟩) n n) ∧ Ints w' (some ⟨G, 0, none⟩) n (lookL xs Q) ∧ w.heap.size ≤ G) ∧ Below w.heap.size w w' := by
  have HB1 := (Below.refl w.heap.size w).alloc (Nat.le_refl _) (.cells #[.slice la ll lc, .slice ga gl gc, .slice pa pl pc] 75)
  have HB2 := HB1.alloc HB1.size (.cells #[.slice da dl dc, .slice xa n xc] 25)
  have HB3 := hide (HB2.alloc HB2.size (.cells #[.slice la ll lc, .slice ga gl gc, .slice pa pl pc] 22))
  have s1 := (SideAt.new w (.slice la ll lc) (.slice ga gl gc) (.slice pa pl pc)).alloc (.cells #[.slice da dl dc, .slice xa n xc] 25)
  have a1 := ArrAt.new (w.alloc (.cells #[.slice la ll lc, .slice ga gl gc, .slice pa pl pc] 75)) (.slice da dl dc) (.slice xa n xc)
  simp only [World.size_alloc] at a1
  obtain ⟨⟨q0, q1, q2⟩, _⟩ := s1.cells
  have HAR := hide (a1.alloc (.cells #[.slice la ll lc, .slice ga gl gc, .slice pa pl pc] 22))
  have HLS := hide (lsts_three (hlo.below HB2) (hfr.below HB2) (hps.below HB2) 22 (B := w.heap.size + 1 + 1) (by simp))
  have hfl : [lo, fr, ps].flatten = lo ++ fr ++ ps := by simp
  have HLL : Hid ((lo ++ fr ++ ps).length = ll + gl + pl) := by rw [Hid, List.length_append, List.length_append, hlo.1.1, hfr.1.1, hps.1.1]
  have hch := chain_any _ 3 3 [lo, fr, ps] _ HLS.out (by rw [hfl, HLL.out]; omega) (by
    rw [hfl]
    intro y hy
    rcases List.mem_append.1 hy with hy | hy
    · rcases List.mem_append.1 hy with hy | hy
      · exact hlo.1.2.2.1 y hy
      · exact hfr.1.2.2.1 y hy
    · exact hps.1.2.2.1 y hy)
  rw [hfl] at hch
  have HCH := hide hch
  have HD := hide hd
  have HX := hide hx
  have HZ := hide hz
  have HT := hide ht
  have HQ := hide hQ
  have HWR := hide hw
  have HQL := hide hql
  have HQB := hide hqb
  have HXB := hide hx.2.2.1
  have hmk := run_make_row' (P := Try.prog) 23 2 (.int .i64 0) 8 Try.underlying23 info_int64 rfl .i64 .i64 n (by omega) (by omega)
  have hcf : ∀ (args : Array Value) (w : World), (callFunc 70 args).run Try.prog w = .ok (.enter 70 args) w := enters Try.func70 (by kernel_rfl) (by kernel_rfl)
  have HCF := hide hcf
  clear hlo hfr hps hd hx hz ht hQ hw hql hqb hch hcf a1 s1 HB1 HB2 hfl
  go_enter Try.func44, Try.ntmps44
  go_wp2_with (first
    | (go_at_call 59; refine HCH.out.mono ?_; rintro e w1 ⟨⟨v1, rfl, X, k, c, rfl, hl1, _⟩, hb⟩; have HB4 := hide (Below.on HB3.out hb); have HAR4 := hide (HAR.out.below hb); have HL1 := hide hl1; have HOP5 := hide ((OpAt.new w1 11 (.slice none 0 0) (.slice X k c) (.slice none 0 0) (.slice none 0 0) (.slice none 0 0) 0).alloc (.cells (madeCells #[.int .i64 0] n) 2)); have HAR5 := hide ((HAR4.out.alloc (.cells #[.int .i64 11, .slice none 0 0, .slice X k c, .slice none 0 0, .slice none 0 0, .slice none 0 0, .int .i64 0] 30)).alloc (.cells (madeCells #[.int .i64 0] n) 2)); have HAR6 := hide (HAR4.out.alloc (.cells #[.int .i64 11, .slice none 0 0, .slice X k c, .slice none 0 0, .slice none 0 0, .slice none 0 0, .int .i64 0] 30)); have HB6 := hide (HB4.out.alloc HB4.out.size (.cells #[.int .i64 11, .slice none 0 0, .slice X k c, .slice none 0 0, .slice none 0 0, .slice none 0 0, .int .i64 0] 30)); have HB5 := hide (HB6.out.alloc HB6.out.size (.cells (madeCells #[.int .i64 0] n) 2)); obtain ⟨o0, o1, o2, o3, o4, o5, o6⟩ := HOP5.out.cells; obtain ⟨⟨a0, a1⟩, _⟩ := HAR5.out.cells; obtain ⟨⟨b0, b1⟩, _⟩ := HAR6.out.cells; clear hl1 hb q0 q1 q2)
    | (go_at_call 49; refine (lookedAt_gen 11 0 (.slice none 0 0) (.slice X k c) (.slice none 0 0) (.slice none 0 0) (.slice none 0 0) da dl dc (.slice xa n xc) 0 (taken ds (lo ++ fr ++ ps)) (taken (stepsV ds) (lo ++ fr ++ ps)) _ (fun W hW => seen11 da dl dc ds X k c (lo ++ fr ++ ps) W (HD.out.below (Below.trans HB5.out (hW.mono HB5.out.size))) ((HL1.out.1.below (((Below.refl _ _).alloc (Nat.le_refl _) (.cells #[.int .i64 11, .slice none 0 0, .slice X k c, .slice none 0 0, .slice none 0 0, .slice none 0 0, .int .i64 0] 30)).alloc (by simp) (.cells (madeCells #[.int .i64 0] n) 2))).below hW) HZ.out HT.out) HWR.out).mono ?_; rintro e w3 ⟨⟨B1, B2, P, p, cc, rfl, hbx, hsz, hfar⟩, hb⟩; have HBX := hide hbx; have HSZ := hide hsz; have HFA := hide hfar; have HB7 := hide (Below.on HB5.out hb); have hr0 := World.rowIs_made (w1.alloc (.cells #[.int .i64 11, .slice none 0 0, .slice X k c, .slice none 0 0, .slice none 0 0, .slice none 0 0, .int .i64 0] 30)) (.int .i64 0) n 2; simp only [World.size_alloc] at hr0; have HR0 := hide (hr0.of_block (hb.block _ (by simp))); have hs3 := hb.size; simp only [World.size_alloc] at hs3; have HS3 := hide hs3; clear hbx hsz hfar hb hr0 hs3 o0 o1 o2 o3 o4 o5 o6 a0 a1 b0 b1)
    | (go_at_call 23; refine (fill_any 70 #[.pointer (some ⟨B1, 0, none⟩), .pointer (some ⟨B2, 0, none⟩)] (w1.heap.size + 1) n (lookL xs Q) [] ((lookL_length _ _).trans HQL.out) _ (by omega) HCF.out (HR0.out.congr (fun j _ => by simp [onWay])) (fun i W hi hW => by {
        have hql : i < Q.length := by rw [HQL.out]; exact hi
        rw [lookL_at _ _ _ hql]
        have hs := HSZ.out
        simp only [World.size_alloc] at hs
        have hqb := HQB.out i hi
        have hbx := HBX.out
        rw [← HQ.out] at hbx
        have hip := hW.ints hbx.2.2 (fun b' o' e' => by have := HFA.out b' o' e'; simp only [World.size_alloc] at this; omega)
        have hxo : OffG (w1.heap.size + 1) xa := fun b' o' e' => by {
          obtain ⟨bb, oo, e2, hbb, _⟩ := HX.out.at (by omega)
          rw [e'] at e2; cases e2
          have := HB4.out.size
          omega }
        exact look1_any i B1 B2 (.slice da dl dc) xa n xc xs P p cc Q W ((hW.1 B1 (by omega)).trans hbx.1) ((hW.1 B2 (by omega)).trans hbx.2.1) (hW.ints (HX.out.below HB7.out) hxo) hip (by rw [← hip.1]; exact hql) hqb.1 hqb.2 })).mono ?_; rintro e w4 ⟨rfl, hr4, hbut, h04⟩; have HR4 := hide (onWay_all hr4); have HSV := hide (Save.of_below HB7.out hbut h04); clear hr4 hbut h04))
  go_ret
  have hs4 := HB4.out.size
  refine ⟨⟨w1.heap.size + 1, rfl, ⟨(lookL_length _ _).trans HQL.out, by omega, lookL_bd HXB.out, .inr ⟨_, _, rfl, fun j hj => by rw [Nat.zero_add]; exact HR4.out.cell hj⟩⟩, by omega⟩, Save.below (Below.refl _ _) HSV.out (by omega) (Nat.le_refl _)⟩
end Go.Proofs.Yteoobeldmicjhaa.V
