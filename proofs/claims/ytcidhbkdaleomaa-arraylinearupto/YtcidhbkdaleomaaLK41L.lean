/-
  Contract: the closure of array.dot. Contract: array.side.laid. Contract: array.dot. Contract: array.work of Dot, over what dot does.
-/
import Derived.Test.YtcidhbkdaleomaaLK36L
import Derived.Test.YtcidhbkdaleomaaLK35L
import Derived.Test.YtcidhbkdaleomaaLArrSubs
import Derived.Test.YtcidhbkdaleomaaK25
import Derived.Test.YtcidhbkdaleomaaK23
import Derived.Test.YtcidhbkdaleomaaLK38L
namespace Go.Proofs.Ytcidhbkdaleomaa.V
set_option maxRecDepth 20000
open Go.RowKit

theorem wr_nat (n : Nat) (h : n ≤ 9223372036854775807) : wrap64 (n : Int) = (n : Int) := by
  rw [w64, wrap_in _ (by omega) (by omega)]
theorem wr_div (i c : Nat) (h : i ≤ 65536) : wrap64 ((i : Int) / (c : Int)) = ((i / c : Nat) : Int) := by
  rw [← Int.natCast_ediv]
  exact wr_nat _ (Nat.le_trans (Nat.div_le_self _ _) (by omega))
theorem wr_mul (a b : Nat) (h : a * b ≤ 9223372036854775807) : wrap64 ((a : Int) * (b : Int)) = ((a * b : Nat) : Int) := by
  rw [← Int.natCast_mul]
  exact wr_nat _ h
theorem wr_mul1 (a b : Nat) (h : a * b + b ≤ 9223372036854775807) : wrap64 (((a : Int) + 1) * (b : Int)) = ((a * b + b : Nat) : Int) := by
  rw [Int.add_mul, Int.one_mul, ← Int.natCast_mul, ← Int.natCast_add]
  exact wr_nat _ h
set_option maxRecDepth 100000 in
set_option maxHeartbeats 4000000 in
theorem dot1_any (i r t u col rl cl long cols rows : Nat) (Bc Br Bx Bl By : Nat) (bx ox lenx xc : Nat) (x : List Int) (bY oy leny yc : Nat) (y : List Int) (w : World)
    (c1 : Boxed w Bc 3 (.int .i64 cols)) (c2 : Boxed w Br 3 (.int .i64 rows)) (c3 : Boxed w Bx 26 (.slice (some ⟨bx, ox, none⟩) lenx xc)) (c4 : Boxed w Bl 3 (.int .i64 long)) (c5 : Boxed w By 26 (.slice (some ⟨bY, oy, none⟩) leny yc))
    (hx : Ints w (some ⟨bx, ox, none⟩) lenx x) (hy : Ints w (some ⟨bY, oy, none⟩) leny y) (hxc : lenx ≤ xc) (hyc : leny ≤ yc) (hX : xc ≤ 9223372036854775807) (hY : yc ≤ 9223372036854775807)
    (hc0 : 0 < cols) (hr0 : 0 < rows) (hr : r = i / cols) (ht : t = r / rows) (hu : u = i % cols) (hcol : col = t * cols + u) (hrl : rl = r * long) (hcl : cl = col * long) (hi : i ≤ 65536) (b1 : rl + long ≤ lenx) (b2 : cl + long ≤ leny) (h5 : col ≤ 65536) (h6 : cols ≤ 65536) (h7 : rows ≤ 65536) (h8 : lenx ≤ 65536) (h9 : leny ≤ 65536) :
    Calls Try.prog 89 #[.int .i64 i, .pointer (some ⟨Bc, 0, none⟩), .pointer (some ⟨Br, 0, none⟩), .pointer (some ⟨Bx, 0, none⟩), .pointer (some ⟨Bl, 0, none⟩), .pointer (some ⟨By, 0, none⟩)] w fun e w' => e = .returned (.int .i64 (innS (sub x rl long) (sub y cl long) long)) ∧ w'.heap = w.heap ∧ Below 0 w w' := by
  have HX := hide (ints_sub hx rl long b1)
  have HY := hide (ints_sub hy cl long b2)
  have k1 := c1.cell
  have k2 := c2.cell
  have k3 := c3.cell
  have k4 := c4.cell
  have k5 := c5.cell
  obtain ⟨tc, htc⟩ : ∃ tc, tc = t * cols := ⟨_, rfl⟩
  have HTC := hide htc
  have HRR := hide hr
  have HTT := hide ht
  have HUU := hide hu
  have HCO : Hid (col = tc + u) := by rw [Hid, htc]; exact hcol
  have HRL := hide hrl
  have HCL := hide hcl
  have hr6 : r ≤ i := by rw [hr]; exact Nat.div_le_self _ _
  have hu6 : u < cols := by rw [hu]; exact Nat.mod_lt _ hc0
  clear hr ht hu hcol hrl hcl htc
  have htc6 : tc ≤ 65536 := Nat.le_trans (Nat.le_add_right tc u) (HCO.out ▸ h5)
  have htl : t * cols ≤ 9223372036854775807 := HTC.out ▸ (by omega)
  have hrb : r * long ≤ 9223372036854775807 := HRL.out ▸ (by omega)
  have hrb2 : r * long + long ≤ 9223372036854775807 := HRL.out ▸ (by omega)
  have hcb : col * long ≤ 9223372036854775807 := HCL.out ▸ (by omega)
  have hcb2 : col * long + long ≤ 9223372036854775807 := HCL.out ▸ (by omega)
  have hu7 : u ≤ 9223372036854775807 := by omega
  have HE1 : Hid (wrap64 ((i : Int) / (cols : Int)) = (r : Int)) := HRR.out ▸ wr_div i cols hi
  have HE2 : Hid (wrap64 ((r : Int) / (rows : Int)) = (t : Int)) := HTT.out ▸ wr_div r rows (Nat.le_trans hr6 hi)
  have HE3 : Hid (wrap64 ((t : Int) * (cols : Int)) = (tc : Int)) := HTC.out ▸ wr_mul t cols htl
  have HE4 : Hid ((i : Int) % (cols : Int) = (u : Int)) := HUU.out ▸ (Int.natCast_emod i cols).symm
  have HE4' : Hid (wrap64 (u : Int) = (u : Int)) := wr_nat u hu7
  have HE6 : Hid (wrap64 ((r : Int) * (long : Int)) = (rl : Int)) := HRL.out ▸ wr_mul r long hrb
  have HE7 : Hid (wrap64 (((r : Int) + 1) * (long : Int)) = ((rl + long : Nat) : Int)) := HRL.out ▸ wr_mul1 r long hrb2
  have HE8 : Hid (wrap64 ((col : Int) * (long : Int)) = (cl : Int)) := HCL.out ▸ wr_mul col long hcb
  have HE9 : Hid (wrap64 (((col : Int) + 1) * (long : Int)) = ((cl + long : Nat) : Int)) := HCL.out ▸ wr_mul1 col long hcb2
  have HE5 : Hid ((tc : Int) + (u : Int) = (col : Int)) := HCO.out ▸ (Int.natCast_add tc u).symm
  have HE5' : Hid (wrap64 (col : Int) = (col : Int)) := wr_nat col (by omega)
  clear htl hrb hrb2 hcb hcb2 hu7
  have n1 : (cols : Int) ≠ 0 := by omega
  have n2 : (rows : Int) ≠ 0 := by omega
  clear c1 c2 c3 c4 c5 hx hy
  have HBB := hide (And.intro b1 (And.intro b2 (And.intro hxc (And.intro hyc (And.intro hX (And.intro hY (And.intro h8 h9)))))))
  clear b1 b2 hxc hyc hX hY h8 h9 h7 hc0 hr0
  go_enter Try.func89, Try.ntmps89
  go_wp2_with fail
  simp only [HE1.out]
  go_cut [9] (fun v wc => v = .int .i64 col ∧ ∃ nq, wc = w.drewN nq)
  case first =>
    go_quiet (fail)
    all_goals go_wp2
    all_goals go_meet
    all_goals exact ⟨by rw [HE2.out, HE3.out, HE4.out, HE5.out, HE5'.out], nq, rfl⟩
  case rest =>
    obtain ⟨rfl, nq, rfl⟩ := hcut
    have k3' := (below_drewN _ nq).cell (p := ⟨Bx, 0, none⟩) (lt_of_cell k3) |>.trans k3
    have k4' := (below_drewN _ nq).cell (p := ⟨Bl, 0, none⟩) (lt_of_cell k4) |>.trans k4
    have k5' := (below_drewN _ nq).cell (p := ⟨By, 0, none⟩) (lt_of_cell k5) |>.trans k5
    obtain ⟨b1, b2, hxc, hyc, hX, hY, h8, h9⟩ := HBB.out
    clear n1 n2 k1 k2
    have e6 : IntKind.i64.wrap ((r : Int) * (long : Int)) = (rl : Int) := by rw [← w64]; exact HE6.out
    have e7 : IntKind.i64.wrap (((r : Int) + 1) * (long : Int)) = (rl : Int) + (long : Int) := by rw [← w64, HE7.out]; simp
    have e8 : IntKind.i64.wrap ((col : Int) * (long : Int)) = (cl : Int) := by rw [← w64]; exact HE8.out
    have e9 : IntKind.i64.wrap (((col : Int) + 1) * (long : Int)) = (cl : Int) + (long : Int) := by rw [← w64, HE9.out]; simp
    have e10 : IntKind.i64.wrap ((r : Int) + 1) = (r : Int) + 1 := by rw [wrap_in _ (by omega) (by omega)]
    have e11 : IntKind.i64.wrap ((col : Int) + 1) = (col : Int) + 1 := by rw [wrap_in _ (by omega) (by omega)]
    have HBX : Hid (rl + long ≤ xc) := Nat.le_trans b1 hxc
    have HBY : Hid (cl + long ≤ yc) := Nat.le_trans b2 hyc
    have j1 : (rl : Int) ≤ (rl : Int) + (long : Int) := by omega
    have j2 : (rl : Int) + (long : Int) ≤ (xc : Int) := by omega
    have j3 : (cl : Int) ≤ (cl : Int) + (long : Int) := by omega
    have j4 : (cl : Int) + (long : Int) ≤ (yc : Int) := by omega
    have j5 : (0 : Int) ≤ (rl : Int) := Int.natCast_nonneg _
    have j6 : (0 : Int) ≤ (cl : Int) := Int.natCast_nonneg _
    clear k3' k4' k5' hr6 hu6 htc6 b1 b2 hxc hyc h8 h9 hi h6
    go_wp2_with fail
    go_quiet ((go_at_call 90; refine (inner_any _ long _ (sub x rl long) _ long _ (sub y cl long) _ ((ints_if HX.out HBX.out).below (below_drewN _ _)) ((ints_if HY.out HBY.out).below (below_drewN _ _)) (Nat.le_refl _)).mono ?_; rintro e w' ⟨rfl, rfl⟩; exact ⟨rfl, _, rfl⟩))
    all_goals go_wp2
    all_goals go_ret
    all_goals exact ⟨rfl, rfl, below_drewN 0 _⟩
end Go.Proofs.Ytcidhbkdaleomaa.V
namespace Go.Proofs.Ytcidhbkdaleomaa.V
set_option maxRecDepth 20000
open Go.RowKit

/-- A Turn that may be asked. -/
theorem seen11 (da : Option Addr) (dl dc : Nat) (ds : List Int) (X : Option Addr) (k c : Nat) (ps : List Int) (W : World) (hd : Ints W da dl ds) (hp : Ints W X k ps) (hz : sizeE ds = 0) (ht : turnE 0 ds (stepsV ds) ps = 0) :
    Calls Try.prog 41 #[.agg #[.int .i64 11, .slice none 0 0, .slice X k c, .slice none 0 0, .slice none 0 0, .slice none 0 0, .int .i64 0], .slice da dl dc] W fun e W' => Seen 0 (taken ds ps) (taken (stepsV ds) ps) e W' ∧ Below W.heap.size W W' := by
  refine (seen_turn 11 0 da dl dc ds none 0 0 [] X k c ps none 0 0 [] none 0 0 [] none 0 0 [] W hd (ints_nil W) hp (ints_nil W) (ints_nil W) (ints_nil W) hz rfl).mono ?_
  rintro e W' ⟨⟨a, b, c', d, f, g, rfl, h1, h2, _⟩, hb⟩
  rw [ht] at h1 h2 ⊢
  exact ⟨⟨a, b, c', d, f, g, 0, rfl, h1, h2⟩, hb⟩

set_option maxRecDepth 100000 in
set_option maxHeartbeats 4000000 in
theorem laid_any (la : Option Addr) (ll lc : Nat) (lo : List Int) (ga : Option Addr) (gl gc : Nat) (fr : List Int) (pa : Option Addr) (pl pc : Nat) (ps : List Int) (da : Option Addr) (dl dc : Nat) (ds : List Int) (xa : Option Addr) (n xc : Nat) (xs Q : List Int) (w : World)
    (hlo : Lst w la ll lc lo) (hfr : Lst w ga gl gc fr) (hps : Lst w pa pl pc ps) (hd : Ints w da dl ds) (hx : Ints w xa n xs) (hn : n ≤ 65536) (h6 : ll + gl + pl ≤ 6) (hz : sizeE ds = 0) (ht : turnE 0 ds (stepsV ds) (lo ++ fr ++ ps) = 0)
    (hQ : Q = readsV 0 (taken ds (lo ++ fr ++ ps)) (taken (stepsV ds) (lo ++ fr ++ ps))) (hw : wrongE 0 (taken ds (lo ++ fr ++ ps)) (taken (stepsV ds) (lo ++ fr ++ ps)) = 0) (hql : Q.length = n) (hqb : ∀ i, i < n → 0 ≤ Q[i]?.getD 0 ∧ Q[i]?.getD 0 < n) :
    Calls Try.prog 88 #[.agg #[.slice la ll lc, .slice ga gl gc, .slice pa pl pc], .agg #[.slice da dl dc, .slice xa n xc]] w fun e w' => (∃ G, e = .returned (.slice (some ⟨G, 0, none⟩) n n) ∧ Ints w' (some ⟨G, 0, none⟩) n (lookL xs Q) ∧ w.heap.size ≤ G) ∧ Below w.heap.size w w' := by
  have HB1 := (Below.refl w.heap.size w).alloc (Nat.le_refl _) (.cells #[.slice la ll lc, .slice ga gl gc, .slice pa pl pc] 90)
  have HB2 := HB1.alloc HB1.size (.cells #[.slice da dl dc, .slice xa n xc] 28)
  have HB3 := hide (HB2.alloc HB2.size (.cells #[.slice la ll lc, .slice ga gl gc, .slice pa pl pc] 22))
  have s1 := (SideAt.new w (.slice la ll lc) (.slice ga gl gc) (.slice pa pl pc)).alloc (.cells #[.slice da dl dc, .slice xa n xc] 28)
  have a1 := ArrAt.new (w.alloc (.cells #[.slice la ll lc, .slice ga gl gc, .slice pa pl pc] 90)) (.slice da dl dc) (.slice xa n xc)
  simp only [World.size_alloc] at a1
  obtain ⟨⟨q0, q1, q2⟩, _⟩ := s1.cells
  have HAR := hide (a1.alloc (.cells #[.slice la ll lc, .slice ga gl gc, .slice pa pl pc] 22))
  have HLS := hide (lsts_three (hlo.below HB2) (hfr.below HB2) (hps.below HB2) 22 (B := w.heap.size + 1 + 1) (by simp))
  have hfl : [lo, fr, ps].flatten = lo ++ fr ++ ps := by simp
  have HLL : Hid ((lo ++ fr ++ ps).length = ll + gl + pl) := by rw [Hid, List.length_append, List.length_append, hlo.1.1, hfr.1.1, hps.1.1]
  have hch := chain_any _ 3 3 [lo, fr, ps] _ HLS.out (by rw [hfl, HLL.out]; omega) (by
    rw [hfl]
    intro y hy
    rcases List.mem_append.1 hy with hy | hy
    · rcases List.mem_append.1 hy with hy | hy
      · exact hlo.1.2.2.1 y hy
      · exact hfr.1.2.2.1 y hy
    · exact hps.1.2.2.1 y hy)
  rw [hfl] at hch
  have HCH := hide hch
  have HD := hide hd
  have HX := hide hx
  have HZ := hide hz
  have HT := hide ht
  have HQ := hide hQ
  have HWR := hide hw
  have HQL := hide hql
  have HQB := hide hqb
  have HXB := hide hx.2.2.1
  have hmk := run_make_row' (P := Try.prog) 26 2 (.int .i64 0) 8 Try.underlying26 info_int64 rfl .i64 .i64 n (by omega) (by omega)
  have hcf : ∀ (args : Array Value) (w : World), (callFunc 109 args).run Try.prog w = .ok (.enter 109 args) w := enters Try.func109 (by kernel_rfl) (by kernel_rfl)
  have HCF := hide hcf
  clear hlo hfr hps hd hx hz ht hQ hw hql hqb hch hcf a1 s1 HB1 HB2 hfl
  go_enter Try.func88, Try.ntmps88
  go_wp2_with (first
    | (go_at_call 78; refine HCH.out.mono ?_; rintro e w1 ⟨⟨v1, rfl, X, k, c, rfl, hl1, _⟩, hb⟩; have HB4 := hide (Below.on HB3.out hb); have HAR4 := hide (HAR.out.below hb); have HL1 := hide hl1; have HOP5 := hide ((OpAt.new w1 11 (.slice none 0 0) (.slice X k c) (.slice none 0 0) (.slice none 0 0) (.slice none 0 0) 0).alloc (.cells (madeCells #[.int .i64 0] n) 2)); have HAR5 := hide ((HAR4.out.alloc (.cells #[.int .i64 11, .slice none 0 0, .slice X k c, .slice none 0 0, .slice none 0 0, .slice none 0 0, .int .i64 0] 24)).alloc (.cells (madeCells #[.int .i64 0] n) 2)); have HAR6 := hide (HAR4.out.alloc (.cells #[.int .i64 11, .slice none 0 0, .slice X k c, .slice none 0 0, .slice none 0 0, .slice none 0 0, .int .i64 0] 24)); have HB6 := hide (HB4.out.alloc HB4.out.size (.cells #[.int .i64 11, .slice none 0 0, .slice X k c, .slice none 0 0, .slice none 0 0, .slice none 0 0, .int .i64 0] 24)); have HB5 := hide (HB6.out.alloc HB6.out.size (.cells (madeCells #[.int .i64 0] n) 2)); obtain ⟨o0, o1, o2, o3, o4, o5, o6⟩ := HOP5.out.cells; obtain ⟨⟨a0, a1⟩, _⟩ := HAR5.out.cells; obtain ⟨⟨b0, b1⟩, _⟩ := HAR6.out.cells; clear hl1 hb q0 q1 q2)
    | (go_at_call 92; refine (lookedAt_gen 11 0 (.slice none 0 0) (.slice X k c) (.slice none 0 0) (.slice none 0 0) (.slice none 0 0) da dl dc (.slice xa n xc) 0 (taken ds (lo ++ fr ++ ps)) (taken (stepsV ds) (lo ++ fr ++ ps)) _ (fun W hW => seen11 da dl dc ds X k c (lo ++ fr ++ ps) W (HD.out.below (Below.trans HB5.out (hW.mono HB5.out.size))) ((HL1.out.1.below (((Below.refl _ _).alloc (Nat.le_refl _) (.cells #[.int .i64 11, .slice none 0 0, .slice X k c, .slice none 0 0, .slice none 0 0, .slice none 0 0, .int .i64 0] 24)).alloc (by simp) (.cells (madeCells #[.int .i64 0] n) 2))).below hW) HZ.out HT.out) HWR.out).mono ?_; rintro e w3 ⟨⟨B1, B2, P, p, cc, rfl, hbx, hsz, hfar⟩, hb⟩; have HBX := hide hbx; have HSZ := hide hsz; have HFA := hide hfar; have HB7 := hide (Below.on HB5.out hb); have hr0 := World.rowIs_made (w1.alloc (.cells #[.int .i64 11, .slice none 0 0, .slice X k c, .slice none 0 0, .slice none 0 0, .slice none 0 0, .int .i64 0] 24)) (.int .i64 0) n 2; simp only [World.size_alloc] at hr0; have HR0 := hide (hr0.of_block (hb.block _ (by simp))); have hs3 := hb.size; simp only [World.size_alloc] at hs3; have HS3 := hide hs3; clear hbx hsz hfar hb hr0 hs3 o0 o1 o2 o3 o4 o5 o6 a0 a1 b0 b1)
    | (go_at_call 66; refine (fill_any 109 #[.pointer (some ⟨B1, 0, none⟩), .pointer (some ⟨B2, 0, none⟩)] (w1.heap.size + 1) n (lookL xs Q) [] ((lookL_length _ _).trans HQL.out) _ (by omega) HCF.out (HR0.out.congr (fun j _ => by simp [onWay])) (fun i W hi hW => by {
        have hql : i < Q.length := by rw [HQL.out]; exact hi
        rw [lookL_at _ _ _ hql]
        have hs := HSZ.out
        simp only [World.size_alloc] at hs
        have hqb := HQB.out i hi
        have hbx := HBX.out
        rw [← HQ.out] at hbx
        have hip := hW.ints hbx.2.2 (fun b' o' e' => by have := HFA.out b' o' e'; simp only [World.size_alloc] at this; omega)
        have hxo : OffG (w1.heap.size + 1) xa := fun b' o' e' => by {
          obtain ⟨bb, oo, e2, hbb, _⟩ := HX.out.at (by omega)
          rw [e'] at e2; cases e2
          have := HB4.out.size
          omega }
        exact look1_any i B1 B2 (.slice da dl dc) xa n xc xs P p cc Q W ((hW.1 B1 (by omega)).trans hbx.1) ((hW.1 B2 (by omega)).trans hbx.2.1) (hW.ints (HX.out.below HB7.out) hxo) hip (by rw [← hip.1]; exact hql) hqb.1 hqb.2 })).mono ?_; rintro e w4 ⟨rfl, hr4, hbut, h04⟩; have HR4 := hide (onWay_all hr4); have HSV := hide (Save.of_below HB7.out hbut h04); clear hr4 hbut h04))
  go_ret
  have hs4 := HB4.out.size
  refine ⟨⟨w1.heap.size + 1, rfl, ⟨(lookL_length _ _).trans HQL.out, by omega, lookL_bd HXB.out, .inr ⟨_, _, rfl, fun j hj => by rw [Nat.zero_add]; exact HR4.out.cell hj⟩⟩, by omega⟩, Save.below (Below.refl _ _) HSV.out (by omega) (Nat.le_refl _)⟩
end Go.Proofs.Ytcidhbkdaleomaa.V
namespace Go.Proofs.Ytcidhbkdaleomaa.V
set_option maxRecDepth 20000
open Go.RowKit

/-- New numbers. -/
def fInts (N n : Nat) (xs : List Int) : Fact := ⟨fun v w => ∃ G, v = .slice (some ⟨G, 0, none⟩) n n ∧ Ints w (some ⟨G, 0, none⟩) n xs ∧ N ≤ G, false⟩
theorem fInts_good (N n : Nat) (xs : List Int) : (fInts N n xs).Good := ⟨fun _ _ _ ⟨G, h1, h2, h3⟩ hb => ⟨G, h1, h2.below hb, h3⟩, fun h => by cases h⟩
/-- A new variable. -/
def fBox (N : Nat) (t : TypeId) (z : Value) : Fact := ⟨fun v w => ∃ C, v = .pointer (some ⟨C, 0, none⟩) ∧ Boxed w C t z ∧ N ≤ C, true⟩
theorem fBox_good (N : Nat) (t : TypeId) (z : Value) : (fBox N t z).Good := ⟨fun _ _ _ ⟨C, h1, h2, h3⟩ hb => ⟨C, h1, Boxed.below h2 hb, h3⟩, fun _ v w b ⟨C, h1, h2, h3⟩ hb => by
  rw [h1] at hb
  simp only [blk, Option.some.injEq] at hb
  rw [← hb]
  exact Boxed.lt h2⟩

/-- A list of numbers. -/
def fList (xs : List Int) : Fact := ⟨fun v w => ∃ X n c, v = .slice X n c ∧ Ints w X n xs, false⟩
theorem fList_good (xs : List Int) : (fList xs).Good := ⟨fun _ _ _ ⟨X, n, c, h1, h2⟩ hb => ⟨X, n, c, h1, h2.below hb⟩, fun h => by cases h⟩
theorem ints_box {w : World} {G n C : Nat} {xs : List Int} {t : TypeId} {z : Value} (h : Ints w (some ⟨G, 0, none⟩) n xs) (hb : Boxed w C t z) (hz : ∀ k i, z ≠ .int k i) (u : Value) : Ints (w.setCell ⟨C, 0, none⟩ u) (some ⟨G, 0, none⟩) n xs := by
  obtain ⟨h1, h2, h3, h4⟩ := h
  refine ⟨h1, h2, h3, ?_⟩
  by_cases h0 : n = 0
  · exact .inl h0
  · rcases h4 with h4 | ⟨b, off, e, hc⟩
    · exact .inl h4
    · cases e
      have hne : G ≠ C := by
        intro e
        subst e
        have h5 := hc 0 (by omega)
        rw [Nat.add_zero, hb.cell] at h5
        exact hz _ _ (Option.some.inj h5)
      exact .inr ⟨_, _, rfl, fun j hj => setc_cell (hc j hj) hne⟩
/-- What a Dot puts. -/
def dotF (x y : List Int) (long rows cols n : Nat) : List Int := (List.range n).map fun i => innS (sub x (i / cols * long) long) (sub y ((i / cols / rows * cols + i % cols) * long) long) long
theorem dotF_at (x y : List Int) (long rows cols n i : Nat) (h : i < n) : (dotF x y long rows cols n)[i]?.getD 0 = innS (sub x (i / cols * long) long) (sub y ((i / cols / rows * cols + i % cols) * long) long) long := by simp [dotF, h]
theorem dotF_length (x y : List Int) (long rows cols n : Nat) : (dotF x y long rows cols n).length = n := by simp [dotF]

set_option maxRecDepth 100000 in
set_option maxHeartbeats 4000000 in
theorem dot_any (k x : Int) (vd : Value) (pa : Option Addr) (pl pc : Nat) (ps : List Int) (la : Option Addr) (ll lc : Nat) (lo : List Int) (ha : Option Addr) (hl hc : Nat) (hi : List Int) (ta : Option Addr) (tl tc : Nat) (st : List Int) (da : Option Addr) (dl dc : Nat) (ds : List Int) (xa : Option Addr) (n1 xc : Nat) (xs : List Int) (ea : Option Addr) (el ec : Nat) (es : List Int) (ya : Option Addr) (n2 yc : Nat) (ys : List Int) (Q1 Q2 : List Int) (long rows cols g n : Nat) (w : World)
    (hp : Lst w pa pl pc ps) (hlo : Lst w la ll lc lo) (hhi : Lst w ha hl hc hi) (hst : Lst w ta tl tc st) (hd : Ints w da dl ds) (he : Ints w ea el es) (hx : Ints w xa n1 xs) (hy : Ints w ya n2 ys) (hz1 : sizeE ds = 0) (hz2 : sizeE es = 0) (hn1 : n1 ≤ 65536) (hn2 : n2 ≤ 65536) (hn : n ≤ 65536) (hdB : dotB ps st lo hi ds es = true)
    (ht1 : turnE 0 ds (stepsV ds) (lo ++ freeL (lo ++ ps) ds.length ++ ps) = 0) (hQ1 : Q1 = readsV 0 (taken ds (lo ++ freeL (lo ++ ps) ds.length ++ ps)) (taken (stepsV ds) (lo ++ freeL (lo ++ ps) ds.length ++ ps))) (hw1 : wrongE 0 (taken ds (lo ++ freeL (lo ++ ps) ds.length ++ ps)) (taken (stepsV ds) (lo ++ freeL (lo ++ ps) ds.length ++ ps)) = 0) (hql1 : Q1.length = n1) (hqb1 : ∀ i, i < n1 → 0 ≤ Q1[i]?.getD 0 ∧ Q1[i]?.getD 0 < n1) (hs1 : lo.length + (freeL (lo ++ ps) ds.length).length + ps.length ≤ 6)
    (ht2 : turnE 0 es (stepsV es) (hi ++ freeL (hi ++ st) es.length ++ st) = 0) (hQ2 : Q2 = readsV 0 (taken es (hi ++ freeL (hi ++ st) es.length ++ st)) (taken (stepsV es) (hi ++ freeL (hi ++ st) es.length ++ st))) (hw2 : wrongE 0 (taken es (hi ++ freeL (hi ++ st) es.length ++ st)) (taken (stepsV es) (hi ++ freeL (hi ++ st) es.length ++ st)) = 0) (hql2 : Q2.length = n2) (hqb2 : ∀ i, i < n2 → 0 ≤ Q2[i]?.getD 0 ∧ Q2[i]?.getD 0 < n2) (hs2 : hi.length + (freeL (hi ++ st) es.length).length + st.length ≤ 6)
    (hlong : prod (taken ds ps) = (long : Int)) (hrows : prod (taken ds (freeL (lo ++ ps) ds.length)) = (rows : Int)) (hcols : prod (taken es (freeL (hi ++ st) es.length)) = (cols : Int)) (hr0 : 0 < rows) (hc0 : 0 < cols) (hl6 : long ≤ 65536) (hr6 : rows ≤ 65536) (hc6 : cols ≤ 65536) (hbnd : ∀ i, i < n → i / cols * long + long ≤ n1 ∧ (i / cols / rows * cols + i % cols) * long + long ≤ n2 ∧ i / cols / rows * cols + i % cols ≤ 65536)
    (hrow : w.rowIs g 2 n (fun _ => .int .i64 0)) :
    Calls Try.prog 62 #[.slice (some ⟨g, 0, none⟩) n n, .agg #[.int .i64 k, vd, .slice pa pl pc, .slice la ll lc, .slice ha hl hc, .slice ta tl tc, .int .i64 x], .agg #[.slice da dl dc, .slice xa n1 xc], .agg #[.slice ea el ec, .slice ya n2 yc]] w fun e w' => e = .returned (.tuple #[]) ∧ w'.rowIs g 2 n (fun j => .int .i64 ((dotF (lookL xs Q1) (lookL ys Q2) long rows cols n)[j]?.getD 0)) ∧ Save g w w' := by
  have h6 : dl ≤ 6 := by have := (sizeE_ok hz1).1; have := hd.1; omega
  have h6' : el ≤ 6 := by have := (sizeE_ok hz2).1; have := he.1; omega
  have HON := hide (show onceB (lo ++ ps) ds.length = true ∧ onceB (hi ++ st) es.length = true from by unfold dotB at hdB; simp only [Bool.and_eq_true] at hdB; exact ⟨hdB.1, hdB.2.1⟩)
  have HTP : Hid (∀ W, Below w.heap.size w W → Calls Try.prog 33 #[.slice da dl dc, .slice pa pl pc] W fun e w' => GivesL W e w' (taken ds ps) ∧ Below W.heap.size W w') := fun W hW => these_any _ _ _ ds _ _ _ ps _ (hd.below hW) (hp.1.below hW) (fun y hy => by have := (once_iff.1 ((onceB_iff _ _).1 HON.out.1)).1 y (List.mem_append_right _ hy); rw [hd.1] at this; exact this) (by have := hp.1.1; omega)
  have HTA : Hid (∀ W X sn sc, Below w.heap.size w W → Lst W X sn sc (freeL (lo ++ ps) ds.length) → Calls Try.prog 33 #[.slice da dl dc, .slice X sn sc] W fun e w' => GivesL W e w' (taken ds (freeL (lo ++ ps) ds.length)) ∧ Below W.heap.size W w') := fun W X sn sc hW hX => these_any _ _ _ ds _ _ _ _ _ (hd.below hW) hX.1 (fun y hy => by have := freeL_bd _ _ y hy; rw [hd.1] at this; exact this) (by have := hX.1.1; omega)
  have HTB : Hid (∀ W Y sm sd, Below w.heap.size w W → Lst W Y sm sd (freeL (hi ++ st) es.length) → Calls Try.prog 33 #[.slice ea el ec, .slice Y sm sd] W fun e w' => GivesL W e w' (taken es (freeL (hi ++ st) es.length)) ∧ Below W.heap.size W w') := fun W Y sm sd hW hY => these_any _ _ _ es _ _ _ _ _ (he.below hW) hY.1 (fun y hy => by have := freeL_bd _ _ y hy; rw [he.1] at this; exact this) (by have := hY.1.1; omega)
  have HLO1 : Hid (IntKind.i64.wrap (prod (taken ds ps)) = (long : Int)) := by rw [Hid, hlong, wrap_in _ (by omega) (by omega)]
  have HLO2 : Hid (IntKind.i64.wrap (prod (taken ds (freeL (lo ++ ps) ds.length))) = (rows : Int)) := by rw [Hid, hrows, wrap_in _ (by omega) (by omega)]
  have HLO3 : Hid (IntKind.i64.wrap (prod (taken es (freeL (hi ++ st) es.length))) = (cols : Int)) := by rw [Hid, hcols, wrap_in _ (by omega) (by omega)]
  have HBN := hide hbnd
  have HP := hide hp
  have HLO := hide hlo
  have HHI := hide hhi
  have HST := hide hst
  have HD := hide hd
  have HE := hide he
  have HX := hide hx
  have HY := hide hy
  have HR := hide hrow
  have hgl : g < w.heap.size := hrow.lt
  have HB1 := (Below.refl w.heap.size w).alloc (Nat.le_refl _) (.cells #[.int .i64 k, vd, .slice pa pl pc, .slice la ll lc, .slice ha hl hc, .slice ta tl tc, .int .i64 x] 24)
  have HB2 := HB1.alloc HB1.size (.cells #[.slice da dl dc, .slice xa n1 xc] 28)
  have HB3 := hide (HB2.alloc HB2.size (.cells #[.slice ea el ec, .slice ya n2 yc] 28))
  have HOP := hide (((OpAt.new w k vd (.slice pa pl pc) (.slice la ll lc) (.slice ha hl hc) (.slice ta tl tc) x).alloc (.cells #[.slice da dl dc, .slice xa n1 xc] 28)).alloc (.cells #[.slice ea el ec, .slice ya n2 yc] 28))
  have r1 := (ArrAt.new (w.alloc (.cells #[.int .i64 k, vd, .slice pa pl pc, .slice la ll lc, .slice ha hl hc, .slice ta tl tc, .int .i64 x] 24)) (.slice da dl dc) (.slice xa n1 xc)).alloc (.cells #[.slice ea el ec, .slice ya n2 yc] 28)
  have r2 := ArrAt.new ((w.alloc (.cells #[.int .i64 k, vd, .slice pa pl pc, .slice la ll lc, .slice ha hl hc, .slice ta tl tc, .int .i64 x] 24)).alloc (.cells #[.slice da dl dc, .slice xa n1 xc] 28)) (.slice ea el ec) (.slice ya n2 yc)
  simp only [World.size_alloc] at r1 r2
  have HAA := hide r1
  have HAB := hide r2
  obtain ⟨o0, o1, o2, o3, o4, o5, o6⟩ := HOP.out.cells
  obtain ⟨⟨p0, p1⟩, _⟩ := HAA.out.cells
  obtain ⟨⟨p2, p3⟩, _⟩ := HAB.out.cells
  have HSD := hide (sides_any k x vd pa pl pc ps la ll lc lo ha hl hc hi ta tl tc st da dl dc ds ea el ec es _ (hp.below HB3.out) (hlo.below HB3.out) (hhi.below HB3.out) (hst.below HB3.out) (hd.below HB3.out) (he.below HB3.out) h6 h6')
  have HDB := hide hdB
  have HL1 : Hid (∀ W X sn sc, Below w.heap.size w W → Lst W X sn sc (freeL (lo ++ ps) ds.length) → Calls Try.prog 88 #[.agg #[.slice la ll lc, .slice X sn sc, .slice pa pl pc], .agg #[.slice da dl dc, .slice xa n1 xc]] W fun e w' => (∃ G, e = .returned (.slice (some ⟨G, 0, none⟩) n1 n1) ∧ Ints w' (some ⟨G, 0, none⟩) n1 (lookL xs Q1) ∧ W.heap.size ≤ G) ∧ Below W.heap.size W w') := fun W X sn sc hW hX => laid_any la ll lc lo X sn sc _ pa pl pc ps da dl dc ds xa n1 xc xs Q1 W (hlo.below hW) hX (hp.below hW) (hd.below hW) (hx.below hW) hn1 (by have := hX.1.1; have := hlo.1.1; have := hp.1.1; omega) hz1 ht1 hQ1 hw1 hql1 hqb1
  have HL2 : Hid (∀ W Y sm sd, Below w.heap.size w W → Lst W Y sm sd (freeL (hi ++ st) es.length) → Calls Try.prog 88 #[.agg #[.slice ha hl hc, .slice Y sm sd, .slice ta tl tc], .agg #[.slice ea el ec, .slice ya n2 yc]] W fun e w' => (∃ G, e = .returned (.slice (some ⟨G, 0, none⟩) n2 n2) ∧ Ints w' (some ⟨G, 0, none⟩) n2 (lookL ys Q2) ∧ W.heap.size ≤ G) ∧ Below W.heap.size W w') := fun W Y sm sd hW hY => laid_any ha hl hc hi Y sm sd _ ta tl tc st ea el ec es ya n2 yc ys Q2 W (hhi.below hW) hY (hst.below hW) (he.below hW) (hy.below hW) hn2 (by have := hY.1.1; have := hhi.1.1; have := hst.1.1; omega) hz2 ht2 hQ2 hw2 hql2 hqb2
  clear hp hlo hhi hst hd he hx hy hz1 hz2 hdB ht1 hQ1 hw1 hql1 hqb1 ht2 hQ2 hw2 hql2 hqb2 hrow r1 r2 HB1 HB2 hs1 hs2 hlong hrows hcols hbnd hl6
  go_enter Try.func62, Try.ntmps62
  go_wp2_with (go_at_call 77; refine HSD.out.mono ?_; rintro e w1 ⟨hsp, hb⟩; obtain ⟨_, X, sn, sc, Y, sm, sd, rfl, hX, hY⟩ := hsp.resolve_right (fun h => by have := h.1; rw [HDB.out] at this; cases this); have HB4 := hide (Below.on HB3.out hb); have HAA4 := hide (HAA.out.below hb); have HAB4 := hide (HAB.out.below hb); have HX4 := hide hX; have HY4 := hide hY; clear hX hY hb hsp o0 o1 o2 o3 o4 o5 o6 p0 p1 p2 p3)
  have HW1 := hide (((Below.refl w1.heap.size w1).alloc (Nat.le_refl _) (.cells #[.slice la ll lc, .slice X sn sc, .slice pa pl pc] 90)).alloc (by simp) (.cells #[.slice ha hl hc, .slice Y sm sd, .slice ta tl tc] 90))
  have HBW := hide (Below.on HB4.out HW1.out)
  have HSL := hide ((SideAt.new w1 (.slice la ll lc) (.slice X sn sc) (.slice pa pl pc)).alloc (.cells #[.slice ha hl hc, .slice Y sm sd, .slice ta tl tc] 90))
  have hsr := SideAt.new (w1.alloc (.cells #[.slice la ll lc, .slice X sn sc, .slice pa pl pc] 90)) (.slice ha hl hc) (.slice Y sm sd) (.slice ta tl tc)
  simp only [World.size_alloc] at hsr
  have HSR := hide hsr
  have HAA5 := hide (HAA4.out.below HW1.out)
  have HAB5 := hide (HAB4.out.below HW1.out)
  have hwsz : w1.heap.size + 1 + 1 = ((w1.alloc (.cells #[.slice la ll lc, .slice X sn sc, .slice pa pl pc] 90)).alloc (.cells #[.slice ha hl hc, .slice Y sm sd, .slice ta tl tc] 90)).heap.size := by simp
  generalize hWW : (w1.alloc (.cells #[.slice la ll lc, .slice X sn sc, .slice pa pl pc] 90)).alloc (.cells #[.slice ha hl hc, .slice Y sm sd, .slice ta tl tc] 90) = W1 at HW1 HBW HSL HSR HAA5 HAB5 hwsz hsr ⊢
  have HWS := hide hwsz
  obtain ⟨⟨s0, s1, s2⟩, _⟩ := HSL.out.cells
  obtain ⟨⟨t0, t1, t2⟩, _⟩ := HSR.out.cells
  obtain ⟨⟨a0, a1⟩, _⟩ := HAA5.out.cells
  obtain ⟨⟨b0, b1⟩, _⟩ := HAB5.out.cells
  clear hWW hsr hwsz
  refine region_made 8 10 [fIs (.agg #[.slice la ll lc, .slice X sn sc, .slice pa pl pc]), fIs (.agg #[.slice da dl dc, .slice xa n1 xc]), fInts W1.heap.size n1 (lookL xs Q1), fIs (.agg #[.slice ha hl hc, .slice Y sm sd, .slice ta tl tc]), fIs (.agg #[.slice ea el ec, .slice ya n2 yc]), fInts W1.heap.size n2 (lookL ys Q2), fBox W1.heap.size 26 (.slice none 0 0), fBox W1.heap.size 26 (.slice none 0 0)] (by kernel_rfl) (by kernel_rfl) (by kernel_rfl) (fun _ ⟨_, _⟩ ⟨_, _⟩ _ e h => by cases e; exact h) ⟨fIs_good _, fIs_good _, fInts_good _ _ _, fIs_good _, fIs_good _, fInts_good _ _ _, fBox_good _ _ _, fBox_good _ _ _, trivial⟩ ?mk ?rest
  case mk =>
    refine ⟨fun u wz hb hd => ?_, fun u wz hb hd => ?_, fun u wz hb hd => ?_, fun u wz hb hd => ?_, fun u wz hb hd => ?_, fun u wz hb hd => ?_, fun u wz hb hd => ?_, fun u wz hb hd => ?_, trivial⟩
    all_goals simp only [Act.put, List.setIfInBounds_toArray, List.set_cons_zero, List.set_cons_succ]
    · skip
      have s0' := (hb.cell (p := ⟨w1.heap.size, 0, none⟩) (lt_of_cell s0)).trans s0
      have s1' := (hb.cell (p := ⟨w1.heap.size, 1, none⟩) (lt_of_cell s1)).trans s1
      have s2' := (hb.cell (p := ⟨w1.heap.size, 2, none⟩) (lt_of_cell s2)).trans s2
      go_simp
      exact ⟨rfl, Below.refl _ _, fun h => by cases h⟩
    · skip
      have a0' := (hb.cell (p := ⟨w.heap.size + 1, 0, none⟩) (lt_of_cell a0)).trans a0
      have a1' := (hb.cell (p := ⟨w.heap.size + 1, 1, none⟩) (lt_of_cell a1)).trans a1
      go_simp
      exact ⟨rfl, Below.refl _ _, fun h => by cases h⟩
    · have e0 : u 0 = .agg #[.slice la ll lc, .slice X sn sc, .slice pa pl pc] := hd 0 (by omega) (by kernel_rfl)
      have e1 : u 1 = .agg #[.slice da dl dc, .slice xa n1 xc] := hd 1 (by omega) (by kernel_rfl)
      rw [e0, e1]
      go_simp
      refine (HL1.out wz X sn sc (Below.on HBW.out hb) (HX4.out.below (Below.on HW1.out hb))).mono ?_
      rintro e w2 ⟨⟨G, rfl, h1, h2⟩, hb2⟩
      have hs := hb.size
      exact ⟨⟨G, rfl, h1, by omega⟩, hb2, fun h => by cases h⟩
    · skip
      have t0' := (hb.cell (p := ⟨w1.heap.size + 1, 0, none⟩) (lt_of_cell t0)).trans t0
      have t1' := (hb.cell (p := ⟨w1.heap.size + 1, 1, none⟩) (lt_of_cell t1)).trans t1
      have t2' := (hb.cell (p := ⟨w1.heap.size + 1, 2, none⟩) (lt_of_cell t2)).trans t2
      go_simp
      exact ⟨rfl, Below.refl _ _, fun h => by cases h⟩
    · skip
      have b0' := (hb.cell (p := ⟨w.heap.size + 1 + 1, 0, none⟩) (lt_of_cell b0)).trans b0
      have b1' := (hb.cell (p := ⟨w.heap.size + 1 + 1, 1, none⟩) (lt_of_cell b1)).trans b1
      go_simp
      exact ⟨rfl, Below.refl _ _, fun h => by cases h⟩
    · have e0 : u 3 = .agg #[.slice ha hl hc, .slice Y sm sd, .slice ta tl tc] := hd 3 (by omega) (by kernel_rfl)
      have e1 : u 4 = .agg #[.slice ea el ec, .slice ya n2 yc] := hd 4 (by omega) (by kernel_rfl)
      rw [e0, e1]
      go_simp
      refine (HL2.out wz Y sm sd (Below.on HBW.out hb) (HY4.out.below (Below.on HW1.out hb))).mono ?_
      rintro e w2 ⟨⟨G, rfl, h1, h2⟩, hb2⟩
      have hs := hb.size
      exact ⟨⟨G, rfl, h1, by omega⟩, hb2, fun h => by cases h⟩
    · go_simp
      exact ⟨⟨_, rfl, Boxed.new _ _ _, hb.size⟩, (Below.refl _ _).alloc (Nat.le_refl _) _, fun _ b hb => by simp [blk] at hb; omega⟩
    · go_simp
      exact ⟨⟨_, rfl, Boxed.new _ _ _, hb.size⟩, (Below.refl _ _).alloc (Nat.le_refl _) _, fun _ b hb => by simp [blk] at hb; omega⟩
  case rest =>
    intro u wz hb hf hp
    have f0 : u 0 = .agg #[.slice la ll lc, .slice X sn sc, .slice pa pl pc] := hf 0 (by omega)
    have f1 : u 1 = .agg #[.slice da dl dc, .slice xa n1 xc] := hf 1 (by omega)
    obtain ⟨G1, f2, i2, n2'⟩ := hf 2 (by omega)
    have f3 : u 3 = .agg #[.slice ha hl hc, .slice Y sm sd, .slice ta tl tc] := hf 3 (by omega)
    have f4 : u 4 = .agg #[.slice ea el ec, .slice ya n2 yc] := hf 4 (by omega)
    obtain ⟨G2, f5, i5, n5'⟩ := hf 5 (by omega)
    obtain ⟨C1, f6, i6, n6'⟩ := hf 6 (by omega)
    obtain ⟨C2, f7, i7, n7'⟩ := hf 7 (by omega)
    have hcc : C1 ≠ C2 := by
      have := hp 6 7 (by omega) (by omega) (by omega) rfl rfl C1 (by rw [f6]; rfl)
      rw [f7] at this
      intro e; exact this (by rw [e]; rfl)
    refine UptoW.rest 2 8 (by rfl) (by kernel_rfl) ?_
    simp only [List.take, List.drop, putOps, Act.put, List.setIfInBounds_toArray, List.set_cons_zero, List.set_cons_succ, Nat.reduceAdd, f0, f1, f2, f3, f4, f5, f6, f7]
    clear f0 f1 f2 f3 f4 f5 f6 f7 hf hp
    clear s0 s1 s2 t0 t1 t2 a0 a1 b0 b1
    have c1 := Boxed.cell i6
    have z1 := Boxed.frozen i6
    refine wpList_plain rfl (fun K hK => ?_)
    go_simp
    refine hK _ _ ?_
    clear hK K c1 z1
    have i7' := Boxed.other i7 (Ne.symm hcc) (.slice (some ⟨G1, 0, none⟩) n1 n1)
    have c2 := Boxed.cell i7'
    have z2 := Boxed.frozen i7'
    refine wpList_plain rfl (fun K hK => ?_)
    go_simp
    refine hK _ _ (wpList_nil ?_)
    clear hK K c2 z2
    have I1 := ints_box (ints_box i2 i6 (fun _ _ e => by cases e) (.slice (some ⟨G1, 0, none⟩) n1 n1)) i7' (fun _ _ e => by cases e) (.slice (some ⟨G2, 0, none⟩) n2 n2)
    have I2 := ints_box (ints_box i5 i6 (fun _ _ e => by cases e) (.slice (some ⟨G1, 0, none⟩) n1 n1)) i7' (fun _ _ e => by cases e) (.slice (some ⟨G2, 0, none⟩) n2 n2)
    have D1 := Boxed.other (Boxed.set (.slice (some ⟨G1, 0, none⟩) n1 n1) i6) hcc (.slice (some ⟨G2, 0, none⟩) n2 n2)
    have D2 := Boxed.set (.slice (some ⟨G2, 0, none⟩) n2 n2) i7'
    have BL := (hb.setCell (p := ⟨C1, 0, none⟩) n6' (.slice (some ⟨G1, 0, none⟩) n1 n1)).setCell (p := ⟨C2, 0, none⟩) n7' (.slice (some ⟨G2, 0, none⟩) n2 n2)
    clear i2 i5 i6 i7 i7' hb
    generalize (wz.setCell ⟨C1, 0, none⟩ (.slice (some ⟨G1, 0, none⟩) n1 n1)).setCell ⟨C2, 0, none⟩ (.slice (some ⟨G2, 0, none⟩) n2 n2) = W2 at *
    have HI1 := hide I1
    have HI2 := hide I2
    have HD1 := hide D1
    have HD2 := hide D2
    have HBL := hide BL
    have HBW2 := hide (Below.on HBW.out BL)
    have HSL2 := hide (HSL.out.below BL)
    have HSR2 := hide (HSR.out.below BL)
    have HAA2 := hide (HAA5.out.below BL)
    have HAB2 := hide (HAB5.out.below BL)
    obtain ⟨⟨s0, s1, s2⟩, _⟩ := HSL2.out.cells
    obtain ⟨⟨t0, t1, t2⟩, _⟩ := HSR2.out.cells
    obtain ⟨⟨a0, a1⟩, _⟩ := HAA2.out.cells
    obtain ⟨⟨b0, b1⟩, _⟩ := HAB2.out.cells
    have HCC := hide (And.intro n6' (And.intro n7' hcc))
    clear I1 I2 D1 D2 BL n6' n7' hcc
    go_wp2_with (first
      | (go_at_call 33; refine (HTP.out _ HBW2.out).mono ?_; rintro e w3 ⟨⟨v3, rfl, X3, n3, c3, rfl, hl3, _⟩, hb3⟩; have HL3 := hide hl3; have HB3' := hide hb3; clear hl3 hb3)
      | (go_at_call 32; refine (count_wrap _ _ _ _ _ HL3.out.1).mono ?_; rintro e w' ⟨rfl, hw'⟩; obtain rfl := hw'.symm; rw [HLO1.out]))
    have D3 := Boxed.new w3 3 (.int .i64 (long : Int))
    have bl3 := HB3'.out.alloc HB3'.out.size (.cells #[.int .i64 (long : Int)] 3)
    have hw3 := HB3'.out.size
    clear s0 s1 s2 t0 t1 t2 a0 a1 b0 b1
    generalize w3.alloc (.cells #[.int .i64 (long : Int)] 3) = W4 at *
    have HBW4 := hide (Below.on HBW2.out bl3)
    have HW14 := hide (Below.on HW1.out (Below.on HBL.out bl3))
    have HSL4 := hide (HSL2.out.below bl3)
    have HSR4 := hide (HSR2.out.below bl3)
    have HAA4' := hide (HAA2.out.below bl3)
    have HAB4' := hide (HAB2.out.below bl3)
    have HD14 := hide (Boxed.below HD1.out bl3)
    have HD24 := hide (Boxed.below HD2.out bl3)
    have HD3 := hide D3
    have HI14 := hide (HI1.out.below bl3)
    have HI24 := hide (HI2.out.below bl3)
    clear D3 bl3
    obtain ⟨⟨s0, s1, s2⟩, _⟩ := HSL4.out.cells
    obtain ⟨⟨t0, t1, t2⟩, _⟩ := HSR4.out.cells
    obtain ⟨⟨a0, a1⟩, _⟩ := HAA4'.out.cells
    obtain ⟨⟨b0, b1⟩, _⟩ := HAB4'.out.cells
    refine region_made 14 16 [fIs (.pointer (some ⟨w.heap.size + 1, 0, none⟩)), fIs (.slice da dl dc), fIs (.pointer (some ⟨w1.heap.size, 1, none⟩)), fIs (.slice X sn sc), fList (taken ds (freeL (lo ++ ps) ds.length)), fIs (.int .i64 rows), fIs (.pointer (some ⟨w.heap.size + 1 + 1, 0, none⟩)), fIs (.slice ea el ec), fIs (.pointer (some ⟨w1.heap.size + 1, 1, none⟩)), fIs (.slice Y sm sd), fList (taken es (freeL (hi ++ st) es.length)), fIs (.int .i64 cols), fBox W4.heap.size 3 (.int .i64 0), fBox W4.heap.size 3 (.int .i64 0)] (by kernel_rfl) (by kernel_rfl) (by kernel_rfl) (fun _ ⟨_, _⟩ ⟨_, _⟩ _ e h => by cases e; exact h) ⟨fIs_good _, fIs_good _, fIs_good _, fIs_good _, fList_good _, fIs_good _, fIs_good _, fIs_good _, fIs_good _, fIs_good _, fList_good _, fIs_good _, fBox_good _ _ _, fBox_good _ _ _, trivial⟩ ?mk ?rest
    case mk =>
      refine ⟨fun u wz hb hd => ?_, fun u wz hb hd => ?_, fun u wz hb hd => ?_, fun u wz hb hd => ?_, fun u wz hb hd => ?_, fun u wz hb hd => ?_, fun u wz hb hd => ?_, fun u wz hb hd => ?_, fun u wz hb hd => ?_, fun u wz hb hd => ?_, fun u wz hb hd => ?_, fun u wz hb hd => ?_, fun u wz hb hd => ?_, fun u wz hb hd => ?_, trivial⟩
      all_goals simp only [Act.put, List.setIfInBounds_toArray, List.set_cons_zero, List.set_cons_succ]
      · go_simp
        exact ⟨rfl, Below.refl _ _, fun h => by cases h⟩
      · have e0 : u 0 = .pointer (some ⟨w.heap.size + 1, 0, none⟩) := hd 0 (by omega) (by kernel_rfl)
        have a0' := (hb.cell (p := ⟨w.heap.size + 1, 0, none⟩) (lt_of_cell a0)).trans a0
        rw [e0]
        go_simp
        exact ⟨rfl, Below.refl _ _, fun h => by cases h⟩
      · go_simp
        exact ⟨rfl, Below.refl _ _, fun h => by cases h⟩
      · have e0 : u 2 = .pointer (some ⟨w1.heap.size, 1, none⟩) := hd 2 (by omega) (by kernel_rfl)
        have s1' := (hb.cell (p := ⟨w1.heap.size, 1, none⟩) (lt_of_cell s1)).trans s1
        rw [e0]
        go_simp
        exact ⟨rfl, Below.refl _ _, fun h => by cases h⟩
      · have e0 : u 1 = .slice da dl dc := hd 1 (by omega) (by kernel_rfl)
        have e1 : u 3 = .slice X sn sc := hd 3 (by omega) (by kernel_rfl)
        rw [e0, e1]
        go_simp
        refine (HTA.out wz X sn sc (Below.on HBW4.out hb) (HX4.out.below (Below.on HW14.out hb))).mono ?_
        rintro e w2 ⟨⟨v2, rfl, X2, k2, c2, rfl, hl2, _⟩, hb2⟩
        exact ⟨⟨X2, k2, c2, rfl, hl2.1⟩, hb2, fun h => by cases h⟩
      · obtain ⟨X2, k2, c2, e0, hl2⟩ := hd 4 (by omega) (by kernel_rfl)
        rw [e0]
        go_simp
        refine (count_wrap _ _ _ _ _ hl2).mono ?_
        rintro e w' ⟨rfl, hw'⟩
        obtain rfl := hw'.symm
        rw [HLO2.out]
        exact ⟨rfl, Below.refl _ _, fun h => by cases h⟩
      · go_simp
        exact ⟨rfl, Below.refl _ _, fun h => by cases h⟩
      · have e0 : u 6 = .pointer (some ⟨w.heap.size + 1 + 1, 0, none⟩) := hd 6 (by omega) (by kernel_rfl)
        have b0' := (hb.cell (p := ⟨w.heap.size + 1 + 1, 0, none⟩) (lt_of_cell b0)).trans b0
        rw [e0]
        go_simp
        exact ⟨rfl, Below.refl _ _, fun h => by cases h⟩
      · go_simp
        exact ⟨rfl, Below.refl _ _, fun h => by cases h⟩
      · have e0 : u 8 = .pointer (some ⟨w1.heap.size + 1, 1, none⟩) := hd 8 (by omega) (by kernel_rfl)
        have t1' := (hb.cell (p := ⟨w1.heap.size + 1, 1, none⟩) (lt_of_cell t1)).trans t1
        rw [e0]
        go_simp
        exact ⟨rfl, Below.refl _ _, fun h => by cases h⟩
      · have e0 : u 7 = .slice ea el ec := hd 7 (by omega) (by kernel_rfl)
        have e1 : u 9 = .slice Y sm sd := hd 9 (by omega) (by kernel_rfl)
        rw [e0, e1]
        go_simp
        refine (HTB.out wz Y sm sd (Below.on HBW4.out hb) (HY4.out.below (Below.on HW14.out hb))).mono ?_
        rintro e w2 ⟨⟨v2, rfl, X2, k2, c2, rfl, hl2, _⟩, hb2⟩
        exact ⟨⟨X2, k2, c2, rfl, hl2.1⟩, hb2, fun h => by cases h⟩
      · obtain ⟨X2, k2, c2, e0, hl2⟩ := hd 10 (by omega) (by kernel_rfl)
        rw [e0]
        go_simp
        refine (count_wrap _ _ _ _ _ hl2).mono ?_
        rintro e w' ⟨rfl, hw'⟩
        obtain rfl := hw'.symm
        rw [HLO3.out]
        exact ⟨rfl, Below.refl _ _, fun h => by cases h⟩
      · go_simp
        exact ⟨⟨_, rfl, Boxed.new _ _ _, hb.size⟩, (Below.refl _ _).alloc (Nat.le_refl _) _, fun _ b hb => by simp [blk] at hb; omega⟩
      · go_simp
        exact ⟨⟨_, rfl, Boxed.new _ _ _, hb.size⟩, (Below.refl _ _).alloc (Nat.le_refl _) _, fun _ b hb => by simp [blk] at hb; omega⟩
    case rest =>
      intro u wz hb hf hp
      have f0 : u 0 = (.pointer (some ⟨w.heap.size + 1, 0, none⟩)) := hf 0 (by omega)
      have f1 : u 1 = (.slice da dl dc) := hf 1 (by omega)
      have f2 : u 2 = (.pointer (some ⟨w1.heap.size, 1, none⟩)) := hf 2 (by omega)
      have f3 : u 3 = (.slice X sn sc) := hf 3 (by omega)
      obtain ⟨XX4, kk4, cc4, f4, _⟩ := hf 4 (by omega)
      have f5 : u 5 = (.int .i64 rows) := hf 5 (by omega)
      have f6 : u 6 = (.pointer (some ⟨w.heap.size + 1 + 1, 0, none⟩)) := hf 6 (by omega)
      have f7 : u 7 = (.slice ea el ec) := hf 7 (by omega)
      have f8 : u 8 = (.pointer (some ⟨w1.heap.size + 1, 1, none⟩)) := hf 8 (by omega)
      have f9 : u 9 = (.slice Y sm sd) := hf 9 (by omega)
      obtain ⟨XX10, kk10, cc10, f10, _⟩ := hf 10 (by omega)
      have f11 : u 11 = (.int .i64 cols) := hf 11 (by omega)
      obtain ⟨E12, f12, i12, m12⟩ := hf 12 (by omega)
      obtain ⟨E13, f13, i13, m13⟩ := hf 13 (by omega)
      have hcc : E12 ≠ E13 := by
        have := hp 12 13 (by omega) (by omega) (by omega) rfl rfl E12 (by rw [f12]; rfl)
        rw [f13] at this
        intro e; exact this (by rw [e]; rfl)
      refine UptoW.rest 2 14 (by rfl) (by kernel_rfl) ?_
      simp only [List.take, List.drop, putOps, Act.put, List.setIfInBounds_toArray, List.set_cons_zero, List.set_cons_succ, Nat.reduceAdd, f0, f1, f2, f3, f4, f5, f6, f7, f8, f9, f10, f11, f12, f13]
      clear f0 f1 f2 f3 f4 f5 f6 f7 f8 f9 f10 f11 f12 f13 hf hp
      clear s0 s1 s2 t0 t1 t2 a0 a1 b0 b1
      have c1 := Boxed.cell i12
      have z1 := Boxed.frozen i12
      refine wpList_plain rfl (fun K hK => ?_)
      go_simp
      refine hK _ _ ?_
      clear hK K c1 z1
      have i7' := Boxed.other i13 (Ne.symm hcc) (.int .i64 (rows : Int))
      have c2 := Boxed.cell i7'
      have z2 := Boxed.frozen i7'
      refine wpList_plain rfl (fun K hK => ?_)
      go_simp
      refine hK _ _ (wpList_nil ?_)
      clear hK K c2 z2
      have D4 := Boxed.other (Boxed.set (.int .i64 (rows : Int)) i12) hcc (.int .i64 (cols : Int))
      have D5 := Boxed.set (.int .i64 (cols : Int)) i7'
      have BL := (hb.setCell (p := ⟨E12, 0, none⟩) m12 (.int .i64 (rows : Int))).setCell (p := ⟨E13, 0, none⟩) m13 (.int .i64 (cols : Int))
      clear i12 i13 i7' hb
      generalize (wz.setCell ⟨E12, 0, none⟩ (.int .i64 (rows : Int))).setCell ⟨E13, 0, none⟩ (.int .i64 (cols : Int)) = W5 at *
      have HD4 := hide D4
      have HD5 := hide D5
      have HB5 := hide (Below.on HBW4.out BL)
      have HD1' := hide (Boxed.below HD14.out BL)
      have HD2' := hide (Boxed.below HD24.out BL)
      have HD3' := hide (Boxed.below HD3.out BL)
      have HI1' := hide (HI14.out.below BL)
      have HI2' := hide (HI24.out.below BL)
      have hw1 : w.heap.size ≤ W1.heap.size := HBW.out.size
      have hw2 : W1.heap.size ≤ W2.heap.size := HBL.out.size
      have hw4 : w.heap.size ≤ W4.heap.size := HBW4.out.size
      have HG := hide (And.intro (Nat.le_trans hw1 n2') (Nat.le_trans hw1 n5'))
      have HSZ := hide (And.intro (Nat.le_trans hw1 HCC.out.1) (And.intro (Nat.le_trans hw1 HCC.out.2.1) (And.intro (Nat.le_trans hw4 m12) (And.intro (Nat.le_trans hw4 m13) (show w.heap.size ≤ w3.heap.size by omega)))))
      clear D4 D5 BL hw1 hw2 hw4 m12 m13 hcc
      have hcf : ∀ (args : Array Value) (w : World), (callFunc 89 args).run Try.prog w = .ok (.enter 89 args) w := enters Try.func89 (by kernel_rfl) (by kernel_rfl)
      have HCF := hide hcf
      clear hcf
      go_wp2_with ((go_at_call 66; refine (fill_any 89 #[.pointer (some ⟨E13, 0, none⟩), .pointer (some ⟨E12, 0, none⟩), .pointer (some ⟨C1, 0, none⟩), .pointer (some ⟨w3.heap.size, 0, none⟩), .pointer (some ⟨C2, 0, none⟩)] g n (dotF (lookL xs Q1) (lookL ys Q2) long rows cols n) [] (dotF_length _ _ _ _ _ _) _ (by omega) HCF.out ((HR.out.of_block (HB5.out.block g hgl)).congr (fun j _ => by simp [onWay])) (fun i W hi hW => by {
        rw [dotF_at _ _ _ _ _ _ _ hi]
        have hz := HSZ.out
        have hg := HG.out
        have hbn := HBN.out i hi
        exact dot1_any i (i / cols) (i / cols / rows) (i % cols) (i / cols / rows * cols + i % cols) (i / cols * long) ((i / cols / rows * cols + i % cols) * long) long cols rows E13 E12 C1 w3.heap.size C2 G1 0 n1 n1 (lookL xs Q1) G2 0 n2 n2 (lookL ys Q2) W ((hW.1 E13 (by omega)).trans HD5.out) ((hW.1 E12 (by omega)).trans HD4.out) ((hW.1 C1 (by omega)).trans HD1'.out) ((hW.1 w3.heap.size (by omega)).trans HD3'.out) ((hW.1 C2 (by omega)).trans HD2'.out) (hW.ints HI1'.out (fun b o e => by cases e; omega)) (hW.ints HI2'.out (fun b o e => by cases e; omega)) (Nat.le_refl _) (Nat.le_refl _) (by omega) (by omega) hc0 hr0 rfl rfl rfl rfl rfl rfl (by omega) hbn.1 hbn.2.1 hbn.2.2 hc6 hr6 hn1 hn2 })).mono ?_; rintro e w9 ⟨rfl, hr9, hbut, h09⟩; have H09 := hide h09; have HR9 := hide (onWay_all hr9); have HBU := hide hbut; clear hr9 hbut h09))
      all_goals exact bodyPost_end (v := .tuple #[]) (by simp [results, Try.results62, go_sem]) rfl ⟨rfl, HR9.out, Save.of_below HB5.out HBU.out H09.out⟩
end Go.Proofs.Ytcidhbkdaleomaa.V
namespace Go.Proofs.Ytcidhbkdaleomaa.V
set_option maxRecDepth 20000
open Go.RowKit

set_option maxRecDepth 100000 in
set_option maxHeartbeats 4000000 in
theorem work_dot (x : Int) (vd va vl vh vs : Value) (Z : Option Addr) (nz cz g n : Nat) (b off cap : Nat) (c0 c1 c2 c3 : Value) (f : List Int) (w : World)
    (h0 : w.cell? ⟨b, off, none⟩ = some c0) (h1 : w.cell? ⟨b, off + 1, none⟩ = some c1) (h2 : w.cell? ⟨b, off + 2, none⟩ = some c2) (h3 : w.cell? ⟨b, off + 3, none⟩ = some c3) (hbg : b ≠ g) (hrow : w.rowIs g 2 n (fun _ => .int .i64 0))
    (hdot : ∀ W, Below w.heap.size w W → W.rowIs g 2 n (fun _ => .int .i64 0) → Calls Try.prog 62 #[.slice (some ⟨g, 0, none⟩) n n, .agg #[.int .i64 16, vd, va, vl, vh, vs, .int .i64 x], .agg #[c0, c1], .agg #[c2, c3]] W fun e W' => e = .returned (.tuple #[]) ∧ W'.rowIs g 2 n (fun j => .int .i64 (f[j]?.getD 0)) ∧ Save g W W') :
    Calls Try.prog 37 #[.agg #[.slice Z nz cz, .slice (some ⟨g, 0, none⟩) n n], .agg #[.int .i64 16, vd, va, vl, vh, vs, .int .i64 x], .slice (some ⟨b, off, none⟩) 2 cap] w fun e w' => e = .returned (.tuple #[]) ∧ w'.rowIs g 2 n (fun j => .int .i64 (f[j]?.getD 0)) ∧ Save g w w' := by
  have hgl : g < w.heap.size := hrow.lt
  have HB1 := hide ((Below.refl w.heap.size w).alloc (Nat.le_refl _) (.cells #[.slice Z nz cz, .slice (some ⟨g, 0, none⟩) n n] 28))
  have HB2 := hide (HB1.out.alloc HB1.out.size (.cells #[.int .i64 16, vd, va, vl, vh, vs, .int .i64 x] 24))
  have HAR := hide ((ArrAt.new w (.slice Z nz cz) (.slice (some ⟨g, 0, none⟩) n n)).alloc (.cells #[.int .i64 16, vd, va, vl, vh, vs, .int .i64 x] 24))
  have hop := OpAt.new (w.alloc (.cells #[.slice Z nz cz, .slice (some ⟨g, 0, none⟩) n n] 28)) 16 vd va vl vh vs x
  simp only [World.size_alloc] at hop
  have HOP := hide hop
  obtain ⟨⟨r0, r1⟩, _⟩ := HAR.out.cells
  obtain ⟨o0, o1, o2, o3, o4, o5, o6⟩ := HOP.out.cells
  have k0 := (HB2.out.cell (p := ⟨b, off, none⟩) (lt_of_cell h0)).trans h0
  have k1 := (HB2.out.cell (p := ⟨b, off + 1, none⟩) (lt_of_cell h1)).trans h1
  have k2 := (HB2.out.cell (p := ⟨b, off + 2, none⟩) (lt_of_cell h2)).trans h2
  have k3 := (HB2.out.cell (p := ⟨b, off + 3, none⟩) (lt_of_cell h3)).trans h3
  have HR := hide hrow
  have HDT := hide hdot
  clear h0 h1 h2 h3 hrow hop hdot
  go_enter Try.func37, Try.ntmps37
  go_wp2_with fail
  go_region_held3 (fun w' => (w'.cell? ⟨w.heap.size, 1, none⟩ = some (.slice (some ⟨g, 0, none⟩) n n) ∧ w'.cell? ⟨w.heap.size + 1, 0, none⟩ = some (.int .i64 16) ∧ w'.cell? ⟨w.heap.size + 1, 1, none⟩ = some vd ∧ w'.cell? ⟨w.heap.size + 1, 2, none⟩ = some va ∧ w'.cell? ⟨w.heap.size + 1, 3, none⟩ = some vl ∧ w'.cell? ⟨w.heap.size + 1, 4, none⟩ = some vh ∧ w'.cell? ⟨w.heap.size + 1, 5, none⟩ = some vs ∧ w'.cell? ⟨w.heap.size + 1, 6, none⟩ = some (.int .i64 x)) ∧ (w'.cell? ⟨b, off, none⟩ = some c0 ∧ w'.cell? ⟨b, off + 1, none⟩ = some c1 ∧ w'.cell? ⟨b, off + 2, none⟩ = some c2 ∧ w'.cell? ⟨b, off + 3, none⟩ = some c3)) (refine ⟨⟨?_, ?_, ?_, ?_, ?_, ?_, ?_, ?_⟩, ?_, ?_, ?_, ?_⟩ <;> with_reducible (repeat (first | assumption | apply drew_cell))) ((go_at_call 62; refine (HDT.out _ HB2.out.drew (HR.out.of_block (HB2.out.drew.block g hgl))).mono ?_; rintro e w4 ⟨rfl, hr4, hsv⟩; have HR4 := hide hr4; have HSV := hide hsv; have hA4 : ArrAt w4 w.heap.size _ _ := (hsv.1 w.heap.size (by simp; omega) (by omega)).trans HAR.out; have hO4 : OpAt w4 (w.heap.size + 1) _ _ _ _ _ _ _ := (hsv.1 (w.heap.size + 1) (by simp) (by omega)).trans HOP.out; have hb4 := hsv.1 b (by have := lt_of_cell k0; simp at this; simp; omega) hbg; obtain ⟨⟨r40, r41⟩, _⟩ := hA4.cells; obtain ⟨o40, o41, o42, o43, o44, o45, o46⟩ := hO4.cells; have k40 := (World.cell?_of_block (a := ⟨b, off, none⟩) hb4).trans k0; have k41 := (World.cell?_of_block (a := ⟨b, off + 1, none⟩) hb4).trans k1; have k42 := (World.cell?_of_block (a := ⟨b, off + 2, none⟩) hb4).trans k2; have k43 := (World.cell?_of_block (a := ⟨b, off + 3, none⟩) hb4).trans k3; clear hsv hr4 hb4 hA4 hO4))
  all_goals go_wp2
  all_goals exact bodyPost_end (v := .tuple #[]) (by simp [results, Try.results37, go_sem]) rfl ⟨rfl, HR4.out, ⟨fun c hc hne => (HSV.out.1 c (by simp; omega) hne).trans (HB2.out.block c hc), (HB2.out.drew.mono (Nat.zero_le _)).trans HSV.out.2⟩⟩
end Go.Proofs.Ytcidhbkdaleomaa.V
