/-
  Contracts: array.lookedAt and its closure, array.entry and array.work of what looks at an array through a view. Contracts: array.entry and array.work of what looks at an array through a view. Contract: the closure of array.dot. Contract: array.side.laid. Contract: array.add. Contracts: array.entry and array.work of Fill.
-/
import Derived.Test.YteoobeldmicjhaaGreatPCKArrayCuts33
import Derived.Test.YteoobeldmicjhaaGreatPCKArrayCuts22
import Derived.Test.YteoobeldmicjhaaGreatPCKArrayCuts16
import Derived.Test.YteoobeldmicjhaaGreatPCKArrayCuts23
import Derived.Test.YteoobeldmicjhaaGreatPCKArrayCuts2
import Derived.Test.YteoobeldmicjhaaGreatPCKArrayCuts24
namespace Go.Proofs.YteoobeldmicjhaaGreat.V
set_option maxRecDepth 20000
open Go.RowKit

theorem Boxed.below {w w' : World} {B : Nat} {t : TypeId} {v : Value} (h : Boxed w B t v) (hb : Below w.heap.size w w') : Boxed w' B t v := (hb.block B h.lt).trans h

/-- What seen answers, of a view of which nothing is wrong. -/
def Seen (s : Int) (ds ss : List Int) (e : Ending) (w' : World) : Prop :=
  ∃ (da : Option Addr) (dl dc : Nat) (sa : Option Addr) (sl sc : Nat) (E : Int), e = .returned (.tuple #[.agg #[.int .i64 s, .slice da dl dc, .slice sa sl sc], .int .i64 E]) ∧ Ints w' da dl ds ∧ Ints w' sa sl ss
/-- What lookedAt answers. -/
def Looks (w : World) (c0 c1 : Value) (Q : List Int) (e : Ending) (w' : World) : Prop :=
  ∃ (B1 B2 : Nat) (P : Option Addr) (p c : Nat), e = .returned (.func (Fn.func 108) #[] #[.pointer (some ⟨B1, 0, none⟩), .pointer (some ⟨B2, 0, none⟩)]) ∧
    (ArrAt w' B1 c0 c1 ∧ Boxed w' B2 22 (.slice P p c) ∧ Ints w' P p Q) ∧ (w.heap.size ≤ B1 ∧ w.heap.size ≤ B2) ∧ Far w.heap.size P

set_option maxRecDepth 100000 in
set_option maxHeartbeats 2000000 in
theorem lookedAt_gen (k x : Int) (vd va vl vh vs : Value) (da : Option Addr) (dl dc : Nat) (xv : Value) (s : Int) (ds' ss' : List Int) (w : World)
    (hseen : ∀ W, Below w.heap.size w W → Calls Tryz.prog 61 #[.agg #[.int .i64 k, vd, va, vl, vh, vs, .int .i64 x], .slice da dl dc] W fun e W' => Seen s ds' ss' e W' ∧ Below W.heap.size W W') (hW : wrongE s ds' ss' = 0) :
    Calls Tryz.prog 80 #[.agg #[.int .i64 k, vd, va, vl, vh, vs, .int .i64 x], .agg #[.slice da dl dc, xv]] w fun e w' => Looks w (.slice da dl dc) xv (readsV s ds' ss') e w' ∧ Below w.heap.size w w' := by
  have HB1 := (Below.refl w.heap.size w).alloc (Nat.le_refl _) (.cells #[.int .i64 k, vd, va, vl, vh, vs, .int .i64 x] 31)
  have HB2 := hide (HB1.alloc HB1.size (.cells #[.slice da dl dc, xv] 25))
  have HOP := hide ((OpAt.new w k vd va vl vh vs x).alloc (.cells #[.slice da dl dc, xv] 25))
  have har := ArrAt.new (w.alloc (.cells #[.int .i64 k, vd, va, vl, vh, vs, .int .i64 x] 31)) (.slice da dl dc) xv
  simp only [World.size_alloc] at har
  have HAR := hide har
  obtain ⟨o0, o1, o2, o3, o4, o5, o6⟩ := HOP.out.cells
  obtain ⟨⟨r0, r1⟩, _⟩ := HAR.out.cells
  have HS := hide (hseen _ HB2.out)
  have HWR := hide hW
  clear hseen hW HB1 har
  go_enter Tryz.func80, Tryz.ntmps80
  go_wp2_with (first
    | (go_at_call 61; refine HS.out.mono ?_; rintro e w1 ⟨⟨va', vl', vc', sa, sl, sc, E, rfl, hi1, hi2⟩, hb⟩; have HB3 := hide (Below.on HB2.out hb); have HAR3 := hide (HAR.out.below hb); have HI1 := hide (hi1.below ((Below.refl _ _).alloc (Nat.le_refl _) (.cells #[.int .i64 s, .slice va' vl' vc', .slice sa sl sc] 68))); have HI2 := hide (hi2.below ((Below.refl _ _).alloc (Nat.le_refl _) (.cells #[.int .i64 s, .slice va' vl' vc', .slice sa sl sc] 68))); have HB4 := hide (HB3.out.alloc HB3.out.size (.cells #[.int .i64 s, .slice va' vl' vc', .slice sa sl sc] 68)); have HAR4 := hide (HAR3.out.alloc (.cells #[.int .i64 s, .slice va' vl' vc', .slice sa sl sc] 68)); clear hb hi1 hi2 o0 o1 o2 o3 o4 o5 o6 r0 r1)
    | (go_at_call 70; refine (reads_any s _ _ _ ds' _ _ _ ss' _ HI1.out HI2.out).mono ?_; rintro e w2 ⟨ht, hb⟩; rw [HWR.out] at ht; obtain ⟨P, p, c, rfl, hip, hpc, hfar⟩ := ht; have HIP : Hid (Ints w2 P p (readsV s ds' ss')) := hip; have HB5 := hide (Below.on HB4.out hb); have HAR5 := hide (HAR4.out.below hb); have HFA := hide hfar; clear hb hip hfar))
  go_ret
  have hs4 := HB4.out.size
  have hs5 := HB5.out.size
  refine ⟨⟨w.heap.size + 1, w2.heap.size, P, p, c, rfl, ⟨HAR5.out.alloc _, Boxed.new w2 _ _, HIP.out.below ((Below.refl _ _).alloc (Nat.le_refl _) _)⟩, ⟨by omega, hs5⟩, fun b o e => Nat.le_trans hs4 (HFA.out b o e)⟩, HB5.out.alloc HB5.out.size _⟩

set_option maxRecDepth 100000 in
set_option maxHeartbeats 1000000 in
theorem look1_any (i B1 B2 : Nat) (c0 : Value) (xa : Option Addr) (n xc : Nat) (xs : List Int) (P : Option Addr) (p c : Nat) (Q : List Int) (w : World)
    (h1 : ArrAt w B1 c0 (.slice xa n xc)) (h2 : Boxed w B2 22 (.slice P p c)) (hx : Ints w xa n xs) (hq : Ints w P p Q) (hi : i < p) (h0 : 0 ≤ Q[i]?.getD 0) (hn : Q[i]?.getD 0 < n) :
    Calls Tryz.prog 108 #[.int .i64 i, .pointer (some ⟨B1, 0, none⟩), .pointer (some ⟨B2, 0, none⟩)] w fun e w' => e = .returned (.int .i64 (xs[(Q[i]?.getD 0).toNat]?.getD 0)) ∧ w'.heap = w.heap ∧ Below 0 w w' := by
  have hm1 := hx.2.1
  have hm2 := hq.2.1
  obtain ⟨b', off', rfl, hb', hc'⟩ := hq.at (by omega)
  obtain ⟨m, hm⟩ : ∃ m : Nat, Q[i]?.getD 0 = (m : Int) := ⟨(Q[i]?.getD 0).toNat, by omega⟩
  have cq := hc' i hi
  rw [hm] at cq hn h0 ⊢
  obtain ⟨b, off, rfl, hb, hc⟩ := hx.at (by omega)
  have cx := hc m (by omega)
  rw [Int.toNat_natCast]
  obtain ⟨X, hX⟩ : ∃ X, X = xs[m]?.getD 0 := ⟨_, rfl⟩
  rw [← hX] at cx ⊢
  obtain ⟨⟨a0, a1⟩, _⟩ := h1.cells
  have c2 := h2.cell
  have i1 : (0 : Int) ≤ (i : Int) := Int.natCast_nonneg _
  have i2 : (i : Int) < (p : Int) := by omega
  clear hx hq hc hc' hX h1 h2 hi hm
  go_enter Tryz.func108, Tryz.ntmps108
  go_wp2_with fail
  go_region_held3 (fun w' => w'.cell? ⟨B1, 1, none⟩ = some (.slice (some ⟨b, off, none⟩) n xc) ∧ w'.cell? ⟨B2, 0, none⟩ = some (.slice (some ⟨b', off', none⟩) p c) ∧ w'.cell? ⟨b', off' + i, none⟩ = some (.int .i64 (m : Int)) ∧ w'.cell? ⟨b, off + m, none⟩ = some (.int .i64 X)) (refine ⟨?_, ?_, ?_, ?_⟩ <;> with_reducible (repeat (first | assumption | apply drew_cell))) (fail)
  all_goals go_wp2
  all_goals go_ret
  all_goals exact ⟨rfl, rfl, (Below.refl _ _).drew⟩
end Go.Proofs.YteoobeldmicjhaaGreat.V
namespace Go.Proofs.YteoobeldmicjhaaGreat.V
set_option maxRecDepth 20000
open Go.RowKit

theorem Looks.mono {w W : World} {c0 c1 : Value} {Q : List Int} {e : Ending} {w' : World} (h : Looks W c0 c1 Q e w') (hs : w.heap.size ≤ W.heap.size) : Looks w c0 c1 Q e w' := by
  obtain ⟨B1, B2, P, p, c, h1, h2, h3, h4⟩ := h
  exact ⟨B1, B2, P, p, c, h1, h2, ⟨Nat.le_trans hs h3.1, Nat.le_trans hs h3.2⟩, fun b o e => Nat.le_trans hs (h4 b o e)⟩

set_option maxRecDepth 100000 in
set_option maxHeartbeats 4000000 in
theorem entry_look (k x : Int) (hk : k = 9 ∨ k = 11 ∨ k = 13 ∨ k = 15) (vd va vl vh vs : Value) (b off m cap : Nat) (c0 c1 : Value) (Q : List Int) (w : World) (hm : 0 < m)
    (h0 : w.cell? ⟨b, off, none⟩ = some c0) (h1 : w.cell? ⟨b, off + 1, none⟩ = some c1)
    (hlook : ∀ W, Below w.heap.size w W → Calls Tryz.prog 80 #[.agg #[.int .i64 k, vd, va, vl, vh, vs, .int .i64 x], .agg #[c0, c1]] W fun e W' => Looks W c0 c1 Q e W' ∧ Below W.heap.size W W') :
    Calls Tryz.prog 49 #[.agg #[.int .i64 k, vd, va, vl, vh, vs, .int .i64 x], .slice (some ⟨b, off, none⟩) m cap] w fun e w' => Looks w c0 c1 Q e w' ∧ Below w.heap.size w w' := by
  have HB1 := hide ((Below.refl w.heap.size w).alloc (Nat.le_refl _) (.cells #[.int .i64 k, vd, va, vl, vh, vs, .int .i64 x] 31))
  have HOP := hide (OpAt.new w k vd va vl vh vs x)
  obtain ⟨o0, o1, o2, o3, o4, o5, o6⟩ := HOP.out.cells
  have a0 := alloc_cell (o := .cells #[.int .i64 k, vd, va, vl, vh, vs, .int .i64 x] 31) h0
  have a1 := alloc_cell (o := .cells #[.int .i64 k, vd, va, vl, vh, vs, .int .i64 x] 31) h1
  have HLK := hide (hlook _ HB1.out.drew)
  have i0 : (0 : Int) < (m : Int) := by omega
  clear h0 h1 hlook
  rcases hk with rfl | rfl | rfl | rfl
  all_goals go_enter Tryz.func49, Tryz.ntmps49
  all_goals go_wp2_with fail
  all_goals go_region_with (go_at_call 80; refine HLK.out.mono ?_; rintro e w2 ⟨hlk, hb⟩; have HL2 := hide (hlk.mono HB1.out.size); have HB2 := hide (Below.on HB1.out.drew hb); obtain ⟨B1, B2, P, p, c, rfl, _⟩ := hlk; clear hb)
  all_goals go_wp2
  all_goals go_ret
  all_goals exact ⟨HL2.out, HB2.out⟩

/-- What is looked at. -/
def lookL (xs Q : List Int) : List Int := Q.map fun q => xs[q.toNat]?.getD 0
theorem lookL_length (xs Q : List Int) : (lookL xs Q).length = Q.length := by simp [lookL]
theorem lookL_at (xs Q : List Int) (i : Nat) (h : i < Q.length) : (lookL xs Q)[i]?.getD 0 = xs[(Q[i]?.getD 0).toNat]?.getD 0 := by simp [lookL, h]
theorem lookL_bd {xs Q : List Int} (hb : ∀ x ∈ xs, -9223372036854775808 ≤ x ∧ x ≤ 9223372036854775807) : ∀ y ∈ lookL xs Q, -9223372036854775808 ≤ y ∧ y ≤ 9223372036854775807 := by
  intro y hy
  simp only [lookL, List.mem_map] at hy
  obtain ⟨q, _, rfl⟩ := hy
  by_cases h : q.toNat < xs.length
  · exact hb _ (mem_getD xs _ h)
  · simp [List.getElem?_eq_none (Nat.le_of_not_lt h)]

set_option maxRecDepth 100000 in
set_option maxHeartbeats 4000000 in
theorem work_look (k x : Int) (hk : k = 9 ∨ k = 11 ∨ k = 13 ∨ k = 15) (vd va vl vh vs : Value) (Z : Option Addr) (nz cz g n : Nat) (b off m cap : Nat) (c0 : Value) (xa : Option Addr) (xl xc : Nat) (xs Q : List Int) (w : World) (hm : 0 < m)
    (h0 : w.cell? ⟨b, off, none⟩ = some c0) (h1 : w.cell? ⟨b, off + 1, none⟩ = some (.slice xa xl xc)) (ix : Ints w xa xl xs) (ox : OffG g xa) (hrow : w.rowIs g 2 n (fun _ => .int .i64 0)) (hn : n ≤ 9223372036854775807)
    (hQ : Q.length = n) (hq : ∀ i, i < n → 0 ≤ Q[i]?.getD 0 ∧ Q[i]?.getD 0 < xl)
    (hlook : ∀ W, Below w.heap.size w W → Calls Tryz.prog 80 #[.agg #[.int .i64 k, vd, va, vl, vh, vs, .int .i64 x], .agg #[c0, .slice xa xl xc]] W fun e W' => Looks W c0 (.slice xa xl xc) Q e W' ∧ Below W.heap.size W W') :
    Calls Tryz.prog 24 #[.agg #[.slice Z nz cz, .slice (some ⟨g, 0, none⟩) n n], .agg #[.int .i64 k, vd, va, vl, vh, vs, .int .i64 x], .slice (some ⟨b, off, none⟩) m cap] w fun e w' => e = .returned (.tuple #[]) ∧ w'.rowIs g 2 n (fun j => .int .i64 ((lookL xs Q)[j]?.getD 0)) ∧ Save g w w' := by
  have hgl : g < w.heap.size := hrow.lt
  have HIX := hide ix
  have HR := hide hrow
  have HQ := hide hQ
  have HQB := hide hq
  have HB1 := hide ((Below.refl w.heap.size w).alloc (Nat.le_refl _) (.cells #[.slice Z nz cz, .slice (some ⟨g, 0, none⟩) n n] 25))
  have HB2 := hide (HB1.out.alloc HB1.out.size (.cells #[.int .i64 k, vd, va, vl, vh, vs, .int .i64 x] 31))
  have HAR := hide ((ArrAt.new w (.slice Z nz cz) (.slice (some ⟨g, 0, none⟩) n n)).alloc (.cells #[.int .i64 k, vd, va, vl, vh, vs, .int .i64 x] 31))
  have hop := OpAt.new (w.alloc (.cells #[.slice Z nz cz, .slice (some ⟨g, 0, none⟩) n n] 25)) k vd va vl vh vs x
  simp only [World.size_alloc] at hop
  have HOP := hide hop
  obtain ⟨⟨r0, r1⟩, _⟩ := HAR.out.cells
  obtain ⟨o0, o1, o2, o3, o4, o5, o6⟩ := HOP.out.cells
  have HEN := hide (entry_look k x hk vd va vl vh vs b off m cap c0 (.slice xa xl xc) Q _ hm (drew_cell (alloc_cell (o := .cells #[.int .i64 k, vd, va, vl, vh, vs, .int .i64 x] 31) (alloc_cell (o := .cells #[.slice Z nz cz, .slice (some ⟨g, 0, none⟩) n n] 25) h0))) (drew_cell (alloc_cell (o := .cells #[.int .i64 k, vd, va, vl, vh, vs, .int .i64 x] 31) (alloc_cell (o := .cells #[.slice Z nz cz, .slice (some ⟨g, 0, none⟩) n n] 25) h1))) (fun W hW => hlook W (Below.trans (HB2.out.drew) (hW.mono HB2.out.size))))
  obtain ⟨q12, q10, q14, q16, q17, q18, q19⟩ : (k == 12) = false ∧ (k == 10) = false ∧ (k == 14) = false ∧ (k == 16) = false ∧ (k == 17) = false ∧ (k == 18) = false ∧ (k == 19) = false := by
    rcases hk with rfl | rfl | rfl | rfl <;> decide
  have hcf : ∀ (args : Array Value) (w : World), (callFunc 108 args).run Tryz.prog w = .ok (.enter 108 args) w := enters Tryz.func108 (by kernel_rfl) (by kernel_rfl)
  have HCF := hide hcf
  have HOX := hide ox
  clear h0 h1 ix hrow hop hk hcf ox hlook hQ hq
  go_enter Tryz.func24, Tryz.ntmps24
  go_wp2_with fail
  go_region_held3 (fun w' => w'.cell? ⟨w.heap.size, 1, none⟩ = some (.slice (some ⟨g, 0, none⟩) n n) ∧ w'.cell? ⟨w.heap.size + 1, 0, none⟩ = some (.int .i64 k) ∧ w'.cell? ⟨w.heap.size + 1, 1, none⟩ = some vd ∧ w'.cell? ⟨w.heap.size + 1, 2, none⟩ = some va ∧ w'.cell? ⟨w.heap.size + 1, 3, none⟩ = some vl ∧ w'.cell? ⟨w.heap.size + 1, 4, none⟩ = some vh ∧ w'.cell? ⟨w.heap.size + 1, 5, none⟩ = some vs ∧ w'.cell? ⟨w.heap.size + 1, 6, none⟩ = some (.int .i64 x)) (refine ⟨?_, ?_, ?_, ?_, ?_, ?_, ?_, ?_⟩ <;> with_reducible (repeat (first | assumption | apply drew_cell))) ((first
    | (go_at_call 49; refine HEN.out.mono ?_; rintro e w3 ⟨⟨B1, B2, P, p, c, rfl, hbx, hsz, hfar⟩, hb⟩; have HBX := hide hbx; have HFA : Hid (Far w.heap.size P) := fun b o e => Nat.le_trans HB2.out.size (hfar b o e); have HSZ : Hid (w.heap.size ≤ B1 ∧ w.heap.size ≤ B2) := ⟨Nat.le_trans HB2.out.size hsz.1, Nat.le_trans HB2.out.size hsz.2⟩; have HB3 := hide (Below.on HB2.out.drew hb); have HAR3 := hide ((HAR.out.below ((Below.refl _ _).drew)).below hb); have HOP3 := hide ((HOP.out.below ((Below.refl _ _).drew)).below hb); obtain ⟨⟨r30, r31⟩, _⟩ := HAR3.out.cells; obtain ⟨o30, o31, o32, o33, o34, o35, o36⟩ := HOP3.out.cells; clear hbx hsz hb hfar)
    | (go_at_call 48; refine (fill_any 108 #[.pointer (some ⟨B1, 0, none⟩), .pointer (some ⟨B2, 0, none⟩)] g n (lookL xs Q) [] ((lookL_length _ _).trans HQ.out) _ hn HCF.out ((HR.out.of_block (HB3.out.block g hgl)).congr (fun j _ => by simp [onWay])) (fun i W hi hW => by {
        have hql : i < Q.length := by rw [HQ.out]; exact hi
        rw [lookL_at _ _ _ hql]
        have hs := HSZ.out
        have hqb := HQB.out i hi
        have hip := hW.ints HBX.out.2.2 (fun b' o' e' => by have := HFA.out b' o' e'; omega)
        exact look1_any i B1 B2 c0 xa xl xc xs P p c Q W ((hW.1 B1 (by omega)).trans HBX.out.1) ((hW.1 B2 (by omega)).trans HBX.out.2.1) (hW.ints (HIX.out.below HB3.out) HOX.out) hip (by rw [← hip.1]; exact hql) hqb.1 hqb.2 })).mono ?_; rintro e w4 ⟨rfl, hr4, hbut, h04⟩; have H04 := hide h04; have HR4 := hide (onWay_all hr4); have HBU := hide hbut; have HAR4 : Hid (ArrAt w4 w.heap.size _ _) := (HBU.out.1 w.heap.size (by omega)).trans HAR3.out; have HOP4 : Hid (OpAt w4 (w.heap.size + 1) _ _ _ _ _ _ _) := (HBU.out.1 (w.heap.size + 1) (by omega)).trans HOP3.out; obtain ⟨⟨r40, r41⟩, _⟩ := HAR4.out.cells; obtain ⟨o40, o41, o42, o43, o44, o45, o46⟩ := HOP4.out.cells; clear hr4 hbut h04)))
  all_goals go_wp2
  all_goals exact bodyPost_end (v := .tuple #[]) (by simp [results, Tryz.results24, go_sem]) rfl ⟨rfl, HR4.out, Save.of_below HB3.out HBU.out H04.out⟩
end Go.Proofs.YteoobeldmicjhaaGreat.V
namespace Go.Proofs.YteoobeldmicjhaaGreat.V
set_option maxRecDepth 20000
open Go.RowKit

end Go.Proofs.YteoobeldmicjhaaGreat.V
namespace Go.Proofs.YteoobeldmicjhaaGreat.V
set_option maxRecDepth 20000
open Go.RowKit

end Go.Proofs.YteoobeldmicjhaaGreat.V
namespace Go.Proofs.YteoobeldmicjhaaGreat.V
set_option maxRecDepth 20000
open Go.RowKit

end Go.Proofs.YteoobeldmicjhaaGreat.V
namespace Go.Proofs.YteoobeldmicjhaaGreat.V
set_option maxRecDepth 20000
open Go.RowKit

end Go.Proofs.YteoobeldmicjhaaGreat.V
