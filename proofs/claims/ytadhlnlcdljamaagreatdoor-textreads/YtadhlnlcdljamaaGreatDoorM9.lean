/-
  Contract: adjointlaw3.sameTokens, of the same tokens. Contract: adjointref3.sameDims, of the same dimensions. Contract: adjointref3.sameLists, of the same lists. Contract: adjointref3.SameTree, of the same tree. Contract: adjointref3.SameProgram, of the same program.
-/
import Derived.Test.YtadhlnlcdljamaaGreatDoorM8
import Derived.Test.YtadhlnlcdljamaaGreatDoorTxSev
import Derived.Deep.RegionWith
import Derived.Deep.RegionHeld3
namespace Go.Proofs.YtadhlnlcdljamaaGreatDoor.V
set_option maxRecDepth 20000
open Go.RowKit

theorem below_drewN {B : Nat} {a w : World} (h : Below B a w) (n : Nat) : Below B a (w.drewN n) := ⟨h.os, h.tape, h.output, h.size, h.block⟩

end Go.Proofs.YtadhlnlcdljamaaGreatDoor.V
namespace Go.Proofs.YtadhlnlcdljamaaGreatDoor.V
set_option maxRecDepth 20000
set_option linter.unusedVariables false
open Go.RowKit

/-- An entry of a slice, by its cells. -/
theorem slice_at {α : Type} {p : World → (Nat → Prop) → α → List Value → Prop} {m : Nat} {w : World} {S : Nat → Prop} (hp : ∀ a c, p w S a c → c.length = m) {us : List α} {A : Option Addr} {n c : Nat} (h : SliceV p w S us (.slice A n c)) (i : Nat) (hi : i < us.length) (hm : 0 < m) :
    n = us.length ∧ ∃ g cs, A = some ⟨g, 0, none⟩ ∧ g < w.heap.size ∧ p w S us[i] cs ∧ ∀ j, j < m → w.cell? ⟨g, i * m + j, none⟩ = cs[j]? := by
  obtain ⟨cs, ⟨A', c', e, hc, hr⟩, hs⟩ := h
  cases e
  refine ⟨rfl, ?_⟩
  have hl := RowsV.length hp hs
  rcases hr with ⟨_, h0⟩ | ⟨g, rfl, _, h2, h3⟩
  · omega
  · obtain ⟨ci, h4, h5⟩ := RowsV.at hp i us[i] hs (by simp [hi])
    refine ⟨g, ci, rfl, h2, h4, fun j hj => ?_⟩
    have : i * m + j < us.length * m := by
      have h6 : (i + 1) * m ≤ us.length * m := Nat.mul_le_mul_right _ (by omega)
      rw [Nat.succ_mul] at h6
      omega
    exact (h3 _ (by omega)).trans (h5 j hj)

set_option maxRecDepth 100000 in
set_option maxHeartbeats 4000000 in
theorem same_dims (A1 A2 : Option Addr) (n1 n2 c1 c2 : Nat) (S1 S2 : Nat → Prop) (ds : List (ByteArray × Int)) (w : World) (h1 : SliceV DimV w S1 ds (.slice A1 n1 c1)) (h2 : SliceV DimV w S2 ds (.slice A2 n2 c2)) (hn : ds.length < 9223372036854775807) :
    Calls Tryz.prog 14 #[.slice A1 n1 c1, .slice A2 n2 c2] w fun e w' => e = .returned (.bool true) ∧ Below w.heap.size w w' := by
  have e1 : n1 = ds.length := by obtain ⟨_, _, e⟩ := h1.form; cases e; rfl
  have e2 : n2 = ds.length := by obtain ⟨_, _, e⟩ := h2.form; cases e; rfl
  subst e1
  subst e2
  have H1 := hide h1
  have H2 := hide h2
  obtain ⟨n, hnn⟩ : ∃ n, n = ds.length := ⟨_, rfl⟩
  have HN := hide hnn
  rw [← hnn] at hn ⊢
  clear h1 h2 hnn
  go_enter Tryz.func14, Tryz.ntmps14
  go_wp2
  go_loopw [13] (fun i wr => ∃ k : Nat, k ≤ n ∧ i = .int .i64 (k : Int) ∧ Below w.heap.size w wr) (fun i _ => n - (intOf i).toNat)
  case atStart => exact ⟨0, Nat.zero_le _, rfl, Below.refl _ _⟩
  case round =>
    obtain ⟨k, hk, rfl, hB⟩ := hrel
    have HB := hide hB
    by_cases hlt : k < n
    · have hlt' : k < ds.length := by have := HN.out; omega
      obtain ⟨_, g1, cs1, rfl, hg1, hd1, hc1⟩ := slice_at DimV.len H1.out k hlt' (by decide)
      obtain ⟨_, g2, cs2, rfl, hg2, hd2, hc2⟩ := slice_at DimV.len H2.out k hlt' (by decide)
      have hd1' : cs1 = [.string ds[k].1, .int .i64 ds[k].2] := hd1
      have hd2' : cs2 = [.string ds[k].1, .int .i64 ds[k].2] := hd2
      have p0 := (hB.cell (p := ⟨g1, k * 2 + 0, none⟩) hg1).trans (hc1 0 (by decide))
      have p1 := (hB.cell (p := ⟨g1, k * 2 + 1, none⟩) hg1).trans (hc1 1 (by decide))
      have q0 := (hB.cell (p := ⟨g2, k * 2 + 0, none⟩) hg2).trans (hc2 0 (by decide))
      have q1 := (hB.cell (p := ⟨g2, k * 2 + 1, none⟩) hg2).trans (hc2 1 (by decide))
      rw [hd1'] at p0 p1
      rw [hd2'] at q0 q1
      obtain ⟨S, hS⟩ : ∃ S, S = ds[k].1 := ⟨_, rfl⟩
      obtain ⟨K, hK⟩ : ∃ K : Int, K = ds[k].2 := ⟨_, rfl⟩
      rw [← hS, ← hK] at p0 p1 q0 q1
      simp only [Nat.add_zero, List.getElem?_cons_zero, List.getElem?_cons_succ] at p0 p1 q0 q1
      have i1 : (0 : Int) ≤ (k : Int) := Int.natCast_nonneg _
      have i2 : (k : Int) < (n : Int) := by omega
      clear hS hK hc1 hc2 hd1 hd2 hd1' hd2' hg1 hg2 hB H1 H2
      go_wp2
      go_quiet (fail)
      have HB2 : Hid (Below w.heap.size w (wr.drewN nq)) := below_drewN HB.out nq
      go_wp2
      go_roundw
      case rel => exact ⟨k + 1, by omega, by go_num, HB2.out⟩
      case measure => simp [intOf]; omega
    · clear hB
      go_wp2
      go_ret
      exact ⟨rfl, HB.out⟩
end Go.Proofs.YtadhlnlcdljamaaGreatDoor.V
namespace Go.Proofs.YtadhlnlcdljamaaGreatDoor.V
set_option maxRecDepth 20000
open Go.RowKit

set_option maxRecDepth 100000 in
set_option maxHeartbeats 8000000 in
theorem same_lists (A1 A2 : Option Addr) (n1 n2 c1 c2 : Nat) (S1 S2 : Nat → Prop) (ls : List (List Int)) (w : World) (h1 : SliceV ListV w S1 ls (.slice A1 n1 c1)) (h2 : SliceV ListV w S2 ls (.slice A2 n2 c2)) (hn : ls.length < 9223372036854775807) (hm : ∀ l ∈ ls, l.length < 9223372036854775807) :
    Calls Tryz.prog 29 #[.slice A1 n1 c1, .slice A2 n2 c2] w fun e w' => e = .returned (.bool true) ∧ Below w.heap.size w w' := by
  have e1 : n1 = ls.length := by obtain ⟨_, _, e⟩ := h1.form; cases e; rfl
  have e2 : n2 = ls.length := by obtain ⟨_, _, e⟩ := h2.form; cases e; rfl
  subst e1
  subst e2
  have H1 := hide h1
  have H2 := hide h2
  have HM := hide hm
  obtain ⟨n, hnn⟩ : ∃ n, n = ls.length := ⟨_, rfl⟩
  have HN := hide hnn
  rw [← hnn] at hn ⊢
  clear h1 h2 hnn hm
  go_enter Tryz.func29, Tryz.ntmps29
  go_wp2
  go_loopw [14] (fun i wr => ∃ k : Nat, k ≤ n ∧ i = .int .i64 (k : Int) ∧ Below w.heap.size w wr) (fun i _ => n - (intOf i).toNat)
  case atStart => exact ⟨0, Nat.zero_le _, rfl, Below.refl _ _⟩
  case round =>
    obtain ⟨k, hk, rfl, hB⟩ := hrel
    have HB := hide hB
    by_cases hlt : k < n
    · have hlt' : k < ls.length := by have := HN.out; omega
      obtain ⟨_, g1, cs1, rfl, hg1, ⟨v1, hv1, hl1⟩, hc1⟩ := slice_at ListV.len H1.out k hlt' (by decide)
      obtain ⟨_, g2, cs2, rfl, hg2, ⟨v2, hv2, hl2⟩, hc2⟩ := slice_at ListV.len H2.out k hlt' (by decide)
      obtain ⟨D1, d1, rfl⟩ := hl1.form
      obtain ⟨D2, d2, rfl⟩ := hl2.form
      have pp := hc1 0 (by decide)
      have qq := hc2 0 (by decide)
      rw [hv1] at pp
      rw [hv2] at qq
      simp only [Nat.add_zero, Nat.mul_one, List.getElem?_cons_zero] at pp qq
      have HP0 := hide pp
      have HQ0 := hide qq
      have HL1 := hide hl1
      have HL2 := hide hl2
      have HG1 := hide hg1
      have HG2 := hide hg2
      have hml := HM.out _ (List.getElem_mem hlt')
      obtain ⟨l, hl⟩ : ∃ l, l = ls[k] := ⟨_, rfl⟩
      rw [← hl] at HP0 HQ0 HL1 HL2 hml
      have p0 := (hB.cell (p := ⟨g1, k, none⟩) hg1).trans HP0.out
      have q0 := (hB.cell (p := ⟨g2, k, none⟩) hg2).trans HQ0.out
      have i1 : (0 : Int) ≤ (k : Int) := Int.natCast_nonneg _
      have i2 : (k : Int) < (n : Int) := by omega
      clear hl pp qq hc1 hc2 hl1 hl2 hg1 hg2 hB hv1 hv2 H1 H2 hlt'
      go_wp2
      go_quiet (fail)
      obtain ⟨wq, hwq⟩ : ∃ wq, wq = wr.drewN nq := ⟨_, rfl⟩
      have HB2 : Hid (Below w.heap.size w wq) := by rw [hwq]; exact below_drewN HB.out nq
      rw [← hwq]
      clear hwq
      have p1 := (HB2.out.cell (p := ⟨g1, k, none⟩) HG1.out).trans HP0.out
      have q1 := (HB2.out.cell (p := ⟨g2, k, none⟩) HG2.out).trans HQ0.out
      go_wp2
      go_loopw [33] (fun i wr => ∃ m : Nat, m ≤ l.length ∧ i = .int .i64 (m : Int) ∧ Below w.heap.size w wr) (fun i _ => l.length - (intOf i).toNat)
      case atStart => exact ⟨0, Nat.zero_le _, rfl, HB2.out⟩
      case round =>
        obtain ⟨m, hm, rfl, hB3⟩ := hrel
        have HB3 := hide hB3
        by_cases hlt2 : m < l.length
        · obtain ⟨_, x1, e1, rfl, hx1, hd1, he1⟩ := slice_at IntV.len HL1.out m hlt2 (by decide)
          obtain ⟨_, x2, e2, rfl, hx2, hd2, he2⟩ := slice_at IntV.len HL2.out m hlt2 (by decide)
          have hd1' : e1 = [.int .i64 l[m]] := hd1
          have hd2' : e2 = [.int .i64 l[m]] := hd2
          have y0 := (hB3.cell (p := ⟨x1, m * 1 + 0, none⟩) hx1).trans (he1 0 (by decide))
          have z0 := (hB3.cell (p := ⟨x2, m * 1 + 0, none⟩) hx2).trans (he2 0 (by decide))
          rw [hd1'] at y0
          rw [hd2'] at z0
          obtain ⟨V, hV⟩ : ∃ V, V = l[m] := ⟨_, rfl⟩
          rw [← hV] at y0 z0
          simp only [Nat.add_zero, Nat.mul_one, List.getElem?_cons_zero] at y0 z0
          have p2 := (hB3.cell (p := ⟨g1, k, none⟩) HG1.out).trans HP0.out
          have q2 := (hB3.cell (p := ⟨g2, k, none⟩) HG2.out).trans HQ0.out
          have i3 : (0 : Int) ≤ (m : Int) := Int.natCast_nonneg _
          have i4 : (m : Int) < (l.length : Int) := by omega
          clear hV he1 he2 hd1 hd2 hd1' hd2' hx1 hx2 hB3
          go_wp2
          go_quiet (fail)
          have HB4 := hide (below_drewN HB3.out nq)
          go_wp2
          go_roundw
          case rel => exact ⟨m + 1, by omega, by go_num, HB4.out⟩
          case measure => simp [intOf]; omega
        · clear hB3
          go_wp2
          go_roundw
          case rel => exact ⟨k + 1, by omega, by go_num, HB3.out⟩
          case measure => simp [intOf]; omega
    · clear hB
      go_wp2
      go_ret
      exact ⟨rfl, HB.out⟩
end Go.Proofs.YtadhlnlcdljamaaGreatDoor.V
namespace Go.Proofs.YtadhlnlcdljamaaGreatDoor.V
set_option maxRecDepth 20000
open Go.RowKit
set_option linter.unusedVariables false

theorem kid_size {kind : Int} {name : ByteArray} {num : Int} {shaped : Bool} {shape : List (ByteArray × Int)} {lists : List (List Int)} {kids : List Tr} {t : Tr} (h : t ∈ kids) : SizeOf.sizeOf t < SizeOf.sizeOf (Tr.mk kind name num shaped shape lists kids) := by
  have := List.sizeOf_lt_of_mem h
  simp only [Tr.mk.sizeOf_spec]
  omega
theorem below_then {w w1 w2 : World} (h : Below w.heap.size w w1) (k : Below w1.heap.size w1 w2) : Below w.heap.size w w2 := h.trans (k.mono h.size)
def SevB (w : World) (b : Nat) (c0 c1 c2 c3 c4 c5 c6 : Value) : Prop := w.heap[b]? = some (.cells #[c0, c1, c2, c3, c4, c5, c6] 47 (0, 0))
theorem sevB_cells {w : World} {b : Nat} {c0 c1 c2 c3 c4 c5 c6 : Value} (h : SevB w b c0 c1 c2 c3 c4 c5 c6) : w.cell? ⟨b, 0, none⟩ = some c0 ∧ w.cell? ⟨b, 1, none⟩ = some c1 ∧ w.cell? ⟨b, 2, none⟩ = some c2 ∧ w.cell? ⟨b, 3, none⟩ = some c3 ∧ w.cell? ⟨b, 4, none⟩ = some c4 ∧ w.cell? ⟨b, 5, none⟩ = some c5 ∧ w.cell? ⟨b, 6, none⟩ = some c6 := by
  unfold SevB at h
  refine ⟨?_, ?_, ?_, ?_, ?_, ?_, ?_⟩ <;> simp [World.cell?, h]
theorem len7 {cs : List Value} (h : cs.length = 7) : ∃ c0 c1 c2 c3 c4 c5 c6, cs = [c0, c1, c2, c3, c4, c5, c6] := by
  match cs, h with
  | [c0, c1, c2, c3, c4, c5, c6], _ => exact ⟨c0, c1, c2, c3, c4, c5, c6, rfl⟩

set_option maxRecDepth 100000 in
set_option maxHeartbeats 4000000 in
theorem same_tree (N : Nat) (hN : N < 9223372036854775807) : ∀ (m : Nat) (t : Tr) (cs1 cs2 : List Value) (S1 S2 : Nat → Prop) (w : World), SizeOf.sizeOf t ≤ m → TrOk N t → TreeV w S1 t cs1 → TreeV w S2 t cs2 →
    Calls Tryz.prog 13 #[.agg cs1.toArray, .agg cs2.toArray] w fun e w' => e = .returned (.bool true) ∧ Below w.heap.size w w' := by
  intro m
  induction m with
  | zero =>
    rintro ⟨kind, name, num, shaped, shape, lists, kids⟩ cs1 cs2 S1 S2 w hm
    simp at hm
  | succ m ih =>
    rintro ⟨kind, name, num, shaped, shape, lists, kids⟩ cs1 cs2 S1 S2 w hm hok h1 h2
    rw [TreeV.iff] at h1 h2
    rw [TrOk] at hok
    obtain ⟨o1, o2, o3, o4, o5⟩ := hok
    obtain ⟨vs1, vl1, vk1, rfl, a1, b1, c1⟩ := h1
    obtain ⟨vs2, vl2, vk2, rfl, a2, b2, c2⟩ := h2
    obtain ⟨As1, cs1, rfl⟩ := a1.form
    obtain ⟨As2, cs2, rfl⟩ := a2.form
    obtain ⟨Al1, cl1, rfl⟩ := b1.form
    obtain ⟨Al2, cl2, rfl⟩ := b2.form
    obtain ⟨Ak1, ck1, rfl⟩ := c1.form
    obtain ⟨Ak2, ck2, rfl⟩ := c2.form
    obtain ⟨O1, hO1⟩ : ∃ O : Obj, O = .cells #[.int .i64 kind, .string name, .int .i64 num, .bool shaped, .slice As1 shape.length cs1, .slice Al1 lists.length cl1, .slice Ak1 kids.length ck1] 47 := ⟨_, rfl⟩
    obtain ⟨O2, hO2⟩ : ∃ O : Obj, O = .cells #[.int .i64 kind, .string name, .int .i64 num, .bool shaped, .slice As2 shape.length cs2, .slice Al2 lists.length cl2, .slice Ak2 kids.length ck2] 47 := ⟨_, rfl⟩
    have hb0 : Below w.heap.size w ((w.alloc O1).alloc O2) := ((Below.refl _ _).alloc (Nat.le_refl _) _).alloc (by simp) _
    have e1 : ((w.alloc O1).alloc O2).heap[w.heap.size]? = some O1 := (Below.heap_alloc _ _ _ (by simp)).trans (World.alloc_heap_new _ _)
    have e2 : ((w.alloc O1).alloc O2).heap[w.heap.size + 1]? = some O2 := by have := World.alloc_heap_new (w.alloc O1) O2; simpa using this
    subst hO1
    subst hO2
    have E1 := hide e1
    have E2 := hide e2
    have HB0 := hide hb0
    have hkid : ∀ (i : Nat) (hi : i < kids.length) (k1 k2 : List Value) (W : World), TreeV W S1 kids[i] k1 → TreeV W S2 kids[i] k2 → Calls Tryz.prog 13 #[.agg k1.toArray, .agg k2.toArray] W fun e w' => e = .returned (.bool true) ∧ Below W.heap.size W w' := by
      intro i hi k1 k2 W q1 q2
      refine ih _ _ _ S1 S2 W ?_ (kidsOk_all.1 o5 _ (List.getElem_mem hi)) q1 q2
      have := kid_size (kind := kind) (name := name) (num := num) (shaped := shaped) (shape := shape) (lists := lists) (List.getElem_mem hi)
      omega
    have HK := hide hkid
    have A1 := hide a1
    have A2 := hide a2
    have B1 := hide b1
    have B2 := hide b2
    have C1 := hide c1
    have C2 := hide c2
    have O3 := hide o3
    obtain ⟨nk, hnk⟩ : ∃ nk, nk = kids.length := ⟨_, rfl⟩
    have HNK := hide hnk
    rw [← hnk] at o4 E1 E2 HB0 C1 C2 ⊢
    obtain ⟨ns, hns⟩ : ∃ ns, ns = shape.length := ⟨_, rfl⟩
    have HNS := hide hns
    rw [← hns] at o1 E1 E2 HB0 A1 A2 ⊢
    obtain ⟨nl, hnl⟩ : ∃ nl, nl = lists.length := ⟨_, rfl⟩
    have HNL := hide hnl
    rw [← hnl] at o2 E1 E2 HB0 B1 B2 ⊢
    clear ih hm a1 a2 b1 b2 c1 c2 o3 o5 hb0 e1 e2 hkid hnk hns hnl
    go_enter Tryz.func13, Tryz.ntmps13
    go_wp2_with fail
    obtain ⟨W0, hW0⟩ : ∃ W0, W0 = ((w.alloc (.cells #[.int .i64 kind, .string name, .int .i64 num, .bool shaped, .slice As1 ns cs1, .slice Al1 nl cl1, .slice Ak1 nk ck1] 47)).alloc (.cells #[.int .i64 kind, .string name, .int .i64 num, .bool shaped, .slice As2 ns cs2, .slice Al2 nl cl2, .slice Ak2 nk ck2] 47)) := ⟨_, rfl⟩
    rw [← hW0] at E1 E2 HB0 ⊢
    have z1 : w.heap.size < W0.heap.size := (Array.getElem?_eq_some_iff.1 E1.out).1
    have z2 : w.heap.size + 1 < W0.heap.size := (Array.getElem?_eq_some_iff.1 E2.out).1
    clear hW0
    refine (same_dims As1 As2 ns ns cs1 cs2 S1 S2 shape W0 (DimV.stays.slice A1.out (Keep.of_below HB0.out)) (DimV.stays.slice A2.out (Keep.of_below HB0.out)) (by have := HNS.out; omega)).mono ?_
    rintro e w1 ⟨rfl, q1⟩
    have HB1 := hide (below_then HB0.out q1)
    have E11 : Hid (SevB w1 w.heap.size _ _ _ _ _ _ _) := (q1.block _ z1).trans E1.out
    have E12 : Hid (SevB w1 (w.heap.size + 1) _ _ _ _ _ _ _) := (q1.block _ z2).trans E2.out
    have z11 := Nat.lt_of_lt_of_le z1 q1.size
    have z12 := Nat.lt_of_lt_of_le z2 q1.size
    obtain ⟨f0, f1, f2, f3, f4, f5, f6⟩ := sevB_cells E11.out
    obtain ⟨g0, g1, g2, g3, g4, g5, g6⟩ := sevB_cells E12.out
    clear q1 E1 E2 HB0 z1 z2 A1 A2
    go_wp2_with fail
    refine (same_lists Al1 Al2 nl nl cl1 cl2 S1 S2 lists w1 (ListV.stays.slice B1.out (Keep.of_below HB1.out)) (ListV.stays.slice B2.out (Keep.of_below HB1.out)) (by have := HNL.out; omega) (fun l hl => by have := O3.out l hl; omega)).mono ?_
    rintro e w2 ⟨rfl, q2⟩
    have HB2 := hide (below_then HB1.out q2)
    have E21 : Hid (SevB w2 w.heap.size _ _ _ _ _ _ _) := (q2.block _ z11).trans E11.out
    have E22 : Hid (SevB w2 (w.heap.size + 1) _ _ _ _ _ _ _) := (q2.block _ z12).trans E12.out
    have z21 := Nat.lt_of_lt_of_le z11 q2.size
    have z22 := Nat.lt_of_lt_of_le z12 q2.size
    clear f0 f1 f2 f3 f4 f5 f6 g0 g1 g2 g3 g4 g5 g6 q2 E11 E12 z11 z12 HB1 B1 B2
    obtain ⟨f0, f1, f2, f3, f4, f5, f6⟩ := sevB_cells E21.out
    obtain ⟨g0, g1, g2, g3, g4, g5, g6⟩ := sevB_cells E22.out
    clear f0 f1 f2 f3 f4 f5 g0 g1 g2 g3 g4 g5
    go_wp2_with fail
    go_loopw [60] (fun i wr => ∃ j : Nat, j ≤ nk ∧ i = .int .i64 j ∧ Below w2.heap.size w2 wr) (fun i _ => nk - (intOf i).toNat)
    case atStart => exact ⟨0, Nat.zero_le _, rfl, Below.refl _ _⟩
    case round =>
      obtain ⟨j, j1, rfl, j2⟩ := hrel
      have J2 := hide j2
      by_cases hj : j < nk
      · have hj' : j < kids.length := by have := HNK.out; omega
        have hbw := below_then HB2.out j2
        have HBW := hide hbw
        have t1 := TreeV.stays.slice C1.out (Keep.of_below hbw)
        have t2 := TreeV.stays.slice C2.out (Keep.of_below hbw)
        obtain ⟨hq1, g1, ks1, rfl, hg1, ht1, hc1⟩ := slice_at TreeV.len t1 j hj' (by decide)
        obtain ⟨hq2, g2, ks2, rfl, hg2, ht2, hc2⟩ := slice_at TreeV.len t2 j hj' (by decide)
        have f6' := (j2.cell (p := ⟨w.heap.size, 6, none⟩) z21).trans f6
        have g6' := (j2.cell (p := ⟨w.heap.size + 1, 6, none⟩) z22).trans g6
        obtain ⟨a0, a1, a2, a3, a4, a5, a6, rfl⟩ := len7 (TreeV.len _ _ ht1)
        obtain ⟨b0, b1, b2, b3, b4, b5, b6, rfl⟩ := len7 (TreeV.len _ _ ht2)
        have x0 := hc1 0 (by decide)
        have y0 := hc2 0 (by decide)
        have x1 := hc1 1 (by decide)
        have y1 := hc2 1 (by decide)
        have x2 := hc1 2 (by decide)
        have y2 := hc2 2 (by decide)
        have x3 := hc1 3 (by decide)
        have y3 := hc2 3 (by decide)
        have x4 := hc1 4 (by decide)
        have y4 := hc2 4 (by decide)
        have x5 := hc1 5 (by decide)
        have y5 := hc2 5 (by decide)
        have x6 := hc1 6 (by decide)
        have y6 := hc2 6 (by decide)
        simp only [Nat.add_zero, List.getElem?_cons_zero, List.getElem?_cons_succ] at x0 x1 x2 x3 x4 x5 x6 y0 y1 y2 y3 y4 y5 y6
        have hcall := HK.out j hj' [a0, a1, a2, a3, a4, a5, a6] [b0, b1, b2, b3, b4, b5, b6] wr.drew (TreeV.stays.keep ht1 (Keep.of_below (Below.refl _ wr).drew)) (TreeV.stays.keep ht2 (Keep.of_below (Below.refl _ wr).drew))
        have HCALL := hide hcall
        have i1 : (0 : Int) ≤ (j : Int) := Int.natCast_nonneg _
        have i2 : (j : Int) < (nk : Int) := by omega
        have zz1 := Nat.lt_of_lt_of_le z21 j2.size
        have zz2 := Nat.lt_of_lt_of_le z22 j2.size
        have HDR : Hid (Below w2.heap.size w2 wr.drew) := J2.out.drew
        clear hq1 hq2 hcall ht1 ht2 hc1 hc2 t1 t2 hbw j2 f6 g6 HK C1 C2 HBW
        go_wp2_with fail
        go_region_with (go_at_call 13; refine HCALL.out.mono ?_; rintro e w3 ⟨rfl, q3⟩; have HB3 := hide (below_then HDR.out q3); clear q3)
        all_goals simp only [List.getElem_toArray, List.getElem_cons_succ, List.getElem_cons_zero, Act.put, List.setIfInBounds_toArray, List.set_cons_zero, List.set_cons_succ]
        all_goals go_wp2_with fail
        all_goals go_roundw
        all_goals try (case measure => simp [intOf]; omega)
        all_goals
          have hr : ∃ j' : Nat, j' ≤ nk ∧ Value.int .i64 ((j : Int) + 1) = .int .i64 j' ∧ Below w2.heap.size w2 w3 := ⟨j + 1, by omega, by go_num, HB3.out⟩
          first
          | exact hr
          | (repeat apply Exists.intro
             exact ⟨hr, rfl⟩)
      · go_wp2_with fail
        go_ret
        exact ⟨rfl, below_then HB2.out J2.out⟩
end Go.Proofs.YtadhlnlcdljamaaGreatDoor.V
namespace Go.Proofs.YtadhlnlcdljamaaGreatDoor.V
set_option maxRecDepth 20000
open Go.RowKit
set_option linter.unusedVariables false

theorem drew_cell' {w : World} {p : Addr} {v : Value} (h : w.cell? p = some v) : w.drew.cell? p = some v := h
theorem cell_lt9 {w : World} {p : Addr} {v : Value} (h : w.cell? p = some v) : p.block < w.heap.size := by
  by_cases hl : p.block < w.heap.size
  · exact hl
  · have e : w.heap[p.block]? = none := by simp; omega
    simp [World.cell?, e] at h

theorem FuncV.len9 {w : World} {S : Nat → Prop} (f : FnT) (cs : List Value) (h : FuncV w S f cs) : cs.length = 9 := by
  obtain ⟨v, ct, rfl, _, ht⟩ := h
  have := TreeV.len _ _ ht
  simp [this]

set_option maxRecDepth 100000 in
set_option maxHeartbeats 4000000 in
theorem same_program (N : Nat) (hN : N < 9223372036854775807) (A1 A2 : Option Addr) (n1 n2 c1 c2 : Nat) (S1 S2 : Nat → Prop) (fs : List FnT) (w : World) (h1 : SliceV FuncV w S1 fs (.slice A1 n1 c1)) (h2 : SliceV FuncV w S2 fs (.slice A2 n2 c2)) (hn : fs.length ≤ N) (hf : ∀ f ∈ fs, FnOk N f) :
    Calls Tryz.prog 6 #[.slice A1 n1 c1, .slice A2 n2 c2] w fun e w' => e = .returned (.bool true) ∧ Below w.heap.size w w' := by
  have e1 : n1 = fs.length := by obtain ⟨_, _, e⟩ := h1.form; cases e; rfl
  have e2 : n2 = fs.length := by obtain ⟨_, _, e⟩ := h2.form; cases e; rfl
  subst e1
  subst e2
  have H1 := hide h1
  have H2 := hide h2
  have HF := hide hf
  obtain ⟨n, hnn⟩ : ∃ n, n = fs.length := ⟨_, rfl⟩
  have HN := hide hnn
  rw [← hnn] at hn H1 H2 ⊢
  clear h1 h2 hnn hf
  go_enter Tryz.func6, Tryz.ntmps6
  go_wp2_with fail
  go_loopw [14] (fun i wr => ∃ j : Nat, j ≤ n ∧ i = .int .i64 j ∧ Below w.heap.size w wr) (fun i _ => n - (intOf i).toNat)
  case atStart => exact ⟨0, Nat.zero_le _, rfl, Below.refl _ _⟩
  case round =>
    obtain ⟨j, j1, rfl, j2⟩ := hrel
    have J2 := hide j2
    by_cases hj : j < n
    · have hj' : j < fs.length := by have := HN.out; omega
      have t1 := FuncV.stays.slice H1.out (Keep.of_below j2)
      have t2 := FuncV.stays.slice H2.out (Keep.of_below j2)
      obtain ⟨hq1, g1, ks1, rfl, hg1, ht1, hc1⟩ := slice_at FuncV.len9 t1 j hj' (by decide)
      obtain ⟨hq2, g2, ks2, rfl, hg2, ht2, hc2⟩ := slice_at FuncV.len9 t2 j hj' (by decide)
      obtain ⟨k1, k2, k3⟩ := HF.out _ (List.getElem_mem hj')
      obtain ⟨F, hF⟩ : ∃ F, F = fs[j] := ⟨_, rfl⟩
      rw [← hF] at ht1 ht2 k1 k2 k3
      obtain ⟨nm, gv, bd⟩ := F
      obtain ⟨vg1, ct1, rfl, p1, p2⟩ := ht1
      obtain ⟨vg2, ct2, rfl, r1, r2⟩ := ht2
      simp only at p1 p2 r1 r2 k1 k2 k3
      obtain ⟨Ag1, cg1, rfl⟩ := p1.form
      obtain ⟨Ag2, cg2, rfl⟩ := r1.form
      obtain ⟨a0, a1, a2, a3, a4, a5, a6, rfl⟩ := len7 (TreeV.len _ _ p2)
      obtain ⟨b0, b1, b2, b3, b4, b5, b6, rfl⟩ := len7 (TreeV.len _ _ r2)
      have x0 := hc1 0 (by decide)
      have y0 := hc2 0 (by decide)
      have x1 := hc1 1 (by decide)
      have y1 := hc2 1 (by decide)
      have x2 := hc1 2 (by decide)
      have y2 := hc2 2 (by decide)
      have x3 := hc1 3 (by decide)
      have y3 := hc2 3 (by decide)
      have x4 := hc1 4 (by decide)
      have y4 := hc2 4 (by decide)
      have x5 := hc1 5 (by decide)
      have y5 := hc2 5 (by decide)
      have x6 := hc1 6 (by decide)
      have y6 := hc2 6 (by decide)
      have x7 := hc1 7 (by decide)
      have y7 := hc2 7 (by decide)
      have x8 := hc1 8 (by decide)
      have y8 := hc2 8 (by decide)
      simp only [Nat.add_zero, List.getElem?_cons_zero, List.getElem?_cons_succ] at x0 x1 x2 x3 x4 x5 x6 x7 x8 y0 y1 y2 y3 y4 y5 y6 y7 y8
      obtain ⟨ng, hng⟩ : ∃ ng, ng = gv.length := ⟨_, rfl⟩
      have HNG := hide hng
      rw [← hng] at x1 y1 k1 p1 r1
      have P1 := hide p1
      have P2 := hide p2
      have R1 := hide r1
      have R2 := hide r2
      have K2 := hide k2
      have HST : Hid (∀ W, Below wr.heap.size wr W → Calls Tryz.prog 13 #[.agg #[a0, a1, a2, a3, a4, a5, a6], .agg #[b0, b1, b2, b3, b4, b5, b6]] W fun e w' => e = .returned (.bool true) ∧ Below W.heap.size W w') := fun W hW => same_tree N hN _ bd _ _ S1 S2 W (Nat.le_refl _) k3 (TreeV.stays.keep p2 (Keep.of_below hW)) (TreeV.stays.keep r2 (Keep.of_below hW))
      have i1 : (0 : Int) ≤ (j : Int) := Int.natCast_nonneg _
      have i2 : (j : Int) < (n : Int) := by omega
      clear hq1 hq2 hc1 hc2 t1 t2 hng p1 p2 r1 r2 k2 k3 hF H1 H2 HF
      have HCELLS : Hid (∀ W, Below wr.heap.size wr W → (fun w' => w'.cell? ⟨g1, j * 9, none⟩ = some (.string nm) ∧ w'.cell? ⟨g1, j * 9 + 1, none⟩ = some (.slice Ag1 ng cg1) ∧ w'.cell? ⟨g1, j * 9 + 2, none⟩ = some a0 ∧ w'.cell? ⟨g1, j * 9 + 3, none⟩ = some a1 ∧ w'.cell? ⟨g1, j * 9 + 4, none⟩ = some a2 ∧ w'.cell? ⟨g1, j * 9 + 5, none⟩ = some a3 ∧ w'.cell? ⟨g1, j * 9 + 6, none⟩ = some a4 ∧ w'.cell? ⟨g1, j * 9 + 7, none⟩ = some a5 ∧ w'.cell? ⟨g1, j * 9 + 8, none⟩ = some a6 ∧ w'.cell? ⟨g2, j * 9, none⟩ = some (.string nm) ∧ w'.cell? ⟨g2, j * 9 + 1, none⟩ = some (.slice Ag2 ng cg2) ∧ w'.cell? ⟨g2, j * 9 + 2, none⟩ = some b0 ∧ w'.cell? ⟨g2, j * 9 + 3, none⟩ = some b1 ∧ w'.cell? ⟨g2, j * 9 + 4, none⟩ = some b2 ∧ w'.cell? ⟨g2, j * 9 + 5, none⟩ = some b3 ∧ w'.cell? ⟨g2, j * 9 + 6, none⟩ = some b4 ∧ w'.cell? ⟨g2, j * 9 + 7, none⟩ = some b5 ∧ w'.cell? ⟨g2, j * 9 + 8, none⟩ = some b6) W) := fun W hW => ⟨(hW.cell (p := ⟨g1, j * 9, none⟩) hg1).trans x0, (hW.cell (p := ⟨g1, j * 9 + 1, none⟩) hg1).trans x1, (hW.cell (p := ⟨g1, j * 9 + 2, none⟩) hg1).trans x2, (hW.cell (p := ⟨g1, j * 9 + 3, none⟩) hg1).trans x3, (hW.cell (p := ⟨g1, j * 9 + 4, none⟩) hg1).trans x4, (hW.cell (p := ⟨g1, j * 9 + 5, none⟩) hg1).trans x5, (hW.cell (p := ⟨g1, j * 9 + 6, none⟩) hg1).trans x6, (hW.cell (p := ⟨g1, j * 9 + 7, none⟩) hg1).trans x7, (hW.cell (p := ⟨g1, j * 9 + 8, none⟩) hg1).trans x8, (hW.cell (p := ⟨g2, j * 9, none⟩) hg2).trans y0, (hW.cell (p := ⟨g2, j * 9 + 1, none⟩) hg2).trans y1, (hW.cell (p := ⟨g2, j * 9 + 2, none⟩) hg2).trans y2, (hW.cell (p := ⟨g2, j * 9 + 3, none⟩) hg2).trans y3, (hW.cell (p := ⟨g2, j * 9 + 4, none⟩) hg2).trans y4, (hW.cell (p := ⟨g2, j * 9 + 5, none⟩) hg2).trans y5, (hW.cell (p := ⟨g2, j * 9 + 6, none⟩) hg2).trans y6, (hW.cell (p := ⟨g2, j * 9 + 7, none⟩) hg2).trans y7, (hW.cell (p := ⟨g2, j * 9 + 8, none⟩) hg2).trans y8⟩
      go_wp2_with fail
      go_region_held3 (fun w' => w'.cell? ⟨g1, j * 9, none⟩ = some (.string nm) ∧ w'.cell? ⟨g1, j * 9 + 1, none⟩ = some (.slice Ag1 ng cg1) ∧ w'.cell? ⟨g1, j * 9 + 2, none⟩ = some a0 ∧ w'.cell? ⟨g1, j * 9 + 3, none⟩ = some a1 ∧ w'.cell? ⟨g1, j * 9 + 4, none⟩ = some a2 ∧ w'.cell? ⟨g1, j * 9 + 5, none⟩ = some a3 ∧ w'.cell? ⟨g1, j * 9 + 6, none⟩ = some a4 ∧ w'.cell? ⟨g1, j * 9 + 7, none⟩ = some a5 ∧ w'.cell? ⟨g1, j * 9 + 8, none⟩ = some a6 ∧ w'.cell? ⟨g2, j * 9, none⟩ = some (.string nm) ∧ w'.cell? ⟨g2, j * 9 + 1, none⟩ = some (.slice Ag2 ng cg2) ∧ w'.cell? ⟨g2, j * 9 + 2, none⟩ = some b0 ∧ w'.cell? ⟨g2, j * 9 + 3, none⟩ = some b1 ∧ w'.cell? ⟨g2, j * 9 + 4, none⟩ = some b2 ∧ w'.cell? ⟨g2, j * 9 + 5, none⟩ = some b3 ∧ w'.cell? ⟨g2, j * 9 + 6, none⟩ = some b4 ∧ w'.cell? ⟨g2, j * 9 + 7, none⟩ = some b5 ∧ w'.cell? ⟨g2, j * 9 + 8, none⟩ = some b6) (refine ⟨?_, ?_, ?_, ?_, ?_, ?_, ?_, ?_, ?_, ?_, ?_, ?_, ?_, ?_, ?_, ?_, ?_, ?_⟩ <;> with_reducible (repeat (first | assumption | apply drew_cell'))) ((first | (go_at_call 13; refine (HST.out _ (Below.refl _ wr).drew).mono ?_; rintro e w3 ⟨rfl, q3⟩; have HB3 := hide (below_then (Below.refl _ wr).drew q3); obtain ⟨u0, u1, u2, u3, u4, u5, u6, u7, u8, u9, u10, u11, u12, u13, u14, u15, u16, u17⟩ := HCELLS.out w3 HB3.out; clear q3)))
      clear u0 u2 u3 u4 u5 u6 u7 u8 u9 u11 u12 u13 u14 u15 u16 u17 x0 x1 x2 x3 x4 x5 x6 x7 x8 y0 y1 y2 y3 y4 y5 y6 y7 y8 HCELLS HST P2 R2
      have zg1 := cell_lt9 u1
      have zg2 := cell_lt9 u10
      have HBT := hide (below_then J2.out HB3.out)
      have PP := hide (GivenV.stays.slice P1.out (Keep.of_below HB3.out))
      have RR := hide (GivenV.stays.slice R1.out (Keep.of_below HB3.out))
      clear P1 R1 HB3
      go_wp2_with fail
      go_loopw [63] (fun i wx => ∃ k : Nat, k ≤ ng ∧ i = .int .i64 k ∧ Below w3.heap.size w3 wx) (fun i _ => ng - (intOf i).toNat)
      case atStart => exact ⟨0, Nat.zero_le _, rfl, Below.refl _ _⟩
      case round =>
        obtain ⟨k, kk1, rfl, kk2⟩ := hrel
        have KB := hide kk2
        by_cases hk : k < ng
        · have hk' : k < gv.length := by have := HNG.out; omega
          have t1 := GivenV.stays.slice PP.out (Keep.of_below kk2)
          have t2 := GivenV.stays.slice RR.out (Keep.of_below kk2)
          obtain ⟨hq1, e1, ks1, rfl, hg3, ht1, hc1⟩ := slice_at GivenV.len t1 k hk' (by decide)
          obtain ⟨hq2, e2, ks2, rfl, hg4, ht2, hc2⟩ := slice_at GivenV.len t2 k hk' (by decide)
          have hdl := K2.out _ (List.getElem_mem hk')
          obtain ⟨G, hG⟩ : ∃ G, G = gv[k] := ⟨_, rfl⟩
          rw [← hG] at ht1 ht2 hdl
          obtain ⟨gn, gd⟩ := G
          obtain ⟨vd1, rfl, p1⟩ := ht1
          obtain ⟨vd2, rfl, r1⟩ := ht2
          simp only at p1 r1 hdl
          obtain ⟨Ad1, cd1, rfl⟩ := p1.form
          obtain ⟨Ad2, cd2, rfl⟩ := r1.form
          have m0 := hc1 0 (by decide)
          have m1 := hc1 1 (by decide)
          have q0 := hc2 0 (by decide)
          have q1 := hc2 1 (by decide)
          simp only [Nat.add_zero, List.getElem?_cons_zero, List.getElem?_cons_succ] at m0 m1 q0 q1
          have s1 := (kk2.cell (p := ⟨g1, j * 9 + 1, none⟩) zg1).trans u1
          have s2 := (kk2.cell (p := ⟨g2, j * 9 + 1, none⟩) zg2).trans u10
          obtain ⟨nd, hnd⟩ : ∃ nd, nd = gd.length := ⟨_, rfl⟩
          rw [← hnd] at m1 q1 p1 r1
          have HSD : Hid (∀ W, Below wr.heap.size wr W → Calls Tryz.prog 14 #[.slice Ad1 nd cd1, .slice Ad2 nd cd2] W fun e w' => e = .returned (.bool true) ∧ Below W.heap.size W w') := fun W hW => same_dims Ad1 Ad2 nd nd cd1 cd2 S1 S2 gd W (DimV.stays.slice p1 (Keep.of_below hW)) (DimV.stays.slice r1 (Keep.of_below hW)) (by omega)
          have HC2 : Hid (∀ W, Below wr.heap.size wr W → (fun w' => w'.cell? ⟨g1, j * 9 + 1, none⟩ = some (.slice (some ⟨e1, 0, none⟩) ng cg1) ∧ w'.cell? ⟨g2, j * 9 + 1, none⟩ = some (.slice (some ⟨e2, 0, none⟩) ng cg2) ∧ w'.cell? ⟨e1, k * 2, none⟩ = some (.string gn) ∧ w'.cell? ⟨e1, k * 2 + 1, none⟩ = some (.slice Ad1 nd cd1) ∧ w'.cell? ⟨e2, k * 2, none⟩ = some (.string gn) ∧ w'.cell? ⟨e2, k * 2 + 1, none⟩ = some (.slice Ad2 nd cd2)) W) := fun W hW => ⟨(hW.cell (p := ⟨g1, j * 9 + 1, none⟩) (cell_lt9 s1)).trans s1, (hW.cell (p := ⟨g2, j * 9 + 1, none⟩) (cell_lt9 s2)).trans s2, (hW.cell (p := ⟨e1, k * 2, none⟩) hg3).trans m0, (hW.cell (p := ⟨e1, k * 2 + 1, none⟩) hg3).trans m1, (hW.cell (p := ⟨e2, k * 2, none⟩) hg4).trans q0, (hW.cell (p := ⟨e2, k * 2 + 1, none⟩) hg4).trans q1⟩
          have l1 : (0 : Int) ≤ (k : Int) := Int.natCast_nonneg _
          have l2 : (k : Int) < (ng : Int) := by omega
          clear hq1 hq2 hc1 hc2 t1 t2 hG p1 r1 hdl hnd kk2 PP RR K2 u1 u10
          go_wp2_with fail
          go_region_held3 (fun w' => w'.cell? ⟨g1, j * 9 + 1, none⟩ = some (.slice (some ⟨e1, 0, none⟩) ng cg1) ∧ w'.cell? ⟨g2, j * 9 + 1, none⟩ = some (.slice (some ⟨e2, 0, none⟩) ng cg2) ∧ w'.cell? ⟨e1, k * 2, none⟩ = some (.string gn) ∧ w'.cell? ⟨e1, k * 2 + 1, none⟩ = some (.slice Ad1 nd cd1) ∧ w'.cell? ⟨e2, k * 2, none⟩ = some (.string gn) ∧ w'.cell? ⟨e2, k * 2 + 1, none⟩ = some (.slice Ad2 nd cd2)) (refine ⟨?_, ?_, ?_, ?_, ?_, ?_⟩ <;> with_reducible (repeat (first | assumption | apply drew_cell'))) ((first | (go_at_call 14; refine (HSD.out _ (Below.refl _ wr).drew).mono ?_; rintro e w4 ⟨rfl, q4⟩; have HB4 := hide (below_then (Below.refl _ wr).drew q4); obtain ⟨v0, v1, v2, v3, v4, v5⟩ := HC2.out w4 HB4.out; clear q4)))
          have HB5 := hide (below_then KB.out HB4.out)
          clear v0 v1 v2 v3 v4 v5
          go_wp2_with fail
          go_roundw
          case rel => exact ⟨k + 1, by omega, by go_num, HB5.out⟩
          case measure => simp [intOf]; omega
        · have HB5 := hide (below_then HBT.out KB.out)
          go_wp2_with fail
          go_roundw
          case rel => exact ⟨j + 1, by omega, by go_num, HB5.out⟩
          case measure => simp [intOf]; omega
    · go_wp2_with fail
      go_ret
      exact ⟨rfl, J2.out⟩
end Go.Proofs.YtadhlnlcdljamaaGreatDoor.V
