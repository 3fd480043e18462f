/-
  Contracts: the law's sameNote and sameSeen, of what is the same.
-/
import Derived.Test.YticcoacoepajpaaPK22
import Derived.Test.YticcoacoepajpaaPK11
namespace Go.Proofs.Yticcoacoepajpaa.V
open Go Go.RowKit
set_option linter.unusedVariables false
set_option linter.unusedSimpArgs false

set_option maxHeartbeats 4000000 in
theorem sameNote_eq (x : Nt) (y z : Sl) (W : World) (hy : Ints W y.a y.n x.data) (hyc : y.n ≤ y.c) (hz : Ints W z.a z.n x.data) (hzc : z.n ≤ z.c) :
    Calls Try.prog 26 #[.agg #[.int .i64 x.fr, .int .i64 x.to, .int .i64 x.st, .slice y.a y.n y.c], .agg #[.int .i64 x.fr, .int .i64 x.to, .int .i64 x.st, .slice z.a z.n z.c]] W fun e w' => e = .returned (.bool true) ∧ Below W.heap.size W w' := by
  obtain ⟨xf, xt, xs, xd⟩ := x
  obtain ⟨ya, yn, yc⟩ := y
  obtain ⟨za, zn, zc⟩ := z
  simp only at hy hyc hz hzc ⊢
  have HY := hide hy
  have HZ := hide hz
  clear hy hz
  go_enter Try.func26, Try.ntmps26
  go_wp2_with (go_at_call 14; refine stp ?_)
  unfold Stp1
  have hb1 : Below W.heap.size W ((W.alloc (.cells #[.int .i64 xf, .int .i64 xt, .int .i64 xs, .slice ya yn yc] 39)).alloc (.cells #[.int .i64 xf, .int .i64 xt, .int .i64 xs, .slice za zn zc] 39)) := (bl_new _).alloc (by simp) _
  refine (sameW_eq ⟨ya, yn, yc⟩ ⟨za, zn, zc⟩ xd _ (HY.out.below hb1) hyc (HZ.out.below hb1) hzc).mono ?_
  rintro e w1 ⟨rfl, hb2⟩
  have HB := hide (bl_on hb1 hb2)
  clear hb1 hb2
  go_wp2_with fail
  go_ret
  exact ⟨rfl, HB.out⟩
/-- What was seen, as a value. -/
def SeA (W : World) (a : Option Addr) (len : Nat) (sn : List Sn) : Prop := sn.length = len ∧ len ≤ 9223372036854775807 ∧ (len = 0 ∨ ∃ b off, a = some ⟨b, off, none⟩ ∧ ∀ k q, sn[k]? = some q → ∃ X1 m1 c1 X2 m2 c2, W.cell? ⟨b, off + k * 7, none⟩ = some (.bool q.some) ∧ W.cell? ⟨b, off + k * 7 + 1, none⟩ = some (.int .i64 q.nt.fr) ∧ W.cell? ⟨b, off + k * 7 + 2, none⟩ = some (.int .i64 q.nt.to) ∧ W.cell? ⟨b, off + k * 7 + 3, none⟩ = some (.int .i64 q.nt.st) ∧ W.cell? ⟨b, off + k * 7 + 4, none⟩ = some (.slice X1 m1 c1) ∧ W.cell? ⟨b, off + k * 7 + 5, none⟩ = some (.int .i64 q.err) ∧ W.cell? ⟨b, off + k * 7 + 6, none⟩ = some (.slice X2 m2 c2) ∧ (Ints W X1 m1 q.nt.data ∧ m1 ≤ c1) ∧ (Ints W X2 m2 q.data ∧ m2 ≤ c2))
theorem SeA.below {W V : World} {a : Option Addr} {len : Nat} {sn : List Sn} (h : SeA W a len sn) (hb : Below W.heap.size W V) : SeA V a len sn := by
  refine ⟨h.1, h.2.1, h.2.2.imp id fun ⟨b, off, e, hc⟩ => ⟨b, off, e, fun k q hk => ?_⟩⟩
  obtain ⟨X1, m1, c1, X2, m2, c2, h0, h1, h2, h3, h4, h5, h6, h7, h8⟩ := hc k q hk
  have kp : ∀ {o : Nat} {v : Value}, W.cell? ⟨b, o, none⟩ = some v → V.cell? ⟨b, o, none⟩ = some v := fun {o v} hc => (hb.cell (p := ⟨b, o, none⟩) (lt_of_cell hc)).trans hc
  exact ⟨X1, m1, c1, X2, m2, c2, kp h0, kp h1, kp h2, kp h3, kp h4, kp h5, kp h6, ⟨h7.1.below hb, h7.2⟩, ⟨h8.1.below hb, h8.2⟩⟩
set_option maxRecDepth 100000 in
set_option maxHeartbeats 16000000 in
theorem sameSeen_eq (a : Option Addr) (ac : Nat) (b : Option Addr) (bc len : Nat) (sn : List Sn) (W : World) (ha : SeA W a len sn) (hb : SeA W b len sn) :
    Calls Try.prog 8 #[.slice a len ac, .slice b len bc] W fun e w' => e = .returned (.bool true) ∧ Below W.heap.size W w' := by
  have hm := ha.2.1
  have HA := hide ha
  have HB := hide hb
  have q0 : ((len : Int) != (len : Int)) = false := by simp
  clear ha hb
  go_enter Try.func8, Try.ntmps8
  go_wp2_with fail
  go_loopw [13] (fun i wr => ∃ k : Nat, k ≤ len ∧ i = .int .i64 k ∧ Below W.heap.size W wr) (fun i _ => len - (intOf i).toNat)
  case atStart => exact ⟨0, Nat.zero_le _, by first | rfl | trivial, Below.refl _ _⟩
  case round =>
    obtain ⟨k, hk, rfl, hb⟩ := hrel
    have HBR := hide hb
    by_cases hlt : k < len
    · have hkz : (k : Int) < (len : Int) := by omega
      obtain ⟨⟨qb, ⟨qf, qt, qz, qd⟩, qe, qx⟩, hq⟩ : ∃ q, sn[k]? = some q := ⟨sn[k]'(by rw [HA.out.1]; exact hlt), by simp [show k < sn.length by rw [HA.out.1]; exact hlt]⟩
      have hA := HA.out.below hb
      have hBB := HB.out.below hb
      rcases hA.2.2 with h0 | ⟨ab, ao, rfl, hac⟩
      · omega
      rcases hBB.2.2 with h0 | ⟨bb, bo, rfl, hbc⟩
      · omega
      obtain ⟨X1, m1, c1, X2, m2, c2, a0, a1, a2, a3, a4, a5, a6, a7, a8⟩ := hac k _ hq
      obtain ⟨Y1, n1, d1, Y2, n2, d2, b0, b1, b2, b3, b4, b5, b6, b7, b8⟩ := hbc k _ hq
      simp only at a0 a1 a2 a3 a4 a5 a6 a7 a8 b0 b1 b2 b3 b4 b5 b6 b7 b8
      have HSN : Hid (∀ U, Below wr.heap.size wr U → Calls Try.prog 26 #[.agg #[.int .i64 qf, .int .i64 qt, .int .i64 qz, .slice X1 m1 c1], .agg #[.int .i64 qf, .int .i64 qt, .int .i64 qz, .slice Y1 n1 d1]] U fun e w' => e = .returned (.bool true) ∧ Below U.heap.size U w') := fun U hU => sameNote_eq ⟨qf, qt, qz, qd⟩ ⟨X1, m1, c1⟩ ⟨Y1, n1, d1⟩ U (a7.1.below hU) a7.2 (b7.1.below hU) b7.2
      have HSW : Hid (∀ U, Below wr.heap.size wr U → Calls Try.prog 14 #[.slice X2 m2 c2, .slice Y2 n2 d2] U fun e w' => e = .returned (.bool true) ∧ Below U.heap.size U w') := fun U hU => sameW_eq ⟨X2, m2, c2⟩ ⟨Y2, n2, d2⟩ qx U (a8.1.below hU) a8.2 (b8.1.below hU) b8.2
      have az := lt_of_cell a0
      have bz := lt_of_cell b0
      clear hb hA hBB hac hbc a7 a8 b7 b8 hq
      go_upto_region 6 with fail
      refine region_madeG 52 54 [fIs (.slice (some ⟨ab, ao, none⟩) len ac), fIs (.int .i64 (k : Int)), fIs (.pointer (some ⟨ab, ao + k * 7, none⟩)), fIs (.pointer (some ⟨ab, ao + k * 7, none⟩)), fIs (.bool qb), fIs (.slice (some ⟨bb, bo, none⟩) len bc), fIs (.int .i64 (k : Int)), fIs (.pointer (some ⟨bb, bo + k * 7, none⟩)), fIs (.pointer (some ⟨bb, bo + k * 7, none⟩)), fIs (.bool qb), fIs (.bool false), fIs (.bool false), fIs (.slice (some ⟨ab, ao, none⟩) len ac), fIs (.int .i64 (k : Int)), fIs (.pointer (some ⟨ab, ao + k * 7, none⟩)), fIs (.pointer (some ⟨ab, ao + k * 7 + 1, none⟩)), fIs (.agg #[.int .i64 qf, .int .i64 qt, .int .i64 qz, .slice X1 m1 c1]), fIs (.slice (some ⟨bb, bo, none⟩) len bc), fIs (.int .i64 (k : Int)), fIs (.pointer (some ⟨bb, bo + k * 7, none⟩)), fIs (.pointer (some ⟨bb, bo + k * 7 + 1, none⟩)), fIs (.agg #[.int .i64 qf, .int .i64 qt, .int .i64 qz, .slice Y1 n1 d1]), fIs (.bool true), fIs (.bool false), fIs (.bool false), fIs (.bool false), fIs (.slice (some ⟨ab, ao, none⟩) len ac), fIs (.int .i64 (k : Int)), fIs (.pointer (some ⟨ab, ao + k * 7, none⟩)), fIs (.pointer (some ⟨ab, ao + k * 7 + 5, none⟩)), fIs (.int .i64 qe), fIs (.slice (some ⟨bb, bo, none⟩) len bc), fIs (.int .i64 (k : Int)), fIs (.pointer (some ⟨bb, bo + k * 7, none⟩)), fIs (.pointer (some ⟨bb, bo + k * 7 + 5, none⟩)), fIs (.int .i64 qe), fIs (.bool false), fIs (.bool false), fIs (.bool false), fIs (.slice (some ⟨ab, ao, none⟩) len ac), fIs (.int .i64 (k : Int)), fIs (.pointer (some ⟨ab, ao + k * 7, none⟩)), fIs (.pointer (some ⟨ab, ao + k * 7 + 6, none⟩)), fIs (.slice X2 m2 c2), fIs (.slice (some ⟨bb, bo, none⟩) len bc), fIs (.int .i64 (k : Int)), fIs (.pointer (some ⟨bb, bo + k * 7, none⟩)), fIs (.pointer (some ⟨bb, bo + k * 7 + 6, none⟩)), fIs (.slice Y2 n2 d2), fIs (.bool true), fIs (.bool false), fIs (.bool false)] [none, none, none, none, none, none, none, none, none, none, none, some false, none, none, none, none, none, none, none, none, none, none, none, none, none, some false, none, none, none, none, none, none, none, none, none, none, none, none, some false, none, none, none, none, none, none, none, none, none, none, none, none, none] [true, true, true, true, true, true, true, true, true, true, true, true, true, true, true, true, true, true, true, true, true, true, true, true, true, true, true, true, true, true, true, true, true, true, true, true, true, true, true, true, true, true, true, true, true, true, true, true, true, true, true, true] (by kernel_rfl) (by kernel_rfl) (by kernel_rfl) (fun ch p q w3 e h => by obtain ⟨t1, d1⟩ := p; obtain ⟨t2, d2⟩ := q; cases e; exact h) ⟨fIs_good _, fIs_good _, fIs_good _, fIs_good _, fIs_good _, fIs_good _, fIs_good _, fIs_good _, fIs_good _, fIs_good _, fIs_good _, fIs_good _, fIs_good _, fIs_good _, fIs_good _, fIs_good _, fIs_good _, fIs_good _, fIs_good _, fIs_good _, fIs_good _, fIs_good _, fIs_good _, fIs_good _, fIs_good _, fIs_good _, fIs_good _, fIs_good _, fIs_good _, fIs_good _, fIs_good _, fIs_good _, fIs_good _, fIs_good _, fIs_good _, fIs_good _, fIs_good _, fIs_good _, fIs_good _, fIs_good _, fIs_good _, fIs_good _, fIs_good _, fIs_good _, fIs_good _, fIs_good _, fIs_good _, fIs_good _, fIs_good _, fIs_good _, fIs_good _, fIs_good _, trivial⟩ ⟨fun _ _ h => h, fun _ _ h => h, fun _ _ h => h, rfl⟩ ?mkS ?restS
      case mkS =>
        refine ⟨fun u wz hb hd => ?_, fun u wz hb hd => ?_, fun u wz hb hd => ?_, fun u wz hb hd => ?_, fun u wz hb hd => ?_, fun u wz hb hd => ?_, fun u wz hb hd => ?_, fun u wz hb hd => ?_, fun u wz hb hd => ?_, fun u wz hb hd => ?_, fun u wz hb hd => ?_, fun u wz hb hd => ?_, fun u wz hb hd => ?_, fun u wz hb hd => ?_, fun u wz hb hd => ?_, fun u wz hb hd => ?_, fun u wz hb hd => ?_, fun u wz hb hd => ?_, fun u wz hb hd => ?_, fun u wz hb hd => ?_, fun u wz hb hd => ?_, fun u wz hb hd => ?_, fun u wz hb hd => ?_, fun u wz hb hd => ?_, fun u wz hb hd => ?_, fun u wz hb hd => ?_, fun u wz hb hd => ?_, fun u wz hb hd => ?_, fun u wz hb hd => ?_, fun u wz hb hd => ?_, fun u wz hb hd => ?_, fun u wz hb hd => ?_, fun u wz hb hd => ?_, fun u wz hb hd => ?_, fun u wz hb hd => ?_, fun u wz hb hd => ?_, fun u wz hb hd => ?_, fun u wz hb hd => ?_, fun u wz hb hd => ?_, fun u wz hb hd => ?_, fun u wz hb hd => ?_, fun u wz hb hd => ?_, fun u wz hb hd => ?_, fun u wz hb hd => ?_, fun u wz hb hd => ?_, fun u wz hb hd => ?_, fun u wz hb hd => ?_, fun u wz hb hd => ?_, fun u wz hb hd => ?_, fun u wz hb hd => ?_, fun u wz hb hd => ?_, fun u wz hb hd => ?_, trivial⟩
        all_goals simp only [Act.put, List.setIfInBounds_toArray, List.set_cons_zero, List.set_cons_succ]
        · go_simp
          exact ⟨rfl, Below.refl _ _, fun h => by cases h⟩
        · go_simp
          exact ⟨rfl, Below.refl _ _, fun h => by cases h⟩
        · have e0 : u 0 = .slice (some ⟨ab, ao, none⟩) len ac := hd 0 (by omega) (by kernel_rfl)
          have e1 : u 1 = .int .i64 (k : Int) := hd 1 (by omega) (by kernel_rfl)
          rw [e0, e1]
          go_simp
          exact ⟨rfl, Below.refl _ _, fun h => by cases h⟩
        · have e2 : u 2 = .pointer (some ⟨ab, ao + k * 7, none⟩) := hd 2 (by omega) (by kernel_rfl)
          rw [e2]
          go_simp
          exact ⟨rfl, Below.refl _ _, fun h => by cases h⟩
        · have e3 : u 3 = .pointer (some ⟨ab, ao + k * 7, none⟩) := hd 3 (by omega) (by kernel_rfl)
          rw [e3]
          have a0' := (hb.cell (p := ⟨ab, ao + k * 7, none⟩) (lt_of_cell a0)).trans a0
          go_simp
          exact ⟨rfl, Below.refl _ _, fun h => by cases h⟩
        · go_simp
          exact ⟨rfl, Below.refl _ _, fun h => by cases h⟩
        · go_simp
          exact ⟨rfl, Below.refl _ _, fun h => by cases h⟩
        · have e5 : u 5 = .slice (some ⟨bb, bo, none⟩) len bc := hd 5 (by omega) (by kernel_rfl)
          have e6 : u 6 = .int .i64 (k : Int) := hd 6 (by omega) (by kernel_rfl)
          rw [e5, e6]
          go_simp
          exact ⟨rfl, Below.refl _ _, fun h => by cases h⟩
        · have e7 : u 7 = .pointer (some ⟨bb, bo + k * 7, none⟩) := hd 7 (by omega) (by kernel_rfl)
          rw [e7]
          go_simp
          exact ⟨rfl, Below.refl _ _, fun h => by cases h⟩
        · have e8 : u 8 = .pointer (some ⟨bb, bo + k * 7, none⟩) := hd 8 (by omega) (by kernel_rfl)
          rw [e8]
          have b0' := (hb.cell (p := ⟨bb, bo + k * 7, none⟩) (lt_of_cell b0)).trans b0
          go_simp
          exact ⟨rfl, Below.refl _ _, fun h => by cases h⟩
        · have e4 : u 4 = .bool qb := hd 4 (by omega) (by kernel_rfl)
          have e9 : u 9 = .bool qb := hd 9 (by omega) (by kernel_rfl)
          rw [e4, e9]
          go_simp
          exact ⟨rfl, Below.refl _ _, fun h => by cases h⟩
        · have e10 : u 10 = .bool false := hd 10 (by omega) (by kernel_rfl)
          rw [e10]
          go_simp
          exact ⟨rfl, Below.refl _ _, fun h => by cases h⟩
        · go_simp
          exact ⟨rfl, Below.refl _ _, fun h => by cases h⟩
        · go_simp
          exact ⟨rfl, Below.refl _ _, fun h => by cases h⟩
        · have e12 : u 12 = .slice (some ⟨ab, ao, none⟩) len ac := hd 12 (by omega) (by kernel_rfl)
          have e13 : u 13 = .int .i64 (k : Int) := hd 13 (by omega) (by kernel_rfl)
          rw [e12, e13]
          go_simp
          exact ⟨rfl, Below.refl _ _, fun h => by cases h⟩
        · have e14 : u 14 = .pointer (some ⟨ab, ao + k * 7, none⟩) := hd 14 (by omega) (by kernel_rfl)
          rw [e14]
          go_simp
          exact ⟨rfl, Below.refl _ _, fun h => by cases h⟩
        · have e15 : u 15 = .pointer (some ⟨ab, ao + k * 7 + 1, none⟩) := hd 15 (by omega) (by kernel_rfl)
          rw [e15]
          have a1' := (hb.cell (p := ⟨ab, ao + k * 7 + 1, none⟩) (lt_of_cell a1)).trans a1
          have a2' := (hb.cell (p := ⟨ab, ao + k * 7 + 2, none⟩) (lt_of_cell a2)).trans a2
          have a3' := (hb.cell (p := ⟨ab, ao + k * 7 + 3, none⟩) (lt_of_cell a3)).trans a3
          have a4' := (hb.cell (p := ⟨ab, ao + k * 7 + 4, none⟩) (lt_of_cell a4)).trans a4
          go_simp
          exact ⟨rfl, Below.refl _ _, fun h => by cases h⟩
        · go_simp
          exact ⟨rfl, Below.refl _ _, fun h => by cases h⟩
        · go_simp
          exact ⟨rfl, Below.refl _ _, fun h => by cases h⟩
        · have e17 : u 17 = .slice (some ⟨bb, bo, none⟩) len bc := hd 17 (by omega) (by kernel_rfl)
          have e18 : u 18 = .int .i64 (k : Int) := hd 18 (by omega) (by kernel_rfl)
          rw [e17, e18]
          go_simp
          exact ⟨rfl, Below.refl _ _, fun h => by cases h⟩
        · have e19 : u 19 = .pointer (some ⟨bb, bo + k * 7, none⟩) := hd 19 (by omega) (by kernel_rfl)
          rw [e19]
          go_simp
          exact ⟨rfl, Below.refl _ _, fun h => by cases h⟩
        · have e20 : u 20 = .pointer (some ⟨bb, bo + k * 7 + 1, none⟩) := hd 20 (by omega) (by kernel_rfl)
          rw [e20]
          have b1' := (hb.cell (p := ⟨bb, bo + k * 7 + 1, none⟩) (lt_of_cell b1)).trans b1
          have b2' := (hb.cell (p := ⟨bb, bo + k * 7 + 2, none⟩) (lt_of_cell b2)).trans b2
          have b3' := (hb.cell (p := ⟨bb, bo + k * 7 + 3, none⟩) (lt_of_cell b3)).trans b3
          have b4' := (hb.cell (p := ⟨bb, bo + k * 7 + 4, none⟩) (lt_of_cell b4)).trans b4
          go_simp
          exact ⟨rfl, Below.refl _ _, fun h => by cases h⟩
        · have e16 : u 16 = .agg #[.int .i64 qf, .int .i64 qt, .int .i64 qz, .slice X1 m1 c1] := hd 16 (by omega) (by kernel_rfl)
          have e21 : u 21 = .agg #[.int .i64 qf, .int .i64 qt, .int .i64 qz, .slice Y1 n1 d1] := hd 21 (by omega) (by kernel_rfl)
          rw [e16, e21]
          go_simp
          refine (HSN.out wz hb).mono ?_
          rintro e w2 ⟨rfl, hb2⟩
          exact ⟨rfl, hb2, fun h => by cases h⟩
        · have e22 : u 22 = .bool true := hd 22 (by omega) (by kernel_rfl)
          rw [e22]
          go_simp
          exact ⟨rfl, Below.refl _ _, fun h => by cases h⟩
        · have e11 : u 11 = .bool false := hd 11 (by omega) (by kernel_rfl)
          have e23 : u 23 = .bool false := hd 23 (by omega) (by kernel_rfl)
          rw [e11, e23]
          go_simp
          exact ⟨rfl, Below.refl _ _, fun h => by cases h⟩
        · have e24 : u 24 = .bool false := hd 24 (by omega) (by kernel_rfl)
          rw [e24]
          go_simp
          exact ⟨rfl, Below.refl _ _, fun h => by cases h⟩
        · go_simp
          exact ⟨rfl, Below.refl _ _, fun h => by cases h⟩
        · go_simp
          exact ⟨rfl, Below.refl _ _, fun h => by cases h⟩
        · have e26 : u 26 = .slice (some ⟨ab, ao, none⟩) len ac := hd 26 (by omega) (by kernel_rfl)
          have e27 : u 27 = .int .i64 (k : Int) := hd 27 (by omega) (by kernel_rfl)
          rw [e26, e27]
          go_simp
          exact ⟨rfl, Below.refl _ _, fun h => by cases h⟩
        · have e28 : u 28 = .pointer (some ⟨ab, ao + k * 7, none⟩) := hd 28 (by omega) (by kernel_rfl)
          rw [e28]
          go_simp
          exact ⟨rfl, Below.refl _ _, fun h => by cases h⟩
        · have e29 : u 29 = .pointer (some ⟨ab, ao + k * 7 + 5, none⟩) := hd 29 (by omega) (by kernel_rfl)
          rw [e29]
          have a5' := (hb.cell (p := ⟨ab, ao + k * 7 + 5, none⟩) (lt_of_cell a5)).trans a5
          go_simp
          exact ⟨rfl, Below.refl _ _, fun h => by cases h⟩
        · go_simp
          exact ⟨rfl, Below.refl _ _, fun h => by cases h⟩
        · go_simp
          exact ⟨rfl, Below.refl _ _, fun h => by cases h⟩
        · have e31 : u 31 = .slice (some ⟨bb, bo, none⟩) len bc := hd 31 (by omega) (by kernel_rfl)
          have e32 : u 32 = .int .i64 (k : Int) := hd 32 (by omega) (by kernel_rfl)
          rw [e31, e32]
          go_simp
          exact ⟨rfl, Below.refl _ _, fun h => by cases h⟩
        · have e33 : u 33 = .pointer (some ⟨bb, bo + k * 7, none⟩) := hd 33 (by omega) (by kernel_rfl)
          rw [e33]
          go_simp
          exact ⟨rfl, Below.refl _ _, fun h => by cases h⟩
        · have e34 : u 34 = .pointer (some ⟨bb, bo + k * 7 + 5, none⟩) := hd 34 (by omega) (by kernel_rfl)
          rw [e34]
          have b5' := (hb.cell (p := ⟨bb, bo + k * 7 + 5, none⟩) (lt_of_cell b5)).trans b5
          go_simp
          exact ⟨rfl, Below.refl _ _, fun h => by cases h⟩
        · have e30 : u 30 = .int .i64 qe := hd 30 (by omega) (by kernel_rfl)
          have e35 : u 35 = .int .i64 qe := hd 35 (by omega) (by kernel_rfl)
          rw [e30, e35]
          go_simp
          exact ⟨rfl, Below.refl _ _, fun h => by cases h⟩
        · have e25 : u 25 = .bool false := hd 25 (by omega) (by kernel_rfl)
          have e36 : u 36 = .bool false := hd 36 (by omega) (by kernel_rfl)
          rw [e25, e36]
          go_simp
          exact ⟨rfl, Below.refl _ _, fun h => by cases h⟩
        · have e37 : u 37 = .bool false := hd 37 (by omega) (by kernel_rfl)
          rw [e37]
          go_simp
          exact ⟨rfl, Below.refl _ _, fun h => by cases h⟩
        · go_simp
          exact ⟨rfl, Below.refl _ _, fun h => by cases h⟩
        · go_simp
          exact ⟨rfl, Below.refl _ _, fun h => by cases h⟩
        · have e39 : u 39 = .slice (some ⟨ab, ao, none⟩) len ac := hd 39 (by omega) (by kernel_rfl)
          have e40 : u 40 = .int .i64 (k : Int) := hd 40 (by omega) (by kernel_rfl)
          rw [e39, e40]
          go_simp
          exact ⟨rfl, Below.refl _ _, fun h => by cases h⟩
        · have e41 : u 41 = .pointer (some ⟨ab, ao + k * 7, none⟩) := hd 41 (by omega) (by kernel_rfl)
          rw [e41]
          go_simp
          exact ⟨rfl, Below.refl _ _, fun h => by cases h⟩
        · have e42 : u 42 = .pointer (some ⟨ab, ao + k * 7 + 6, none⟩) := hd 42 (by omega) (by kernel_rfl)
          rw [e42]
          have a6' := (hb.cell (p := ⟨ab, ao + k * 7 + 6, none⟩) (lt_of_cell a6)).trans a6
          go_simp
          exact ⟨rfl, Below.refl _ _, fun h => by cases h⟩
        · go_simp
          exact ⟨rfl, Below.refl _ _, fun h => by cases h⟩
        · go_simp
          exact ⟨rfl, Below.refl _ _, fun h => by cases h⟩
        · have e44 : u 44 = .slice (some ⟨bb, bo, none⟩) len bc := hd 44 (by omega) (by kernel_rfl)
          have e45 : u 45 = .int .i64 (k : Int) := hd 45 (by omega) (by kernel_rfl)
          rw [e44, e45]
          go_simp
          exact ⟨rfl, Below.refl _ _, fun h => by cases h⟩
        · have e46 : u 46 = .pointer (some ⟨bb, bo + k * 7, none⟩) := hd 46 (by omega) (by kernel_rfl)
          rw [e46]
          go_simp
          exact ⟨rfl, Below.refl _ _, fun h => by cases h⟩
        · have e47 : u 47 = .pointer (some ⟨bb, bo + k * 7 + 6, none⟩) := hd 47 (by omega) (by kernel_rfl)
          rw [e47]
          have b6' := (hb.cell (p := ⟨bb, bo + k * 7 + 6, none⟩) (lt_of_cell b6)).trans b6
          go_simp
          exact ⟨rfl, Below.refl _ _, fun h => by cases h⟩
        · have e43 : u 43 = .slice X2 m2 c2 := hd 43 (by omega) (by kernel_rfl)
          have e48 : u 48 = .slice Y2 n2 d2 := hd 48 (by omega) (by kernel_rfl)
          rw [e43, e48]
          go_simp
          refine (HSW.out wz hb).mono ?_
          rintro e w2 ⟨rfl, hb2⟩
          exact ⟨rfl, hb2, fun h => by cases h⟩
        · have e49 : u 49 = .bool true := hd 49 (by omega) (by kernel_rfl)
          rw [e49]
          go_simp
          exact ⟨rfl, Below.refl _ _, fun h => by cases h⟩
        · have e38 : u 38 = .bool false := hd 38 (by omega) (by kernel_rfl)
          have e50 : u 50 = .bool false := hd 50 (by omega) (by kernel_rfl)
          rw [e38, e50]
          go_simp
          exact ⟨rfl, Below.refl _ _, fun h => by cases h⟩
      case restS =>
        intro u wz hb hf hp
        have f0 : u 0 = .slice (some ⟨ab, ao, none⟩) len ac := hf 0 (by omega)
        have f1 : u 1 = .int .i64 (k : Int) := hf 1 (by omega)
        have f2 : u 2 = .pointer (some ⟨ab, ao + k * 7, none⟩) := hf 2 (by omega)
        have f3 : u 3 = .pointer (some ⟨ab, ao + k * 7, none⟩) := hf 3 (by omega)
        have f4 : u 4 = .bool qb := hf 4 (by omega)
        have f5 : u 5 = .slice (some ⟨bb, bo, none⟩) len bc := hf 5 (by omega)
        have f6 : u 6 = .int .i64 (k : Int) := hf 6 (by omega)
        have f7 : u 7 = .pointer (some ⟨bb, bo + k * 7, none⟩) := hf 7 (by omega)
        have f8 : u 8 = .pointer (some ⟨bb, bo + k * 7, none⟩) := hf 8 (by omega)
        have f9 : u 9 = .bool qb := hf 9 (by omega)
        have f10 : u 10 = .bool false := hf 10 (by omega)
        have f11 : u 11 = .bool false := hf 11 (by omega)
        have f12 : u 12 = .slice (some ⟨ab, ao, none⟩) len ac := hf 12 (by omega)
        have f13 : u 13 = .int .i64 (k : Int) := hf 13 (by omega)
        have f14 : u 14 = .pointer (some ⟨ab, ao + k * 7, none⟩) := hf 14 (by omega)
        have f15 : u 15 = .pointer (some ⟨ab, ao + k * 7 + 1, none⟩) := hf 15 (by omega)
        have f16 : u 16 = .agg #[.int .i64 qf, .int .i64 qt, .int .i64 qz, .slice X1 m1 c1] := hf 16 (by omega)
        have f17 : u 17 = .slice (some ⟨bb, bo, none⟩) len bc := hf 17 (by omega)
        have f18 : u 18 = .int .i64 (k : Int) := hf 18 (by omega)
        have f19 : u 19 = .pointer (some ⟨bb, bo + k * 7, none⟩) := hf 19 (by omega)
        have f20 : u 20 = .pointer (some ⟨bb, bo + k * 7 + 1, none⟩) := hf 20 (by omega)
        have f21 : u 21 = .agg #[.int .i64 qf, .int .i64 qt, .int .i64 qz, .slice Y1 n1 d1] := hf 21 (by omega)
        have f22 : u 22 = .bool true := hf 22 (by omega)
        have f23 : u 23 = .bool false := hf 23 (by omega)
        have f24 : u 24 = .bool false := hf 24 (by omega)
        have f25 : u 25 = .bool false := hf 25 (by omega)
        have f26 : u 26 = .slice (some ⟨ab, ao, none⟩) len ac := hf 26 (by omega)
        have f27 : u 27 = .int .i64 (k : Int) := hf 27 (by omega)
        have f28 : u 28 = .pointer (some ⟨ab, ao + k * 7, none⟩) := hf 28 (by omega)
        have f29 : u 29 = .pointer (some ⟨ab, ao + k * 7 + 5, none⟩) := hf 29 (by omega)
        have f30 : u 30 = .int .i64 qe := hf 30 (by omega)
        have f31 : u 31 = .slice (some ⟨bb, bo, none⟩) len bc := hf 31 (by omega)
        have f32 : u 32 = .int .i64 (k : Int) := hf 32 (by omega)
        have f33 : u 33 = .pointer (some ⟨bb, bo + k * 7, none⟩) := hf 33 (by omega)
        have f34 : u 34 = .pointer (some ⟨bb, bo + k * 7 + 5, none⟩) := hf 34 (by omega)
        have f35 : u 35 = .int .i64 qe := hf 35 (by omega)
        have f36 : u 36 = .bool false := hf 36 (by omega)
        have f37 : u 37 = .bool false := hf 37 (by omega)
        have f38 : u 38 = .bool false := hf 38 (by omega)
        have f39 : u 39 = .slice (some ⟨ab, ao, none⟩) len ac := hf 39 (by omega)
        have f40 : u 40 = .int .i64 (k : Int) := hf 40 (by omega)
        have f41 : u 41 = .pointer (some ⟨ab, ao + k * 7, none⟩) := hf 41 (by omega)
        have f42 : u 42 = .pointer (some ⟨ab, ao + k * 7 + 6, none⟩) := hf 42 (by omega)
        have f43 : u 43 = .slice X2 m2 c2 := hf 43 (by omega)
        have f44 : u 44 = .slice (some ⟨bb, bo, none⟩) len bc := hf 44 (by omega)
        have f45 : u 45 = .int .i64 (k : Int) := hf 45 (by omega)
        have f46 : u 46 = .pointer (some ⟨bb, bo + k * 7, none⟩) := hf 46 (by omega)
        have f47 : u 47 = .pointer (some ⟨bb, bo + k * 7 + 6, none⟩) := hf 47 (by omega)
        have f48 : u 48 = .slice Y2 n2 d2 := hf 48 (by omega)
        have f49 : u 49 = .bool true := hf 49 (by omega)
        have f50 : u 50 = .bool false := hf 50 (by omega)
        have f51 : u 51 = .bool false := hf 51 (by omega)
        refine UptoW.rest 0 52 (by rfl) (by kernel_rfl) ?_
        simp only [List.take, List.drop, putOps, Act.put, List.setIfInBounds_toArray, List.set_cons_zero, List.set_cons_succ, Nat.reduceAdd, f0, f1, f2, f3, f4, f5, f6, f7, f8, f9, f10, f11, f12, f13, f14, f15, f16, f17, f18, f19, f20, f21, f22, f23, f24, f25, f26, f27, f28, f29, f30, f31, f32, f33, f34, f35, f36, f37, f38, f39, f40, f41, f42, f43, f44, f45, f46, f47, f48, f49, f50, f51]
        clear f0 f1 f2 f3 f4 f5 f6 f7 f8 f9 f10 f11 f12 f13 f14 f15 f16 f17 f18 f19 f20 f21 f22 f23 f24 f25 f26 f27 f28 f29 f30 f31 f32 f33 f34 f35 f36 f37 f38 f39 f40 f41 f42 f43 f44 f45 f46 f47 f48 f49 f50 f51 hf hp
        have HBZ := hide (HBR.out.trans (hb.mono HBR.out.size))
        clear hb
        go_wp2_with fail
        go_roundw
        case rel => exact ⟨k + 1, by omega, by first | rfl | go_num, HBZ.out⟩
        case measure => simp [intOf]; omega
    · clear hb
      go_wp2_with fail
      go_ret
      exact ⟨rfl, HBR.out⟩
end Go.Proofs.Yticcoacoepajpaa.V
