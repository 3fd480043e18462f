/-
  Contracts: memory.at, puts.
-/
import Derived.Test.YtindmfpfpooijaaNeMem
import Derived.Test.YtindmfpfpooijaaFacts
import Derived.BigQuiet
namespace Go.Proofs.Ytindmfpfpooijaa.V
open Go.RowKit
set_option linter.unusedVariables false

theorem cells_three {W : World} {b : Nat} {x y z : Value} {t : TypeId} (h : W.heap[b]? = some (.cells #[x, y, z] t (0, 0))) : W.cell? ⟨b, 0, none⟩ = some x ∧ W.cell? ⟨b, 1, none⟩ = some y ∧ W.cell? ⟨b, 2, none⟩ = some z := by
  refine ⟨?_, ?_, ?_⟩ <;> simp [World.cell?, h]
theorem ne_w64 (n : Int) : wrap64 n = IntKind.i64.wrap n := by
  simp only [wrap64, IntKind.wrap, IntKind.bits, IntKind.signed]
  simp
  split <;> omega
theorem one_any (x : Bool) (w : World) : Calls Try.prog 46 #[.bool x] w fun e w' => e = .returned (.int .i64 (if x = true then 1 else 0)) ∧ w' = w := by
  cases x
  all_goals
    go_enter Try.func46, Try.ntmps46
    go_wp2
    go_ret
    exact ⟨rfl, rfl⟩

set_option maxRecDepth 100000 in
set_option maxHeartbeats 4000000 in
theorem puts_any (q : SW) (a b c was : Int) (w : World) (ha : B64 a) (hb : B64 b) (hc : B64 c) :
    Calls Try.prog 28 #[q.v, .agg #[.int .i64 a, .int .i64 b, .int .i64 c], .int .i64 was] w fun e w' => e = .returned (.int .i64 (numV q.kd q.va a b c was)) ∧ Below w.heap.size w w' := by
  have B1 : Below w.heap.size w ((w.alloc (.cells q.cs 46)).alloc (.cells #[.int .i64 a, .int .i64 b, .int .i64 c] 66)) := bl_on (bl_new _) (bl_new _)
  obtain ⟨p0, p1, p2, p3, p4, p5, p6, p7⟩ := ((SW.new q w).below (bl_new (.cells #[.int .i64 a, .int .i64 b, .int .i64 c] 66))).cells
  have hn := World.alloc_heap_new (w.alloc (.cells q.cs 46)) (.cells #[.int .i64 a, .int .i64 b, .int .i64 c] 66)
  rw [World.size_alloc] at hn
  obtain ⟨g0, g1, g2⟩ := cells_three hn
  have HB := hide B1
  obtain ⟨a1, a2⟩ := ha
  obtain ⟨b1, b2⟩ := hb
  obtain ⟨c1, c2⟩ := hc
  obtain ⟨ba, bl, bc, ra, rl, rc, kd, va, ⟨parr, pca, pcl, pcc, pcon⟩, ga, gl, gc⟩ := q
  simp only [SW.v, SW.cs] at *
  obtain ⟨W, hW⟩ : ∃ W, W = (w.alloc (.cells #[.slice ba bl bc, .slice ra rl rc, .int .i64 kd, .int .i64 va, .int .i64 parr, .slice pca pcl pcc, .int .i64 pcon, .slice ga gl gc] 46)).alloc (.cells #[.int .i64 a, .int .i64 b, .int .i64 c] 66) := ⟨_, rfl⟩
  rw [← hW] at p0 p1 p2 p3 p4 p5 p6 p7 g0 g1 g2 HB
  have HW := hide hW
  clear B1 hn hW
  go_enter Try.func28, Try.ntmps28
  go_wp2_with fail
  rw [← HW.out]
  go_quiet (fail)
  rcases kind_cases kd with h | h | h | h | h | h | h | h | h | h | h
  case inr.inr.inr.inr.inr.inr.inr.inr.inr.inr =>
    have E : Hid (numV kd va a b c was = a) := by unfold Hid numV; simp [h]
    obtain ⟨h1, h2, h3, h4, h5, h6, h7, h8, h9, h10⟩ := h
    have k1 : (kd == 1) = false := by simpa using h1
    have k2 : (kd == 2) = false := by simpa using h2
    have k3 : (kd == 3) = false := by simpa using h3
    have k4 : (kd == 4) = false := by simpa using h4
    have k5 : (kd == 5) = false := by simpa using h5
    have k6 : (kd == 6) = false := by simpa using h6
    have k7 : (kd == 7) = false := by simpa using h7
    have k8 : (kd == 8) = false := by simpa using h8
    have k9 : (kd == 9) = false := by simpa using h9
    have k10 : (kd == 10) = false := by simpa using h10
    go_wp2_with fail
    go_ret
    exact ⟨by rw [E.out]; rfl, bl_on HB.out (below_drewN _ _)⟩
  all_goals
    subst h
    go_wp2_with (go_at_call 46; refine (one_any _ _).mono ?_; rintro e w' ⟨rfl, hw'⟩; obtain rfl := hw'.symm)
    all_goals go_ret
    all_goals refine ⟨?_, bl_on HB.out (below_drewN _ _)⟩
    all_goals first | rfl | (simp_all [numV, ne_w64]; done) | (simp_all [numV]; done) | (simp_all [numV]; omega)

set_option maxRecDepth 100000 in
set_option maxHeartbeats 2000000 in
theorem mat_any (N : Nat) (a : Option Addr) (len cap : Nat) (G C : Nat → Nat) (M : Mem) (q : AW) (ac : Acc) (xa : Option Addr) (xl xc : Nat) (x : List Int) (w : World) (hM : Mems w N a G C M) (hl : M.length = len) (hm : len ≤ 9223372036854775807) (hq : AG w q ac) (ho : AccOk len ac xl) (hx : Ints w xa xl x) (hx4 : xl ≤ 4) (hxb : ∀ y ∈ x, 0 ≤ y ∧ y ≤ 4096) :
    Calls Try.prog 27 #[.slice a len cap, q.v, .slice xa xl xc] w fun e w' => ((inM M ac x ∧ e = .returned (.pointer (some ⟨G ac.1.toNat, (worthV ac.2 x).toNat, none⟩))) ∨ (¬ inM M ac x ∧ ∃ g, w.heap.size ≤ g ∧ e = .returned (.pointer (some ⟨g, 0, none⟩)) ∧ Boxed w' g 2 (.int .i64 0))) ∧ Below w.heap.size w w' := by
  have B1 : Below w.heap.size w (w.alloc (.cells #[.int .i64 q.arr, .slice q.ca q.cl q.cc, .int .i64 q.con] 43)) := bl_new _
  obtain ⟨p0, p1, p2⟩ := (AW.new q w).cells
  have ha := hq.arr
  have hk := hq.con
  have hcl : q.cl = xl := by have := hq.coef.1; have := ho.len; omega
  obtain ⟨W, hW⟩ : ∃ W, W = w.alloc (.cells #[.int .i64 q.arr, .slice q.ca q.cl q.cc, .int .i64 q.con] 43) := ⟨_, rfl⟩
  rw [← hW] at p0 p1 p2 B1
  have HN := hide (fun wz (hb : Below W.heap.size W wz) => worth_any q.ca q.cl q.cc ac.2.1 ac.2.2 xa xl xc x wz ((hq.below B1).below hb).coef ((hx.below B1).below hb) hcl (by omega) ho.con ho.coef hxb)
  obtain ⟨arr, ca, cl, cc, con⟩ := q
  obtain ⟨aa, cs, ak⟩ := ac
  simp only [AW.v] at *
  subst ha
  subst hk
  obtain rfl := hcl.symm
  have hwb := dotV_bd cs x ho.coef hxb
  have hcl4 : cs.length ≤ 4 := by have := ho.len; simp only at this; omega
  have hcon := ho.con
  simp only at hcon
  obtain ⟨P, hP⟩ : ∃ P, P = worthV (cs, con) x := ⟨_, rfl⟩
  have hPb : -20000000000 ≤ P ∧ P ≤ 20000000000 := by rw [hP]; unfold worthV; simp only; omega
  have HP := hide hP
  obtain ⟨k, hk⟩ : ∃ k : Nat, arr = (k : Int) := ⟨arr.toNat, by have := ho.arr; simp only at this; omega⟩
  subst hk
  have hkl : k < len := by have := ho.arr; simp only at this; omega
  obtain ⟨b, off, rfl, hh0, _⟩ := hM.at (k := k) (by omega)
  have hh := (B1.cell (p := ⟨b, off + k, none⟩) (lt_of_cell hh0)).trans hh0
  obtain ⟨n, hn⟩ : ∃ n, n = (arrM M k).length := ⟨_, rfl⟩
  obtain ⟨c, hc⟩ : ∃ c, c = C k := ⟨_, rfl⟩
  rw [← hn, ← hc] at hh
  have hn6 : n ≤ 65536 := by rw [hn]; exact hM.small k
  have HI : Hid (inM M ((k : Int), cs, con) x ↔ (0 ≤ P ∧ P < (n : Int))) := by
    unfold Hid inM
    simp only [Int.toNat_natCast]
    rw [← hP, ← hn]
  have hsz : W.heap.size = w.heap.size + 1 := by rw [hW]; simp
  have HB := hide B1
  have HW := hide hW
  have HRL := hide (hM.rows k (by omega)).lt
  have zz := (hM.rows k (by omega)).lt
  clear hM hq ho hx hxb hwb hcl4 hcon hP hh0 hn hc hW B1
  go_enter Try.func27, Try.ntmps27
  go_wp2_with fail
  rw [← HW.out]
  refine region_made 9 12 [fIs (.slice (some ⟨b, off, none⟩) len cap), fIs (.pointer (some ⟨w.heap.size, 0, none⟩)), fIs (.int .i64 (k : Int)), fIs (.pointer (some ⟨b, off + k, none⟩)), fIs (.slice (some ⟨G k, 0, none⟩) n c), fIs (.pointer (some ⟨w.heap.size, 1, none⟩)), fIs (.agg #[.slice ca xl cc, .int .i64 con]), fIs (.slice xa xl xc), fIs (.int .i64 P)] (by kernel_rfl) (by kernel_rfl) (by kernel_rfl) (fun _ ⟨_, _⟩ ⟨_, _⟩ _ e h => by cases e; exact h) ⟨fIs_good _, fIs_good _, fIs_good _, fIs_good _, fIs_good _, fIs_good _, fIs_good _, fIs_good _, fIs_good _, trivial⟩ ?mk ?rest
  case mk =>
    refine ⟨fun u wz hb hd => ?_, fun u wz hb hd => ?_, fun u wz hb hd => ?_, fun u wz hb hd => ?_, fun u wz hb hd => ?_, fun u wz hb hd => ?_, fun u wz hb hd => ?_, fun u wz hb hd => ?_, fun u wz hb hd => ?_, trivial⟩
    all_goals simp only [Act.put, List.setIfInBounds_toArray, List.set_cons_zero, List.set_cons_succ]
    · go_simp
      exact ⟨rfl, Below.refl _ _, fun h => by cases h⟩
    · go_simp
      exact ⟨rfl, Below.refl _ _, fun h => by cases h⟩
    · have e1 : u 1 = .pointer (some ⟨w.heap.size, 0, none⟩) := hd 1 (by omega) (by kernel_rfl)
      rw [e1]
      have p0' := (hb.cell (p := ⟨w.heap.size, 0, none⟩) (lt_of_cell p0)).trans p0
      go_simp
      exact ⟨rfl, Below.refl _ _, fun h => by cases h⟩
    · have e0 : u 0 = .slice (some ⟨b, off, none⟩) len cap := hd 0 (by omega) (by kernel_rfl)
      have e2 : u 2 = .int .i64 (k : Int) := hd 2 (by omega) (by kernel_rfl)
      rw [e0, e2]
      go_simp
      exact ⟨rfl, Below.refl _ _, fun h => by cases h⟩
    · have e3 : u 3 = .pointer (some ⟨b, off + k, none⟩) := hd 3 (by omega) (by kernel_rfl)
      rw [e3]
      have hh' := (hb.cell (p := ⟨b, off + k, none⟩) (lt_of_cell hh)).trans hh
      go_simp
      exact ⟨rfl, Below.refl _ _, fun h => by cases h⟩
    · go_simp
      exact ⟨rfl, Below.refl _ _, fun h => by cases h⟩
    · have e5 : u 5 = .pointer (some ⟨w.heap.size, 1, none⟩) := hd 5 (by omega) (by kernel_rfl)
      rw [e5]
      have p1' := (hb.cell (p := ⟨w.heap.size, 1, none⟩) (lt_of_cell p1)).trans p1
      have p2' := (hb.cell (p := ⟨w.heap.size, 2, none⟩) (lt_of_cell p2)).trans p2
      go_simp
      exact ⟨rfl, Below.refl _ _, fun h => by cases h⟩
    · go_simp
      exact ⟨rfl, Below.refl _ _, fun h => by cases h⟩
    · have e6 : u 6 = .agg #[.slice ca xl cc, .int .i64 con] := hd 6 (by omega) (by kernel_rfl)
      have e7 : u 7 = .slice xa xl xc := hd 7 (by omega) (by kernel_rfl)
      rw [e6, e7]
      go_simp
      refine (HN.out wz hb).mono ?_
      rintro e w2 ⟨rfl, hb2⟩
      exact ⟨by rw [HP.out]; rfl, hb2, fun h => by cases h⟩
  case rest =>
    intro u wz hb hf hp
    have f0 : u 0 = .slice (some ⟨b, off, none⟩) len cap := hf 0 (by omega)
    have f1 : u 1 = .pointer (some ⟨w.heap.size, 0, none⟩) := hf 1 (by omega)
    have f2 : u 2 = .int .i64 (k : Int) := hf 2 (by omega)
    have f3 : u 3 = .pointer (some ⟨b, off + k, none⟩) := hf 3 (by omega)
    have f4 : u 4 = .slice (some ⟨G k, 0, none⟩) n c := hf 4 (by omega)
    have f5 : u 5 = .pointer (some ⟨w.heap.size, 1, none⟩) := hf 5 (by omega)
    have f6 : u 6 = .agg #[.slice ca xl cc, .int .i64 con] := hf 6 (by omega)
    have f7 : u 7 = .slice xa xl xc := hf 7 (by omega)
    have f8 : u 8 = .int .i64 P := hf 8 (by omega)
    refine UptoW.rest 2 9 (by rfl) (by kernel_rfl) ?_
    simp only [List.take, List.drop, putOps, Act.put, List.setIfInBounds_toArray, List.set_cons_zero, List.set_cons_succ, Nat.reduceAdd, f0, f1, f2, f3, f4, f5, f6, f7, f8]
    clear f0 f1 f2 f3 f4 f5 f6 f7 f8 hf hp
    have HB2 := hide (bl_on HB.out hb)
    have hsz2 := hb.size
    clear hb
    by_cases h1 : P < 0
    · have HX : Hid (¬ inM M ((k : Int), cs, con) x) := by rw [Hid, HI.out]; omega
      go_wp2_with fail
      go_ret
      exact ⟨.inr ⟨HX.out, _, by omega, rfl, Boxed.new _ _ _⟩, bl_on HB2.out (bl_new _)⟩
    · by_cases h2 : (n : Int) ≤ P
      · have HX : Hid (¬ inM M ((k : Int), cs, con) x) := by rw [Hid, HI.out]; omega
        go_wp2_with fail
        go_ret
        exact ⟨.inr ⟨HX.out, _, by omega, rfl, Boxed.new _ _ _⟩, bl_on HB2.out (bl_new _)⟩
      · have HX : Hid (inM M ((k : Int), cs, con) x) := by rw [Hid, HI.out]; omega
        obtain ⟨p, hp⟩ : ∃ p : Nat, P = (p : Int) := ⟨P.toNat, by omega⟩
        have HPP := hide hp
        rw [hp]
        have hpn : p < n := by omega
        clear h1 h2 hp
        go_wp2_with fail
        go_ret
        refine ⟨.inl ⟨HX.out, ?_⟩, HB2.out⟩
        rw [← HP.out, HPP.out]
        simp
end Go.Proofs.Ytindmfpfpooijaa.V
