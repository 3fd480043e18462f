/-
  Contracts: the document's Where, Number.
-/
import Derived.Test.YtindmfpfpooijaaNeMem
import Derived.Test.YtindmfpfpooijaaPtRef
import Derived.Test.YtindmfpfpooijaaNeAtP
import Derived.BigQuiet
namespace Go.Proofs.Ytindmfpfpooijaa.V
open Go.RowKit
set_option linter.unusedVariables false

def whereV (M : Mem) (ac : Acc) (x : List Int) : Int := if inM M ac x then worthV ac.2 x else -1
set_option maxRecDepth 100000 in
set_option maxHeartbeats 2000000 in
theorem rWhere_any (M : Mem) (za : Option Addr) (zl zc : Nat) (zs : List Int) (vt : Value) (q : AW) (ac : Acc) (xa : Option Addr) (xl xc : Nat) (x : List Int) (w : World) (hz : Ints w za zl zs) (hq : AG w q ac) (ho : AccOk zl ac xl) (hx : Ints w xa xl x) (hx4 : xl ≤ 4) (hxb : ∀ y ∈ x, 0 ≤ y ∧ y ≤ 4096)
    (hf : ∀ k, k < zl → ((arrM M k).length : Int) = zs[k]?.getD 0) :
    Calls Try.prog 30 #[.agg #[.slice za zl zc, vt], q.v, .slice xa xl xc] w fun e w' => e = .returned (.int .i64 (whereV M ac x)) ∧ Below w.heap.size w w' := by
  have B0 : Below w.heap.size w (w.alloc (.cells #[.slice za zl zc, vt] 25)) := bl_new _
  have N0 : (w.alloc (.cells #[.slice za zl zc, vt] 25)).heap[w.heap.size]? = _ := World.alloc_heap_new w _
  obtain ⟨W, hW⟩ : ∃ W, W = w.alloc (.cells #[.slice za zl zc, vt] 25) := ⟨_, rfl⟩
  have hs : W.heap.size = w.heap.size + 1 := by rw [hW]; simp
  rw [← hW] at B0 N0
  have B1 : Below W.heap.size W (W.alloc (.cells #[.int .i64 q.arr, .slice q.ca q.cl q.cc, .int .i64 q.con] 43)) := bl_new _
  have P1 := AW.new q W
  have HNB : Hid (∀ w', Below (W.alloc (.cells #[.int .i64 q.arr, .slice q.ca q.cl q.cc, .int .i64 q.con] 43)).heap.size (W.alloc (.cells #[.int .i64 q.arr, .slice q.ca q.cl q.cc, .int .i64 q.con] 43)) w' → w'.cell? ⟨w.heap.size, 0, none⟩ = some (.slice za zl zc) ∧ w'.cell? ⟨w.heap.size + 1, 0, none⟩ = some (.int .i64 q.arr) ∧ w.heap.size + 1 < w'.heap.size) := fun w' hb => by
    refine ⟨?_, ?_, ?_⟩
    · rw [hb.cell (p := ⟨w.heap.size, 0, none⟩) (by simp; omega), B1.cell (p := ⟨w.heap.size, 0, none⟩) (by simp only; omega)]
      simp [World.cell?, N0]
    · rw [hb.cell (p := ⟨w.heap.size + 1, 0, none⟩) (by simp; omega), ← hs]
      exact P1.cells.1
    · have := hb.size; rw [World.size_alloc] at this; omega
  obtain ⟨p0, p1, p2⟩ := P1.cells
  rw [hs] at p0 p1 p2
  have hcl : q.cl = xl := by have := hq.coef.1; have := ho.len; omega
  have HC := hide (rAt_any q.ca q.cl q.cc ac.2.1 ac.2.2 xa xl xc x _ ((hq.below B0).below B1).coef ((hx.below B0).below B1) hcl (by omega) ho.con ho.coef hxb)
  have HB := hide (bl_on B0 B1)
  have ha := hq.arr
  have hk := hq.con
  have HW := hide hW
  have hwb := dotV_bd ac.2.1 x ho.coef hxb
  have hcl4 : ac.2.1.length ≤ 4 := by have := ho.len; omega
  have hcon := ho.con
  obtain ⟨k, hkk⟩ : ∃ k : Nat, ac.1 = (k : Int) := ⟨ac.1.toNat, by have := ho.arr; omega⟩
  have hkl : k < zl := by have := ho.arr; omega
  have HZ := hide hz
  have hm := hz.2.1
  have hfk := hf k hkl
  have hzb := hz.2.2.1 _ (mem_getD zs k (by rw [hz.1]; exact hkl))
  obtain ⟨P, hP⟩ : ∃ P, P = worthV ac.2 x := ⟨_, rfl⟩
  have hPb : -20000000000 ≤ P ∧ P ≤ 20000000000 := by rw [hP]; unfold worthV; omega
  obtain ⟨n, hn⟩ : ∃ n, n = (arrM M k).length := ⟨_, rfl⟩
  rw [← hn] at hfk
  have HI : Hid (inM M ac x ↔ (0 ≤ P ∧ P < (n : Int))) := by
    unfold Hid inM
    rw [hkk, ← hP, Int.toNat_natCast, ← hn]
  have HPV : Hid (worthV (ac.2.1, ac.2.2) x = P) := hP.symm
  obtain ⟨zb, zo, hza, hzc⟩ := hz.at (by omega)
  obtain ⟨hzb2, hzc⟩ := hzc
  have hzk := hzc k hkl
  rw [← hfk] at hzk hzb
  rw [hkk] at ha
  obtain ⟨arr, ca, cl, cc, con⟩ := q
  simp only [AW.v] at *
  subst ha
  subst hk
  subst hza
  obtain rfl := hcl.symm
  clear hq ho hx hxb hwb hcl4 hcon hkk hf hz hfk hzc B0 B1 P1 N0 hW hP hn
  rw [HW.out] at p0 p1 p2 HC HB HNB
  have HZK : Hid (∀ w', Below w.heap.size w w' → w'.cell? ⟨zb, zo + k, none⟩ = some (.int .i64 (n : Int))) := fun w' hb => (hb.cell (p := ⟨zb, zo + k, none⟩) (lt_of_cell hzk)).trans hzk
  go_enter Try.func30, Try.ntmps30
  go_wp2_with fail
  refine HC.out.mono ?_
  rintro e w2 ⟨rfl, hb⟩
  rw [HPV.out]
  have HB2 := hide (bl_on HB.out hb)
  obtain ⟨n0, n1, n2⟩ := HNB.out w2 hb
  have hzk2 := HZK.out w2 HB2.out
  have zz := lt_of_cell hzk2
  simp only at zz
  clear hb p0 p1 p2 hzk
  by_cases h1 : P < 0
  · have HX : Hid (whereV M ac x = -1) := by unfold Hid whereV; rw [if_neg (by rw [HI.out]; omega)]
    go_wp2_with fail
    go_ret
    exact ⟨by rw [HX.out]; rfl, HB2.out⟩
  · by_cases h2 : (n : Int) ≤ P
    · have HX : Hid (whereV M ac x = -1) := by unfold Hid whereV; rw [if_neg (by rw [HI.out]; omega)]
      go_wp2_with fail
      go_ret
      exact ⟨by rw [HX.out]; rfl, HB2.out⟩
    · have HX : Hid (whereV M ac x = P) := by unfold Hid whereV; rw [if_pos (by rw [HI.out]; omega)]; exact HPV.out
      go_wp2_with fail
      go_ret
      exact ⟨by rw [HX.out]; rfl, HB2.out⟩

set_option maxRecDepth 100000 in
set_option maxHeartbeats 4000000 in
theorem rNumber_any (q : SW) (va : Option Addr) (vl vc : Nat) (vs : List Int) (was : Int) (w : World) (hv : Ints w va vl vs) (ht : takesV q.kd = (vl : Int)) :
    Calls Try.prog 31 #[q.v, .slice va vl vc, .int .i64 was] w fun e w' => e = .returned (.int .i64 (numV q.kd q.va (vs[0]?.getD 0) (vs[1]?.getD 0) (vs[2]?.getD 0) was)) ∧ Below w.heap.size w w' := by
  have B1 : Below w.heap.size w (w.alloc (.cells q.cs 46)) := bl_new _
  obtain ⟨p0, p1, p2, p3, p4, p5, p6, p7⟩ := (SW.new q w).cells
  have HB := hide B1
  have HV := hide (hv.below B1)
  obtain ⟨ba, bl, bc, ra, rl, rc, kd, va', ⟨parr, pca, pcl, pcc, pcon⟩, ga, gl, gc⟩ := q
  simp only [SW.v, SW.cs] at *
  obtain ⟨W, hW⟩ : ∃ W, W = w.alloc (.cells #[.slice ba bl bc, .slice ra rl rc, .int .i64 kd, .int .i64 va', .int .i64 parr, .slice pca pcl pcc, .int .i64 pcon, .slice ga gl gc] 46) := ⟨_, rfl⟩
  rw [← hW] at p0 p1 p2 p3 p4 p5 p6 p7 HB HV
  have HW := hide hW
  obtain ⟨a0, ha0⟩ : ∃ a0, a0 = vs[0]?.getD 0 := ⟨_, rfl⟩
  obtain ⟨a1, ha1⟩ : ∃ a1, a1 = vs[1]?.getD 0 := ⟨_, rfl⟩
  obtain ⟨a2, ha2⟩ : ∃ a2, a2 = vs[2]?.getD 0 := ⟨_, rfl⟩
  have HC : Hid (∀ (h0 : 0 < vl), ∃ b off, va = some ⟨b, off, none⟩ ∧ b < W.heap.size ∧ W.cell? ⟨b, off, none⟩ = some (.int .i64 a0) ∧ (1 < vl → W.cell? ⟨b, off + 1, none⟩ = some (.int .i64 a1)) ∧ (2 < vl → W.cell? ⟨b, off + 2, none⟩ = some (.int .i64 a2))) := fun h0 => by
    obtain ⟨b, off, e, hb, hc⟩ := HV.out.at h0
    have h0' := hc 0 h0
    rw [Nat.add_zero, ← ha0] at h0'
    exact ⟨b, off, e, hb, h0', fun h1 => by rw [ha1]; exact hc 1 h1, fun h2 => by rw [ha2]; exact hc 2 h2⟩
  rw [← ha0, ← ha1, ← ha2]
  clear B1 hW hv HV ha0 ha1 ha2
  rcases kind_cases kd with h | h | h | h | h | h | h | h | h | h | h
  · subst h
    have hvl : vl = 0 := by simp [takesV] at ht; omega
    subst hvl
    clear HC ht
    have hW := HW.out
    subst hW
    clear HW
    go_enter Try.func31, Try.ntmps31
    go_wp2_with fail
    all_goals go_ret
    all_goals refine ⟨?_, HB.out⟩
    all_goals first | rfl | (simp_all [numV, ne_w64]; done) | (simp_all [numV, ne_w64]; omega)
  · subst h
    have hvl : vl = 1 := by simp [takesV] at ht; omega
    subst hvl
    obtain ⟨b, off, rfl, hb, c0, c1, c2⟩ := HC.out (by omega)
    clear c1
    clear c2
    clear HC ht
    have hW := HW.out
    subst hW
    clear HW
    go_enter Try.func31, Try.ntmps31
    go_wp2_with fail
    all_goals go_ret
    all_goals refine ⟨?_, HB.out⟩
    all_goals first | rfl | (simp_all [numV, ne_w64]; done) | (simp_all [numV, ne_w64]; omega)
  · subst h
    have hvl : vl = 2 := by simp [takesV] at ht; omega
    subst hvl
    obtain ⟨b, off, rfl, hb, c0, c1, c2⟩ := HC.out (by omega)
    have c1 := c1 (by omega)
    clear c2
    clear HC ht
    have hW := HW.out
    subst hW
    clear HW
    go_enter Try.func31, Try.ntmps31
    go_wp2_with fail
    go_quiet (fail)
    go_wp2_with fail
    all_goals go_ret
    all_goals refine ⟨?_, bl_on HB.out (below_drewN _ _)⟩
    all_goals first | rfl | (simp_all [numV, ne_w64]; done) | (simp_all [numV, ne_w64]; omega)
  · subst h
    have hvl : vl = 2 := by simp [takesV] at ht; omega
    subst hvl
    obtain ⟨b, off, rfl, hb, c0, c1, c2⟩ := HC.out (by omega)
    have c1 := c1 (by omega)
    clear c2
    clear HC ht
    have hW := HW.out
    subst hW
    clear HW
    go_enter Try.func31, Try.ntmps31
    go_wp2_with fail
    go_quiet (fail)
    go_wp2_with fail
    all_goals go_ret
    all_goals refine ⟨?_, bl_on HB.out (below_drewN _ _)⟩
    all_goals first | rfl | (simp_all [numV, ne_w64]; done) | (simp_all [numV, ne_w64]; omega)
  · subst h
    have hvl : vl = 2 := by simp [takesV] at ht; omega
    subst hvl
    obtain ⟨b, off, rfl, hb, c0, c1, c2⟩ := HC.out (by omega)
    have c1 := c1 (by omega)
    clear c2
    clear HC ht
    have hW := HW.out
    subst hW
    clear HW
    go_enter Try.func31, Try.ntmps31
    go_wp2_with fail
    go_quiet (fail)
    go_wp2_with fail
    all_goals go_ret
    all_goals refine ⟨?_, bl_on HB.out (below_drewN _ _)⟩
    all_goals first | rfl | (simp_all [numV, ne_w64]; done) | (simp_all [numV, ne_w64]; omega)
  · subst h
    have hvl : vl = 2 := by simp [takesV] at ht; omega
    subst hvl
    obtain ⟨b, off, rfl, hb, c0, c1, c2⟩ := HC.out (by omega)
    have c1 := c1 (by omega)
    clear c2
    clear HC ht
    have hW := HW.out
    subst hW
    clear HW
    go_enter Try.func31, Try.ntmps31
    go_wp2_with fail
    go_quiet (fail)
    go_wp2_with fail
    all_goals go_ret
    all_goals refine ⟨?_, bl_on HB.out (below_drewN _ _)⟩
    all_goals first | rfl | (simp_all [numV]; done) | (simp_all [numV]; omega)
  · subst h
    have hvl : vl = 2 := by simp [takesV] at ht; omega
    subst hvl
    obtain ⟨b, off, rfl, hb, c0, c1, c2⟩ := HC.out (by omega)
    have c1 := c1 (by omega)
    clear c2
    clear HC ht
    have hW := HW.out
    subst hW
    clear HW
    go_enter Try.func31, Try.ntmps31
    go_wp2_with fail
    go_quiet (fail)
    go_wp2_with fail
    all_goals go_ret
    all_goals refine ⟨?_, bl_on HB.out (below_drewN _ _)⟩
    all_goals first | rfl | (simp_all [numV]; done) | (simp_all [numV]; omega)
  · subst h
    have hvl : vl = 3 := by simp [takesV] at ht; omega
    subst hvl
    obtain ⟨b, off, rfl, hb, c0, c1, c2⟩ := HC.out (by omega)
    have c1 := c1 (by omega)
    have c2 := c2 (by omega)
    clear HC ht
    have hW := HW.out
    subst hW
    clear HW
    go_enter Try.func31, Try.ntmps31
    go_wp2_with fail
    all_goals go_ret
    all_goals refine ⟨?_, HB.out⟩
    all_goals first | rfl | (simp_all [numV]; done) | (simp_all [numV]; omega)
  · subst h
    have hvl : vl = 1 := by simp [takesV] at ht; omega
    subst hvl
    obtain ⟨b, off, rfl, hb, c0, c1, c2⟩ := HC.out (by omega)
    clear c1
    clear c2
    clear HC ht
    have hW := HW.out
    subst hW
    clear HW
    go_enter Try.func31, Try.ntmps31
    go_wp2_with fail
    all_goals go_ret
    all_goals refine ⟨?_, HB.out⟩
    all_goals first | rfl | (simp_all [numV, ne_w64]; done) | (simp_all [numV, ne_w64]; omega)
  · subst h
    have hvl : vl = 2 := by simp [takesV] at ht; omega
    subst hvl
    obtain ⟨b, off, rfl, hb, c0, c1, c2⟩ := HC.out (by omega)
    have c1 := c1 (by omega)
    clear c2
    clear HC ht
    have hW := HW.out
    subst hW
    clear HW
    go_enter Try.func31, Try.ntmps31
    go_wp2_with fail
    go_quiet (fail)
    go_wp2_with fail
    all_goals go_ret
    all_goals refine ⟨?_, bl_on HB.out (below_drewN _ _)⟩
    all_goals first | rfl | (simp_all [numV, ne_w64]; done) | (simp_all [numV, ne_w64]; omega)
  · rw [takes_none h] at ht
    omega
end Go.Proofs.Ytindmfpfpooijaa.V
