/-
  Contract: core's trail: mark.
-/
import Derived.Test.YtoabffmiedbkkaaGreatPK31
namespace Go.Proofs.YtoabffmiedbkkaaGreat.V
set_option maxRecDepth 20000
open Go Go.RowKit
set_option linter.unusedVariables false

def lvF (F : Nat → Int) (s : Str) (n : Int) : Nat → Int := fun i => if inS s (i : Int) = true then n else F i
def stgF (f : Nat → Int) (t : Tch) (n : Int) (k : Int) : Nat → Int := if k = 0 then f else if k = 1 then lvF f t.r0 n else if k = 2 then lvF (lvF f t.r0 n) t.r1 n else lvF (lvF (lvF f t.r0 n) t.r1 n) t.r2 n
theorem stg_mark (f : Nat → Int) (t : Tch) (n : Int) (i : Nat) : lvF (stgF f t n 3) t.wr n i = markF f t n i := by
  unfold stgF
  rw [if_neg (by decide), if_neg (by decide), if_neg (by decide)]
  unfold lvF markF tB
  cases h0 : inS t.r0 (i : Int) <;> cases h1 : inS t.r1 (i : Int) <;> cases h2 : inS t.r2 (i : Int) <;> cases h3 : inS t.wr (i : Int) <;> simp
theorem blk_grown {w w' : World} {g b : Nat} {o : Obj} (h : w.grownBy w' (some g)) (hb : w.heap[b]? = some o) (hne : b ≠ g) : w'.heap[b]? = some o := (h.block b (Array.getElem?_eq_some_iff.1 hb).1 (by simpa using hne)).trans hb
theorem cell_grown {w w' : World} {g b i : Nat} {v : Value} (h : w.grownBy w' (some g)) (hb : w.cell? ⟨b, i, none⟩ = some v) (hne : b ≠ g) : w'.cell? ⟨b, i, none⟩ = some v := (World.cell?_of_block (h.block b (lt_of_cell hb) (by simpa using hne))).trans hb
set_option maxRecDepth 100000 in
set_option maxHeartbeats 4000000 in
theorem mark_any (T g1 g2 pad : Nat) (f1 f2 : Nat → Int) (t : Tch) (k : Nat) (ht : TIn t pad) (hp : pad ≤ 1000000) (hk : k ≤ 1000000) (w : World) (hT : TrB w T g1 g2 pad) (h1 : IRow w g1 pad f1) (h2 : IRow w g2 pad f2) (hT1 : T ≠ g1) (hT2 : T ≠ g2) (h12 : g1 ≠ g2) :
    Calls Tryz.prog 37 #[.pointer (some ⟨T, 0, none⟩), .int .i64 (k : Int), t.v] w fun e w' => e = .returned (.tuple #[]) ∧ IRow w' g1 pad (markF f1 t ((k : Int) + 1)) ∧ IRow w' g2 pad (markW f2 t ((k : Int) + 1)) ∧ TrB w' T g1 g2 pad ∧ ∃ wm, w.grownBy wm (some g1) ∧ wm.grownBy w' (some g2) := by
  obtain ⟨W, hW⟩ : ∃ W, W = w.alloc (.cells #[.int .i64 t.r0.f, .int .i64 t.r0.w, .int .i64 t.r1.f, .int .i64 t.r1.w, .int .i64 t.r2.f, .int .i64 t.r2.w, .int .i64 t.wr.f, .int .i64 t.wr.w] 68) := ⟨_, rfl⟩
  have hb : Below w.heap.size w W := by rw [hW]; exact bl_new _
  have hK : TBlk W w.heap.size t := by rw [hW]; exact World.alloc_heap_new _ _
  obtain ⟨⟨k0, k1, k2, k3, k4, k5, k6, k7⟩, zk⟩ := blk8 hK
  have hg1 : w.heap.size ≠ g1 := by have := h1.lt; omega
  have hg2 : w.heap.size ≠ g2 := by have := h2.lt; omega
  obtain ⟨n, hn⟩ : ∃ n : Int, n = (k : Int) + 1 := ⟨_, rfl⟩
  have hw1 : IntKind.i64.wrap ((k : Int) + 1) = n := by rw [IntKind.wrap_i64]; omega
  rw [← hn]
  have HW := hide hW
  have HB := hide hb
  have HK := hide hK
  have HT := hide (hT.below hb)
  have H1 := hide (h1.below hb)
  have H2 := hide (h2.below hb)
  have HTI := hide ht
  have HNE := hide (And.intro hT1 (And.intro hT2 (And.intro h12 (And.intro hg1 hg2))))
  have HLV := hide (fun (F : Nat → Int) (s : Str) (hs : s.Sm) (hin : inBk s (pad : Int) = true) (V : World) (hV : IRow V g1 pad F) => leave_any g1 pad F s n hs hin hp V hV)
  have HLW := hide (fun (F : Nat → Int) (s : Str) (hs : s.Sm) (hin : inBk s (pad : Int) = true) (V : World) (hV : IRow V g2 pad F) => leave_any g2 pad F s n hs hin hp V hV)
  clear hW hb hK hT h1 h2 ht hT1 hT2 h12 hg1 hg2 hn
  unfold Tch.v
  go_enter Tryz.func37, Tryz.ntmps37
  go_upto_region 1 with fail
  rw [← HW.out]
  go_wp2_with fail
  go_loopw [10] (fun v10 wr => ∃ q : Int, (q = 0 ∨ q = 1 ∨ q = 2 ∨ q = 3) ∧ v10 = .int .i64 q ∧ IRow wr g1 pad (stgF f1 t n q) ∧ W.grownBy wr (some g1)) (fun v10 _ => (3 - intOf v10).toNat)
  case atStart => exact ⟨0, .inl rfl, rfl, H1.out, grown_bl (Below.refl _ _)⟩
  case round =>
    obtain ⟨q, hq, rfl, hr, hg⟩ := hrel
    have HRR := hide hr
    have HGG := hide hg
    clear hr hg k0 k1 k2 k3 k4 k5 k6 k7 zk
    obtain rfl | rfl | rfl | rfl := hq
    · have hix := idx3_0 t
      obtain ⟨V, hV⟩ : ∃ V, V = wr.alloc (.cells #[.int .i64 t.r0.f, .int .i64 t.r0.w] 65) := ⟨_, rfl⟩
      have hbV : Below wr.heap.size wr V := by rw [hV]; exact bl_new _
      have hS : SBlk V wr.heap.size t.r0.f t.r0.w := by rw [hV]; exact World.alloc_heap_new _ _
      obtain ⟨g9, hg9⟩ : ∃ g9, g9 = wr.heap.size := ⟨_, rfl⟩
      rw [← hg9] at hS
      obtain ⟨⟨s0, s1⟩, zs⟩ := hS.cells
      have hG9 := grown_tr HGG.out (grown_bl hbV)
      have t0 := cell_grown hG9 HT.out.1 HNE.out.1
      have zt := lt_of_cell t0
      simp only at zt
      have HV := hide hV
      have H9 := hide hg9
      have HG9 := hide hG9
      have HR9 := hide (HRR.out.below hbV)
      clear hV hg9 hbV hS hG9
      go_upto_region 4 with fail
      rw [← HV.out, ← H9.out]
      clear hix
      refine region_made 7 9 [fIs (.pointer (some ⟨T, 0, none⟩)), fIs (.pointer (some ⟨T, 0, none⟩)), fIs (.pointer (some ⟨T, 0, none⟩)), fIs (.slice (some ⟨g1, 0, none⟩) pad pad), fIs (.agg #[.int .i64 t.r0.f, .int .i64 t.r0.w]), fIs (.int .i64 (k : Int)), fIs (.int .i64 n)] (by kernel_rfl) (by kernel_rfl) (by kernel_rfl) (fun ch p q w3 e h => by obtain ⟨t1, d1⟩ := p; obtain ⟨t2, d2⟩ := q; cases e; exact h) ⟨fIs_good _, fIs_good _, fIs_good _, fIs_good _, fIs_good _, fIs_good _, fIs_good _, trivial⟩ ?mkF0 ?restF0
      case mkF0 =>
        refine ⟨fun u wz hb hd => ?_, fun u wz hb hd => ?_, fun u wz hb hd => ?_, fun u wz hb hd => ?_, fun u wz hb hd => ?_, fun u wz hb hd => ?_, fun u wz hb hd => ?_, trivial⟩
        all_goals simp only [Act.put, List.setIfInBounds_toArray, List.set_cons_zero, List.set_cons_succ]
        · go_simp
          exact ⟨rfl, Below.refl _ _, fun h => by cases h⟩
        · have e0 : u 0 = .pointer (some ⟨T, 0, none⟩) := hd 0 (by omega) (by kernel_rfl)
          rw [e0]
          go_simp
          exact ⟨rfl, Below.refl _ _, fun h => by cases h⟩
        · have e1 : u 1 = .pointer (some ⟨T, 0, none⟩) := hd 1 (by omega) (by kernel_rfl)
          rw [e1]
          go_simp
          exact ⟨rfl, Below.refl _ _, fun h => by cases h⟩
        · have e2 : u 2 = .pointer (some ⟨T, 0, none⟩) := hd 2 (by omega) (by kernel_rfl)
          rw [e2]
          have t0' := (hb.cell (p := ⟨T, 0, none⟩) (lt_of_cell t0)).trans t0
          go_simp
          exact ⟨rfl, Below.refl _ _, fun h => by cases h⟩
        · have s0' := (hb.cell (p := ⟨g9, 0, none⟩) (lt_of_cell s0)).trans s0
          have s1' := (hb.cell (p := ⟨g9, 1, none⟩) (lt_of_cell s1)).trans s1
          go_simp
          exact ⟨rfl, Below.refl _ _, fun h => by cases h⟩
        · go_simp
          exact ⟨rfl, Below.refl _ _, fun h => by cases h⟩
        · have e5 : u 5 = .int .i64 (k : Int) := hd 5 (by omega) (by kernel_rfl)
          rw [e5]
          go_simp
          exact ⟨rfl, Below.refl _ _, fun h => by cases h⟩
      case restF0 =>
        intro u wz hb hf hp
        have f0 : u 0 = .pointer (some ⟨T, 0, none⟩) := hf 0 (by omega)
        have f1 : u 1 = .pointer (some ⟨T, 0, none⟩) := hf 1 (by omega)
        have f2 : u 2 = .pointer (some ⟨T, 0, none⟩) := hf 2 (by omega)
        have f3 : u 3 = .slice (some ⟨g1, 0, none⟩) pad pad := hf 3 (by omega)
        have f4 : u 4 = .agg #[.int .i64 t.r0.f, .int .i64 t.r0.w] := hf 4 (by omega)
        have f5 : u 5 = .int .i64 (k : Int) := hf 5 (by omega)
        have f6 : u 6 = .int .i64 n := hf 6 (by omega)
        refine UptoW.rest 1 7 (by rfl) (by kernel_rfl) ?_
        simp only [List.take, List.drop, putOps, Act.put, List.setIfInBounds_toArray, List.set_cons_zero, List.set_cons_succ, Nat.reduceAdd, f0, f1, f2, f3, f4, f5, f6]
        clear f0 f1 f2 f3 f4 f5 f6 hf hp
        have HGz := hide (grown_tr HG9.out (grown_bl hb))
        have HRz := hide (HR9.out.below hb)
        clear hb t0 s0 s1 zt zs
        refine wpList_plain rfl (fun KK hKK => ?_)
        go_simp
        refine (HLV.out _ t.r0 HTI.out.sm.r0 HTI.out.r0 wz HRz.out).mono ?_
        rintro e w5 ⟨rfl, hr5, hg5⟩
        refine hKK _ _ (wpList_nil ?_)
        clear hKK KK
        have HR5 : Hid (IRow w5 g1 pad (stgF f1 t n 1)) := hr5
        have HG5 := hide (grown_tr HGz.out hg5)
        clear hr5 hg5
        go_wp2_with fail
        go_roundw
        case rel => exact ⟨1, by omega, by go_num, HR5.out, HG5.out⟩
        case measure => simp [intOf]
    · have hix := idx3_1 t
      obtain ⟨V, hV⟩ : ∃ V, V = wr.alloc (.cells #[.int .i64 t.r1.f, .int .i64 t.r1.w] 65) := ⟨_, rfl⟩
      have hbV : Below wr.heap.size wr V := by rw [hV]; exact bl_new _
      have hS : SBlk V wr.heap.size t.r1.f t.r1.w := by rw [hV]; exact World.alloc_heap_new _ _
      obtain ⟨g9, hg9⟩ : ∃ g9, g9 = wr.heap.size := ⟨_, rfl⟩
      rw [← hg9] at hS
      obtain ⟨⟨s0, s1⟩, zs⟩ := hS.cells
      have hG9 := grown_tr HGG.out (grown_bl hbV)
      have t0 := cell_grown hG9 HT.out.1 HNE.out.1
      have zt := lt_of_cell t0
      simp only at zt
      have HV := hide hV
      have H9 := hide hg9
      have HG9 := hide hG9
      have HR9 := hide (HRR.out.below hbV)
      clear hV hg9 hbV hS hG9
      go_upto_region 4 with fail
      rw [← HV.out, ← H9.out]
      clear hix
      refine region_made 7 9 [fIs (.pointer (some ⟨T, 0, none⟩)), fIs (.pointer (some ⟨T, 0, none⟩)), fIs (.pointer (some ⟨T, 0, none⟩)), fIs (.slice (some ⟨g1, 0, none⟩) pad pad), fIs (.agg #[.int .i64 t.r1.f, .int .i64 t.r1.w]), fIs (.int .i64 (k : Int)), fIs (.int .i64 n)] (by kernel_rfl) (by kernel_rfl) (by kernel_rfl) (fun ch p q w3 e h => by obtain ⟨t1, d1⟩ := p; obtain ⟨t2, d2⟩ := q; cases e; exact h) ⟨fIs_good _, fIs_good _, fIs_good _, fIs_good _, fIs_good _, fIs_good _, fIs_good _, trivial⟩ ?mkF1 ?restF1
      case mkF1 =>
        refine ⟨fun u wz hb hd => ?_, fun u wz hb hd => ?_, fun u wz hb hd => ?_, fun u wz hb hd => ?_, fun u wz hb hd => ?_, fun u wz hb hd => ?_, fun u wz hb hd => ?_, trivial⟩
        all_goals simp only [Act.put, List.setIfInBounds_toArray, List.set_cons_zero, List.set_cons_succ]
        · go_simp
          exact ⟨rfl, Below.refl _ _, fun h => by cases h⟩
        · have e0 : u 0 = .pointer (some ⟨T, 0, none⟩) := hd 0 (by omega) (by kernel_rfl)
          rw [e0]
          go_simp
          exact ⟨rfl, Below.refl _ _, fun h => by cases h⟩
        · have e1 : u 1 = .pointer (some ⟨T, 0, none⟩) := hd 1 (by omega) (by kernel_rfl)
          rw [e1]
          go_simp
          exact ⟨rfl, Below.refl _ _, fun h => by cases h⟩
        · have e2 : u 2 = .pointer (some ⟨T, 0, none⟩) := hd 2 (by omega) (by kernel_rfl)
          rw [e2]
          have t0' := (hb.cell (p := ⟨T, 0, none⟩) (lt_of_cell t0)).trans t0
          go_simp
          exact ⟨rfl, Below.refl _ _, fun h => by cases h⟩
        · have s0' := (hb.cell (p := ⟨g9, 0, none⟩) (lt_of_cell s0)).trans s0
          have s1' := (hb.cell (p := ⟨g9, 1, none⟩) (lt_of_cell s1)).trans s1
          go_simp
          exact ⟨rfl, Below.refl _ _, fun h => by cases h⟩
        · go_simp
          exact ⟨rfl, Below.refl _ _, fun h => by cases h⟩
        · have e5 : u 5 = .int .i64 (k : Int) := hd 5 (by omega) (by kernel_rfl)
          rw [e5]
          go_simp
          exact ⟨rfl, Below.refl _ _, fun h => by cases h⟩
      case restF1 =>
        intro u wz hb hf hp
        have f0 : u 0 = .pointer (some ⟨T, 0, none⟩) := hf 0 (by omega)
        have f1 : u 1 = .pointer (some ⟨T, 0, none⟩) := hf 1 (by omega)
        have f2 : u 2 = .pointer (some ⟨T, 0, none⟩) := hf 2 (by omega)
        have f3 : u 3 = .slice (some ⟨g1, 0, none⟩) pad pad := hf 3 (by omega)
        have f4 : u 4 = .agg #[.int .i64 t.r1.f, .int .i64 t.r1.w] := hf 4 (by omega)
        have f5 : u 5 = .int .i64 (k : Int) := hf 5 (by omega)
        have f6 : u 6 = .int .i64 n := hf 6 (by omega)
        refine UptoW.rest 1 7 (by rfl) (by kernel_rfl) ?_
        simp only [List.take, List.drop, putOps, Act.put, List.setIfInBounds_toArray, List.set_cons_zero, List.set_cons_succ, Nat.reduceAdd, f0, f1, f2, f3, f4, f5, f6]
        clear f0 f1 f2 f3 f4 f5 f6 hf hp
        have HGz := hide (grown_tr HG9.out (grown_bl hb))
        have HRz := hide (HR9.out.below hb)
        clear hb t0 s0 s1 zt zs
        refine wpList_plain rfl (fun KK hKK => ?_)
        go_simp
        refine (HLV.out _ t.r1 HTI.out.sm.r1 HTI.out.r1 wz HRz.out).mono ?_
        rintro e w5 ⟨rfl, hr5, hg5⟩
        refine hKK _ _ (wpList_nil ?_)
        clear hKK KK
        have HR5 : Hid (IRow w5 g1 pad (stgF f1 t n 2)) := hr5
        have HG5 := hide (grown_tr HGz.out hg5)
        clear hr5 hg5
        go_wp2_with fail
        go_roundw
        case rel => exact ⟨2, by omega, by go_num, HR5.out, HG5.out⟩
        case measure => simp [intOf]
    · have hix := idx3_2 t
      obtain ⟨V, hV⟩ : ∃ V, V = wr.alloc (.cells #[.int .i64 t.r2.f, .int .i64 t.r2.w] 65) := ⟨_, rfl⟩
      have hbV : Below wr.heap.size wr V := by rw [hV]; exact bl_new _
      have hS : SBlk V wr.heap.size t.r2.f t.r2.w := by rw [hV]; exact World.alloc_heap_new _ _
      obtain ⟨g9, hg9⟩ : ∃ g9, g9 = wr.heap.size := ⟨_, rfl⟩
      rw [← hg9] at hS
      obtain ⟨⟨s0, s1⟩, zs⟩ := hS.cells
      have hG9 := grown_tr HGG.out (grown_bl hbV)
      have t0 := cell_grown hG9 HT.out.1 HNE.out.1
      have zt := lt_of_cell t0
      simp only at zt
      have HV := hide hV
      have H9 := hide hg9
      have HG9 := hide hG9
      have HR9 := hide (HRR.out.below hbV)
      clear hV hg9 hbV hS hG9
      go_upto_region 4 with fail
      rw [← HV.out, ← H9.out]
      clear hix
      refine region_made 7 9 [fIs (.pointer (some ⟨T, 0, none⟩)), fIs (.pointer (some ⟨T, 0, none⟩)), fIs (.pointer (some ⟨T, 0, none⟩)), fIs (.slice (some ⟨g1, 0, none⟩) pad pad), fIs (.agg #[.int .i64 t.r2.f, .int .i64 t.r2.w]), fIs (.int .i64 (k : Int)), fIs (.int .i64 n)] (by kernel_rfl) (by kernel_rfl) (by kernel_rfl) (fun ch p q w3 e h => by obtain ⟨t1, d1⟩ := p; obtain ⟨t2, d2⟩ := q; cases e; exact h) ⟨fIs_good _, fIs_good _, fIs_good _, fIs_good _, fIs_good _, fIs_good _, fIs_good _, trivial⟩ ?mkF2 ?restF2
      case mkF2 =>
        refine ⟨fun u wz hb hd => ?_, fun u wz hb hd => ?_, fun u wz hb hd => ?_, fun u wz hb hd => ?_, fun u wz hb hd => ?_, fun u wz hb hd => ?_, fun u wz hb hd => ?_, trivial⟩
        all_goals simp only [Act.put, List.setIfInBounds_toArray, List.set_cons_zero, List.set_cons_succ]
        · go_simp
          exact ⟨rfl, Below.refl _ _, fun h => by cases h⟩
        · have e0 : u 0 = .pointer (some ⟨T, 0, none⟩) := hd 0 (by omega) (by kernel_rfl)
          rw [e0]
          go_simp
          exact ⟨rfl, Below.refl _ _, fun h => by cases h⟩
        · have e1 : u 1 = .pointer (some ⟨T, 0, none⟩) := hd 1 (by omega) (by kernel_rfl)
          rw [e1]
          go_simp
          exact ⟨rfl, Below.refl _ _, fun h => by cases h⟩
        · have e2 : u 2 = .pointer (some ⟨T, 0, none⟩) := hd 2 (by omega) (by kernel_rfl)
          rw [e2]
          have t0' := (hb.cell (p := ⟨T, 0, none⟩) (lt_of_cell t0)).trans t0
          go_simp
          exact ⟨rfl, Below.refl _ _, fun h => by cases h⟩
        · have s0' := (hb.cell (p := ⟨g9, 0, none⟩) (lt_of_cell s0)).trans s0
          have s1' := (hb.cell (p := ⟨g9, 1, none⟩) (lt_of_cell s1)).trans s1
          go_simp
          exact ⟨rfl, Below.refl _ _, fun h => by cases h⟩
        · go_simp
          exact ⟨rfl, Below.refl _ _, fun h => by cases h⟩
        · have e5 : u 5 = .int .i64 (k : Int) := hd 5 (by omega) (by kernel_rfl)
          rw [e5]
          go_simp
          exact ⟨rfl, Below.refl _ _, fun h => by cases h⟩
      case restF2 =>
        intro u wz hb hf hp
        have f0 : u 0 = .pointer (some ⟨T, 0, none⟩) := hf 0 (by omega)
        have f1 : u 1 = .pointer (some ⟨T, 0, none⟩) := hf 1 (by omega)
        have f2 : u 2 = .pointer (some ⟨T, 0, none⟩) := hf 2 (by omega)
        have f3 : u 3 = .slice (some ⟨g1, 0, none⟩) pad pad := hf 3 (by omega)
        have f4 : u 4 = .agg #[.int .i64 t.r2.f, .int .i64 t.r2.w] := hf 4 (by omega)
        have f5 : u 5 = .int .i64 (k : Int) := hf 5 (by omega)
        have f6 : u 6 = .int .i64 n := hf 6 (by omega)
        refine UptoW.rest 1 7 (by rfl) (by kernel_rfl) ?_
        simp only [List.take, List.drop, putOps, Act.put, List.setIfInBounds_toArray, List.set_cons_zero, List.set_cons_succ, Nat.reduceAdd, f0, f1, f2, f3, f4, f5, f6]
        clear f0 f1 f2 f3 f4 f5 f6 hf hp
        have HGz := hide (grown_tr HG9.out (grown_bl hb))
        have HRz := hide (HR9.out.below hb)
        clear hb t0 s0 s1 zt zs
        refine wpList_plain rfl (fun KK hKK => ?_)
        go_simp
        refine (HLV.out _ t.r2 HTI.out.sm.r2 HTI.out.r2 wz HRz.out).mono ?_
        rintro e w5 ⟨rfl, hr5, hg5⟩
        refine hKK _ _ (wpList_nil ?_)
        clear hKK KK
        have HR5 : Hid (IRow w5 g1 pad (stgF f1 t n 3)) := hr5
        have HG5 := hide (grown_tr HGz.out hg5)
        clear hr5 hg5
        go_wp2_with fail
        go_roundw
        case rel => exact ⟨3, by omega, by go_num, HR5.out, HG5.out⟩
        case measure => simp [intOf]
    · have hK2 := blk_grown HGG.out HK.out HNE.out.2.2.2.1
      obtain ⟨⟨k0, k1, k2, k3, k4, k5, k6, k7⟩, zk⟩ := blk8 (t := t) hK2
      have t0 := cell_grown HGG.out HT.out.1 HNE.out.1
      have zt := lt_of_cell t0
      simp only at zt
      clear hK2
      go_upto_region 6 with fail
      refine region_made 8 10 [fIs (.pointer (some ⟨T, 0, none⟩)), fIs (.pointer (some ⟨T, 0, none⟩)), fIs (.pointer (some ⟨T, 0, none⟩)), fIs (.slice (some ⟨g1, 0, none⟩) pad pad), fIs (.pointer (some ⟨w.heap.size, 6, none⟩)), fIs (.agg #[.int .i64 t.wr.f, .int .i64 t.wr.w]), fIs (.int .i64 (k : Int)), fIs (.int .i64 n)] (by kernel_rfl) (by kernel_rfl) (by kernel_rfl) (fun ch p q w3 e h => by obtain ⟨t1, d1⟩ := p; obtain ⟨t2, d2⟩ := q; cases e; exact h) ⟨fIs_good _, fIs_good _, fIs_good _, fIs_good _, fIs_good _, fIs_good _, fIs_good _, fIs_good _, trivial⟩ ?mkG ?restG
      case mkG =>
        refine ⟨fun u wz hb hd => ?_, fun u wz hb hd => ?_, fun u wz hb hd => ?_, fun u wz hb hd => ?_, fun u wz hb hd => ?_, fun u wz hb hd => ?_, fun u wz hb hd => ?_, fun u wz hb hd => ?_, trivial⟩
        all_goals simp only [Act.put, List.setIfInBounds_toArray, List.set_cons_zero, List.set_cons_succ]
        · go_simp
          exact ⟨rfl, Below.refl _ _, fun h => by cases h⟩
        · have e0 : u 0 = .pointer (some ⟨T, 0, none⟩) := hd 0 (by omega) (by kernel_rfl)
          rw [e0]
          go_simp
          exact ⟨rfl, Below.refl _ _, fun h => by cases h⟩
        · have e1 : u 1 = .pointer (some ⟨T, 0, none⟩) := hd 1 (by omega) (by kernel_rfl)
          rw [e1]
          go_simp
          exact ⟨rfl, Below.refl _ _, fun h => by cases h⟩
        · have e2 : u 2 = .pointer (some ⟨T, 0, none⟩) := hd 2 (by omega) (by kernel_rfl)
          rw [e2]
          have t0' := (hb.cell (p := ⟨T, 0, none⟩) (lt_of_cell t0)).trans t0
          go_simp
          exact ⟨rfl, Below.refl _ _, fun h => by cases h⟩
        · go_simp
          exact ⟨rfl, Below.refl _ _, fun h => by cases h⟩
        · have e4 : u 4 = .pointer (some ⟨w.heap.size, 6, none⟩) := hd 4 (by omega) (by kernel_rfl)
          rw [e4]
          have k6' := (hb.cell (p := ⟨w.heap.size, 6, none⟩) (lt_of_cell k6)).trans k6
          have k7' := (hb.cell (p := ⟨w.heap.size, 7, none⟩) (lt_of_cell k7)).trans k7
          go_simp
          exact ⟨rfl, Below.refl _ _, fun h => by cases h⟩
        · go_simp
          exact ⟨rfl, Below.refl _ _, fun h => by cases h⟩
        · have e6 : u 6 = .int .i64 (k : Int) := hd 6 (by omega) (by kernel_rfl)
          rw [e6]
          go_simp
          exact ⟨rfl, Below.refl _ _, fun h => by cases h⟩
      case restG =>
        intro u wz hb hf hp
        have f0 : u 0 = .pointer (some ⟨T, 0, none⟩) := hf 0 (by omega)
        have f1 : u 1 = .pointer (some ⟨T, 0, none⟩) := hf 1 (by omega)
        have f2 : u 2 = .pointer (some ⟨T, 0, none⟩) := hf 2 (by omega)
        have f3 : u 3 = .slice (some ⟨g1, 0, none⟩) pad pad := hf 3 (by omega)
        have f4 : u 4 = .pointer (some ⟨w.heap.size, 6, none⟩) := hf 4 (by omega)
        have f5 : u 5 = .agg #[.int .i64 t.wr.f, .int .i64 t.wr.w] := hf 5 (by omega)
        have f6 : u 6 = .int .i64 (k : Int) := hf 6 (by omega)
        have f7 : u 7 = .int .i64 n := hf 7 (by omega)
        refine UptoW.rest 1 8 (by rfl) (by kernel_rfl) ?_
        simp only [List.take, List.drop, putOps, Act.put, List.setIfInBounds_toArray, List.set_cons_zero, List.set_cons_succ, Nat.reduceAdd, f0, f1, f2, f3, f4, f5, f6, f7]
        clear f0 f1 f2 f3 f4 f5 f6 f7 hf hp
        have HGz := hide (grown_tr HGG.out (grown_bl hb))
        have HRz := hide (HRR.out.below hb)
        clear hb t0 zt k0 k1 k2 k3 k4 k5 k6 k7 zk
        refine wpList_plain rfl (fun KK hKK => ?_)
        go_simp
        refine (HLV.out _ t.wr HTI.out.sm.wr HTI.out.wr wz HRz.out).mono ?_
        rintro e w5 ⟨rfl, hr5, hg5⟩
        refine hKK _ _ (wpList_nil ?_)
        clear hKK KK
        have HR5 : Hid (IRow w5 g1 pad (markF f1 t n)) := IRow.congr (f := lvF (stgF f1 t n 3) t.wr n) hr5 fun i hi => stg_mark f1 t n i
        have hG5 := grown_tr HGz.out hg5
        have hK5 := blk_grown hG5 HK.out HNE.out.2.2.2.1
        obtain ⟨⟨k0, k1, k2, k3, k4, k5, k6, k7⟩, zk⟩ := blk8 (t := t) hK5
        have t1 := cell_grown hG5 HT.out.2 HNE.out.1
        have zt := lt_of_cell t1
        simp only at zt
        have HG5 := hide hG5
        have HR25 : Hid (IRow w5 g2 pad f2) := World.rowIs.of_block H2.out (hG5.block _ H2.out.lt (by have := HNE.out.2.2.1; simp; omega))
        clear hr5 hg5 hG5 hK5
        go_upto_region 7 with fail
        refine region_made 8 10 [fIs (.pointer (some ⟨T, 0, none⟩)), fIs (.pointer (some ⟨T, 0, none⟩)), fIs (.pointer (some ⟨T, 1, none⟩)), fIs (.slice (some ⟨g2, 0, none⟩) pad pad), fIs (.pointer (some ⟨w.heap.size, 6, none⟩)), fIs (.agg #[.int .i64 t.wr.f, .int .i64 t.wr.w]), fIs (.int .i64 (k : Int)), fIs (.int .i64 n)] (by kernel_rfl) (by kernel_rfl) (by kernel_rfl) (fun ch p q w3 e h => by obtain ⟨t1, d1⟩ := p; obtain ⟨t2, d2⟩ := q; cases e; exact h) ⟨fIs_good _, fIs_good _, fIs_good _, fIs_good _, fIs_good _, fIs_good _, fIs_good _, fIs_good _, trivial⟩ ?mkH ?restH
        case mkH =>
          refine ⟨fun u wz hb hd => ?_, fun u wz hb hd => ?_, fun u wz hb hd => ?_, fun u wz hb hd => ?_, fun u wz hb hd => ?_, fun u wz hb hd => ?_, fun u wz hb hd => ?_, fun u wz hb hd => ?_, trivial⟩
          all_goals simp only [Act.put, List.setIfInBounds_toArray, List.set_cons_zero, List.set_cons_succ]
          · go_simp
            exact ⟨rfl, Below.refl _ _, fun h => by cases h⟩
          · have e0 : u 0 = .pointer (some ⟨T, 0, none⟩) := hd 0 (by omega) (by kernel_rfl)
            rw [e0]
            go_simp
            exact ⟨rfl, Below.refl _ _, fun h => by cases h⟩
          · have e1 : u 1 = .pointer (some ⟨T, 0, none⟩) := hd 1 (by omega) (by kernel_rfl)
            rw [e1]
            go_simp
            exact ⟨rfl, Below.refl _ _, fun h => by cases h⟩
          · have e2 : u 2 = .pointer (some ⟨T, 1, none⟩) := hd 2 (by omega) (by kernel_rfl)
            rw [e2]
            have t1' := (hb.cell (p := ⟨T, 1, none⟩) (lt_of_cell t1)).trans t1
            go_simp
            exact ⟨rfl, Below.refl _ _, fun h => by cases h⟩
          · go_simp
            exact ⟨rfl, Below.refl _ _, fun h => by cases h⟩
          · have e4 : u 4 = .pointer (some ⟨w.heap.size, 6, none⟩) := hd 4 (by omega) (by kernel_rfl)
            rw [e4]
            have k6' := (hb.cell (p := ⟨w.heap.size, 6, none⟩) (lt_of_cell k6)).trans k6
            have k7' := (hb.cell (p := ⟨w.heap.size, 7, none⟩) (lt_of_cell k7)).trans k7
            go_simp
            exact ⟨rfl, Below.refl _ _, fun h => by cases h⟩
          · go_simp
            exact ⟨rfl, Below.refl _ _, fun h => by cases h⟩
          · have e6 : u 6 = .int .i64 (k : Int) := hd 6 (by omega) (by kernel_rfl)
            rw [e6]
            go_simp
            exact ⟨rfl, Below.refl _ _, fun h => by cases h⟩
        case restH =>
          intro u wz hb hf hp
          have f0 : u 0 = .pointer (some ⟨T, 0, none⟩) := hf 0 (by omega)
          have f1 : u 1 = .pointer (some ⟨T, 0, none⟩) := hf 1 (by omega)
          have f2 : u 2 = .pointer (some ⟨T, 1, none⟩) := hf 2 (by omega)
          have f3 : u 3 = .slice (some ⟨g2, 0, none⟩) pad pad := hf 3 (by omega)
          have f4 : u 4 = .pointer (some ⟨w.heap.size, 6, none⟩) := hf 4 (by omega)
          have f5 : u 5 = .agg #[.int .i64 t.wr.f, .int .i64 t.wr.w] := hf 5 (by omega)
          have f6 : u 6 = .int .i64 (k : Int) := hf 6 (by omega)
          have f7 : u 7 = .int .i64 n := hf 7 (by omega)
          refine UptoW.rest 1 8 (by rfl) (by kernel_rfl) ?_
          simp only [List.take, List.drop, putOps, Act.put, List.setIfInBounds_toArray, List.set_cons_zero, List.set_cons_succ, Nat.reduceAdd, f0, f1, f2, f3, f4, f5, f6, f7]
          clear f0 f1 f2 f3 f4 f5 f6 f7 hf hp
          have HGy := hide (grown_tr HG5.out (grown_bl hb))
          have HRy := hide (HR5.out.below hb)
          have HR2y := hide (HR25.out.below hb)
          clear hb t1 zt k0 k1 k2 k3 k4 k5 k6 k7 zk
          refine wpList_plain rfl (fun KK hKK => ?_)
          go_simp
          refine (HLW.out _ t.wr HTI.out.sm.wr HTI.out.wr wz HR2y.out).mono ?_
          rintro e w6 ⟨rfl, hr6, hg6⟩
          refine hKK _ _ (wpList_nil ?_)
          clear hKK KK
          have HF1 : Hid (IRow w6 g1 pad (markF f1 t n)) := World.rowIs.of_block HRy.out (hg6.block _ HRy.out.lt (by have := HNE.out.2.2.1; simp; omega))
          have HF2 : Hid (IRow w6 g2 pad (markW f2 t n)) := hr6
          have hT6 : TrB w6 T g1 g2 pad := ⟨cell_grown hg6 (cell_grown HGy.out HT.out.1 HNE.out.1) HNE.out.2.1, cell_grown hg6 (cell_grown HGy.out HT.out.2 HNE.out.1) HNE.out.2.1⟩
          have HF3 := hide hT6
          have HF4 := hide (And.intro (grown_tr (grown_bl HB.out) HGy.out) hg6)
          clear hr6 hg6 hT6
          go_wp2_with fail
          refine bodyPost_end (v := .tuple #[]) ?_ rfl ⟨rfl, HF1.out, HF2.out, HF3.out, _, HF4.out.1, HF4.out.2⟩
          simp [results, Tryz.results37, go_sem]
end Go.Proofs.YtoabffmiedbkkaaGreat.V
