/-
  The machine's maker: words of the pad as an array; what an operation makes of such.
-/
import Derived.Test.YtoabffmiedbkkaaGreatRJ14
import Derived.Test.YtoabffmiedbkkaaGreatRJ0
import Derived.Test.YtoabffmiedbkkaaGreatRJ39
import Derived.Test.YtoabffmiedbkkaaGreatRJ9
namespace Go.Proofs.YtoabffmiedbkkaaGreat.V
set_option maxRecDepth 20000
open Go Go.RowKit
set_option linter.unusedVariables false
set_option linter.unusedSimpArgs false

/-- So many words from a place on. -/
def padL (p : Int → Int) (a n : Nat) : List Int := (List.range n).map fun (i : Nat) => p ((a : Int) + (i : Int))
theorem padL_length (p : Int → Int) (a n : Nat) : (padL p a n).length = n := by simp [padL]
theorem padL_at (p : Int → Int) (a n i : Nat) (h : i < n) : (padL p a n)[i]?.getD 0 = p ((a : Int) + (i : Int)) := by simp [padL, h]
theorem WrdAt.ints {W : World} {y : Sw1} {b off : Nat} {f : Int → Int} (h : WrdAt W y b off f) (hf : ∀ q, bd64 (f q)) {a n : Nat} (ha : a + n ≤ y.n) (h9 : y.n ≤ 9223372036854775807) : Ints W (some ⟨b, off + a, none⟩) n (padL f a n) := by
  refine ⟨padL_length _ _ _, by omega, fun x hx => ?_, ?_⟩
  · simp only [padL, List.mem_map] at hx
    obtain ⟨i, _, rfl⟩ := hx
    exact hf _
  · by_cases h0 : n = 0
    · exact .inl h0
    · refine .inr ⟨b, off + a, rfl, fun j hj => ?_⟩
      have := h.cell (k := a + j) (by omega)
      rw [padL_at _ _ _ _ hj, Nat.add_assoc, this]
      simp
/-- A list of one number. -/
def fOn (N n : Nat) : Fact := ⟨fun u W => ∃ g, u = .slice (some ⟨g, 0, none⟩) 1 1 ∧ Ints W (some ⟨g, 0, none⟩) 1 [(n : Int)] ∧ N ≤ g, false⟩
theorem fOn_good (N n : Nat) : (fOn N n).Good := ⟨fun _ _ _ ⟨g, h1, h2, h3⟩ hb => ⟨g, h1, h2.below hb, h3⟩, fun h => by cases h⟩
def fAg (N n : Nat) (X : Option Addr) (xc : Nat) : Fact := ⟨fun u W => ∃ g, u = .agg #[.slice (some ⟨g, 0, none⟩) 1 1, .slice X n xc] ∧ Ints W (some ⟨g, 0, none⟩) 1 [(n : Int)] ∧ N ≤ g, false⟩
theorem fAg_good (N n : Nat) (X : Option Addr) (xc : Nat) : (fAg N n X xc).Good := ⟨fun _ _ _ ⟨g, h1, h2, h3⟩ hb => ⟨g, h1, h2.below hb, h3⟩, fun h => by cases h⟩
theorem ints_one (W : World) (n : Nat) (hn : n ≤ 4096) (t : TypeId) : Ints (W.alloc (.cells #[.int .i64 (n : Int)] t)) (some ⟨W.heap.size, 0, none⟩) 1 [(n : Int)] := by
  refine ⟨rfl, by omega, fun x hx => by rw [List.mem_singleton.1 hx]; omega, .inr ⟨_, _, rfl, fun j hj => ?_⟩⟩
  obtain rfl : j = 0 := by omega
  simp only [World.cell?, World.alloc_heap_new]
  rfl
theorem ints_set {W : World} {b o n : Nat} {xs : List Int} (h : Ints W (some ⟨b, o, none⟩) n xs) {p : Addr} (hne : b ≠ p.block) (v : Value) : Ints (W.setCell p v) (some ⟨b, o, none⟩) n xs := h.keep_ne (fun b' o' e => by cases e; exact hne) v
/-- The boxes in which an instruction and the machine's pointer lie. -/
structure MdB (W : World) (g ib mb : Nat) (x : In) : Prop where
  i : W.heap[ib]? = some (.cells #[.int .i64 x.d, .int .i64 x.a, .int .i64 x.b, .int .i64 x.c, .int .i64 x.n, .int .i64 x.v] 50 (0, 0))
  m : W.heap[mb]? = some (.cells #[.pointer (some ⟨g, 0, none⟩)] 39 (0, 0))
theorem MdB.below {W V : World} {g ib mb : Nat} {x : In} (h : MdB W g ib mb x) (hb : Below W.heap.size W V) : MdB V g ib mb x := ⟨(hb.block ib (Array.getElem?_eq_some_iff.1 h.i).1).trans h.i, (hb.block mb (Array.getElem?_eq_some_iff.1 h.m).1).trans h.m⟩
set_option maxRecDepth 20000 in
set_option maxHeartbeats 4000000 in
theorem from_any (g ib mb : Nat) (c : CV) (mv mk : List In) (B : MbK) (s : Mac) (x : In) (a N : Nat) (W : World) (h : MchAt W g c mv mk B s) (hm : MdB W g ib mb x) (hN : x.n = (N : Int)) (hN0 : 0 < N) (hn4 : N ≤ 4096) (ha : a + N ≤ B.p.n) (hp : B.p.n ≤ 4096) :
    Calls Tryz.prog 53 #[.int .i64 (a : Int), .pointer (some ⟨ib, 0, none⟩), .pointer (some ⟨mb, 0, none⟩)] W fun e w' => (∃ gd, e = .returned (.agg #[.slice (some ⟨gd, 0, none⟩) 1 1, .slice (some ⟨B.gp, B.op + a, none⟩) N (B.p.c - a)]) ∧ Ints w' (some ⟨gd, 0, none⟩) 1 [(N : Int)] ∧ W.heap.size ≤ gd) ∧ Below W.heap.size W w' := by
  have hpc : B.p.n ≤ B.p.c := h.pad.2.2
  have hpa : B.p.a = some ⟨B.gp, B.op, none⟩ := h.pad.1 (by omega)
  obtain ⟨V, hV⟩ : ∃ V, V = W.alloc (.cells #[.slice none 0 0, .slice none 0 0] 101) := ⟨_, rfl⟩
  have hbV : Below W.heap.size W V := by rw [hV]; exact bl_new _
  have hm' := hm.below hbV
  have h' := h.below hbV
  have i4 : V.cell? ⟨ib, 4, none⟩ = some (.int .i64 (N : Int)) := by simp only [World.cell?, hm'.i]; rw [← hN]; rfl
  have mm : V.cell? ⟨mb, 0, none⟩ = some (.pointer (some ⟨g, 0, none⟩)) := by simp only [World.cell?, hm'.m]; rfl
  have m4 := h'.cell (k := 4) (by decide)
  simp [mchV] at m4
  rw [hpa] at m4
  have gz := h'.lt
  have hVb : V.heap[W.heap.size]? = some (.cells #[.slice none 0 0, .slice none 0 0] 101 (0, 0)) := by rw [hV]; exact World.alloc_heap_new _ _
  have hVs : V.heap.size = W.heap.size + 1 := by rw [hV]; simp
  have HV := hide hV
  have HVS := hide hVs
  have HBV := hide hbV
  have HVB := hide hVb
  have HW1 : Hid (IntKind.i64.wrap ((a : Int) + (N : Int)) = (a : Int) + (N : Int)) := wrapk_sm (by omega) (by omega)
  clear h hm hm' h' hV hVs hbV hVb hN
  go_enter Tryz.func53, Tryz.ntmps53
  go_upto_region 1 with fail
  rw [← HV.out]
  refine region_made 14 16 [fIs (.pointer (some ⟨ib, 4, none⟩)), fIs (.int .i64 (N : Int)), fOn (W.heap.size + 1) N, fIs (.pointer (some ⟨g, 0, none⟩)), fIs (.pointer (some ⟨g, 0, none⟩)), fIs (.pointer (some ⟨g, 4, none⟩)), fIs (.slice (some ⟨B.gp, B.op, none⟩) B.p.n B.p.c), fIs (.int .i64 (a : Int)), fIs (.int .i64 (a : Int)), fIs (.pointer (some ⟨ib, 4, none⟩)), fIs (.int .i64 (N : Int)), fIs (.int .i64 ((a : Int) + (N : Int))), fIs (.slice (some ⟨B.gp, B.op + a, none⟩) N (B.p.c - a)), fAg (W.heap.size + 1) N (some ⟨B.gp, B.op + a, none⟩) (B.p.c - a)] (by kernel_rfl) (by kernel_rfl) (by kernel_rfl) (fun _ ⟨_, _⟩ ⟨_, _⟩ _ e h => by cases e; exact h) ⟨fIs_good _, fIs_good _, fOn_good _ _, fIs_good _, fIs_good _, fIs_good _, fIs_good _, fIs_good _, fIs_good _, fIs_good _, fIs_good _, fIs_good _, fIs_good _, fAg_good _ _ _ _, trivial⟩ ?mk ?rest
  case mk =>
    refine ⟨fun u wz hb hd => ?_, fun u wz hb hd => ?_, fun u wz hb hd => ?_, fun u wz hb hd => ?_, fun u wz hb hd => ?_, fun u wz hb hd => ?_, fun u wz hb hd => ?_, fun u wz hb hd => ?_, fun u wz hb hd => ?_, fun u wz hb hd => ?_, fun u wz hb hd => ?_, fun u wz hb hd => ?_, fun u wz hb hd => ?_, fun u wz hb hd => ?_, trivial⟩
    all_goals simp only [Act.put, List.setIfInBounds_toArray, List.set_cons_zero, List.set_cons_succ]
    · go_simp
      exact ⟨rfl, Below.refl _ _, fun h => by cases h⟩
    · have e0 : u 0 = .pointer (some ⟨ib, 4, none⟩) := hd 0 (by omega) (by kernel_rfl)
      rw [e0]
      have i4' := (hb.cell (p := ⟨ib, 4, none⟩) (lt_of_cell i4)).trans i4
      go_simp
      exact ⟨rfl, Below.refl _ _, fun h => by cases h⟩
    · have e1 : u 1 = .int .i64 (N : Int) := hd 1 (by omega) (by kernel_rfl)
      rw [e1]
      go_simp
      exact ⟨⟨_, rfl, ints_one wz N hn4 _, by have := hb.size; have := HVS.out; omega⟩, bl_new _, fun h => by cases h⟩
    · have mm' := (hb.cell (p := ⟨mb, 0, none⟩) (lt_of_cell mm)).trans mm
      go_simp
      exact ⟨rfl, Below.refl _ _, fun h => by cases h⟩
    · have e3 : u 3 = .pointer (some ⟨g, 0, none⟩) := hd 3 (by omega) (by kernel_rfl)
      rw [e3]
      have gz' : g < wz.heap.size := Nat.lt_of_lt_of_le gz hb.size
      go_simp
      exact ⟨rfl, Below.refl _ _, fun h => by cases h⟩
    · have e4 : u 4 = .pointer (some ⟨g, 0, none⟩) := hd 4 (by omega) (by kernel_rfl)
      rw [e4]
      go_simp
      exact ⟨rfl, Below.refl _ _, fun h => by cases h⟩
    · have e5 : u 5 = .pointer (some ⟨g, 4, none⟩) := hd 5 (by omega) (by kernel_rfl)
      rw [e5]
      have m4' := (hb.cell (p := ⟨g, 4, none⟩) (lt_of_cell m4)).trans m4
      go_simp
      exact ⟨rfl, Below.refl _ _, fun h => by cases h⟩
    · go_simp
      exact ⟨rfl, Below.refl _ _, fun h => by cases h⟩
    · go_simp
      exact ⟨rfl, Below.refl _ _, fun h => by cases h⟩
    · go_simp
      exact ⟨rfl, Below.refl _ _, fun h => by cases h⟩
    · have e9 : u 9 = .pointer (some ⟨ib, 4, none⟩) := hd 9 (by omega) (by kernel_rfl)
      rw [e9]
      have i4' := (hb.cell (p := ⟨ib, 4, none⟩) (lt_of_cell i4)).trans i4
      go_simp
      exact ⟨rfl, Below.refl _ _, fun h => by cases h⟩
    · have e8 : u 8 = .int .i64 (a : Int) := hd 8 (by omega) (by kernel_rfl)
      have e10 : u 10 = .int .i64 (N : Int) := hd 10 (by omega) (by kernel_rfl)
      rw [e8, e10]
      go_simp
      rw [HW1.out]
      exact ⟨rfl, Below.refl _ _, fun h => by cases h⟩
    · have e6 : u 6 = .slice (some ⟨B.gp, B.op, none⟩) B.p.n B.p.c := hd 6 (by omega) (by kernel_rfl)
      have e7 : u 7 = .int .i64 (a : Int) := hd 7 (by omega) (by kernel_rfl)
      have e11 : u 11 = .int .i64 ((a : Int) + (N : Int)) := hd 11 (by omega) (by kernel_rfl)
      rw [e6, e7, e11]
      have q1 : (0 : Int) ≤ (a : Int) := by omega
      have q2 : (a : Int) ≤ (a : Int) + (N : Int) := by omega
      have q3 : (a : Int) + (N : Int) ≤ (B.p.c : Int) := by omega
      have q4 : ¬ (B.p.c = a) := by omega
      have q5 : ((a : Int) + (N : Int)).toNat - a = N := by omega
      have q6 : a + N - a = N := by omega
      go_simp
      exact ⟨rfl, Below.refl _ _, fun h => by cases h⟩
    · obtain ⟨g2, e2, h2, hg2⟩ := hd 2 (by omega) (by kernel_rfl)
      have e12 : u 12 = .slice (some ⟨B.gp, B.op + a, none⟩) N (B.p.c - a) := hd 12 (by omega) (by kernel_rfl)
      rw [e2, e12]
      go_simp
      exact ⟨⟨g2, rfl, h2, hg2⟩, Below.refl _ _, fun h => by cases h⟩
  case rest =>
    intro u wz hb hf hp
    have f0 : u 0 = .pointer (some ⟨ib, 4, none⟩) := hf 0 (by omega)
    have f1 : u 1 = .int .i64 (N : Int) := hf 1 (by omega)
    obtain ⟨g2, f2, h2, hg2⟩ := hf 2 (by omega)
    have f3 : u 3 = .pointer (some ⟨g, 0, none⟩) := hf 3 (by omega)
    have f4 : u 4 = .pointer (some ⟨g, 0, none⟩) := hf 4 (by omega)
    have f5 : u 5 = .pointer (some ⟨g, 4, none⟩) := hf 5 (by omega)
    have f6 : u 6 = .slice (some ⟨B.gp, B.op, none⟩) B.p.n B.p.c := hf 6 (by omega)
    have f7 : u 7 = .int .i64 (a : Int) := hf 7 (by omega)
    have f8 : u 8 = .int .i64 (a : Int) := hf 8 (by omega)
    have f9 : u 9 = .pointer (some ⟨ib, 4, none⟩) := hf 9 (by omega)
    have f10 : u 10 = .int .i64 (N : Int) := hf 10 (by omega)
    have f11 : u 11 = .int .i64 ((a : Int) + (N : Int)) := hf 11 (by omega)
    have f12 : u 12 = .slice (some ⟨B.gp, B.op + a, none⟩) N (B.p.c - a) := hf 12 (by omega)
    obtain ⟨gd, f13, hgd, hgl⟩ := hf 13 (by omega)
    refine UptoW.rest 1 14 (by rfl) (by kernel_rfl) ?_
    simp only [List.take, List.drop, putOps, Act.put, List.setIfInBounds_toArray, List.set_cons_zero, List.set_cons_succ, Nat.reduceAdd, f0, f1, f2, f3, f4, f5, f6, f7, f8, f9, f10, f11, f12, f13]
    clear f0 f1 f2 f3 f4 f5 f6 f7 f8 f9 f10 f11 f12 f13 hf hp
    have HBZ := hide hb
    have HG := hide hgd
    have tb := (hb.block W.heap.size (by rw [HVS.out]; omega)).trans HVB.out
    have y0 : wz.cell? ⟨W.heap.size, 0, none⟩ = some (.slice none 0 0) := by simp only [World.cell?, tb]; rfl
    have y1 : wz.cell? ⟨W.heap.size, 1, none⟩ = some (.slice none 0 0) := by simp only [World.cell?, tb]; rfl
    have yf : ∀ q, wz.frozen? ⟨W.heap.size, q, none⟩ = false := fun q => by simp [World.frozen?, tb]
    have zz := (Array.getElem?_eq_some_iff.1 tb).1
    have HTB := hide tb
    clear hb hgd tb
    go_wp2_with fail
    have hbz : Below W.heap.size W wz := Below.on HBV.out HBZ.out
    have hT : ((wz.setCell ⟨W.heap.size, 0, none⟩ (.slice (some ⟨gd, 0, none⟩) 1 1)).setCell ⟨W.heap.size, 1, none⟩ (.slice (some ⟨B.gp, B.op + a, none⟩) N (B.p.c - a))).heap[W.heap.size]? = some (.cells #[.slice (some ⟨gd, 0, none⟩) 1 1, .slice (some ⟨B.gp, B.op + a, none⟩) N (B.p.c - a)] 101 (0, 0)) := by simp [World.setCell, Array.getElem?_modify, HTB.out]
    have u0 : ((wz.setCell ⟨W.heap.size, 0, none⟩ (.slice (some ⟨gd, 0, none⟩) 1 1)).setCell ⟨W.heap.size, 1, none⟩ (.slice (some ⟨B.gp, B.op + a, none⟩) N (B.p.c - a))).cell? ⟨W.heap.size, 0, none⟩ = some (.slice (some ⟨gd, 0, none⟩) 1 1) := by simp only [World.cell?, hT]; rfl
    have u1 : ((wz.setCell ⟨W.heap.size, 0, none⟩ (.slice (some ⟨gd, 0, none⟩) 1 1)).setCell ⟨W.heap.size, 1, none⟩ (.slice (some ⟨B.gp, B.op + a, none⟩) N (B.p.c - a))).cell? ⟨W.heap.size, 1, none⟩ = some (.slice (some ⟨B.gp, B.op + a, none⟩) N (B.p.c - a)) := by simp only [World.cell?, hT]; rfl
    refine bodyPost_ret (v := .agg #[.slice (some ⟨gd, 0, none⟩) 1 1, .slice (some ⟨B.gp, B.op + a, none⟩) N (B.p.c - a)]) (by simp [results, Tryz.results53, go_sem, u0, u1]) rfl ⟨⟨gd, rfl, ?_, by omega⟩, ?_⟩
    · exact ints_set (ints_set HG.out (by simp; omega) _) (by simp; omega) _
    · exact (hbz.setCell (p := ⟨W.heap.size, 0, none⟩) (Nat.le_refl _) _).setCell (p := ⟨W.heap.size, 1, none⟩) (Nat.le_refl _) _
set_option maxRecDepth 20000 in
set_option maxHeartbeats 4000000 in
theorem doo_any (k xv : Int) (vd va vl vh vs : Value) (A : Option Addr) (m cap n : Nat) (f : List Int) (W : World) (hD : ∀ V, Below W.heap.size W V → Calls Tryz.prog 55 #[.agg #[.int .i64 k, vd, va, vl, vh, vs, .int .i64 xv], .slice A m cap] V fun e w' => C.DoO V n f e w') :
    Calls Tryz.prog 54 #[.agg #[.int .i64 k, vd, va, vl, vh, vs, .int .i64 xv], .slice A m cap] W fun e w' => (∃ g G : Nat, e = .returned (.agg #[.slice (some ⟨g, 0, none⟩) 1 1, .slice (some ⟨G, 0, none⟩) n n]) ∧ Ints w' (some ⟨g, 0, none⟩) 1 [(n : Int)] ∧ Ints w' (some ⟨G, 0, none⟩) n f ∧ W.heap.size ≤ G ∧ W.heap.size ≤ g) ∧ Below W.heap.size W w' := by
  obtain ⟨V, hV⟩ : ∃ V, V = (W.alloc (.cells #[.int .i64 k, vd, va, vl, vh, vs, .int .i64 xv] 104)).alloc (.cells #[.slice none 0 0, .slice none 0 0] 101) := ⟨_, rfl⟩
  have hbV : Below W.heap.size W V := by rw [hV]; exact bl_alloc (bl_new _)
  have hop : OpAt V W.heap.size k vd va vl vh vs xv := by rw [hV]; exact (OpAt.new W k vd va vl vh vs xv).alloc _
  have har : V.heap[W.heap.size + 1]? = some (.cells #[.slice none 0 0, .slice none 0 0] 101 (0, 0)) := by
    have := World.alloc_heap_new (W.alloc (.cells #[.int .i64 k, vd, va, vl, vh, vs, .int .i64 xv] 104)) (.cells #[.slice none 0 0, .slice none 0 0] 101)
    rw [show (W.alloc (.cells #[.int .i64 k, vd, va, vl, vh, vs, .int .i64 xv] 104)).heap.size = W.heap.size + 1 by simp] at this
    rw [hV]; exact this
  have hVs : V.heap.size = W.heap.size + 2 := by rw [hV]; simp
  obtain ⟨o0, o1, o2, o3, o4, o5, o6⟩ := hop.cells
  have hoz := lt_of_cell o0
  have HV := hide hV
  have HBV := hide hbV
  have HAR := hide har
  have HVS := hide hVs
  have HD := hide (hD V hbV)
  clear hV hbV hop har hVs hD
  go_enter Tryz.func54, Tryz.ntmps54
  go_upto_region 1 with fail
  rw [← HV.out]
  go_upto_region 2 with (go_at_call 55; refine HD.out.mono ?_; rintro e w1 ⟨⟨g, G, rfl, hi1, hi2, hg1, hg2⟩, hb⟩; have HI1 := hide hi1; have HI2 := hide hi2; have HB1 := hide hb; clear hi1 hi2 hb o0 o1 o2 o3 o4 o5 o6)
  have hz1 := HB1.out.size
  have tb := (HB1.out.block (W.heap.size + 1) (by rw [HVS.out]; omega)).trans HAR.out
  obtain ⟨U, hU⟩ : ∃ U, U = w1.alloc (.cells #[.slice (some ⟨g, 0, none⟩) 1 1, .slice (some ⟨G, 0, none⟩) n n] 101) := ⟨_, rfl⟩
  have hbU : Below w1.heap.size w1 U := by rw [hU]; exact bl_new _
  have hUb : U.heap[w1.heap.size]? = some (.cells #[.slice (some ⟨g, 0, none⟩) 1 1, .slice (some ⟨G, 0, none⟩) n n] 101 (0, 0)) := by rw [hU]; exact World.alloc_heap_new _ _
  have tz := (Array.getElem?_eq_some_iff.1 tb).1
  have tU := (hbU.block (W.heap.size + 1) tz).trans tb
  have y0 : U.cell? ⟨W.heap.size + 1, 0, none⟩ = some (.slice none 0 0) := by simp only [World.cell?, tU]; rfl
  have y1 : U.cell? ⟨W.heap.size + 1, 1, none⟩ = some (.slice none 0 0) := by simp only [World.cell?, tU]; rfl
  have yf : ∀ q, U.frozen? ⟨W.heap.size + 1, q, none⟩ = false := fun q => by simp [World.frozen?, tU]
  have zz := (Array.getElem?_eq_some_iff.1 tU).1
  have x0 : U.cell? ⟨w1.heap.size, 0, none⟩ = some (.slice (some ⟨g, 0, none⟩) 1 1) := by simp only [World.cell?, hUb]; rfl
  have x1 : U.cell? ⟨w1.heap.size, 1, none⟩ = some (.slice (some ⟨G, 0, none⟩) n n) := by simp only [World.cell?, hUb]; rfl
  have xz := (Array.getElem?_eq_some_iff.1 hUb).1
  have HU := hide hU
  have HBU := hide hbU
  have HTU := hide tU
  clear hU hbU hUb tU tb
  first | rw [← HU.out] | skip
  go_wp2_with fail
  have hbz : Below W.heap.size W U := Below.on (Below.on HBV.out HB1.out) HBU.out
  have hT : ((U.setCell ⟨W.heap.size + 1, 0, none⟩ (.slice (some ⟨g, 0, none⟩) 1 1)).setCell ⟨W.heap.size + 1, 1, none⟩ (.slice (some ⟨G, 0, none⟩) n n)).heap[W.heap.size + 1]? = some (.cells #[.slice (some ⟨g, 0, none⟩) 1 1, .slice (some ⟨G, 0, none⟩) n n] 101 (0, 0)) := by simp [World.setCell, Array.getElem?_modify, HTU.out]
  have u0 : ((U.setCell ⟨W.heap.size + 1, 0, none⟩ (.slice (some ⟨g, 0, none⟩) 1 1)).setCell ⟨W.heap.size + 1, 1, none⟩ (.slice (some ⟨G, 0, none⟩) n n)).cell? ⟨W.heap.size + 1, 0, none⟩ = some (.slice (some ⟨g, 0, none⟩) 1 1) := by simp only [World.cell?, hT]; rfl
  have u1 : ((U.setCell ⟨W.heap.size + 1, 0, none⟩ (.slice (some ⟨g, 0, none⟩) 1 1)).setCell ⟨W.heap.size + 1, 1, none⟩ (.slice (some ⟨G, 0, none⟩) n n)).cell? ⟨W.heap.size + 1, 1, none⟩ = some (.slice (some ⟨G, 0, none⟩) n n) := by simp only [World.cell?, hT]; rfl
  have hvs := HVS.out
  refine bodyPost_ret (v := .agg #[.slice (some ⟨g, 0, none⟩) 1 1, .slice (some ⟨G, 0, none⟩) n n]) (by simp [results, Tryz.results54, go_sem, u0, u1]) rfl ⟨⟨g, G, rfl, ?_, ?_, by omega, by omega⟩, ?_⟩
  · exact ints_set (ints_set (HI1.out.below HBU.out) (by simp; omega) _) (by simp; omega) _
  · exact ints_set (ints_set (HI2.out.below HBU.out) (by simp; omega) _) (by simp; omega) _
  · exact (hbz.setCell (p := ⟨W.heap.size + 1, 0, none⟩) (by simp) _).setCell (p := ⟨W.heap.size + 1, 1, none⟩) (by simp) _
end Go.Proofs.YtoabffmiedbkkaaGreat.V
