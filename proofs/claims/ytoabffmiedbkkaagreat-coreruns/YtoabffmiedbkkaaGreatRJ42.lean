/-
  The machine's maker: what an instruction makes. The machine's maker: what an instruction makes (Pick, More). The machine's maker: what an instruction makes (Mac).
-/
import Derived.Test.YtoabffmiedbkkaaGreatRJ40
import Derived.Test.YtoabffmiedbkkaaGreatRJ41
import Derived.Test.YtoabffmiedbkkaaGreatRJ9
namespace Go.Proofs.YtoabffmiedbkkaaGreat.V
set_option maxRecDepth 20000
open Go Go.RowKit
set_option linter.unusedVariables false
set_option linter.unusedSimpArgs false

theorem fd_data (a b : Option Addr) (m n c d : Nat) : ∀ w : World, (Instr.field 101 (.agg #[.slice a m c, .slice b n d]) 1).run Tryz.prog w = .ok (.slice b n d) w := fun _ => by kernel_rfl
/-- What is made. -/
def MdAns (W : World) (n : Nat) (f : List Int) (e : Ending) (w' : World) : Prop := ∃ G, e = .returned (.slice (some ⟨G, 0, none⟩) n n) ∧ Ints w' (some ⟨G, 0, none⟩) n f ∧ W.heap.size ≤ G ∧ Below W.heap.size W w'
/-- An array whose numbers are known. -/
def fAr (n : Nat) (xs : List Int) : Fact := ⟨fun u W => ∃ g X xc, u = .agg #[.slice (some ⟨g, 0, none⟩) 1 1, .slice X n xc] ∧ Ints W (some ⟨g, 0, none⟩) 1 [(n : Int)] ∧ Ints W X n xs, false⟩
theorem fAr_good (n : Nat) (xs : List Int) : (fAr n xs).Good := ⟨fun _ _ _ ⟨g, X, xc, h1, h2, h3⟩ hb => ⟨g, X, xc, h1, h2.below hb, h3.below hb⟩, fun h => by cases h⟩
theorem ArgsAt_below {W V : World} {A : Option Addr} {m n : Nat} {v : Nat → C.AV} (h : C.ArgsAt W A m n v) (hb : Below W.heap.size W V) : C.ArgsAt V A m n v := by
  rcases h with h | ⟨b, off, e, h⟩
  · exact .inl h
  · refine .inr ⟨b, off, e, fun j hj => ?_⟩
    obtain ⟨h1, h2, h3⟩ := h j hj
    exact ⟨(hb.cell (p := ⟨b, off + j * 2, none⟩) (lt_of_cell h1)).trans h1, (hb.cell (p := ⟨b, off + j * 2 + 1, none⟩) (lt_of_cell h2)).trans h2, h3.below hb⟩
/-- A row of arrays. -/
def fRw (k n : Nat) (L : Nat → List Int) : Fact := ⟨fun u W => ∃ R v, u = .slice (some ⟨R, 0, none⟩) k k ∧ C.ArgsAt W (some ⟨R, 0, none⟩) k n v ∧ ∀ j, j < k → Ints W (v j).xa n (L j), false⟩
theorem fRw_good (k n : Nat) (L : Nat → List Int) : (fRw k n L).Good := ⟨fun _ _ _ ⟨R, v, h1, h2, h3⟩ hb => ⟨R, v, h1, ArgsAt_below h2 hb, fun j hj => (h3 j hj).below hb⟩, fun h => by cases h⟩
/-- What was made. -/
def fRs (N n : Nat) (f : List Int) : Fact := ⟨fun u W => ∃ g G, u = .agg #[.slice (some ⟨g, 0, none⟩) 1 1, .slice (some ⟨G, 0, none⟩) n n] ∧ Ints W (some ⟨g, 0, none⟩) 1 [(n : Int)] ∧ Ints W (some ⟨G, 0, none⟩) n f ∧ N ≤ G, false⟩
theorem fRs_good (N n : Nat) (f : List Int) : (fRs N n f).Good := ⟨fun _ _ _ ⟨g, G, h1, h2, h3, h4⟩ hb => ⟨g, G, h1, h2.below hb, h3.below hb, h4⟩, fun h => by cases h⟩
def fDt (N n : Nat) (f : List Int) : Fact := ⟨fun u W => ∃ G, u = .slice (some ⟨G, 0, none⟩) n n ∧ Ints W (some ⟨G, 0, none⟩) n f ∧ N ≤ G, false⟩
theorem fDt_good (N n : Nat) (f : List Int) : (fDt N n f).Good := ⟨fun _ _ _ ⟨G, h1, h2, h3⟩ hb => ⟨G, h1, h2.below hb, h3⟩, fun h => by cases h⟩
def v2 (a b : C.AV) (j : Nat) : C.AV := if j = 0 then a else b
def v3 (a b c : C.AV) (j : Nat) : C.AV := if j = 0 then a else if j = 1 then b else c
def l2 (a b : List Int) (j : Nat) : List Int := if j = 0 then a else b
def l3 (a b c : List Int) (j : Nat) : List Int := if j = 0 then a else if j = 1 then b else c
theorem args2 (W : World) (n : Nat) (a b : C.AV) (ha : Ints W a.da 1 [(n : Int)]) (hb : Ints W b.da 1 [(n : Int)]) (t : TypeId) : C.ArgsAt (W.alloc (.cells #[.slice a.da 1 a.dc, .slice a.xa n a.xc, .slice b.da 1 b.dc, .slice b.xa n b.xc] t)) (some ⟨W.heap.size, 0, none⟩) 2 n (v2 a b) := by
  refine .inr ⟨W.heap.size, 0, rfl, fun j hj => ?_⟩
  have hc := World.alloc_heap_new W (.cells #[.slice a.da 1 a.dc, .slice a.xa n a.xc, .slice b.da 1 b.dc, .slice b.xa n b.xc] t)
  have : j = 0 ∨ j = 1 := by omega
  rcases this with rfl | rfl
  · exact ⟨by simp only [World.cell?, hc]; rfl, by simp only [World.cell?, hc]; rfl, ha.below (bl_new _)⟩
  · exact ⟨by simp only [World.cell?, hc]; rfl, by simp only [World.cell?, hc]; rfl, hb.below (bl_new _)⟩
theorem args3 (W : World) (n : Nat) (a b c : C.AV) (ha : Ints W a.da 1 [(n : Int)]) (hb : Ints W b.da 1 [(n : Int)]) (hc : Ints W c.da 1 [(n : Int)]) (t : TypeId) : C.ArgsAt (W.alloc (.cells #[.slice a.da 1 a.dc, .slice a.xa n a.xc, .slice b.da 1 b.dc, .slice b.xa n b.xc, .slice c.da 1 c.dc, .slice c.xa n c.xc] t)) (some ⟨W.heap.size, 0, none⟩) 3 n (v3 a b c) := by
  refine .inr ⟨W.heap.size, 0, rfl, fun j hj => ?_⟩
  have hcc := World.alloc_heap_new W (.cells #[.slice a.da 1 a.dc, .slice a.xa n a.xc, .slice b.da 1 b.dc, .slice b.xa n b.xc, .slice c.da 1 c.dc, .slice c.xa n c.xc] t)
  have : j = 0 ∨ j = 1 ∨ j = 2 := by omega
  rcases this with rfl | rfl | rfl
  · exact ⟨by simp only [World.cell?, hcc]; rfl, by simp only [World.cell?, hcc]; rfl, ha.below (bl_new _)⟩
  · exact ⟨by simp only [World.cell?, hcc]; rfl, by simp only [World.cell?, hcc]; rfl, hb.below (bl_new _)⟩
  · exact ⟨by simp only [World.cell?, hcc]; rfl, by simp only [World.cell?, hcc]; rfl, hc.below (bl_new _)⟩
theorem ints_l2 {W V : World} {n : Nat} {a b : C.AV} {x y : List Int} (hx : Ints W a.xa n x) (hy : Ints W b.xa n y) (hb : Below W.heap.size W V) : ∀ j, j < 2 → Ints V (v2 a b j).xa n (l2 x y j) := fun j hj => by
  have : j = 0 ∨ j = 1 := by omega
  rcases this with rfl | rfl
  · exact hx.below hb
  · exact hy.below hb
theorem ints_l3 {W V : World} {n : Nat} {a b c : C.AV} {x y z : List Int} (hx : Ints W a.xa n x) (hy : Ints W b.xa n y) (hz : Ints W c.xa n z) (hb : Below W.heap.size W V) : ∀ j, j < 3 → Ints V (v3 a b c j).xa n (l3 x y z j) := fun j hj => by
  have : j = 0 ∨ j = 1 ∨ j = 2 := by omega
  rcases this with rfl | rfl | rfl
  · exact hx.below hb
  · exact hy.below hb
  · exact hz.below hb
set_option maxRecDepth 20000 in
theorem kind_any (d : Int) (hd : 6 ≤ d ∧ d ≤ 10) (W : World) : Calls Tryz.prog 57 #[.int .i64 d] W fun e w' => e = .returned (.int .i64 (d - 3)) ∧ w' = W := by
  have : d = 6 ∨ d = 7 ∨ d = 8 ∨ d = 9 ∨ d = 10 := by omega
  rcases this with rfl | rfl | rfl | rfl | rfl
  all_goals go_enter Tryz.func57, Tryz.ntmps57
  all_goals go_wp2_with fail
  all_goals go_ret
  all_goals exact ⟨rfl, rfl⟩
set_option maxRecDepth 20000 in
set_option maxHeartbeats 8000000 in
theorem made_5 (g : Nat) (c : CV) (mv mk : List In) (B : MbK) (s : Mac) (az bz cz : Int) (N : Nat) (v : Int) (W : World) (h : MchAt W g c mv mk B s) (hN0 : 0 < N) (hn4 : N ≤ 4096) (hp : B.p.n ≤ 4096) (hbd : ∀ q, bd64 (s.pad q)) (hv : bd64 v) :
    Calls Tryz.prog 52 #[.pointer (some ⟨g, 0, none⟩), .agg #[.int .i64 5, .int .i64 az, .int .i64 bz, .int .i64 cz, .int .i64 (N : Int), .int .i64 v]] W fun e w' => MdAns W N (List.replicate N v) e w' := by
  obtain ⟨V, hV⟩ : ∃ V, V = ((W.alloc (.cells #[.pointer (some ⟨g, 0, none⟩)] 39)).alloc (.cells #[.int .i64 5, .int .i64 az, .int .i64 bz, .int .i64 cz, .int .i64 (N : Int), .int .i64 v] 50)).alloc (.cells #[.int .i64 3, .slice none 0 0, .slice none 0 0, .slice none 0 0, .slice none 0 0, .slice none 0 0, .int .i64 0] 104) := ⟨_, rfl⟩
  obtain ⟨mb, hmb⟩ : ∃ b, b = W.heap.size := ⟨_, rfl⟩
  obtain ⟨ib, hib⟩ : ∃ b, b = W.heap.size + 1 := ⟨_, rfl⟩
  obtain ⟨ob, hob⟩ : ∃ b, b = W.heap.size + 1 + 1 := ⟨_, rfl⟩
  have hbV : Below W.heap.size W V := by rw [hV]; exact bl_alloc (bl_alloc (bl_new _))
  have e1 : (W.alloc (.cells #[.pointer (some ⟨g, 0, none⟩)] 39)).heap.size = W.heap.size + 1 := by simp
  have e2 : ((W.alloc (.cells #[.pointer (some ⟨g, 0, none⟩)] 39)).alloc (.cells #[.int .i64 5, .int .i64 az, .int .i64 bz, .int .i64 cz, .int .i64 (N : Int), .int .i64 v] 50)).heap.size = W.heap.size + 1 + 1 := by simp
  have hMB : MdB V g ib mb ⟨5, az, bz, cz, (N : Int), v⟩ := by
    rw [hV, hib, hmb]
    refine ⟨?_, ?_⟩
    · rw [Below.heap_alloc _ _ _ (by rw [e2]; omega), ← e1]
      exact World.alloc_heap_new _ _
    · rw [Below.heap_alloc _ _ _ (by rw [e2]; omega), Below.heap_alloc _ _ _ (by rw [e1]; omega)]
      exact World.alloc_heap_new _ _
  have hOP : OpAt V ob 3 (.slice none 0 0) (.slice none 0 0) (.slice none 0 0) (.slice none 0 0) (.slice none 0 0) 0 := by
    rw [hV, hob, ← e2]
    exact OpAt.new _ 3 _ _ _ _ _ 0
  have h2 := h.below hbV
  have i0 : V.cell? ⟨ib, 0, none⟩ = some (.int .i64 5) := by simp only [World.cell?, hMB.i]; rfl
  have i1 : V.cell? ⟨ib, 1, none⟩ = some (.int .i64 az) := by simp only [World.cell?, hMB.i]; rfl
  have i2 : V.cell? ⟨ib, 2, none⟩ = some (.int .i64 bz) := by simp only [World.cell?, hMB.i]; rfl
  have i3 : V.cell? ⟨ib, 3, none⟩ = some (.int .i64 cz) := by simp only [World.cell?, hMB.i]; rfl
  have i4 : V.cell? ⟨ib, 4, none⟩ = some (.int .i64 (N : Int)) := by simp only [World.cell?, hMB.i]; rfl
  have i5 : V.cell? ⟨ib, 5, none⟩ = some (.int .i64 v) := by simp only [World.cell?, hMB.i]; rfl
  have mm : V.cell? ⟨mb, 0, none⟩ = some (.pointer (some ⟨g, 0, none⟩)) := by simp only [World.cell?, hMB.m]; rfl
  have zi := lt_of_cell i0
  obtain ⟨o0, o1, o2, o3, o4, o5, o6⟩ := hOP.cells
  have HV := hide hV
  have HMBE := hide hmb
  have HIBE := hide hib
  have HOBE := hide hob
  have HBV := hide hbV
  have HMB := hide hMB
  have HOP := hide hOP
  have H2 := hide h2
  clear h h2 hV hmb hib hob hbV hMB hOP e1 e2
  go_enter Tryz.func52, Tryz.ntmps52
  go_upto_region 4 with fail
  rw [← HV.out, ← HOBE.out, ← HIBE.out, ← HMBE.out]
  go_upto_region 6 with fail
  go_wp2_with (go_at_call 54; refine (doo_any 2 v (.slice (some ⟨V.heap.size, 0, none⟩) 1 1) _ _ _ _ none 0 0 N (List.replicate N v) _ (fun V2 hV2 => C.do_fill v (some ⟨V.heap.size, 0, none⟩) 1 _ _ _ _ none 0 N V2 hN0 hn4 hv ((ints_one V N hn4 _).below hV2))).mono ?_; rintro e w2 ⟨⟨gg, GG, rfl, hi1, hi2, hg1, _⟩, hb2⟩; have HI2 := hide hi2; have HB2 := hide hb2; have hfd := fd_data (some ⟨gg, 0, none⟩) (some ⟨GG, 0, none⟩) 1 N 1 N; clear hi1 hi2 hb2)
  go_ret
  have hbn := HBV.out.size
  refine ⟨GG, rfl, HI2.out, by simp at hg1; omega, Below.on (Below.on HBV.out (bl_new _)) HB2.out⟩
end Go.Proofs.YtoabffmiedbkkaaGreat.V
namespace Go.Proofs.YtoabffmiedbkkaaGreat.V
set_option maxRecDepth 20000
open Go Go.RowKit
set_option linter.unusedVariables false
set_option linter.unusedSimpArgs false

set_option maxRecDepth 20000 in
set_option maxHeartbeats 8000000 in
theorem made_11 (g : Nat) (c : CV) (mv mk : List In) (B : MbK) (s : Mac) (a b c9 : Nat) (N : Nat) (v : Int) (W : World) (h : MchAt W g c mv mk B s) (hN0 : 0 < N) (hn4 : N ≤ 4096) (hp : B.p.n ≤ 4096) (hbd : ∀ q, bd64 (s.pad q)) (ha : a + N ≤ B.p.n) (hb9 : b + N ≤ B.p.n) (hc9 : c9 + N ≤ B.p.n) :
    Calls Tryz.prog 52 #[.pointer (some ⟨g, 0, none⟩), .agg #[.int .i64 11, .int .i64 (a : Int), .int .i64 (b : Int), .int .i64 (c9 : Int), .int .i64 (N : Int), .int .i64 v]] W fun e w' => MdAns W N (C.pickL (padL s.pad a N) (padL s.pad b N) (padL s.pad c9 N) N) e w' := by
  obtain ⟨V, hV⟩ : ∃ V, V = ((W.alloc (.cells #[.pointer (some ⟨g, 0, none⟩)] 39)).alloc (.cells #[.int .i64 11, .int .i64 (a : Int), .int .i64 (b : Int), .int .i64 (c9 : Int), .int .i64 (N : Int), .int .i64 v] 50)).alloc (.cells #[.int .i64 3, .slice none 0 0, .slice none 0 0, .slice none 0 0, .slice none 0 0, .slice none 0 0, .int .i64 0] 104) := ⟨_, rfl⟩
  obtain ⟨mb, hmb⟩ : ∃ b, b = W.heap.size := ⟨_, rfl⟩
  obtain ⟨ib, hib⟩ : ∃ b, b = W.heap.size + 1 := ⟨_, rfl⟩
  obtain ⟨ob, hob⟩ : ∃ b, b = W.heap.size + 1 + 1 := ⟨_, rfl⟩
  have hbV : Below W.heap.size W V := by rw [hV]; exact bl_alloc (bl_alloc (bl_new _))
  have e1 : (W.alloc (.cells #[.pointer (some ⟨g, 0, none⟩)] 39)).heap.size = W.heap.size + 1 := by simp
  have e2 : ((W.alloc (.cells #[.pointer (some ⟨g, 0, none⟩)] 39)).alloc (.cells #[.int .i64 11, .int .i64 (a : Int), .int .i64 (b : Int), .int .i64 (c9 : Int), .int .i64 (N : Int), .int .i64 v] 50)).heap.size = W.heap.size + 1 + 1 := by simp
  have hMB : MdB V g ib mb ⟨11, (a : Int), (b : Int), (c9 : Int), (N : Int), v⟩ := by
    rw [hV, hib, hmb]
    refine ⟨?_, ?_⟩
    · rw [Below.heap_alloc _ _ _ (by rw [e2]; omega), ← e1]
      exact World.alloc_heap_new _ _
    · rw [Below.heap_alloc _ _ _ (by rw [e2]; omega), Below.heap_alloc _ _ _ (by rw [e1]; omega)]
      exact World.alloc_heap_new _ _
  have hOP : OpAt V ob 3 (.slice none 0 0) (.slice none 0 0) (.slice none 0 0) (.slice none 0 0) (.slice none 0 0) 0 := by
    rw [hV, hob, ← e2]
    exact OpAt.new _ 3 _ _ _ _ _ 0
  have h2 := h.below hbV
  have i0 : V.cell? ⟨ib, 0, none⟩ = some (.int .i64 11) := by simp only [World.cell?, hMB.i]; rfl
  have i1 : V.cell? ⟨ib, 1, none⟩ = some (.int .i64 (a : Int)) := by simp only [World.cell?, hMB.i]; rfl
  have i2 : V.cell? ⟨ib, 2, none⟩ = some (.int .i64 (b : Int)) := by simp only [World.cell?, hMB.i]; rfl
  have i3 : V.cell? ⟨ib, 3, none⟩ = some (.int .i64 (c9 : Int)) := by simp only [World.cell?, hMB.i]; rfl
  have i4 : V.cell? ⟨ib, 4, none⟩ = some (.int .i64 (N : Int)) := by simp only [World.cell?, hMB.i]; rfl
  have i5 : V.cell? ⟨ib, 5, none⟩ = some (.int .i64 v) := by simp only [World.cell?, hMB.i]; rfl
  have mm : V.cell? ⟨mb, 0, none⟩ = some (.pointer (some ⟨g, 0, none⟩)) := by simp only [World.cell?, hMB.m]; rfl
  have zi := lt_of_cell i0
  obtain ⟨o0, o1, o2, o3, o4, o5, o6⟩ := hOP.cells
  have HV := hide hV
  have HMBE := hide hmb
  have HIBE := hide hib
  have HOBE := hide hob
  have HBV := hide hbV
  have HMB := hide hMB
  have HOP := hide hOP
  have H2 := hide h2
  clear h h2 hV hmb hib hob hbV hMB hOP e1 e2
  go_enter Tryz.func52, Tryz.ntmps52
  go_upto_region 4 with fail
  rw [← HV.out, ← HOBE.out, ← HIBE.out, ← HMBE.out]
  go_upto_region 8 with fail
  refine region_made 17 19 [fIs (.func (.func 54) #[] #[]), fIs (.agg #[.int .i64 8, .slice none 0 0, .slice none 0 0, .slice none 0 0, .slice none 0 0, .slice none 0 0, .int .i64 0]), fIs (.func (.func 53) #[] #[.pointer (some ⟨ib, 0, none⟩), .pointer (some ⟨mb, 0, none⟩)]), fIs (.pointer (some ⟨ib, 1, none⟩)), fIs (.int .i64 (a : Int)), fAr N (padL s.pad a N), fIs (.func (.func 53) #[] #[.pointer (some ⟨ib, 0, none⟩), .pointer (some ⟨mb, 0, none⟩)]), fIs (.pointer (some ⟨ib, 2, none⟩)), fIs (.int .i64 (b : Int)), fAr N (padL s.pad b N), fIs (.func (.func 53) #[] #[.pointer (some ⟨ib, 0, none⟩), .pointer (some ⟨mb, 0, none⟩)]), fIs (.pointer (some ⟨ib, 3, none⟩)), fIs (.int .i64 (c9 : Int)), fAr N (padL s.pad c9 N), fRw 3 N (l3 (padL s.pad a N) (padL s.pad b N) (padL s.pad c9 N)), fRs W.heap.size N (C.pickL (padL s.pad a N) (padL s.pad b N) (padL s.pad c9 N) N), fDt W.heap.size N (C.pickL (padL s.pad a N) (padL s.pad b N) (padL s.pad c9 N) N)] (by kernel_rfl) (by kernel_rfl) (by kernel_rfl) (fun _ ⟨_, _⟩ ⟨_, _⟩ _ e h => by cases e; exact h) ⟨fIs_good _, fIs_good _, fIs_good _, fIs_good _, fIs_good _, fAr_good _ _, fIs_good _, fIs_good _, fIs_good _, fAr_good _ _, fIs_good _, fIs_good _, fIs_good _, fAr_good _ _, fRw_good _ _ _, fRs_good _ _ _, fDt_good _ _ _, trivial⟩ ?mk ?rest
  case mk =>
    refine ⟨fun u wz hb hd => ?_, fun u wz hb hd => ?_, fun u wz hb hd => ?_, fun u wz hb hd => ?_, fun u wz hb hd => ?_, fun u wz hb hd => ?_, fun u wz hb hd => ?_, fun u wz hb hd => ?_, fun u wz hb hd => ?_, fun u wz hb hd => ?_, fun u wz hb hd => ?_, fun u wz hb hd => ?_, fun u wz hb hd => ?_, fun u wz hb hd => ?_, fun u wz hb hd => ?_, fun u wz hb hd => ?_, fun u wz hb hd => ?_, trivial⟩
    all_goals simp only [Act.put, List.setIfInBounds_toArray, List.set_cons_zero, List.set_cons_succ]
    · go_simp
      exact ⟨rfl, Below.refl _ _, fun h => by cases h⟩
    · go_simp
      exact ⟨rfl, Below.refl _ _, fun h => by cases h⟩
    · go_simp
      exact ⟨rfl, Below.refl _ _, fun h => by cases h⟩
    · go_simp
      exact ⟨rfl, Below.refl _ _, fun h => by cases h⟩
    · have e3 : u 3 = .pointer (some ⟨ib, 1, none⟩) := hd 3 (by omega) (by kernel_rfl)
      rw [e3]
      have i1' := (hb.cell (p := ⟨ib, 1, none⟩) (lt_of_cell i1)).trans i1
      go_simp
      exact ⟨rfl, Below.refl _ _, fun h => by cases h⟩
    · have e2 : u 2 = .func (.func 53) #[] #[.pointer (some ⟨ib, 0, none⟩), .pointer (some ⟨mb, 0, none⟩)] := hd 2 (by omega) (by kernel_rfl)
      have e4 : u 4 = .int .i64 (a : Int) := hd 4 (by omega) (by kernel_rfl)
      rw [e2, e4]
      go_simp
      refine (from_any g ib mb c mv mk B s _ a N wz (H2.out.below hb) (HMB.out.below hb) rfl hN0 hn4 ha hp).mono ?_
      rintro e w2 ⟨⟨gd, rfl, hi, _⟩, hb2⟩
      exact ⟨⟨gd, _, _, rfl, hi, ((H2.out.below hb).below hb2).pad.ints hbd ha (by omega)⟩, hb2, fun h => by cases h⟩
    · go_simp
      exact ⟨rfl, Below.refl _ _, fun h => by cases h⟩
    · go_simp
      exact ⟨rfl, Below.refl _ _, fun h => by cases h⟩
    · have e7 : u 7 = .pointer (some ⟨ib, 2, none⟩) := hd 7 (by omega) (by kernel_rfl)
      rw [e7]
      have i2' := (hb.cell (p := ⟨ib, 2, none⟩) (lt_of_cell i2)).trans i2
      go_simp
      exact ⟨rfl, Below.refl _ _, fun h => by cases h⟩
    · have e6 : u 6 = .func (.func 53) #[] #[.pointer (some ⟨ib, 0, none⟩), .pointer (some ⟨mb, 0, none⟩)] := hd 6 (by omega) (by kernel_rfl)
      have e8 : u 8 = .int .i64 (b : Int) := hd 8 (by omega) (by kernel_rfl)
      rw [e6, e8]
      go_simp
      refine (from_any g ib mb c mv mk B s _ b N wz (H2.out.below hb) (HMB.out.below hb) rfl hN0 hn4 hb9 hp).mono ?_
      rintro e w2 ⟨⟨gd, rfl, hi, _⟩, hb2⟩
      exact ⟨⟨gd, _, _, rfl, hi, ((H2.out.below hb).below hb2).pad.ints hbd hb9 (by omega)⟩, hb2, fun h => by cases h⟩
    · go_simp
      exact ⟨rfl, Below.refl _ _, fun h => by cases h⟩
    · go_simp
      exact ⟨rfl, Below.refl _ _, fun h => by cases h⟩
    · have e11 : u 11 = .pointer (some ⟨ib, 3, none⟩) := hd 11 (by omega) (by kernel_rfl)
      rw [e11]
      have i3' := (hb.cell (p := ⟨ib, 3, none⟩) (lt_of_cell i3)).trans i3
      go_simp
      exact ⟨rfl, Below.refl _ _, fun h => by cases h⟩
    · have e10 : u 10 = .func (.func 53) #[] #[.pointer (some ⟨ib, 0, none⟩), .pointer (some ⟨mb, 0, none⟩)] := hd 10 (by omega) (by kernel_rfl)
      have e12 : u 12 = .int .i64 (c9 : Int) := hd 12 (by omega) (by kernel_rfl)
      rw [e10, e12]
      go_simp
      refine (from_any g ib mb c mv mk B s _ c9 N wz (H2.out.below hb) (HMB.out.below hb) rfl hN0 hn4 hc9 hp).mono ?_
      rintro e w2 ⟨⟨gd, rfl, hi, _⟩, hb2⟩
      exact ⟨⟨gd, _, _, rfl, hi, ((H2.out.below hb).below hb2).pad.ints hbd hc9 (by omega)⟩, hb2, fun h => by cases h⟩
    · obtain ⟨g5, X5, xc5, e5, hd5, hx5⟩ := hd 5 (by omega) (by kernel_rfl)
      obtain ⟨g9, X9, xc9, e9, hd9, hx9⟩ := hd 9 (by omega) (by kernel_rfl)
      obtain ⟨g13, X13, xc13, e13, hd13, hx13⟩ := hd 13 (by omega) (by kernel_rfl)
      rw [e5, e9, e13]
      go_simp
      exact ⟨⟨_, v3 ⟨some ⟨g5, 0, none⟩, 1, X5, xc5⟩ ⟨some ⟨g9, 0, none⟩, 1, X9, xc9⟩ ⟨some ⟨g13, 0, none⟩, 1, X13, xc13⟩, rfl, args3 wz N ⟨some ⟨g5, 0, none⟩, 1, X5, xc5⟩ ⟨some ⟨g9, 0, none⟩, 1, X9, xc9⟩ ⟨some ⟨g13, 0, none⟩, 1, X13, xc13⟩ hd5 hd9 hd13 _, ints_l3 (hx5 : Ints wz (C.AV.xa ⟨some ⟨g5, 0, none⟩, 1, X5, xc5⟩) N _) (hx9 : Ints wz (C.AV.xa ⟨some ⟨g9, 0, none⟩, 1, X9, xc9⟩) N _) (hx13 : Ints wz (C.AV.xa ⟨some ⟨g13, 0, none⟩, 1, X13, xc13⟩) N _) (bl_new _)⟩, bl_new _, fun h => by cases h⟩
    · have e0 : u 0 = .func (.func 54) #[] #[] := hd 0 (by omega) (by kernel_rfl)
      have e1 : u 1 = .agg #[.int .i64 8, .slice none 0 0, .slice none 0 0, .slice none 0 0, .slice none 0 0, .slice none 0 0, .int .i64 0] := hd 1 (by omega) (by kernel_rfl)
      obtain ⟨R14, v14, e14, ha14, hl14⟩ := hd 14 (by omega) (by kernel_rfl)
      rw [e0, e1, e14]
      go_simp
      refine (doo_any 8 0 _ _ _ _ _ (some ⟨R14, 0, none⟩) 3 3 N (C.pickL (padL s.pad a N) (padL s.pad b N) (padL s.pad c9 N) N) wz (fun V hV => C.do_pick 0 _ _ _ _ _ R14 0 3 N v14 _ _ _ V hN0 hn4 (ArgsAt_below ha14 hV) ((hl14 0 (by omega)).below hV) ((hl14 1 (by omega)).below hV) ((hl14 2 (by omega)).below hV))).mono ?_
      rintro e w2 ⟨⟨gg, GG, rfl, hi1, hi2, hg1, _⟩, hb2⟩
      exact ⟨⟨gg, GG, rfl, hi1, hi2, Nat.le_trans HBV.out.size (Nat.le_trans hb.size hg1)⟩, hb2, fun h => by cases h⟩
    · obtain ⟨g15, G15, e15, hd15, hx15, hg15⟩ := hd 15 (by omega) (by kernel_rfl)
      rw [e15]
      have hfd := fd_data (some ⟨g15, 0, none⟩) (some ⟨G15, 0, none⟩) 1 N 1 N
      go_simp
      exact ⟨⟨_, rfl, hx15, hg15⟩, Below.refl _ _, fun h => by cases h⟩
  case rest =>
    intro u wz hb hf hp
    have f0 : u 0 = .func (.func 54) #[] #[] := hf 0 (by omega)
    have f1 : u 1 = .agg #[.int .i64 8, .slice none 0 0, .slice none 0 0, .slice none 0 0, .slice none 0 0, .slice none 0 0, .int .i64 0] := hf 1 (by omega)
    have f2 : u 2 = .func (.func 53) #[] #[.pointer (some ⟨ib, 0, none⟩), .pointer (some ⟨mb, 0, none⟩)] := hf 2 (by omega)
    have f3 : u 3 = .pointer (some ⟨ib, 1, none⟩) := hf 3 (by omega)
    have f4 : u 4 = .int .i64 (a : Int) := hf 4 (by omega)
    obtain ⟨g5, X5, xc5, f5, _, _⟩ := hf 5 (by omega)
    have f6 : u 6 = .func (.func 53) #[] #[.pointer (some ⟨ib, 0, none⟩), .pointer (some ⟨mb, 0, none⟩)] := hf 6 (by omega)
    have f7 : u 7 = .pointer (some ⟨ib, 2, none⟩) := hf 7 (by omega)
    have f8 : u 8 = .int .i64 (b : Int) := hf 8 (by omega)
    obtain ⟨g9, X9, xc9, f9, _, _⟩ := hf 9 (by omega)
    have f10 : u 10 = .func (.func 53) #[] #[.pointer (some ⟨ib, 0, none⟩), .pointer (some ⟨mb, 0, none⟩)] := hf 10 (by omega)
    have f11 : u 11 = .pointer (some ⟨ib, 3, none⟩) := hf 11 (by omega)
    have f12 : u 12 = .int .i64 (c9 : Int) := hf 12 (by omega)
    obtain ⟨g13, X13, xc13, f13, _, _⟩ := hf 13 (by omega)
    obtain ⟨R14, v14, f14, _, _⟩ := hf 14 (by omega)
    obtain ⟨g15, G15, f15, _, _, _⟩ := hf 15 (by omega)
    obtain ⟨GZ, f16, hz, hzg⟩ := hf 16 (by omega)
    refine UptoW.rest 1 17 (by rfl) (by kernel_rfl) ?_
    simp only [List.take, List.drop, putOps, Act.put, List.setIfInBounds_toArray, List.set_cons_zero, List.set_cons_succ, Nat.reduceAdd, f0, f1, f2, f3, f4, f5, f6, f7, f8, f9, f10, f11, f12, f13, f14, f15, f16]
    clear f0 f1 f2 f3 f4 f5 f6 f7 f8 f9 f10 f11 f12 f13 f14 f15 f16 hf hp
    have HBZ := hide hb
    have HZ := hide hz
    clear hb hz
    go_wp2_with fail
    go_ret
    exact ⟨GZ, rfl, HZ.out, hzg, Below.on HBV.out HBZ.out⟩
set_option maxRecDepth 20000 in
set_option maxHeartbeats 8000000 in
theorem made_14 (g : Nat) (c : CV) (mv mk : List In) (B : MbK) (s : Mac) (a b : Nat) (cz : Int) (N : Nat) (v : Int) (W : World) (h : MchAt W g c mv mk B s) (hN0 : 0 < N) (hn4 : N ≤ 4096) (hp : B.p.n ≤ 4096) (hbd : ∀ q, bd64 (s.pad q)) (ha : a + N ≤ B.p.n) (hb9 : b + N ≤ B.p.n) :
    Calls Tryz.prog 52 #[.pointer (some ⟨g, 0, none⟩), .agg #[.int .i64 14, .int .i64 (a : Int), .int .i64 (b : Int), .int .i64 cz, .int .i64 (N : Int), .int .i64 v]] W fun e w' => MdAns W N (C.bothL 3 (padL s.pad a N) (padL s.pad b N) N) e w' := by
  obtain ⟨V, hV⟩ : ∃ V, V = ((W.alloc (.cells #[.pointer (some ⟨g, 0, none⟩)] 39)).alloc (.cells #[.int .i64 14, .int .i64 (a : Int), .int .i64 (b : Int), .int .i64 cz, .int .i64 (N : Int), .int .i64 v] 50)).alloc (.cells #[.int .i64 3, .slice none 0 0, .slice none 0 0, .slice none 0 0, .slice none 0 0, .slice none 0 0, .int .i64 0] 104) := ⟨_, rfl⟩
  obtain ⟨mb, hmb⟩ : ∃ b, b = W.heap.size := ⟨_, rfl⟩
  obtain ⟨ib, hib⟩ : ∃ b, b = W.heap.size + 1 := ⟨_, rfl⟩
  obtain ⟨ob, hob⟩ : ∃ b, b = W.heap.size + 1 + 1 := ⟨_, rfl⟩
  have hbV : Below W.heap.size W V := by rw [hV]; exact bl_alloc (bl_alloc (bl_new _))
  have e1 : (W.alloc (.cells #[.pointer (some ⟨g, 0, none⟩)] 39)).heap.size = W.heap.size + 1 := by simp
  have e2 : ((W.alloc (.cells #[.pointer (some ⟨g, 0, none⟩)] 39)).alloc (.cells #[.int .i64 14, .int .i64 (a : Int), .int .i64 (b : Int), .int .i64 cz, .int .i64 (N : Int), .int .i64 v] 50)).heap.size = W.heap.size + 1 + 1 := by simp
  have hMB : MdB V g ib mb ⟨14, (a : Int), (b : Int), cz, (N : Int), v⟩ := by
    rw [hV, hib, hmb]
    refine ⟨?_, ?_⟩
    · rw [Below.heap_alloc _ _ _ (by rw [e2]; omega), ← e1]
      exact World.alloc_heap_new _ _
    · rw [Below.heap_alloc _ _ _ (by rw [e2]; omega), Below.heap_alloc _ _ _ (by rw [e1]; omega)]
      exact World.alloc_heap_new _ _
  have hOP : OpAt V ob 3 (.slice none 0 0) (.slice none 0 0) (.slice none 0 0) (.slice none 0 0) (.slice none 0 0) 0 := by
    rw [hV, hob, ← e2]
    exact OpAt.new _ 3 _ _ _ _ _ 0
  have h2 := h.below hbV
  have i0 : V.cell? ⟨ib, 0, none⟩ = some (.int .i64 14) := by simp only [World.cell?, hMB.i]; rfl
  have i1 : V.cell? ⟨ib, 1, none⟩ = some (.int .i64 (a : Int)) := by simp only [World.cell?, hMB.i]; rfl
  have i2 : V.cell? ⟨ib, 2, none⟩ = some (.int .i64 (b : Int)) := by simp only [World.cell?, hMB.i]; rfl
  have i3 : V.cell? ⟨ib, 3, none⟩ = some (.int .i64 cz) := by simp only [World.cell?, hMB.i]; rfl
  have i4 : V.cell? ⟨ib, 4, none⟩ = some (.int .i64 (N : Int)) := by simp only [World.cell?, hMB.i]; rfl
  have i5 : V.cell? ⟨ib, 5, none⟩ = some (.int .i64 v) := by simp only [World.cell?, hMB.i]; rfl
  have mm : V.cell? ⟨mb, 0, none⟩ = some (.pointer (some ⟨g, 0, none⟩)) := by simp only [World.cell?, hMB.m]; rfl
  have zi := lt_of_cell i0
  obtain ⟨o0, o1, o2, o3, o4, o5, o6⟩ := hOP.cells
  have HV := hide hV
  have HMBE := hide hmb
  have HIBE := hide hib
  have HOBE := hide hob
  have HBV := hide hbV
  have HMB := hide hMB
  have HOP := hide hOP
  have H2 := hide h2
  clear h h2 hV hmb hib hob hbV hMB hOP e1 e2
  go_enter Tryz.func52, Tryz.ntmps52
  go_upto_region 4 with fail
  rw [← HV.out, ← HOBE.out, ← HIBE.out, ← HMBE.out]
  go_upto_region 15 with fail
  refine region_made 13 15 [fIs (.func (.func 54) #[] #[]), fIs (.agg #[.int .i64 3, .slice none 0 0, .slice none 0 0, .slice none 0 0, .slice none 0 0, .slice none 0 0, .int .i64 0]), fIs (.func (.func 53) #[] #[.pointer (some ⟨ib, 0, none⟩), .pointer (some ⟨mb, 0, none⟩)]), fIs (.pointer (some ⟨ib, 1, none⟩)), fIs (.int .i64 (a : Int)), fAr N (padL s.pad a N), fIs (.func (.func 53) #[] #[.pointer (some ⟨ib, 0, none⟩), .pointer (some ⟨mb, 0, none⟩)]), fIs (.pointer (some ⟨ib, 2, none⟩)), fIs (.int .i64 (b : Int)), fAr N (padL s.pad b N), fRw 2 N (l2 (padL s.pad a N) (padL s.pad b N)), fRs W.heap.size N (C.bothL 3 (padL s.pad a N) (padL s.pad b N) N), fDt W.heap.size N (C.bothL 3 (padL s.pad a N) (padL s.pad b N) N)] (by kernel_rfl) (by kernel_rfl) (by kernel_rfl) (fun _ ⟨_, _⟩ ⟨_, _⟩ _ e h => by cases e; exact h) ⟨fIs_good _, fIs_good _, fIs_good _, fIs_good _, fIs_good _, fAr_good _ _, fIs_good _, fIs_good _, fIs_good _, fAr_good _ _, fRw_good _ _ _, fRs_good _ _ _, fDt_good _ _ _, trivial⟩ ?mk ?rest
  case mk =>
    refine ⟨fun u wz hb hd => ?_, fun u wz hb hd => ?_, fun u wz hb hd => ?_, fun u wz hb hd => ?_, fun u wz hb hd => ?_, fun u wz hb hd => ?_, fun u wz hb hd => ?_, fun u wz hb hd => ?_, fun u wz hb hd => ?_, fun u wz hb hd => ?_, fun u wz hb hd => ?_, fun u wz hb hd => ?_, fun u wz hb hd => ?_, trivial⟩
    all_goals simp only [Act.put, List.setIfInBounds_toArray, List.set_cons_zero, List.set_cons_succ]
    · go_simp
      exact ⟨rfl, Below.refl _ _, fun h => by cases h⟩
    · have o0' := (hb.cell (p := ⟨ob, 0, none⟩) (lt_of_cell o0)).trans o0
      have o1' := (hb.cell (p := ⟨ob, 1, none⟩) (lt_of_cell o1)).trans o1
      have o2' := (hb.cell (p := ⟨ob, 2, none⟩) (lt_of_cell o2)).trans o2
      have o3' := (hb.cell (p := ⟨ob, 3, none⟩) (lt_of_cell o3)).trans o3
      have o4' := (hb.cell (p := ⟨ob, 4, none⟩) (lt_of_cell o4)).trans o4
      have o5' := (hb.cell (p := ⟨ob, 5, none⟩) (lt_of_cell o5)).trans o5
      have o6' := (hb.cell (p := ⟨ob, 6, none⟩) (lt_of_cell o6)).trans o6
      have oz' : ob < wz.heap.size := Nat.lt_of_lt_of_le (lt_of_cell o0) hb.size
      go_simp
      exact ⟨rfl, Below.refl _ _, fun h => by cases h⟩
    · go_simp
      exact ⟨rfl, Below.refl _ _, fun h => by cases h⟩
    · go_simp
      exact ⟨rfl, Below.refl _ _, fun h => by cases h⟩
    · have e3 : u 3 = .pointer (some ⟨ib, 1, none⟩) := hd 3 (by omega) (by kernel_rfl)
      rw [e3]
      have i1' := (hb.cell (p := ⟨ib, 1, none⟩) (lt_of_cell i1)).trans i1
      go_simp
      exact ⟨rfl, Below.refl _ _, fun h => by cases h⟩
    · have e2 : u 2 = .func (.func 53) #[] #[.pointer (some ⟨ib, 0, none⟩), .pointer (some ⟨mb, 0, none⟩)] := hd 2 (by omega) (by kernel_rfl)
      have e4 : u 4 = .int .i64 (a : Int) := hd 4 (by omega) (by kernel_rfl)
      rw [e2, e4]
      go_simp
      refine (from_any g ib mb c mv mk B s _ a N wz (H2.out.below hb) (HMB.out.below hb) rfl hN0 hn4 ha hp).mono ?_
      rintro e w2 ⟨⟨gd, rfl, hi, _⟩, hb2⟩
      exact ⟨⟨gd, _, _, rfl, hi, ((H2.out.below hb).below hb2).pad.ints hbd ha (by omega)⟩, hb2, fun h => by cases h⟩
    · go_simp
      exact ⟨rfl, Below.refl _ _, fun h => by cases h⟩
    · go_simp
      exact ⟨rfl, Below.refl _ _, fun h => by cases h⟩
    · have e7 : u 7 = .pointer (some ⟨ib, 2, none⟩) := hd 7 (by omega) (by kernel_rfl)
      rw [e7]
      have i2' := (hb.cell (p := ⟨ib, 2, none⟩) (lt_of_cell i2)).trans i2
      go_simp
      exact ⟨rfl, Below.refl _ _, fun h => by cases h⟩
    · have e6 : u 6 = .func (.func 53) #[] #[.pointer (some ⟨ib, 0, none⟩), .pointer (some ⟨mb, 0, none⟩)] := hd 6 (by omega) (by kernel_rfl)
      have e8 : u 8 = .int .i64 (b : Int) := hd 8 (by omega) (by kernel_rfl)
      rw [e6, e8]
      go_simp
      refine (from_any g ib mb c mv mk B s _ b N wz (H2.out.below hb) (HMB.out.below hb) rfl hN0 hn4 hb9 hp).mono ?_
      rintro e w2 ⟨⟨gd, rfl, hi, _⟩, hb2⟩
      exact ⟨⟨gd, _, _, rfl, hi, ((H2.out.below hb).below hb2).pad.ints hbd hb9 (by omega)⟩, hb2, fun h => by cases h⟩
    · obtain ⟨g5, X5, xc5, e5, hd5, hx5⟩ := hd 5 (by omega) (by kernel_rfl)
      obtain ⟨g9, X9, xc9, e9, hd9, hx9⟩ := hd 9 (by omega) (by kernel_rfl)
      rw [e5, e9]
      go_simp
      exact ⟨⟨_, v2 ⟨some ⟨g5, 0, none⟩, 1, X5, xc5⟩ ⟨some ⟨g9, 0, none⟩, 1, X9, xc9⟩, rfl, args2 wz N ⟨some ⟨g5, 0, none⟩, 1, X5, xc5⟩ ⟨some ⟨g9, 0, none⟩, 1, X9, xc9⟩ hd5 hd9 _, ints_l2 (hx5 : Ints wz (C.AV.xa ⟨some ⟨g5, 0, none⟩, 1, X5, xc5⟩) N _) (hx9 : Ints wz (C.AV.xa ⟨some ⟨g9, 0, none⟩, 1, X9, xc9⟩) N _) (bl_new _)⟩, bl_new _, fun h => by cases h⟩
    · have e0 : u 0 = .func (.func 54) #[] #[] := hd 0 (by omega) (by kernel_rfl)
      have e1 : u 1 = .agg #[.int .i64 3, .slice none 0 0, .slice none 0 0, .slice none 0 0, .slice none 0 0, .slice none 0 0, .int .i64 0] := hd 1 (by omega) (by kernel_rfl)
      obtain ⟨R10, v10, e10, ha10, hl10⟩ := hd 10 (by omega) (by kernel_rfl)
      rw [e0, e1, e10]
      go_simp
      refine (doo_any 3 0 _ _ _ _ _ (some ⟨R10, 0, none⟩) 2 2 N (C.bothL 3 (padL s.pad a N) (padL s.pad b N) N) wz (fun V hV => C.do_two 3 0 (by omega) _ _ _ _ _ R10 0 2 N v10 _ _ V hN0 hn4 (ArgsAt_below ha10 hV) ((hl10 0 (by omega)).below hV) ((hl10 1 (by omega)).below hV))).mono ?_
      rintro e w2 ⟨⟨gg, GG, rfl, hi1, hi2, hg1, _⟩, hb2⟩
      exact ⟨⟨gg, GG, rfl, hi1, hi2, Nat.le_trans HBV.out.size (Nat.le_trans hb.size hg1)⟩, hb2, fun h => by cases h⟩
    · obtain ⟨g11, G11, e11, hd11, hx11, hg11⟩ := hd 11 (by omega) (by kernel_rfl)
      rw [e11]
      have hfd := fd_data (some ⟨g11, 0, none⟩) (some ⟨G11, 0, none⟩) 1 N 1 N
      go_simp
      exact ⟨⟨_, rfl, hx11, hg11⟩, Below.refl _ _, fun h => by cases h⟩
  case rest =>
    intro u wz hb hf hp
    have f0 : u 0 = .func (.func 54) #[] #[] := hf 0 (by omega)
    have f1 : u 1 = .agg #[.int .i64 3, .slice none 0 0, .slice none 0 0, .slice none 0 0, .slice none 0 0, .slice none 0 0, .int .i64 0] := hf 1 (by omega)
    have f2 : u 2 = .func (.func 53) #[] #[.pointer (some ⟨ib, 0, none⟩), .pointer (some ⟨mb, 0, none⟩)] := hf 2 (by omega)
    have f3 : u 3 = .pointer (some ⟨ib, 1, none⟩) := hf 3 (by omega)
    have f4 : u 4 = .int .i64 (a : Int) := hf 4 (by omega)
    obtain ⟨g5, X5, xc5, f5, _, _⟩ := hf 5 (by omega)
    have f6 : u 6 = .func (.func 53) #[] #[.pointer (some ⟨ib, 0, none⟩), .pointer (some ⟨mb, 0, none⟩)] := hf 6 (by omega)
    have f7 : u 7 = .pointer (some ⟨ib, 2, none⟩) := hf 7 (by omega)
    have f8 : u 8 = .int .i64 (b : Int) := hf 8 (by omega)
    obtain ⟨g9, X9, xc9, f9, _, _⟩ := hf 9 (by omega)
    obtain ⟨R10, v10, f10, _, _⟩ := hf 10 (by omega)
    obtain ⟨g11, G11, f11, _, _, _⟩ := hf 11 (by omega)
    obtain ⟨GZ, f12, hz, hzg⟩ := hf 12 (by omega)
    refine UptoW.rest 1 13 (by rfl) (by kernel_rfl) ?_
    simp only [List.take, List.drop, putOps, Act.put, List.setIfInBounds_toArray, List.set_cons_zero, List.set_cons_succ, Nat.reduceAdd, f0, f1, f2, f3, f4, f5, f6, f7, f8, f9, f10, f11, f12]
    clear f0 f1 f2 f3 f4 f5 f6 f7 f8 f9 f10 f11 f12 hf hp
    have HBZ := hide hb
    have HZ := hide hz
    clear hb hz
    go_wp2_with fail
    go_ret
    exact ⟨GZ, rfl, HZ.out, hzg, Below.on HBV.out HBZ.out⟩
end Go.Proofs.YtoabffmiedbkkaaGreat.V
namespace Go.Proofs.YtoabffmiedbkkaaGreat.V
set_option maxRecDepth 20000
open Go Go.RowKit
set_option linter.unusedVariables false
set_option linter.unusedSimpArgs false

set_option maxRecDepth 20000 in
set_option maxHeartbeats 8000000 in
theorem made_12 (g : Nat) (c : CV) (mv mk : List In) (B : MbK) (s : Mac) (a b c9 : Nat) (N : Nat) (v : Int) (W : World) (h : MchAt W g c mv mk B s) (hN0 : 0 < N) (hn4 : N ≤ 4096) (hp : B.p.n ≤ 4096) (hbd : ∀ q, bd64 (s.pad q)) (ha : a + N ≤ B.p.n) (hb9 : b + N ≤ B.p.n) (hc9 : c9 + N ≤ B.p.n) :
    Calls Tryz.prog 52 #[.pointer (some ⟨g, 0, none⟩), .agg #[.int .i64 12, .int .i64 (a : Int), .int .i64 (b : Int), .int .i64 (c9 : Int), .int .i64 (N : Int), .int .i64 v]] W fun e w' => MdAns W N (C.bothL 3 (padL s.pad a N) (C.bothL 5 (padL s.pad b N) (padL s.pad c9 N) N) N) e w' := by
  obtain ⟨V, hV⟩ : ∃ V, V = ((W.alloc (.cells #[.pointer (some ⟨g, 0, none⟩)] 39)).alloc (.cells #[.int .i64 12, .int .i64 (a : Int), .int .i64 (b : Int), .int .i64 (c9 : Int), .int .i64 (N : Int), .int .i64 v] 50)).alloc (.cells #[.int .i64 3, .slice none 0 0, .slice none 0 0, .slice none 0 0, .slice none 0 0, .slice none 0 0, .int .i64 0] 104) := ⟨_, rfl⟩
  obtain ⟨mb, hmb⟩ : ∃ b, b = W.heap.size := ⟨_, rfl⟩
  obtain ⟨ib, hib⟩ : ∃ b, b = W.heap.size + 1 := ⟨_, rfl⟩
  obtain ⟨ob, hob⟩ : ∃ b, b = W.heap.size + 1 + 1 := ⟨_, rfl⟩
  have hbV : Below W.heap.size W V := by rw [hV]; exact bl_alloc (bl_alloc (bl_new _))
  have e1 : (W.alloc (.cells #[.pointer (some ⟨g, 0, none⟩)] 39)).heap.size = W.heap.size + 1 := by simp
  have e2 : ((W.alloc (.cells #[.pointer (some ⟨g, 0, none⟩)] 39)).alloc (.cells #[.int .i64 12, .int .i64 (a : Int), .int .i64 (b : Int), .int .i64 (c9 : Int), .int .i64 (N : Int), .int .i64 v] 50)).heap.size = W.heap.size + 1 + 1 := by simp
  have hMB : MdB V g ib mb ⟨12, (a : Int), (b : Int), (c9 : Int), (N : Int), v⟩ := by
    rw [hV, hib, hmb]
    refine ⟨?_, ?_⟩
    · rw [Below.heap_alloc _ _ _ (by rw [e2]; omega), ← e1]
      exact World.alloc_heap_new _ _
    · rw [Below.heap_alloc _ _ _ (by rw [e2]; omega), Below.heap_alloc _ _ _ (by rw [e1]; omega)]
      exact World.alloc_heap_new _ _
  have hOP : OpAt V ob 3 (.slice none 0 0) (.slice none 0 0) (.slice none 0 0) (.slice none 0 0) (.slice none 0 0) 0 := by
    rw [hV, hob, ← e2]
    exact OpAt.new _ 3 _ _ _ _ _ 0
  have h2 := h.below hbV
  have i0 : V.cell? ⟨ib, 0, none⟩ = some (.int .i64 12) := by simp only [World.cell?, hMB.i]; rfl
  have i1 : V.cell? ⟨ib, 1, none⟩ = some (.int .i64 (a : Int)) := by simp only [World.cell?, hMB.i]; rfl
  have i2 : V.cell? ⟨ib, 2, none⟩ = some (.int .i64 (b : Int)) := by simp only [World.cell?, hMB.i]; rfl
  have i3 : V.cell? ⟨ib, 3, none⟩ = some (.int .i64 (c9 : Int)) := by simp only [World.cell?, hMB.i]; rfl
  have i4 : V.cell? ⟨ib, 4, none⟩ = some (.int .i64 (N : Int)) := by simp only [World.cell?, hMB.i]; rfl
  have i5 : V.cell? ⟨ib, 5, none⟩ = some (.int .i64 v) := by simp only [World.cell?, hMB.i]; rfl
  have mm : V.cell? ⟨mb, 0, none⟩ = some (.pointer (some ⟨g, 0, none⟩)) := by simp only [World.cell?, hMB.m]; rfl
  have zi := lt_of_cell i0
  obtain ⟨o0, o1, o2, o3, o4, o5, o6⟩ := hOP.cells
  have HV := hide hV
  have HMBE := hide hmb
  have HIBE := hide hib
  have HOBE := hide hob
  have HBV := hide hbV
  have HMB := hide hMB
  have HOP := hide hOP
  have H2 := hide h2
  clear h h2 hV hmb hib hob hbV hMB hOP e1 e2
  go_enter Tryz.func52, Tryz.ntmps52
  go_upto_region 4 with fail
  rw [← HV.out, ← HOBE.out, ← HIBE.out, ← HMBE.out]
  go_upto_region 10 with fail
  refine region_made 21 23 [fIs (.func (.func 54) #[] #[]), fIs (.agg #[.int .i64 3, .slice none 0 0, .slice none 0 0, .slice none 0 0, .slice none 0 0, .slice none 0 0, .int .i64 0]), fIs (.func (.func 53) #[] #[.pointer (some ⟨ib, 0, none⟩), .pointer (some ⟨mb, 0, none⟩)]), fIs (.pointer (some ⟨ib, 1, none⟩)), fIs (.int .i64 (a : Int)), fAr N (padL s.pad a N), fIs (.func (.func 54) #[] #[]), fIs (.agg #[.int .i64 5, .slice none 0 0, .slice none 0 0, .slice none 0 0, .slice none 0 0, .slice none 0 0, .int .i64 0]), fIs (.func (.func 53) #[] #[.pointer (some ⟨ib, 0, none⟩), .pointer (some ⟨mb, 0, none⟩)]), fIs (.pointer (some ⟨ib, 2, none⟩)), fIs (.int .i64 (b : Int)), fAr N (padL s.pad b N), fIs (.func (.func 53) #[] #[.pointer (some ⟨ib, 0, none⟩), .pointer (some ⟨mb, 0, none⟩)]), fIs (.pointer (some ⟨ib, 3, none⟩)), fIs (.int .i64 (c9 : Int)), fAr N (padL s.pad c9 N), fRw 2 N (l2 (padL s.pad b N) (padL s.pad c9 N)), fRs W.heap.size N (C.bothL 5 (padL s.pad b N) (padL s.pad c9 N) N), fRw 2 N (l2 (padL s.pad a N) (C.bothL 5 (padL s.pad b N) (padL s.pad c9 N) N)), fRs W.heap.size N (C.bothL 3 (padL s.pad a N) (C.bothL 5 (padL s.pad b N) (padL s.pad c9 N) N) N), fDt W.heap.size N (C.bothL 3 (padL s.pad a N) (C.bothL 5 (padL s.pad b N) (padL s.pad c9 N) N) N)] (by kernel_rfl) (by kernel_rfl) (by kernel_rfl) (fun _ ⟨_, _⟩ ⟨_, _⟩ _ e h => by cases e; exact h) ⟨fIs_good _, fIs_good _, fIs_good _, fIs_good _, fIs_good _, fAr_good _ _, fIs_good _, fIs_good _, fIs_good _, fIs_good _, fIs_good _, fAr_good _ _, fIs_good _, fIs_good _, fIs_good _, fAr_good _ _, fRw_good _ _ _, fRs_good _ _ _, fRw_good _ _ _, fRs_good _ _ _, fDt_good _ _ _, trivial⟩ ?mk ?rest
  case mk =>
    refine ⟨fun u wz hb hd => ?_, fun u wz hb hd => ?_, fun u wz hb hd => ?_, fun u wz hb hd => ?_, fun u wz hb hd => ?_, fun u wz hb hd => ?_, fun u wz hb hd => ?_, fun u wz hb hd => ?_, fun u wz hb hd => ?_, fun u wz hb hd => ?_, fun u wz hb hd => ?_, fun u wz hb hd => ?_, fun u wz hb hd => ?_, fun u wz hb hd => ?_, fun u wz hb hd => ?_, fun u wz hb hd => ?_, fun u wz hb hd => ?_, fun u wz hb hd => ?_, fun u wz hb hd => ?_, fun u wz hb hd => ?_, fun u wz hb hd => ?_, trivial⟩
    all_goals simp only [Act.put, List.setIfInBounds_toArray, List.set_cons_zero, List.set_cons_succ]
    · go_simp
      exact ⟨rfl, Below.refl _ _, fun h => by cases h⟩
    · have o0' := (hb.cell (p := ⟨ob, 0, none⟩) (lt_of_cell o0)).trans o0
      have o1' := (hb.cell (p := ⟨ob, 1, none⟩) (lt_of_cell o1)).trans o1
      have o2' := (hb.cell (p := ⟨ob, 2, none⟩) (lt_of_cell o2)).trans o2
      have o3' := (hb.cell (p := ⟨ob, 3, none⟩) (lt_of_cell o3)).trans o3
      have o4' := (hb.cell (p := ⟨ob, 4, none⟩) (lt_of_cell o4)).trans o4
      have o5' := (hb.cell (p := ⟨ob, 5, none⟩) (lt_of_cell o5)).trans o5
      have o6' := (hb.cell (p := ⟨ob, 6, none⟩) (lt_of_cell o6)).trans o6
      have oz' : ob < wz.heap.size := Nat.lt_of_lt_of_le (lt_of_cell o0) hb.size
      go_simp
      exact ⟨rfl, Below.refl _ _, fun h => by cases h⟩
    · go_simp
      exact ⟨rfl, Below.refl _ _, fun h => by cases h⟩
    · go_simp
      exact ⟨rfl, Below.refl _ _, fun h => by cases h⟩
    · have e3 : u 3 = .pointer (some ⟨ib, 1, none⟩) := hd 3 (by omega) (by kernel_rfl)
      rw [e3]
      have i1' := (hb.cell (p := ⟨ib, 1, none⟩) (lt_of_cell i1)).trans i1
      go_simp
      exact ⟨rfl, Below.refl _ _, fun h => by cases h⟩
    · have e2 : u 2 = .func (.func 53) #[] #[.pointer (some ⟨ib, 0, none⟩), .pointer (some ⟨mb, 0, none⟩)] := hd 2 (by omega) (by kernel_rfl)
      have e4 : u 4 = .int .i64 (a : Int) := hd 4 (by omega) (by kernel_rfl)
      rw [e2, e4]
      go_simp
      refine (from_any g ib mb c mv mk B s _ a N wz (H2.out.below hb) (HMB.out.below hb) rfl hN0 hn4 ha hp).mono ?_
      rintro e w2 ⟨⟨gd, rfl, hi, _⟩, hb2⟩
      exact ⟨⟨gd, _, _, rfl, hi, ((H2.out.below hb).below hb2).pad.ints hbd ha (by omega)⟩, hb2, fun h => by cases h⟩
    · go_simp
      exact ⟨rfl, Below.refl _ _, fun h => by cases h⟩
    · go_simp
      exact ⟨rfl, Below.refl _ _, fun h => by cases h⟩
    · go_simp
      exact ⟨rfl, Below.refl _ _, fun h => by cases h⟩
    · go_simp
      exact ⟨rfl, Below.refl _ _, fun h => by cases h⟩
    · have e9 : u 9 = .pointer (some ⟨ib, 2, none⟩) := hd 9 (by omega) (by kernel_rfl)
      rw [e9]
      have i2' := (hb.cell (p := ⟨ib, 2, none⟩) (lt_of_cell i2)).trans i2
      go_simp
      exact ⟨rfl, Below.refl _ _, fun h => by cases h⟩
    · have e8 : u 8 = .func (.func 53) #[] #[.pointer (some ⟨ib, 0, none⟩), .pointer (some ⟨mb, 0, none⟩)] := hd 8 (by omega) (by kernel_rfl)
      have e10 : u 10 = .int .i64 (b : Int) := hd 10 (by omega) (by kernel_rfl)
      rw [e8, e10]
      go_simp
      refine (from_any g ib mb c mv mk B s _ b N wz (H2.out.below hb) (HMB.out.below hb) rfl hN0 hn4 hb9 hp).mono ?_
      rintro e w2 ⟨⟨gd, rfl, hi, _⟩, hb2⟩
      exact ⟨⟨gd, _, _, rfl, hi, ((H2.out.below hb).below hb2).pad.ints hbd hb9 (by omega)⟩, hb2, fun h => by cases h⟩
    · go_simp
      exact ⟨rfl, Below.refl _ _, fun h => by cases h⟩
    · go_simp
      exact ⟨rfl, Below.refl _ _, fun h => by cases h⟩
    · have e13 : u 13 = .pointer (some ⟨ib, 3, none⟩) := hd 13 (by omega) (by kernel_rfl)
      rw [e13]
      have i3' := (hb.cell (p := ⟨ib, 3, none⟩) (lt_of_cell i3)).trans i3
      go_simp
      exact ⟨rfl, Below.refl _ _, fun h => by cases h⟩
    · have e12 : u 12 = .func (.func 53) #[] #[.pointer (some ⟨ib, 0, none⟩), .pointer (some ⟨mb, 0, none⟩)] := hd 12 (by omega) (by kernel_rfl)
      have e14 : u 14 = .int .i64 (c9 : Int) := hd 14 (by omega) (by kernel_rfl)
      rw [e12, e14]
      go_simp
      refine (from_any g ib mb c mv mk B s _ c9 N wz (H2.out.below hb) (HMB.out.below hb) rfl hN0 hn4 hc9 hp).mono ?_
      rintro e w2 ⟨⟨gd, rfl, hi, _⟩, hb2⟩
      exact ⟨⟨gd, _, _, rfl, hi, ((H2.out.below hb).below hb2).pad.ints hbd hc9 (by omega)⟩, hb2, fun h => by cases h⟩
    · obtain ⟨g11, X11, xc11, e11, hd11, hx11⟩ := hd 11 (by omega) (by kernel_rfl)
      obtain ⟨g15, X15, xc15, e15, hd15, hx15⟩ := hd 15 (by omega) (by kernel_rfl)
      rw [e11, e15]
      go_simp
      exact ⟨⟨_, v2 ⟨some ⟨g11, 0, none⟩, 1, X11, xc11⟩ ⟨some ⟨g15, 0, none⟩, 1, X15, xc15⟩, rfl, args2 wz N ⟨some ⟨g11, 0, none⟩, 1, X11, xc11⟩ ⟨some ⟨g15, 0, none⟩, 1, X15, xc15⟩ hd11 hd15 _, ints_l2 (hx11 : Ints wz (C.AV.xa ⟨some ⟨g11, 0, none⟩, 1, X11, xc11⟩) N _) (hx15 : Ints wz (C.AV.xa ⟨some ⟨g15, 0, none⟩, 1, X15, xc15⟩) N _) (bl_new _)⟩, bl_new _, fun h => by cases h⟩
    · have e6 : u 6 = .func (.func 54) #[] #[] := hd 6 (by omega) (by kernel_rfl)
      have e7 : u 7 = .agg #[.int .i64 5, .slice none 0 0, .slice none 0 0, .slice none 0 0, .slice none 0 0, .slice none 0 0, .int .i64 0] := hd 7 (by omega) (by kernel_rfl)
      obtain ⟨R16, v16, e16, ha16, hl16⟩ := hd 16 (by omega) (by kernel_rfl)
      rw [e6, e7, e16]
      go_simp
      refine (doo_any 5 0 _ _ _ _ _ (some ⟨R16, 0, none⟩) 2 2 N (C.bothL 5 (padL s.pad b N) (padL s.pad c9 N) N) wz (fun V hV => C.do_two 5 0 (by omega) _ _ _ _ _ R16 0 2 N v16 _ _ V hN0 hn4 (ArgsAt_below ha16 hV) ((hl16 0 (by omega)).below hV) ((hl16 1 (by omega)).below hV))).mono ?_
      rintro e w2 ⟨⟨gg, GG, rfl, hi1, hi2, hg1, _⟩, hb2⟩
      exact ⟨⟨gg, GG, rfl, hi1, hi2, Nat.le_trans HBV.out.size (Nat.le_trans hb.size hg1)⟩, hb2, fun h => by cases h⟩
    · obtain ⟨g5, X5, xc5, e5, hd5, hx5⟩ := hd 5 (by omega) (by kernel_rfl)
      obtain ⟨g17, G17, e17, hd17, hx17, _⟩ := hd 17 (by omega) (by kernel_rfl)
      rw [e5, e17]
      go_simp
      exact ⟨⟨_, v2 ⟨some ⟨g5, 0, none⟩, 1, X5, xc5⟩ ⟨some ⟨g17, 0, none⟩, 1, some ⟨G17, 0, none⟩, N⟩, rfl, args2 wz N ⟨some ⟨g5, 0, none⟩, 1, X5, xc5⟩ ⟨some ⟨g17, 0, none⟩, 1, some ⟨G17, 0, none⟩, N⟩ hd5 hd17 _, ints_l2 (hx5 : Ints wz (C.AV.xa ⟨some ⟨g5, 0, none⟩, 1, X5, xc5⟩) N _) (hx17 : Ints wz (C.AV.xa ⟨some ⟨g17, 0, none⟩, 1, some ⟨G17, 0, none⟩, N⟩) N _) (bl_new _)⟩, bl_new _, fun h => by cases h⟩
    · have e0 : u 0 = .func (.func 54) #[] #[] := hd 0 (by omega) (by kernel_rfl)
      have e1 : u 1 = .agg #[.int .i64 3, .slice none 0 0, .slice none 0 0, .slice none 0 0, .slice none 0 0, .slice none 0 0, .int .i64 0] := hd 1 (by omega) (by kernel_rfl)
      obtain ⟨R18, v18, e18, ha18, hl18⟩ := hd 18 (by omega) (by kernel_rfl)
      rw [e0, e1, e18]
      go_simp
      refine (doo_any 3 0 _ _ _ _ _ (some ⟨R18, 0, none⟩) 2 2 N (C.bothL 3 (padL s.pad a N) (C.bothL 5 (padL s.pad b N) (padL s.pad c9 N) N) N) wz (fun V hV => C.do_two 3 0 (by omega) _ _ _ _ _ R18 0 2 N v18 _ _ V hN0 hn4 (ArgsAt_below ha18 hV) ((hl18 0 (by omega)).below hV) ((hl18 1 (by omega)).below hV))).mono ?_
      rintro e w2 ⟨⟨gg, GG, rfl, hi1, hi2, hg1, _⟩, hb2⟩
      exact ⟨⟨gg, GG, rfl, hi1, hi2, Nat.le_trans HBV.out.size (Nat.le_trans hb.size hg1)⟩, hb2, fun h => by cases h⟩
    · obtain ⟨g19, G19, e19, hd19, hx19, hg19⟩ := hd 19 (by omega) (by kernel_rfl)
      rw [e19]
      have hfd := fd_data (some ⟨g19, 0, none⟩) (some ⟨G19, 0, none⟩) 1 N 1 N
      go_simp
      exact ⟨⟨_, rfl, hx19, hg19⟩, Below.refl _ _, fun h => by cases h⟩
  case rest =>
    intro u wz hb hf hp
    have f0 : u 0 = .func (.func 54) #[] #[] := hf 0 (by omega)
    have f1 : u 1 = .agg #[.int .i64 3, .slice none 0 0, .slice none 0 0, .slice none 0 0, .slice none 0 0, .slice none 0 0, .int .i64 0] := hf 1 (by omega)
    have f2 : u 2 = .func (.func 53) #[] #[.pointer (some ⟨ib, 0, none⟩), .pointer (some ⟨mb, 0, none⟩)] := hf 2 (by omega)
    have f3 : u 3 = .pointer (some ⟨ib, 1, none⟩) := hf 3 (by omega)
    have f4 : u 4 = .int .i64 (a : Int) := hf 4 (by omega)
    obtain ⟨g5, X5, xc5, f5, _, _⟩ := hf 5 (by omega)
    have f6 : u 6 = .func (.func 54) #[] #[] := hf 6 (by omega)
    have f7 : u 7 = .agg #[.int .i64 5, .slice none 0 0, .slice none 0 0, .slice none 0 0, .slice none 0 0, .slice none 0 0, .int .i64 0] := hf 7 (by omega)
    have f8 : u 8 = .func (.func 53) #[] #[.pointer (some ⟨ib, 0, none⟩), .pointer (some ⟨mb, 0, none⟩)] := hf 8 (by omega)
    have f9 : u 9 = .pointer (some ⟨ib, 2, none⟩) := hf 9 (by omega)
    have f10 : u 10 = .int .i64 (b : Int) := hf 10 (by omega)
    obtain ⟨g11, X11, xc11, f11, _, _⟩ := hf 11 (by omega)
    have f12 : u 12 = .func (.func 53) #[] #[.pointer (some ⟨ib, 0, none⟩), .pointer (some ⟨mb, 0, none⟩)] := hf 12 (by omega)
    have f13 : u 13 = .pointer (some ⟨ib, 3, none⟩) := hf 13 (by omega)
    have f14 : u 14 = .int .i64 (c9 : Int) := hf 14 (by omega)
    obtain ⟨g15, X15, xc15, f15, _, _⟩ := hf 15 (by omega)
    obtain ⟨R16, v16, f16, _, _⟩ := hf 16 (by omega)
    obtain ⟨g17, G17, f17, _, _, _⟩ := hf 17 (by omega)
    obtain ⟨R18, v18, f18, _, _⟩ := hf 18 (by omega)
    obtain ⟨g19, G19, f19, _, _, _⟩ := hf 19 (by omega)
    obtain ⟨GZ, f20, hz, hzg⟩ := hf 20 (by omega)
    refine UptoW.rest 1 21 (by rfl) (by kernel_rfl) ?_
    simp only [List.take, List.drop, putOps, Act.put, List.setIfInBounds_toArray, List.set_cons_zero, List.set_cons_succ, Nat.reduceAdd, f0, f1, f2, f3, f4, f5, f6, f7, f8, f9, f10, f11, f12, f13, f14, f15, f16, f17, f18, f19, f20]
    clear f0 f1 f2 f3 f4 f5 f6 f7 f8 f9 f10 f11 f12 f13 f14 f15 f16 f17 f18 f19 f20 hf hp
    have HBZ := hide hb
    have HZ := hide hz
    clear hb hz
    go_wp2_with fail
    go_ret
    exact ⟨GZ, rfl, HZ.out, hzg, Below.on HBV.out HBZ.out⟩
end Go.Proofs.YtoabffmiedbkkaaGreat.V
