/-
  Contract: order.remade, over whatever functions.
-/
import Derived.Test.YtoidgdbgpbcebaaK16
import Derived.Deep.DeepCutAuto
namespace Go.Proofs.Ytoidgdbgpbcebaa.V
open Go.RowKit
set_option linter.unusedVariables false

def fBox (N : Nat) (box : List Int) : Fact := ⟨fun v w => ∃ a l c, v = .slice a l c ∧ Lies N (fun V => Lst V a l c box) w, false⟩
theorem fBox_good (N : Nat) (box : List Int) : (fBox N box).Good := ⟨fun _ _ _ ⟨a, l, c, h1, h2⟩ hb => ⟨a, l, c, h1, h2.below hb⟩, fun h => by cases h⟩
/-- Rows in a block, with their words. -/
structure RwsX (V : World) (R : Nat) (us : Nat → RW) (l : Nat) (rs : List (List Int × Int)) : Prop where
  out : OutR V R l us l
  good : ∀ j, j < l → RG V (us j) (rs[j]?.getD ([], 0))
  len : rs.length = l
  big : l ≤ 9223372036854775807
def fRws (N : Nat) (rs : List (List Int × Int)) : Fact := ⟨fun v w => ∃ R us l, v = .slice (some ⟨R, 0, none⟩) l l ∧ Lies N (fun V => RwsX V R us l rs) w, false⟩
theorem fRws_good (N : Nat) (rs : List (List Int × Int)) : (fRws N rs).Good := ⟨fun _ _ _ ⟨R, us, l, h1, h2⟩ hb => ⟨R, us, l, h1, h2.below hb⟩, fun h => by cases h⟩
def fPts (N : Nat) (box : List Int) (rs : List (List Int × Int)) : Fact := ⟨fun v w => ∃ a l c R us m, v = .agg #[.slice a l c, .slice (some ⟨R, 0, none⟩) m m] ∧ Lies N (fun V => Lst V a l c box ∧ RwsX V R us m rs) w, false⟩
theorem fPts_good (N : Nat) (box : List Int) (rs : List (List Int × Int)) : (fPts N box rs).Good := ⟨fun _ _ _ ⟨a, l, c, R, us, m, h1, h2⟩ hb => ⟨a, l, c, R, us, m, h1, h2.below hb⟩, fun h => by cases h⟩
def fAccs (N : Nat) (gs : List Acc) : Fact := ⟨fun v w => ∃ a l c, v = .slice a l c ∧ Lies N (fun V => Accs V a l gs) w, false⟩
theorem fAccs_good (N : Nat) (gs : List Acc) : (fAccs N gs).Good := ⟨fun _ _ _ ⟨a, l, c, h1, h2⟩ hb => ⟨a, l, c, h1, h2.below hb⟩, fun h => by cases h⟩
def fAG (N : Nat) (y : Acc) : Fact := ⟨fun v w => ∃ u : AW, v = u.v ∧ Lies N (fun V => AG V u y) w, false⟩
theorem fAG_good (N : Nat) (y : Acc) : (fAG N y).Good := ⟨fun _ _ _ ⟨u, h1, h2⟩ hb => ⟨u, h1, h2.below hb⟩, fun h => by cases h⟩
/-- The rows that have been made. -/
theorem rws_out {V : World} {R len : Nat} {us : Nat → RW} {rs : List (List Int × Int)} (h : OutR V R len us len) (hl : rs.length = len) (hm : len ≤ 9223372036854775807) (hg : ∀ j, j < len → RG V (us j) (rs[j]?.getD ([], 0))) : Rws V (some ⟨R, 0, none⟩) len rs := by
  obtain ⟨f, h1, h2⟩ := h
  refine ⟨hl, hm, .inr ⟨R, 0, rfl, fun j hj => ?_⟩⟩
  obtain ⟨e0, e1⟩ := h2 j hj
  have g := hg j hj
  have c0 := h1.cell (i := j * 2) (by omega)
  have c1 := h1.cell (i := j * 2 + 1) (by omega)
  rw [e0] at c0
  rw [e1, g.con] at c1
  exact ⟨_, _, _, by rw [Nat.zero_add]; exact c0, by rw [Nat.zero_add]; exact c1, g.coef, g.cap, g.bd⟩
theorem accs_out {V : World} {R len : Nat} {us : Nat → AW} {gs : List Acc} (h : OutA V R len us len) (hl : gs.length = len) (hm : len ≤ 9223372036854775807) (hg : ∀ j, j < len → AG V (us j) (gs[j]?.getD accD)) : Accs V (some ⟨R, 0, none⟩) len gs := by
  obtain ⟨f, h1, h2⟩ := h
  refine ⟨hl, hm, .inr ⟨R, 0, rfl, fun j hj => ?_⟩⟩
  obtain ⟨e0, e1, e2⟩ := h2 j hj
  have g := hg j hj
  have c0 := h1.cell (i := j * 3) (by omega)
  have c1 := h1.cell (i := j * 3 + 1) (by omega)
  have c2 := h1.cell (i := j * 3 + 2) (by omega)
  rw [e0, g.arr] at c0
  rw [e1] at c1
  rw [e2, g.con] at c2
  exact ⟨by rw [Nat.zero_add]; exact c0, ⟨_, _, _, by rw [Nat.zero_add]; exact c1, by rw [Nat.zero_add]; exact c2, g.coef, g.cap, g.bd.2⟩, g.bd.1⟩
theorem stms_out {V : World} {R len : Nat} {us : Nat → SW} {ss : List Stm} (h : OutS8 V R len us len) (hl : ss.length = len) (hm : len ≤ 9223372036854775807) (hg : ∀ j, j < len → SG V (us j) (ss[j]?.getD stmD)) : Stms V (some ⟨R, 0, none⟩) len ss := by
  obtain ⟨f, h1, h2⟩ := h
  refine ⟨hl, hm, .inr ⟨R, 0, rfl, fun j hj => ?_⟩⟩
  obtain ⟨e0, e1, e2, e3, e4, e5, e6, e7⟩ := h2 j hj
  have cc : ∀ i, i < 8 → V.cell? ⟨R, 0 + j * 8 + i, none⟩ = some (f (j * 8 + i)) := fun i hi => by rw [Nat.zero_add]; exact h1.cell (by omega)
  refine ⟨us j, hg j hj, ?_, ?_, ?_, ?_, ?_, ?_, ?_, ?_⟩
  · rw [← e0]; exact cc 0 (by omega)
  · rw [← e1]; exact cc 1 (by omega)
  · rw [← e2]; exact cc 2 (by omega)
  · rw [← e3]; exact cc 3 (by omega)
  · rw [← e4]; exact cc 4 (by omega)
  · rw [← e5]; exact cc 5 (by omega)
  · rw [← e6]; exact cc 6 (by omega)
  · rw [← e7]; exact cc 7 (by omega)
theorem RwsX.rws {V : World} {R : Nat} {us : Nat → RW} {l : Nat} {rs : List (List Int × Int)} (h : RwsX V R us l rs) : Rws V (some ⟨R, 0, none⟩) l rs := rws_out h.out h.len h.big h.good
/-- list.Each of rows. -/
theorem eachRows (a : Option Addr) (len cap : Nat) (rs : List (List Int × Int)) (f : List Int × Int → List Int × Int) (go : Nat) (bo : Array Value) (eg : ∀ args w, (callFunc go args).run Try.prog w = .ok (.enter go args) w) (w : World) (hr : Rws w a len rs) (hlen : len * 32 ≤ 281474976710656)
    (hf : ∀ q x, x ∈ rs → RG w q x → RowFn go bo q (f x) w) :
    Calls Try.prog 95 #[.slice a len cap, .func (.func go) #[] bo] w fun e w' => (∃ R us l, e = .returned (.slice (some ⟨R, 0, none⟩) l l) ∧ Lies w.heap.size (fun V => RwsX V R us l (rs.map f)) w') ∧ Below w.heap.size w w' := by
  obtain ⟨qs, hq, hin⟩ := rws_words hr
  refine (eachRR a len cap qs go bo eg (fun j u V => RG V u (f (rs[j]?.getD ([], 0)))) w hlen hin (fun j W hj hb _ => hf (qs j) _ (mem_getR rs j (by rw [hr.1]; exact hj)) (hq j hj) W hb)).mono ?_
  rintro e w' ⟨⟨us, rfl, ho, hl⟩, hb⟩
  refine ⟨⟨w.heap.size, us, len, rfl, ?_⟩, hb⟩
  have h1 := ho.lies (Nat.le_refl _)
  have h2 := lies_all (N := w.heap.size) (fun j hj => (hl j hj).mono (Nat.le_succ _))
  refine (h1.and h2).imp (fun V hV => ⟨hV.1, fun j hj => ?_, by rw [List.length_map]; exact hr.1, by have := hr.2.1; omega⟩)
  have hjl : j < rs.length := by rw [hr.1]; exact hj
  have := hV.2 j hj
  simpa [hjl] using this
/-- list.Each of accesses. -/
theorem eachAccs (a : Option Addr) (len cap : Nat) (gs : List Acc) (f : List Int × Int → List Int × Int) (B go : Nat) (bo : Array Value) (eg : ∀ args w, (callFunc go args).run Try.prog w = .ok (.enter go args) w) (w : World) (hr : Accs w a len gs) (hlen : len * 40 ≤ 281474976710656) (hB : w.cell? ⟨B, 0, none⟩ = some (.func (.func go) #[] bo))
    (hf : ∀ q x, x ∈ gs → AG w q x → RowFn go bo q.row (f x.2) w) :
    Calls Try.prog 98 #[.slice a len cap, .func (.func 97) #[] #[.pointer (some ⟨B, 0, none⟩)]] w fun e w' => (∃ a l c, e = .returned (.slice a l c) ∧ Lies w.heap.size (fun V => Accs V a l (gs.map fun a => (a.1, f a.2))) w') ∧ Below w.heap.size w w' := by
  obtain ⟨qs, hq, hin⟩ := accs_words hr
  refine (eachAA a len cap qs 97 #[.pointer (some ⟨B, 0, none⟩)] (enters_of Try.func97 (by kernel_rfl) rfl) (fun j u V => AG V u ((gs[j]?.getD accD).1, f (gs[j]?.getD accD).2)) w hlen hin (fun j W hj hb _ => ?_)).mono ?_
  · exact access_any (qs j) (gs[j]?.getD accD) _ B go bo eg W ((hq j hj).below hb) ((hb.cell (p := ⟨B, 0, none⟩) (lt_of_cell hB)).trans hB) ((hf (qs j) _ (mem_getA gs j (by rw [hr.1]; exact hj)) (hq j hj)).below hb)
  rintro e w' ⟨⟨us, rfl, ho, hl⟩, hb⟩
  refine ⟨⟨_, _, _, rfl, ?_⟩, hb⟩
  have h1 := ho.lies (Nat.le_refl _)
  have h2 := lies_all (N := w.heap.size) (fun j hj => (hl j hj).mono (Nat.le_succ _))
  refine (h1.and h2).imp (fun V hV => accs_out hV.1 (by rw [List.length_map]; exact hr.1) (by have := hr.2.1; omega) (fun j hj => ?_))
  have hjl : j < gs.length := by rw [hr.1]; exact hj
  have := hV.2 j hj
  simpa [hjl] using this
/-- What becomes of a statement. -/
def remS (s : Stm) (box : List Int) (f : List Int × Int → List Int × Int) : Stm := ⟨box, s.rows.map f, s.kind, s.val, (s.put.1, f s.put.2), s.gets.map fun a => (a.1, f a.2)⟩
/-- It is that, in blocks from N on; its rows are just there. -/
def RemP (N : Nat) (u : SW) (s : Stm) (box : List Int) (f : List Int × Int → List Int × Int) (w : World) : Prop := ∃ (R : Nat) (us : Nat → RW), u.ra = some ⟨R, 0, none⟩ ∧ u.rc = u.rl ∧ Lies N (fun V => SG V u (remS s box f) ∧ RwsX V R us u.rl (s.rows.map f)) w
theorem sw_set {q : SW} {W : World} {b : Nat} (h : q.blk W b) (a : Option Addr) (l c : Nat) (a' : Option Addr) (l' c' : Nat) : (⟨a, l, c, a', l', c', q.kd, q.va, q.pu, q.ga, q.gl, q.gc⟩ : SW).blk ((W.setCell ⟨b, 0, none⟩ (.slice a l c)).setCell ⟨b, 1, none⟩ (.slice a' l' c')) b := by
  unfold SW.blk SW.cs at h ⊢
  simp [World.setCell, Array.getElem?_modify, h]
theorem sw_set2 {q : SW} {W : World} {b : Nat} (h : q.blk W b) (u : AW) (a' : Option Addr) (l' c' : Nat) : (⟨q.ba, q.bl, q.bc, q.ra, q.rl, q.rc, q.kd, q.va, u, a', l', c'⟩ : SW).blk ((((W.setCell ⟨b, 4, none⟩ (.int .i64 u.arr)).setCell ⟨b, 5, none⟩ (.slice u.ca u.cl u.cc)).setCell ⟨b, 6, none⟩ (.int .i64 u.con)).setCell ⟨b, 7, none⟩ (.slice a' l' c')) b := by
  unfold SW.blk SW.cs at h ⊢
  simp [World.setCell, Array.getElem?_modify, h]
def putS8 (W : World) (b : Nat) (q : SW) : World := (((((((W.setCell ⟨b, 0, none⟩ (.slice q.ba q.bl q.bc)).setCell ⟨b, 1, none⟩ (.slice q.ra q.rl q.rc)).setCell ⟨b, 2, none⟩ (.int .i64 q.kd)).setCell ⟨b, 3, none⟩ (.int .i64 q.va)).setCell ⟨b, 4, none⟩ (.int .i64 q.pu.arr)).setCell ⟨b, 5, none⟩ (.slice q.pu.ca q.pu.cl q.pu.cc)).setCell ⟨b, 6, none⟩ (.int .i64 q.pu.con)).setCell ⟨b, 7, none⟩ (.slice q.ga q.gl q.gc)
theorem putS8_blk {q u : SW} {W : World} {b : Nat} (h : q.blk W b) : u.blk (putS8 W b u) b := by
  unfold SW.blk SW.cs putS8 at *
  simp [World.setCell, Array.getElem?_modify, h]
theorem putS8_size (W : World) (b : Nat) (q : SW) : (putS8 W b q).heap.size = W.heap.size := by simp [putS8]
theorem putS8_keep {N : Nat} {W : World} {b : Nat} (h : b < N) (q : SW) : KeepF N W (putS8 W b q) := by
  refine ⟨fun j _ _ h1 _ _ => ?_, by rw [putS8_size]; exact Nat.le_refl _⟩
  unfold putS8
  have hne : j ≠ b := by omega
  simp [World.setCell, Array.getElem?_modify, hne.symm]
theorem putS8_below {w W : World} {b : Nat} (hb : Below w.heap.size w W) (h : w.heap.size ≤ b) (q : SW) : Below w.heap.size w (putS8 W b q) := by
  unfold putS8
  exact ((((((((hb.setCell (p := ⟨b, 0, none⟩) h _).setCell (p := ⟨b, 1, none⟩) h _).setCell (p := ⟨b, 2, none⟩) h _).setCell (p := ⟨b, 3, none⟩) h _).setCell (p := ⟨b, 4, none⟩) h _).setCell (p := ⟨b, 5, none⟩) h _).setCell (p := ⟨b, 6, none⟩) h _).setCell (p := ⟨b, 7, none⟩) h _)
theorem SW.blk.free {q : SW} {w : World} {b : Nat} (h : q.blk w b) (i : Nat) : w.frozen? ⟨b, i, none⟩ = false := by
  unfold SW.blk at h
  simp [World.frozen?, h]
set_option maxRecDepth 100000 in
set_option maxHeartbeats 4000000 in
theorem remade_any (q : SW) (s : Stm) (box : List Int) (f : List Int × Int → List Int × Int) (gb : Nat) (bb : Array Value) (go : Nat) (bo : Array Value) (eb : ∀ args w, (callFunc gb args).run Try.prog w = .ok (.enter gb args) w) (eg : ∀ args w, (callFunc go args).run Try.prog w = .ok (.enter go args) w) (w : World) (hq : SG w q s) (hrl : q.rl ≤ 8) (hgl : q.gl ≤ 3)
    (hbox : ∀ W, Below w.heap.size w W → Calls Try.prog gb (#[.slice q.ba q.bl q.bc] ++ bb) W fun e w' => (∃ a l c, e = .returned (.slice a l c) ∧ Lies W.heap.size (fun V => Lst V a l c box) w') ∧ Below W.heap.size W w')
    (hf : ∀ W, Below w.heap.size w W → ∀ r x, (x ∈ s.rows ∨ x = s.put.2 ∨ ∃ a ∈ s.gets, x = a.2) → RG W r x → RowFn go bo r (f x) W) :
    Calls Try.prog 72 #[q.v, .func (.func gb) #[] bb, .func (.func go) #[] bo] w fun e w' => (∃ u : SW, e = .returned u.v ∧ RemP w.heap.size u s box f w') ∧ Below w.heap.size w w' := by
  have B1 : Below w.heap.size w (((w.alloc (.cells q.cs 71)).alloc (.cells #[.func (.func go) #[] bo] 131)).alloc (.cells swD.cs 71)) := bl_on (bl_new _) (bl_on (bl_new _) (bl_new _))
  have P1 : q.blk (((w.alloc (.cells q.cs 71)).alloc (.cells #[.func (.func go) #[] bo] 131)).alloc (.cells swD.cs 71)) w.heap.size := ((q.new w).below (bl_new _)).below (bl_new _)
  have P2 := SW.new swD ((w.alloc (.cells q.cs 71)).alloc (.cells #[.func (.func go) #[] bo] 131))
  have P3 : (((w.alloc (.cells q.cs 71)).alloc (.cells #[.func (.func go) #[] bo] 131)).alloc (.cells swD.cs 71)).cell? ⟨w.heap.size + 1, 0, none⟩ = some (.func (.func go) #[] bo) := by
    have e : ((w.alloc (.cells q.cs 71)).alloc (.cells #[.func (.func go) #[] bo] 131)).heap[w.heap.size + 1]? = some (.cells #[.func (.func go) #[] bo] 131 (0, 0)) := by
      have := World.alloc_heap_new (w.alloc (.cells q.cs 71)) (.cells #[.func (.func go) #[] bo] 131)
      rw [World.size_alloc] at this
      exact this
    have e2 := (Below.heap_alloc _ (.cells swD.cs 71) (w.heap.size + 1) (by simp)).trans e
    simp only [World.cell?, e2]
    rfl
  rw [World.size_alloc, World.size_alloc] at P2
  obtain ⟨W1, hW1⟩ : ∃ W1, W1 = ((w.alloc (.cells q.cs 71)).alloc (.cells #[.func (.func go) #[] bo] 131)).alloc (.cells swD.cs 71) := ⟨_, rfl⟩
  rw [← hW1] at B1 P1 P2 P3
  have hz : W1.heap.size = w.heap.size + 3 := by rw [hW1]; simp
  have HZ := hide hz
  have HBOX := hide (fun W (hb : Below W1.heap.size W1 W) => hbox W (bl_on B1 hb))
  have HROWS := hide (fun W (hb : Below W1.heap.size W1 W) => eachRows q.ra q.rl q.rc s.rows f go bo eg W (hq.rows.below (bl_on B1 hb)) (by omega) (fun r x hx hr => hf W (bl_on B1 hb) r x (.inl hx) hr))
  have HPUT := hide (fun W (hb : Below w.heap.size w W) (hc : W.cell? ⟨w.heap.size + 1, 0, none⟩ = some (.func (.func go) #[] bo)) => access_any q.pu s.put (f s.put.2) (w.heap.size + 1) go bo eg W (hq.put.below hb) hc (hf W hb q.pu.row s.put.2 (.inr (.inl rfl)) ⟨(hq.put.below hb).con, (hq.put.below hb).coef, (hq.put.below hb).cap, (hq.put.below hb).bd.2⟩))
  have HGETS := hide (fun W (hb : Below w.heap.size w W) (hc : W.cell? ⟨w.heap.size + 1, 0, none⟩ = some (.func (.func go) #[] bo)) => eachAccs q.ga q.gl q.gc s.gets f (w.heap.size + 1) go bo eg W (hq.gets.below hb) (by omega) hc (fun r x hx hr => hf W hb r.row x.2 (.inr (.inr ⟨x, hx, rfl⟩)) ⟨hr.con, hr.coef, hr.cap, hr.bd.2⟩))
  unfold AW.v at HPUT
  have HKD := hide (And.intro (And.intro hq.kd hq.va) hq.bd)
  have po := P3
  obtain ⟨p0, p1, p2, p3, p4, p5, p6, p7⟩ := P1.cells
  have HP1 := hide P1
  have HP2 := hide P2
  have HP3 := hide P3
  have HB := hide B1
  have HW1 := hide hW1
  clear hf hbox B1 P1 P2 P3 hW1 hq hz hrl hgl
  unfold SW.v SW.cs
  unfold SW.cs swD at HW1
  go_enter Try.func72, Try.ntmps72
  go_upto_region 2 with fail
  rw [← HW1.out]
  refine region_made 12 16 [fIs (.func (.func gb) #[] bb), fIs (.pointer (some ⟨w.heap.size, 0, none⟩)), fIs (.pointer (some ⟨w.heap.size, 0, none⟩)), fIs (.slice q.ba q.bl q.bc), fBox W1.heap.size box, fIs (.pointer (some ⟨w.heap.size, 0, none⟩)), fIs (.pointer (some ⟨w.heap.size, 1, none⟩)), fIs (.slice q.ra q.rl q.rc), fIs (.func (.func go) #[] bo), fRws W1.heap.size (s.rows.map f), fPts W1.heap.size box (s.rows.map f), fIs (.pointer (some ⟨w.heap.size, 0, none⟩))] (by kernel_rfl) (by kernel_rfl) (by kernel_rfl) (fun _ ⟨_, _⟩ ⟨_, _⟩ _ e h => by cases e; exact h) ⟨fIs_good _, fIs_good _, fIs_good _, fIs_good _, fBox_good _ _, fIs_good _, fIs_good _, fIs_good _, fIs_good _, fRws_good _ _, fPts_good _ _ _, fIs_good _, trivial⟩ ?mk ?rest
  case mk =>
    refine ⟨fun u wz hb hd => ?_, fun u wz hb hd => ?_, fun u wz hb hd => ?_, fun u wz hb hd => ?_, fun u wz hb hd => ?_, fun u wz hb hd => ?_, fun u wz hb hd => ?_, fun u wz hb hd => ?_, fun u wz hb hd => ?_, fun u wz hb hd => ?_, fun u wz hb hd => ?_, fun u wz hb hd => ?_, trivial⟩
    all_goals simp only [Act.put, List.setIfInBounds_toArray, List.set_cons_zero, List.set_cons_succ]
    · go_simp
      exact ⟨rfl, Below.refl _ _, fun h => by cases h⟩
    · go_simp
      exact ⟨rfl, Below.refl _ _, fun h => by cases h⟩
    · have e1 : u 1 = .pointer (some ⟨w.heap.size, 0, none⟩) := hd 1 (by omega) (by kernel_rfl)
      rw [e1]
      go_simp
      exact ⟨rfl, Below.refl _ _, fun h => by cases h⟩
    · have e2 : u 2 = .pointer (some ⟨w.heap.size, 0, none⟩) := hd 2 (by omega) (by kernel_rfl)
      rw [e2]
      have p0' := (hb.cell (p := ⟨w.heap.size, 0, none⟩) (lt_of_cell p0)).trans p0
      go_simp
      exact ⟨rfl, Below.refl _ _, fun h => by cases h⟩
    · have e0 : u 0 = .func (.func gb) #[] bb := hd 0 (by omega) (by kernel_rfl)
      have e3 : u 3 = .slice q.ba q.bl q.bc := hd 3 (by omega) (by kernel_rfl)
      rw [e0, e3]
      go_simp
      refine (HBOX.out wz hb).mono ?_
      rintro e w2 ⟨⟨a, l, c, rfl, hl⟩, hb2⟩
      exact ⟨⟨a, l, c, rfl, hl.mono hb.size⟩, hb2, fun h => by cases h⟩
    · go_simp
      exact ⟨rfl, Below.refl _ _, fun h => by cases h⟩
    · have e5 : u 5 = .pointer (some ⟨w.heap.size, 0, none⟩) := hd 5 (by omega) (by kernel_rfl)
      rw [e5]
      go_simp
      exact ⟨rfl, Below.refl _ _, fun h => by cases h⟩
    · have e6 : u 6 = .pointer (some ⟨w.heap.size, 1, none⟩) := hd 6 (by omega) (by kernel_rfl)
      rw [e6]
      have p1' := (hb.cell (p := ⟨w.heap.size, 1, none⟩) (lt_of_cell p1)).trans p1
      go_simp
      exact ⟨rfl, Below.refl _ _, fun h => by cases h⟩
    · have po' := (hb.cell (p := ⟨w.heap.size + 1, 0, none⟩) (lt_of_cell po)).trans po
      go_simp
      exact ⟨rfl, Below.refl _ _, fun h => by cases h⟩
    · have e7 : u 7 = .slice q.ra q.rl q.rc := hd 7 (by omega) (by kernel_rfl)
      have e8 : u 8 = .func (.func go) #[] bo := hd 8 (by omega) (by kernel_rfl)
      rw [e7, e8]
      go_simp
      refine (HROWS.out wz hb).mono ?_
      rintro e w2 ⟨⟨a, l, c, rfl, hl⟩, hb2⟩
      exact ⟨⟨a, l, c, rfl, hl.mono hb.size⟩, hb2, fun h => by cases h⟩
    · obtain ⟨xa, xl, xc, e4, h4⟩ := hd 4 (by omega) (by kernel_rfl)
      obtain ⟨ya, yl, yc, e9, h9⟩ := hd 9 (by omega) (by kernel_rfl)
      rw [e4, e9]
      go_simp
      exact ⟨⟨xa, xl, xc, ya, yl, yc, rfl, h4.and h9⟩, Below.refl _ _, fun h => by cases h⟩
    · go_simp
      exact ⟨rfl, Below.refl _ _, fun h => by cases h⟩
  case rest =>
    intro u wz hb hf hp
    have f0 : u 0 = .func (.func gb) #[] bb := hf 0 (by omega)
    have f1 : u 1 = .pointer (some ⟨w.heap.size, 0, none⟩) := hf 1 (by omega)
    have f2 : u 2 = .pointer (some ⟨w.heap.size, 0, none⟩) := hf 2 (by omega)
    have f3 : u 3 = .slice q.ba q.bl q.bc := hf 3 (by omega)
    obtain ⟨_, _, _, f4, _⟩ := hf 4 (by omega)
    have f5 : u 5 = .pointer (some ⟨w.heap.size, 0, none⟩) := hf 5 (by omega)
    have f6 : u 6 = .pointer (some ⟨w.heap.size, 1, none⟩) := hf 6 (by omega)
    have f7 : u 7 = .slice q.ra q.rl q.rc := hf 7 (by omega)
    have f8 : u 8 = .func (.func go) #[] bo := hf 8 (by omega)
    obtain ⟨_, _, _, f9, _⟩ := hf 9 (by omega)
    obtain ⟨ba, bl, bc, RR, rus, rl, f10, hP⟩ := hf 10 (by omega)
    have f11 : u 11 = .pointer (some ⟨w.heap.size, 0, none⟩) := hf 11 (by omega)
    refine UptoW.rest 1 12 (by rfl) (by kernel_rfl) ?_
    simp only [List.take, List.drop, putOps, Act.put, List.setIfInBounds_toArray, List.set_cons_zero, List.set_cons_succ, Nat.reduceAdd, f0, f1, f2, f3, f4, f5, f6, f7, f8, f9, f10, f11]
    clear f0 f1 f2 f3 f4 f5 f6 f7 f8 f9 f10 f11 hf hp
    have P5 := HP1.out.below hb
    have HP5 := hide P5
    have HL := hide hP
    have HB3 := hide (bl_on HB.out hb)
    have HB1 := hide hb
    have z5 := P5.lt
    obtain ⟨p0, p1, p2, p3, p4, p5, p6, p7⟩ := P5.cells
    have g0 := P5.free 0
    have g1 := P5.free 1
    clear hb P5 hP po
    go_upto_region 3 with fail
    obtain ⟨W2, hW2⟩ : ∃ W2, W2 = (wz.setCell ⟨w.heap.size, 0, none⟩ (.slice ba bl bc)).setCell ⟨w.heap.size, 1, none⟩ (.slice (some ⟨RR, 0, none⟩) rl rl) := ⟨_, rfl⟩
    rw [← hW2]
    have hA : w.heap.size < W1.heap.size := by have := HZ.out; omega
    have P6 := sw_set HP5.out ba bl bc (some ⟨RR, 0, none⟩) rl rl
    rw [← hW2] at P6
    have HL2 := (HL.out.set (p := ⟨w.heap.size, 0, none⟩) hA (.slice ba bl bc)).set (p := ⟨w.heap.size, 1, none⟩) hA (.slice (some ⟨RR, 0, none⟩) rl rl)
    rw [← hW2] at HL2
    have B2 := (HB3.out.setCell (p := ⟨w.heap.size, 0, none⟩) (Nat.le_refl _) (.slice ba bl bc)).setCell (p := ⟨w.heap.size, 1, none⟩) (Nat.le_refl _) (.slice (some ⟨RR, 0, none⟩) rl rl)
    rw [← hW2] at B2
    have hS2 : W2.heap.size = wz.heap.size := by rw [hW2, World.size_setCell, World.size_setCell]
    have po : W2.cell? ⟨w.heap.size + 1, 0, none⟩ = some (.func (.func go) #[] bo) := by
      have e1 : W2.heap[w.heap.size + 1]? = wz.heap[w.heap.size + 1]? := by
        rw [hW2]
        exact (Below.heap_setCell _ ⟨w.heap.size, 1, none⟩ _ _ (by simp only; omega)).trans (Below.heap_setCell _ ⟨w.heap.size, 0, none⟩ _ _ (by simp only; omega))
      have e2 := (HB1.out.cell (p := ⟨w.heap.size + 1, 0, none⟩) (lt_of_cell HP3.out)).trans HP3.out
      exact (World.cell?_of_block (w := wz) e1).trans e2
    have P7 : swD.blk W2 (w.heap.size + 1 + 1) := by
      have e1 : W2.heap[w.heap.size + 1 + 1]? = wz.heap[w.heap.size + 1 + 1]? := by
        rw [hW2]
        exact (Below.heap_setCell _ ⟨w.heap.size, 1, none⟩ _ _ (by simp only; omega)).trans (Below.heap_setCell _ ⟨w.heap.size, 0, none⟩ _ _ (by simp only; omega))
      exact e1.trans (HP2.out.below HB1.out)
    have HPUT2 := hide (fun W (hb : Below W2.heap.size W2 W) => HPUT.out W (bl_on B2 hb) ((hb.cell (p := ⟨w.heap.size + 1, 0, none⟩) (lt_of_cell po)).trans po))
    have HGETS2 := hide (fun W (hb : Below W2.heap.size W2 W) => HGETS.out W (bl_on B2 hb) ((hb.cell (p := ⟨w.heap.size + 1, 0, none⟩) (lt_of_cell po)).trans po))
    have HSZ : Hid (W1.heap.size ≤ W2.heap.size) := by rw [Hid, hS2]; exact HB1.out.size
    have HP6 := hide P6
    have HP7 := hide P7
    have HLB := hide HL2
    have HBW2 := hide B2
    clear p0 p1 p2 p3 p4 p5 p6 p7 g0 g1 z5 HL HB3 HP5 HB1 hW2 hS2 P7 HL2 B2 po HPUT HGETS HP1 HP2 HP3 HBOX HROWS
    obtain ⟨p0, p1, p2, p3, p4, p5, p6, p7⟩ := P6.cells
    simp only at p4 p5 p6 p7
    clear P6
    refine region_made 9 16 [fIs (.func (.func 97) #[] #[.pointer (some ⟨w.heap.size + 1, 0, none⟩)]), fIs (.pointer (some ⟨w.heap.size, 4, none⟩)), fIs (.agg #[.int .i64 q.pu.arr, .slice q.pu.ca q.pu.cl q.pu.cc, .int .i64 q.pu.con]), fAG W1.heap.size (s.put.1, f s.put.2), fIs (.pointer (some ⟨w.heap.size, 7, none⟩)), fIs (.slice q.ga q.gl q.gc), fIs (.func (.func 97) #[] #[.pointer (some ⟨w.heap.size + 1, 0, none⟩)]), fAccs W1.heap.size (s.gets.map fun a => (a.1, f a.2)), fIs (.pointer (some ⟨w.heap.size, 4, none⟩))] (by kernel_rfl) (by kernel_rfl) (by kernel_rfl) (fun _ ⟨_, _⟩ ⟨_, _⟩ _ e h => by cases e; exact h) ⟨fIs_good _, fIs_good _, fIs_good _, fAG_good _ _, fIs_good _, fIs_good _, fIs_good _, fAccs_good _ _, fIs_good _, trivial⟩ ?mk ?rest
    case mk =>
      refine ⟨fun u wz hb hd => ?_, fun u wz hb hd => ?_, fun u wz hb hd => ?_, fun u wz hb hd => ?_, fun u wz hb hd => ?_, fun u wz hb hd => ?_, fun u wz hb hd => ?_, fun u wz hb hd => ?_, fun u wz hb hd => ?_, trivial⟩
      all_goals simp only [Act.put, List.setIfInBounds_toArray, List.set_cons_zero, List.set_cons_succ]
      · go_simp
        exact ⟨rfl, Below.refl _ _, fun h => by cases h⟩
      · go_simp
        exact ⟨rfl, Below.refl _ _, fun h => by cases h⟩
      · have e1 : u 1 = .pointer (some ⟨w.heap.size, 4, none⟩) := hd 1 (by omega) (by kernel_rfl)
        rw [e1]
        have p4' := (hb.cell (p := ⟨w.heap.size, 4, none⟩) (lt_of_cell p4)).trans p4
        have p5' := (hb.cell (p := ⟨w.heap.size, 5, none⟩) (lt_of_cell p5)).trans p5
        have p6' := (hb.cell (p := ⟨w.heap.size, 6, none⟩) (lt_of_cell p6)).trans p6
        go_simp
        exact ⟨rfl, Below.refl _ _, fun h => by cases h⟩
      · have e0 : u 0 = .func (.func 97) #[] #[.pointer (some ⟨w.heap.size + 1, 0, none⟩)] := hd 0 (by omega) (by kernel_rfl)
        have e2 : u 2 = .agg #[.int .i64 q.pu.arr, .slice q.pu.ca q.pu.cl q.pu.cc, .int .i64 q.pu.con] := hd 2 (by omega) (by kernel_rfl)
        rw [e0, e2]
        go_simp
        refine (HPUT2.out wz hb).mono ?_
        rintro e w2 ⟨⟨u, rfl, hl⟩, hb2⟩
        exact ⟨⟨u, rfl, hl.mono (Nat.le_trans HSZ.out hb.size)⟩, hb2, fun h => by cases h⟩
      · go_simp
        exact ⟨rfl, Below.refl _ _, fun h => by cases h⟩
      · have e4 : u 4 = .pointer (some ⟨w.heap.size, 7, none⟩) := hd 4 (by omega) (by kernel_rfl)
        rw [e4]
        have p7' := (hb.cell (p := ⟨w.heap.size, 7, none⟩) (lt_of_cell p7)).trans p7
        go_simp
        exact ⟨rfl, Below.refl _ _, fun h => by cases h⟩
      · go_simp
        exact ⟨rfl, Below.refl _ _, fun h => by cases h⟩
      · have e5 : u 5 = .slice q.ga q.gl q.gc := hd 5 (by omega) (by kernel_rfl)
        have e6 : u 6 = .func (.func 97) #[] #[.pointer (some ⟨w.heap.size + 1, 0, none⟩)] := hd 6 (by omega) (by kernel_rfl)
        rw [e5, e6]
        go_simp
        refine (HGETS2.out wz hb).mono ?_
        rintro e w2 ⟨⟨a, l, c, rfl, hl⟩, hb2⟩
        exact ⟨⟨a, l, c, rfl, hl.mono (Nat.le_trans HSZ.out hb.size)⟩, hb2, fun h => by cases h⟩
      · go_simp
        exact ⟨rfl, Below.refl _ _, fun h => by cases h⟩
    case rest =>
      intro u wz hb hf hp
      have f0 : u 0 = .func (.func 97) #[] #[.pointer (some ⟨w.heap.size + 1, 0, none⟩)] := hf 0 (by omega)
      have f1 : u 1 = .pointer (some ⟨w.heap.size, 4, none⟩) := hf 1 (by omega)
      have f2 : u 2 = .agg #[.int .i64 q.pu.arr, .slice q.pu.ca q.pu.cl q.pu.cc, .int .i64 q.pu.con] := hf 2 (by omega)
      obtain ⟨pu, f3, hPU⟩ := hf 3 (by omega)
      have f4 : u 4 = .pointer (some ⟨w.heap.size, 7, none⟩) := hf 4 (by omega)
      have f5 : u 5 = .slice q.ga q.gl q.gc := hf 5 (by omega)
      have f6 : u 6 = .func (.func 97) #[] #[.pointer (some ⟨w.heap.size + 1, 0, none⟩)] := hf 6 (by omega)
      obtain ⟨ga, gl, gc, f7, hGS⟩ := hf 7 (by omega)
      have f8 : u 8 = .pointer (some ⟨w.heap.size, 4, none⟩) := hf 8 (by omega)
      refine UptoW.rest 3 9 (by rfl) (by kernel_rfl) ?_
      simp only [List.take, List.drop, putOps, Act.put, List.setIfInBounds_toArray, List.set_cons_zero, List.set_cons_succ, Nat.reduceAdd, f0, f1, f2, f3, f4, f5, f6, f7, f8]
      clear f0 f1 f2 f3 f4 f5 f6 f7 f8 hf hp
      have P5 := HP6.out.below hb
      have HP5 := hide P5
      have HB3 := hide (bl_on HBW2.out hb)
      have z5 := P5.lt
      have z6 := (HP7.out.below hb).lt
      have HP8 := hide (HP7.out.below hb)
      have HL3 := hide ((HLB.out.below hb).and (hPU.and hGS))
      have g4 := P5.free 4
      have g5 := P5.free 5
      have g6 := P5.free 6
      have g7 := P5.free 7
      clear p0 p1 p2 p3 p4 p5 p6 p7
      obtain ⟨p0, p1, p2, p3, p4, p5, p6, p7⟩ := P5.cells
      simp only at p0 p1 p2 p3 p4 p5 p6 p7
      clear hb P5 hPU hGS HLB HP6 HP7
      unfold AW.v
      go_upto_region 4 with fail
      obtain ⟨W3, hW3⟩ : ∃ W3, W3 = (((wz.setCell ⟨w.heap.size, 4, none⟩ (.int .i64 pu.arr)).setCell ⟨w.heap.size, 5, none⟩ (.slice pu.ca pu.cl pu.cc)).setCell ⟨w.heap.size, 6, none⟩ (.int .i64 pu.con)).setCell ⟨w.heap.size, 7, none⟩ (.slice ga gl gc) := ⟨_, rfl⟩
      rw [← hW3]
      have P6 := sw_set2 HP5.out pu ga gl gc
      rw [← hW3] at P6
      simp only at P6
      have HL4 := (((HL3.out.set (p := ⟨w.heap.size, 4, none⟩) hA (.int .i64 pu.arr)).set (p := ⟨w.heap.size, 5, none⟩) hA (.slice pu.ca pu.cl pu.cc)).set (p := ⟨w.heap.size, 6, none⟩) hA (.int .i64 pu.con)).set (p := ⟨w.heap.size, 7, none⟩) hA (.slice ga gl gc)
      rw [← hW3] at HL4
      have B4 := (((HB3.out.setCell (p := ⟨w.heap.size, 4, none⟩) (Nat.le_refl _) (.int .i64 pu.arr)).setCell (p := ⟨w.heap.size, 5, none⟩) (Nat.le_refl _) (.slice pu.ca pu.cl pu.cc)).setCell (p := ⟨w.heap.size, 6, none⟩) (Nat.le_refl _) (.int .i64 pu.con)).setCell (p := ⟨w.heap.size, 7, none⟩) (Nat.le_refl _) (.slice ga gl gc)
      rw [← hW3] at B4
      have P7 : swD.blk W3 (w.heap.size + 1 + 1) := by
        have e1 : W3.heap[w.heap.size + 1 + 1]? = wz.heap[w.heap.size + 1 + 1]? := by
          rw [hW3]
          exact (Below.heap_setCell _ ⟨w.heap.size, 7, none⟩ _ _ (by simp only; omega)).trans ((Below.heap_setCell _ ⟨w.heap.size, 6, none⟩ _ _ (by simp only; omega)).trans ((Below.heap_setCell _ ⟨w.heap.size, 5, none⟩ _ _ (by simp only; omega)).trans (Below.heap_setCell _ ⟨w.heap.size, 4, none⟩ _ _ (by simp only; omega))))
        exact e1.trans HP8.out
      obtain ⟨q3, hq3⟩ : ∃ q3 : SW, q3 = ⟨ba, bl, bc, some ⟨RR, 0, none⟩, rl, rl, q.kd, q.va, pu, ga, gl, gc⟩ := ⟨_, rfl⟩
      have HQ3 := hide hq3
      have HP6 := hide P6
      have HP7 := hide P7
      have HL5 := hide HL4
      have HB4 := hide B4
      clear p0 p1 p2 p3 p4 p5 p6 p7 g4 g5 g6 g7 z5 z6 hW3 HL4 B4 HP5 HL3 HP8 HB3 hq3
      obtain ⟨p0, p1, p2, p3, p4, p5, p6, p7⟩ := P6.cells
      simp only at p0 p1 p2 p3 p4 p5 p6 p7
      obtain ⟨y0, y1, y2, y3, y4, y5, y6, y7⟩ := P7.cells
      have g0 := P7.free 0
      have g1 := P7.free 1
      have g2 := P7.free 2
      have g3 := P7.free 3
      have g4 := P7.free 4
      have g5 := P7.free 5
      have g6 := P7.free 6
      have g7 := P7.free 7
      have z5 := P6.lt
      have z6 := P7.lt
      unfold swD at y0 y1 y2 y3 y4 y5 y6 y7
      clear P6 P7
      go_wp2_with fail
      obtain ⟨W5, hW5⟩ : ∃ W5, W5 = putS8 W3 (w.heap.size + 1 + 1) ⟨ba, bl, bc, some ⟨RR, 0, none⟩, rl, rl, q.kd, q.va, pu, ga, gl, gc⟩ := ⟨_, rfl⟩
      have hW5' := hW5
      unfold putS8 at hW5'
      simp only at hW5'
      rw [← hW5']
      rw [← HQ3.out] at hW5
      have P9 : q3.blk W5 (w.heap.size + 1 + 1) := by rw [hW5]; exact putS8_blk HP7.out
      obtain ⟨x0, x1, x2, x3, x4, x5, x6, x7⟩ := P9.cells
      refine bodyPost_ret (v := q3.v) (by simp [results, Try.results72, go_sem, x0, x1, x2, x3, x4, x5, x6, x7, SW.v, SW.cs]) rfl ⟨⟨q3, rfl, RR, rus, by rw [HQ3.out], by rw [HQ3.out], ?_⟩, ?_⟩
      · have hL := HL5.out.keep (putS8_keep (b := w.heap.size + 1 + 1) (by have := HZ.out; omega) q3)
        rw [← hW5] at hL
        refine (hL.mono (by omega)).imp (fun V hV => ?_)
        obtain ⟨⟨h1, h2⟩, h4, h5⟩ := hV
        obtain ⟨⟨k1, k2⟩, k3⟩ := HKD.out
        rw [HQ3.out]
        exact ⟨⟨h1, h2.rws, k1, k2, h4, h5, k3⟩, h2⟩
      · rw [hW5]
        exact putS8_below HB4.out (by omega) _
end Go.Proofs.Ytoidgdbgpbcebaa.V
