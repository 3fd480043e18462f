/-
  Contract: order.remade, over whatever functions. Spots of the program: their words; contracts: order.lead, the closure that leads. A map from places to two lists. A map from places to two lists: an entry is put.
-/
import Derived.Test.YtkbdnhchlkafnaaK13
import Derived.Deep.DeepCutAuto
import Derived.Test.YtkbdnhchlkafnaaK10
import Derived.Test.YtkbdnhchlkafnaaK6
import Derived.Test.YtkbdnhchlkafnaaK8
import Derived.Laws.StructEq
import Derived.MapKept
namespace Go.Proofs.Ytkbdnhchlkafnaa.V
open Go.RowKit
set_option linter.unusedVariables false

def fBox (N : Nat) (box : List Int) : Fact := ⟨fun v w => ∃ a l c, v = .slice a l c ∧ Lies N (fun V => Lst V a l c box) w, false⟩
theorem fBox_good (N : Nat) (box : List Int) : (fBox N box).Good := ⟨fun _ _ _ ⟨a, l, c, h1, h2⟩ hb => ⟨a, l, c, h1, h2.below hb⟩, fun h => by cases h⟩
/-- Rows in a block, with their words. -/
structure RwsX (V : World) (R : Nat) (us : Nat → RW) (l : Nat) (rs : List (List Int × Int)) : Prop where
  out : OutR V R l us l
  good : ∀ j, j < l → RG V (us j) (rs[j]?.getD ([], 0))
  len : rs.length = l
  big : l ≤ 9223372036854775807
def fRws (N : Nat) (rs : List (List Int × Int)) : Fact := ⟨fun v w => ∃ R us l, v = .slice (some ⟨R, 0, none⟩) l l ∧ Lies N (fun V => RwsX V R us l rs) w, false⟩
theorem fRws_good (N : Nat) (rs : List (List Int × Int)) : (fRws N rs).Good := ⟨fun _ _ _ ⟨R, us, l, h1, h2⟩ hb => ⟨R, us, l, h1, h2.below hb⟩, fun h => by cases h⟩
def fPts (N : Nat) (box : List Int) (rs : List (List Int × Int)) : Fact := ⟨fun v w => ∃ a l c R us m, v = .agg #[.slice a l c, .slice (some ⟨R, 0, none⟩) m m] ∧ Lies N (fun V => Lst V a l c box ∧ RwsX V R us m rs) w, false⟩
theorem fPts_good (N : Nat) (box : List Int) (rs : List (List Int × Int)) : (fPts N box rs).Good := ⟨fun _ _ _ ⟨a, l, c, R, us, m, h1, h2⟩ hb => ⟨a, l, c, R, us, m, h1, h2.below hb⟩, fun h => by cases h⟩
def fAccs (N : Nat) (gs : List Acc) : Fact := ⟨fun v w => ∃ a l c, v = .slice a l c ∧ Lies N (fun V => Accs V a l gs) w, false⟩
theorem fAccs_good (N : Nat) (gs : List Acc) : (fAccs N gs).Good := ⟨fun _ _ _ ⟨a, l, c, h1, h2⟩ hb => ⟨a, l, c, h1, h2.below hb⟩, fun h => by cases h⟩
def fAG (N : Nat) (y : Acc) : Fact := ⟨fun v w => ∃ u : AW, v = u.v ∧ Lies N (fun V => AG V u y) w, false⟩
theorem fAG_good (N : Nat) (y : Acc) : (fAG N y).Good := ⟨fun _ _ _ ⟨u, h1, h2⟩ hb => ⟨u, h1, h2.below hb⟩, fun h => by cases h⟩
/-- The rows that have been made. -/
theorem rws_out {V : World} {R len : Nat} {us : Nat → RW} {rs : List (List Int × Int)} (h : OutR V R len us len) (hl : rs.length = len) (hm : len ≤ 9223372036854775807) (hg : ∀ j, j < len → RG V (us j) (rs[j]?.getD ([], 0))) : Rws V (some ⟨R, 0, none⟩) len rs := by
  obtain ⟨f, h1, h2⟩ := h
  refine ⟨hl, hm, .inr ⟨R, 0, rfl, fun j hj => ?_⟩⟩
  obtain ⟨e0, e1⟩ := h2 j hj
  have g := hg j hj
  have c0 := h1.cell (i := j * 2) (by omega)
  have c1 := h1.cell (i := j * 2 + 1) (by omega)
  rw [e0] at c0
  rw [e1, g.con] at c1
  exact ⟨_, _, _, by rw [Nat.zero_add]; exact c0, by rw [Nat.zero_add]; exact c1, g.coef, g.cap, g.bd⟩
theorem accs_out {V : World} {R len : Nat} {us : Nat → AW} {gs : List Acc} (h : OutA V R len us len) (hl : gs.length = len) (hm : len ≤ 9223372036854775807) (hg : ∀ j, j < len → AG V (us j) (gs[j]?.getD accD)) : Accs V (some ⟨R, 0, none⟩) len gs := by
  obtain ⟨f, h1, h2⟩ := h
  refine ⟨hl, hm, .inr ⟨R, 0, rfl, fun j hj => ?_⟩⟩
  obtain ⟨e0, e1, e2⟩ := h2 j hj
  have g := hg j hj
  have c0 := h1.cell (i := j * 3) (by omega)
  have c1 := h1.cell (i := j * 3 + 1) (by omega)
  have c2 := h1.cell (i := j * 3 + 2) (by omega)
  rw [e0, g.arr] at c0
  rw [e1] at c1
  rw [e2, g.con] at c2
  exact ⟨by rw [Nat.zero_add]; exact c0, ⟨_, _, _, by rw [Nat.zero_add]; exact c1, by rw [Nat.zero_add]; exact c2, g.coef, g.cap, g.bd.2⟩, g.bd.1⟩
theorem stms_out {V : World} {R len : Nat} {us : Nat → SW} {ss : List Stm} (h : OutS8 V R len us len) (hl : ss.length = len) (hm : len ≤ 9223372036854775807) (hg : ∀ j, j < len → SG V (us j) (ss[j]?.getD stmD)) : Stms V (some ⟨R, 0, none⟩) len ss := by
  obtain ⟨f, h1, h2⟩ := h
  refine ⟨hl, hm, .inr ⟨R, 0, rfl, fun j hj => ?_⟩⟩
  obtain ⟨e0, e1, e2, e3, e4, e5, e6, e7⟩ := h2 j hj
  have cc : ∀ i, i < 8 → V.cell? ⟨R, 0 + j * 8 + i, none⟩ = some (f (j * 8 + i)) := fun i hi => by rw [Nat.zero_add]; exact h1.cell (by omega)
  refine ⟨us j, hg j hj, ?_, ?_, ?_, ?_, ?_, ?_, ?_, ?_⟩
  · rw [← e0]; exact cc 0 (by omega)
  · rw [← e1]; exact cc 1 (by omega)
  · rw [← e2]; exact cc 2 (by omega)
  · rw [← e3]; exact cc 3 (by omega)
  · rw [← e4]; exact cc 4 (by omega)
  · rw [← e5]; exact cc 5 (by omega)
  · rw [← e6]; exact cc 6 (by omega)
  · rw [← e7]; exact cc 7 (by omega)
theorem RwsX.rws {V : World} {R : Nat} {us : Nat → RW} {l : Nat} {rs : List (List Int × Int)} (h : RwsX V R us l rs) : Rws V (some ⟨R, 0, none⟩) l rs := rws_out h.out h.len h.big h.good
/-- list.Each of rows. -/
theorem eachRows (a : Option Addr) (len cap : Nat) (rs : List (List Int × Int)) (f : List Int × Int → List Int × Int) (go : Nat) (bo : Array Value) (eg : ∀ args w, (callFunc go args).run Try.prog w = .ok (.enter go args) w) (w : World) (hr : Rws w a len rs) (hlen : len * 32 ≤ 281474976710656)
    (hf : ∀ q x, x ∈ rs → RG w q x → RowFn go bo q (f x) w) :
    Calls Try.prog 110 #[.slice a len cap, .func (.func go) #[] bo] w fun e w' => (∃ R us l, e = .returned (.slice (some ⟨R, 0, none⟩) l l) ∧ Lies w.heap.size (fun V => RwsX V R us l (rs.map f)) w') ∧ Below w.heap.size w w' := by
  obtain ⟨qs, hq, hin⟩ := rws_words hr
  refine (eachRR a len cap qs go bo eg (fun j u V => RG V u (f (rs[j]?.getD ([], 0)))) w hlen hin (fun j W hj hb _ => hf (qs j) _ (mem_getR rs j (by rw [hr.1]; exact hj)) (hq j hj) W hb)).mono ?_
  rintro e w' ⟨⟨us, rfl, ho, hl⟩, hb⟩
  refine ⟨⟨w.heap.size, us, len, rfl, ?_⟩, hb⟩
  have h1 := ho.lies (Nat.le_refl _)
  have h2 := lies_all (N := w.heap.size) (fun j hj => (hl j hj).mono (Nat.le_succ _))
  refine (h1.and h2).imp (fun V hV => ⟨hV.1, fun j hj => ?_, by rw [List.length_map]; exact hr.1, by have := hr.2.1; omega⟩)
  have hjl : j < rs.length := by rw [hr.1]; exact hj
  have := hV.2 j hj
  simpa [hjl] using this
/-- list.Each of accesses. -/
theorem eachAccs (a : Option Addr) (len cap : Nat) (gs : List Acc) (f : List Int × Int → List Int × Int) (B go : Nat) (bo : Array Value) (eg : ∀ args w, (callFunc go args).run Try.prog w = .ok (.enter go args) w) (w : World) (hr : Accs w a len gs) (hlen : len * 40 ≤ 281474976710656) (hB : w.cell? ⟨B, 0, none⟩ = some (.func (.func go) #[] bo))
    (hf : ∀ q x, x ∈ gs → AG w q x → RowFn go bo q.row (f x.2) w) :
    Calls Try.prog 111 #[.slice a len cap, .func (.func 109) #[] #[.pointer (some ⟨B, 0, none⟩)]] w fun e w' => (∃ a l c, e = .returned (.slice a l c) ∧ Lies w.heap.size (fun V => Accs V a l (gs.map fun a => (a.1, f a.2))) w') ∧ Below w.heap.size w w' := by
  obtain ⟨qs, hq, hin⟩ := accs_words hr
  refine (eachAA a len cap qs 109 #[.pointer (some ⟨B, 0, none⟩)] (enters_of Try.func109 (by kernel_rfl) rfl) (fun j u V => AG V u ((gs[j]?.getD accD).1, f (gs[j]?.getD accD).2)) w hlen hin (fun j W hj hb _ => ?_)).mono ?_
  · exact access_any (qs j) (gs[j]?.getD accD) _ B go bo eg W ((hq j hj).below hb) ((hb.cell (p := ⟨B, 0, none⟩) (lt_of_cell hB)).trans hB) ((hf (qs j) _ (mem_getA gs j (by rw [hr.1]; exact hj)) (hq j hj)).below hb)
  rintro e w' ⟨⟨us, rfl, ho, hl⟩, hb⟩
  refine ⟨⟨_, _, _, rfl, ?_⟩, hb⟩
  have h1 := ho.lies (Nat.le_refl _)
  have h2 := lies_all (N := w.heap.size) (fun j hj => (hl j hj).mono (Nat.le_succ _))
  refine (h1.and h2).imp (fun V hV => accs_out hV.1 (by rw [List.length_map]; exact hr.1) (by have := hr.2.1; omega) (fun j hj => ?_))
  have hjl : j < gs.length := by rw [hr.1]; exact hj
  have := hV.2 j hj
  simpa [hjl] using this
/-- What becomes of a statement. -/
def remS (s : Stm) (box : List Int) (f : List Int × Int → List Int × Int) : Stm := ⟨box, s.rows.map f, s.kind, s.val, (s.put.1, f s.put.2), s.gets.map fun a => (a.1, f a.2)⟩
/-- It is that, in blocks from N on; its rows are just there. -/
def RemP (N : Nat) (u : SW) (s : Stm) (box : List Int) (f : List Int × Int → List Int × Int) (w : World) : Prop := ∃ (R : Nat) (us : Nat → RW), u.ra = some ⟨R, 0, none⟩ ∧ u.rc = u.rl ∧ Lies N (fun V => SG V u (remS s box f) ∧ RwsX V R us u.rl (s.rows.map f)) w
theorem sw_set {q : SW} {W : World} {b : Nat} (h : q.blk W b) (a : Option Addr) (l c : Nat) (a' : Option Addr) (l' c' : Nat) : (⟨a, l, c, a', l', c', q.kd, q.va, q.pu, q.ga, q.gl, q.gc⟩ : SW).blk ((W.setCell ⟨b, 0, none⟩ (.slice a l c)).setCell ⟨b, 1, none⟩ (.slice a' l' c')) b := by
  unfold SW.blk SW.cs at h ⊢
  simp [World.setCell, Array.getElem?_modify, h]
theorem sw_set2 {q : SW} {W : World} {b : Nat} (h : q.blk W b) (u : AW) (a' : Option Addr) (l' c' : Nat) : (⟨q.ba, q.bl, q.bc, q.ra, q.rl, q.rc, q.kd, q.va, u, a', l', c'⟩ : SW).blk ((((W.setCell ⟨b, 4, none⟩ (.int .i64 u.arr)).setCell ⟨b, 5, none⟩ (.slice u.ca u.cl u.cc)).setCell ⟨b, 6, none⟩ (.int .i64 u.con)).setCell ⟨b, 7, none⟩ (.slice a' l' c')) b := by
  unfold SW.blk SW.cs at h ⊢
  simp [World.setCell, Array.getElem?_modify, h]
def putS8 (W : World) (b : Nat) (q : SW) : World := (((((((W.setCell ⟨b, 0, none⟩ (.slice q.ba q.bl q.bc)).setCell ⟨b, 1, none⟩ (.slice q.ra q.rl q.rc)).setCell ⟨b, 2, none⟩ (.int .i64 q.kd)).setCell ⟨b, 3, none⟩ (.int .i64 q.va)).setCell ⟨b, 4, none⟩ (.int .i64 q.pu.arr)).setCell ⟨b, 5, none⟩ (.slice q.pu.ca q.pu.cl q.pu.cc)).setCell ⟨b, 6, none⟩ (.int .i64 q.pu.con)).setCell ⟨b, 7, none⟩ (.slice q.ga q.gl q.gc)
theorem putS8_blk {q u : SW} {W : World} {b : Nat} (h : q.blk W b) : u.blk (putS8 W b u) b := by
  unfold SW.blk SW.cs putS8 at *
  simp [World.setCell, Array.getElem?_modify, h]
theorem putS8_size (W : World) (b : Nat) (q : SW) : (putS8 W b q).heap.size = W.heap.size := by simp [putS8]
theorem putS8_keep {N : Nat} {W : World} {b : Nat} (h : b < N) (q : SW) : KeepF N W (putS8 W b q) := by
  refine ⟨fun j _ _ h1 _ _ => ?_, by rw [putS8_size]; exact Nat.le_refl _⟩
  unfold putS8
  have hne : j ≠ b := by omega
  simp [World.setCell, Array.getElem?_modify, hne.symm]
theorem putS8_below {w W : World} {b : Nat} (hb : Below w.heap.size w W) (h : w.heap.size ≤ b) (q : SW) : Below w.heap.size w (putS8 W b q) := by
  unfold putS8
  exact ((((((((hb.setCell (p := ⟨b, 0, none⟩) h _).setCell (p := ⟨b, 1, none⟩) h _).setCell (p := ⟨b, 2, none⟩) h _).setCell (p := ⟨b, 3, none⟩) h _).setCell (p := ⟨b, 4, none⟩) h _).setCell (p := ⟨b, 5, none⟩) h _).setCell (p := ⟨b, 6, none⟩) h _).setCell (p := ⟨b, 7, none⟩) h _)
theorem SW.blk.free {q : SW} {w : World} {b : Nat} (h : q.blk w b) (i : Nat) : w.frozen? ⟨b, i, none⟩ = false := by
  unfold SW.blk at h
  simp [World.frozen?, h]
set_option maxRecDepth 100000 in
set_option maxHeartbeats 4000000 in
theorem remade_any (q : SW) (s : Stm) (box : List Int) (f : List Int × Int → List Int × Int) (gb : Nat) (bb : Array Value) (go : Nat) (bo : Array Value) (eb : ∀ args w, (callFunc gb args).run Try.prog w = .ok (.enter gb args) w) (eg : ∀ args w, (callFunc go args).run Try.prog w = .ok (.enter go args) w) (w : World) (hq : SG w q s) (hrl : q.rl ≤ 8) (hgl : q.gl ≤ 3)
    (hbox : ∀ W, Below w.heap.size w W → Calls Try.prog gb (#[.slice q.ba q.bl q.bc] ++ bb) W fun e w' => (∃ a l c, e = .returned (.slice a l c) ∧ Lies W.heap.size (fun V => Lst V a l c box) w') ∧ Below W.heap.size W w')
    (hf : ∀ W, Below w.heap.size w W → ∀ r x, (x ∈ s.rows ∨ x = s.put.2 ∨ ∃ a ∈ s.gets, x = a.2) → RG W r x → RowFn go bo r (f x) W) :
    Calls Try.prog 87 #[q.v, .func (.func gb) #[] bb, .func (.func go) #[] bo] w fun e w' => (∃ u : SW, e = .returned u.v ∧ RemP w.heap.size u s box f w') ∧ Below w.heap.size w w' := by
  have B1 : Below w.heap.size w (((w.alloc (.cells q.cs 75)).alloc (.cells #[.func (.func go) #[] bo] 137)).alloc (.cells swD.cs 75)) := bl_on (bl_new _) (bl_on (bl_new _) (bl_new _))
  have P1 : q.blk (((w.alloc (.cells q.cs 75)).alloc (.cells #[.func (.func go) #[] bo] 137)).alloc (.cells swD.cs 75)) w.heap.size := ((q.new w).below (bl_new _)).below (bl_new _)
  have P2 := SW.new swD ((w.alloc (.cells q.cs 75)).alloc (.cells #[.func (.func go) #[] bo] 137))
  have P3 : (((w.alloc (.cells q.cs 75)).alloc (.cells #[.func (.func go) #[] bo] 137)).alloc (.cells swD.cs 75)).cell? ⟨w.heap.size + 1, 0, none⟩ = some (.func (.func go) #[] bo) := by
    have e : ((w.alloc (.cells q.cs 75)).alloc (.cells #[.func (.func go) #[] bo] 137)).heap[w.heap.size + 1]? = some (.cells #[.func (.func go) #[] bo] 137 (0, 0)) := by
      have := World.alloc_heap_new (w.alloc (.cells q.cs 75)) (.cells #[.func (.func go) #[] bo] 137)
      rw [World.size_alloc] at this
      exact this
    have e2 := (Below.heap_alloc _ (.cells swD.cs 75) (w.heap.size + 1) (by simp)).trans e
    simp only [World.cell?, e2]
    rfl
  rw [World.size_alloc, World.size_alloc] at P2
  obtain ⟨W1, hW1⟩ : ∃ W1, W1 = ((w.alloc (.cells q.cs 75)).alloc (.cells #[.func (.func go) #[] bo] 137)).alloc (.cells swD.cs 75) := ⟨_, rfl⟩
  rw [← hW1] at B1 P1 P2 P3
  have hz : W1.heap.size = w.heap.size + 3 := by rw [hW1]; simp
  have HZ := hide hz
  have HBOX := hide (fun W (hb : Below W1.heap.size W1 W) => hbox W (bl_on B1 hb))
  have HROWS := hide (fun W (hb : Below W1.heap.size W1 W) => eachRows q.ra q.rl q.rc s.rows f go bo eg W (hq.rows.below (bl_on B1 hb)) (by omega) (fun r x hx hr => hf W (bl_on B1 hb) r x (.inl hx) hr))
  have HPUT := hide (fun W (hb : Below w.heap.size w W) (hc : W.cell? ⟨w.heap.size + 1, 0, none⟩ = some (.func (.func go) #[] bo)) => access_any q.pu s.put (f s.put.2) (w.heap.size + 1) go bo eg W (hq.put.below hb) hc (hf W hb q.pu.row s.put.2 (.inr (.inl rfl)) ⟨(hq.put.below hb).con, (hq.put.below hb).coef, (hq.put.below hb).cap, (hq.put.below hb).bd.2⟩))
  have HGETS := hide (fun W (hb : Below w.heap.size w W) (hc : W.cell? ⟨w.heap.size + 1, 0, none⟩ = some (.func (.func go) #[] bo)) => eachAccs q.ga q.gl q.gc s.gets f (w.heap.size + 1) go bo eg W (hq.gets.below hb) (by omega) hc (fun r x hx hr => hf W hb r.row x.2 (.inr (.inr ⟨x, hx, rfl⟩)) ⟨hr.con, hr.coef, hr.cap, hr.bd.2⟩))
  unfold AW.v at HPUT
  have HKD := hide (And.intro (And.intro hq.kd hq.va) hq.bd)
  have po := P3
  obtain ⟨p0, p1, p2, p3, p4, p5, p6, p7⟩ := P1.cells
  have HP1 := hide P1
  have HP2 := hide P2
  have HP3 := hide P3
  have HB := hide B1
  have HW1 := hide hW1
  clear hf hbox B1 P1 P2 P3 hW1 hq hz hrl hgl
  unfold SW.v SW.cs
  unfold SW.cs swD at HW1
  go_enter Try.func87, Try.ntmps87
  go_upto_region 2 with fail
  rw [← HW1.out]
  refine region_made 12 16 [fIs (.func (.func gb) #[] bb), fIs (.pointer (some ⟨w.heap.size, 0, none⟩)), fIs (.pointer (some ⟨w.heap.size, 0, none⟩)), fIs (.slice q.ba q.bl q.bc), fBox W1.heap.size box, fIs (.pointer (some ⟨w.heap.size, 0, none⟩)), fIs (.pointer (some ⟨w.heap.size, 1, none⟩)), fIs (.slice q.ra q.rl q.rc), fIs (.func (.func go) #[] bo), fRws W1.heap.size (s.rows.map f), fPts W1.heap.size box (s.rows.map f), fIs (.pointer (some ⟨w.heap.size, 0, none⟩))] (by kernel_rfl) (by kernel_rfl) (by kernel_rfl) (fun _ ⟨_, _⟩ ⟨_, _⟩ _ e h => by cases e; exact h) ⟨fIs_good _, fIs_good _, fIs_good _, fIs_good _, fBox_good _ _, fIs_good _, fIs_good _, fIs_good _, fIs_good _, fRws_good _ _, fPts_good _ _ _, fIs_good _, trivial⟩ ?mk ?rest
  case mk =>
    refine ⟨fun u wz hb hd => ?_, fun u wz hb hd => ?_, fun u wz hb hd => ?_, fun u wz hb hd => ?_, fun u wz hb hd => ?_, fun u wz hb hd => ?_, fun u wz hb hd => ?_, fun u wz hb hd => ?_, fun u wz hb hd => ?_, fun u wz hb hd => ?_, fun u wz hb hd => ?_, fun u wz hb hd => ?_, trivial⟩
    all_goals simp only [Act.put, List.setIfInBounds_toArray, List.set_cons_zero, List.set_cons_succ]
    · go_simp
      exact ⟨rfl, Below.refl _ _, fun h => by cases h⟩
    · go_simp
      exact ⟨rfl, Below.refl _ _, fun h => by cases h⟩
    · have e1 : u 1 = .pointer (some ⟨w.heap.size, 0, none⟩) := hd 1 (by omega) (by kernel_rfl)
      rw [e1]
      go_simp
      exact ⟨rfl, Below.refl _ _, fun h => by cases h⟩
    · have e2 : u 2 = .pointer (some ⟨w.heap.size, 0, none⟩) := hd 2 (by omega) (by kernel_rfl)
      rw [e2]
      have p0' := (hb.cell (p := ⟨w.heap.size, 0, none⟩) (lt_of_cell p0)).trans p0
      go_simp
      exact ⟨rfl, Below.refl _ _, fun h => by cases h⟩
    · have e0 : u 0 = .func (.func gb) #[] bb := hd 0 (by omega) (by kernel_rfl)
      have e3 : u 3 = .slice q.ba q.bl q.bc := hd 3 (by omega) (by kernel_rfl)
      rw [e0, e3]
      go_simp
      refine (HBOX.out wz hb).mono ?_
      rintro e w2 ⟨⟨a, l, c, rfl, hl⟩, hb2⟩
      exact ⟨⟨a, l, c, rfl, hl.mono hb.size⟩, hb2, fun h => by cases h⟩
    · go_simp
      exact ⟨rfl, Below.refl _ _, fun h => by cases h⟩
    · have e5 : u 5 = .pointer (some ⟨w.heap.size, 0, none⟩) := hd 5 (by omega) (by kernel_rfl)
      rw [e5]
      go_simp
      exact ⟨rfl, Below.refl _ _, fun h => by cases h⟩
    · have e6 : u 6 = .pointer (some ⟨w.heap.size, 1, none⟩) := hd 6 (by omega) (by kernel_rfl)
      rw [e6]
      have p1' := (hb.cell (p := ⟨w.heap.size, 1, none⟩) (lt_of_cell p1)).trans p1
      go_simp
      exact ⟨rfl, Below.refl _ _, fun h => by cases h⟩
    · have po' := (hb.cell (p := ⟨w.heap.size + 1, 0, none⟩) (lt_of_cell po)).trans po
      go_simp
      exact ⟨rfl, Below.refl _ _, fun h => by cases h⟩
    · have e7 : u 7 = .slice q.ra q.rl q.rc := hd 7 (by omega) (by kernel_rfl)
      have e8 : u 8 = .func (.func go) #[] bo := hd 8 (by omega) (by kernel_rfl)
      rw [e7, e8]
      go_simp
      refine (HROWS.out wz hb).mono ?_
      rintro e w2 ⟨⟨a, l, c, rfl, hl⟩, hb2⟩
      exact ⟨⟨a, l, c, rfl, hl.mono hb.size⟩, hb2, fun h => by cases h⟩
    · obtain ⟨xa, xl, xc, e4, h4⟩ := hd 4 (by omega) (by kernel_rfl)
      obtain ⟨ya, yl, yc, e9, h9⟩ := hd 9 (by omega) (by kernel_rfl)
      rw [e4, e9]
      go_simp
      exact ⟨⟨xa, xl, xc, ya, yl, yc, rfl, h4.and h9⟩, Below.refl _ _, fun h => by cases h⟩
    · go_simp
      exact ⟨rfl, Below.refl _ _, fun h => by cases h⟩
  case rest =>
    intro u wz hb hf hp
    have f0 : u 0 = .func (.func gb) #[] bb := hf 0 (by omega)
    have f1 : u 1 = .pointer (some ⟨w.heap.size, 0, none⟩) := hf 1 (by omega)
    have f2 : u 2 = .pointer (some ⟨w.heap.size, 0, none⟩) := hf 2 (by omega)
    have f3 : u 3 = .slice q.ba q.bl q.bc := hf 3 (by omega)
    obtain ⟨_, _, _, f4, _⟩ := hf 4 (by omega)
    have f5 : u 5 = .pointer (some ⟨w.heap.size, 0, none⟩) := hf 5 (by omega)
    have f6 : u 6 = .pointer (some ⟨w.heap.size, 1, none⟩) := hf 6 (by omega)
    have f7 : u 7 = .slice q.ra q.rl q.rc := hf 7 (by omega)
    have f8 : u 8 = .func (.func go) #[] bo := hf 8 (by omega)
    obtain ⟨_, _, _, f9, _⟩ := hf 9 (by omega)
    obtain ⟨ba, bl, bc, RR, rus, rl, f10, hP⟩ := hf 10 (by omega)
    have f11 : u 11 = .pointer (some ⟨w.heap.size, 0, none⟩) := hf 11 (by omega)
    refine UptoW.rest 1 12 (by rfl) (by kernel_rfl) ?_
    simp only [List.take, List.drop, putOps, Act.put, List.setIfInBounds_toArray, List.set_cons_zero, List.set_cons_succ, Nat.reduceAdd, f0, f1, f2, f3, f4, f5, f6, f7, f8, f9, f10, f11]
    clear f0 f1 f2 f3 f4 f5 f6 f7 f8 f9 f10 f11 hf hp
    have P5 := HP1.out.below hb
    have HP5 := hide P5
    have HL := hide hP
    have HB3 := hide (bl_on HB.out hb)
    have HB1 := hide hb
    have z5 := P5.lt
    obtain ⟨p0, p1, p2, p3, p4, p5, p6, p7⟩ := P5.cells
    have g0 := P5.free 0
    have g1 := P5.free 1
    clear hb P5 hP po
    go_upto_region 3 with fail
    obtain ⟨W2, hW2⟩ : ∃ W2, W2 = (wz.setCell ⟨w.heap.size, 0, none⟩ (.slice ba bl bc)).setCell ⟨w.heap.size, 1, none⟩ (.slice (some ⟨RR, 0, none⟩) rl rl) := ⟨_, rfl⟩
    rw [← hW2]
    have hA : w.heap.size < W1.heap.size := by have := HZ.out; omega
    have P6 := sw_set HP5.out ba bl bc (some ⟨RR, 0, none⟩) rl rl
    rw [← hW2] at P6
    have HL2 := (HL.out.set (p := ⟨w.heap.size, 0, none⟩) hA (.slice ba bl bc)).set (p := ⟨w.heap.size, 1, none⟩) hA (.slice (some ⟨RR, 0, none⟩) rl rl)
    rw [← hW2] at HL2
    have B2 := (HB3.out.setCell (p := ⟨w.heap.size, 0, none⟩) (Nat.le_refl _) (.slice ba bl bc)).setCell (p := ⟨w.heap.size, 1, none⟩) (Nat.le_refl _) (.slice (some ⟨RR, 0, none⟩) rl rl)
    rw [← hW2] at B2
    have hS2 : W2.heap.size = wz.heap.size := by rw [hW2, World.size_setCell, World.size_setCell]
    have po : W2.cell? ⟨w.heap.size + 1, 0, none⟩ = some (.func (.func go) #[] bo) := by
      have e1 : W2.heap[w.heap.size + 1]? = wz.heap[w.heap.size + 1]? := by
        rw [hW2]
        exact (Below.heap_setCell _ ⟨w.heap.size, 1, none⟩ _ _ (by simp only; omega)).trans (Below.heap_setCell _ ⟨w.heap.size, 0, none⟩ _ _ (by simp only; omega))
      have e2 := (HB1.out.cell (p := ⟨w.heap.size + 1, 0, none⟩) (lt_of_cell HP3.out)).trans HP3.out
      exact (World.cell?_of_block (w := wz) e1).trans e2
    have P7 : swD.blk W2 (w.heap.size + 1 + 1) := by
      have e1 : W2.heap[w.heap.size + 1 + 1]? = wz.heap[w.heap.size + 1 + 1]? := by
        rw [hW2]
        exact (Below.heap_setCell _ ⟨w.heap.size, 1, none⟩ _ _ (by simp only; omega)).trans (Below.heap_setCell _ ⟨w.heap.size, 0, none⟩ _ _ (by simp only; omega))
      exact e1.trans (HP2.out.below HB1.out)
    have HPUT2 := hide (fun W (hb : Below W2.heap.size W2 W) => HPUT.out W (bl_on B2 hb) ((hb.cell (p := ⟨w.heap.size + 1, 0, none⟩) (lt_of_cell po)).trans po))
    have HGETS2 := hide (fun W (hb : Below W2.heap.size W2 W) => HGETS.out W (bl_on B2 hb) ((hb.cell (p := ⟨w.heap.size + 1, 0, none⟩) (lt_of_cell po)).trans po))
    have HSZ : Hid (W1.heap.size ≤ W2.heap.size) := by rw [Hid, hS2]; exact HB1.out.size
    have HP6 := hide P6
    have HP7 := hide P7
    have HLB := hide HL2
    have HBW2 := hide B2
    clear p0 p1 p2 p3 p4 p5 p6 p7 g0 g1 z5 HL HB3 HP5 HB1 hW2 hS2 P7 HL2 B2 po HPUT HGETS HP1 HP2 HP3 HBOX HROWS
    obtain ⟨p0, p1, p2, p3, p4, p5, p6, p7⟩ := P6.cells
    simp only at p4 p5 p6 p7
    clear P6
    refine region_made 9 16 [fIs (.func (.func 109) #[] #[.pointer (some ⟨w.heap.size + 1, 0, none⟩)]), fIs (.pointer (some ⟨w.heap.size, 4, none⟩)), fIs (.agg #[.int .i64 q.pu.arr, .slice q.pu.ca q.pu.cl q.pu.cc, .int .i64 q.pu.con]), fAG W1.heap.size (s.put.1, f s.put.2), fIs (.pointer (some ⟨w.heap.size, 7, none⟩)), fIs (.slice q.ga q.gl q.gc), fIs (.func (.func 109) #[] #[.pointer (some ⟨w.heap.size + 1, 0, none⟩)]), fAccs W1.heap.size (s.gets.map fun a => (a.1, f a.2)), fIs (.pointer (some ⟨w.heap.size, 4, none⟩))] (by kernel_rfl) (by kernel_rfl) (by kernel_rfl) (fun _ ⟨_, _⟩ ⟨_, _⟩ _ e h => by cases e; exact h) ⟨fIs_good _, fIs_good _, fIs_good _, fAG_good _ _, fIs_good _, fIs_good _, fIs_good _, fAccs_good _ _, fIs_good _, trivial⟩ ?mk ?rest
    case mk =>
      refine ⟨fun u wz hb hd => ?_, fun u wz hb hd => ?_, fun u wz hb hd => ?_, fun u wz hb hd => ?_, fun u wz hb hd => ?_, fun u wz hb hd => ?_, fun u wz hb hd => ?_, fun u wz hb hd => ?_, fun u wz hb hd => ?_, trivial⟩
      all_goals simp only [Act.put, List.setIfInBounds_toArray, List.set_cons_zero, List.set_cons_succ]
      · go_simp
        exact ⟨rfl, Below.refl _ _, fun h => by cases h⟩
      · go_simp
        exact ⟨rfl, Below.refl _ _, fun h => by cases h⟩
      · have e1 : u 1 = .pointer (some ⟨w.heap.size, 4, none⟩) := hd 1 (by omega) (by kernel_rfl)
        rw [e1]
        have p4' := (hb.cell (p := ⟨w.heap.size, 4, none⟩) (lt_of_cell p4)).trans p4
        have p5' := (hb.cell (p := ⟨w.heap.size, 5, none⟩) (lt_of_cell p5)).trans p5
        have p6' := (hb.cell (p := ⟨w.heap.size, 6, none⟩) (lt_of_cell p6)).trans p6
        go_simp
        exact ⟨rfl, Below.refl _ _, fun h => by cases h⟩
      · have e0 : u 0 = .func (.func 109) #[] #[.pointer (some ⟨w.heap.size + 1, 0, none⟩)] := hd 0 (by omega) (by kernel_rfl)
        have e2 : u 2 = .agg #[.int .i64 q.pu.arr, .slice q.pu.ca q.pu.cl q.pu.cc, .int .i64 q.pu.con] := hd 2 (by omega) (by kernel_rfl)
        rw [e0, e2]
        go_simp
        refine (HPUT2.out wz hb).mono ?_
        rintro e w2 ⟨⟨u, rfl, hl⟩, hb2⟩
        exact ⟨⟨u, rfl, hl.mono (Nat.le_trans HSZ.out hb.size)⟩, hb2, fun h => by cases h⟩
      · go_simp
        exact ⟨rfl, Below.refl _ _, fun h => by cases h⟩
      · have e4 : u 4 = .pointer (some ⟨w.heap.size, 7, none⟩) := hd 4 (by omega) (by kernel_rfl)
        rw [e4]
        have p7' := (hb.cell (p := ⟨w.heap.size, 7, none⟩) (lt_of_cell p7)).trans p7
        go_simp
        exact ⟨rfl, Below.refl _ _, fun h => by cases h⟩
      · go_simp
        exact ⟨rfl, Below.refl _ _, fun h => by cases h⟩
      · have e5 : u 5 = .slice q.ga q.gl q.gc := hd 5 (by omega) (by kernel_rfl)
        have e6 : u 6 = .func (.func 109) #[] #[.pointer (some ⟨w.heap.size + 1, 0, none⟩)] := hd 6 (by omega) (by kernel_rfl)
        rw [e5, e6]
        go_simp
        refine (HGETS2.out wz hb).mono ?_
        rintro e w2 ⟨⟨a, l, c, rfl, hl⟩, hb2⟩
        exact ⟨⟨a, l, c, rfl, hl.mono (Nat.le_trans HSZ.out hb.size)⟩, hb2, fun h => by cases h⟩
      · go_simp
        exact ⟨rfl, Below.refl _ _, fun h => by cases h⟩
    case rest =>
      intro u wz hb hf hp
      have f0 : u 0 = .func (.func 109) #[] #[.pointer (some ⟨w.heap.size + 1, 0, none⟩)] := hf 0 (by omega)
      have f1 : u 1 = .pointer (some ⟨w.heap.size, 4, none⟩) := hf 1 (by omega)
      have f2 : u 2 = .agg #[.int .i64 q.pu.arr, .slice q.pu.ca q.pu.cl q.pu.cc, .int .i64 q.pu.con] := hf 2 (by omega)
      obtain ⟨pu, f3, hPU⟩ := hf 3 (by omega)
      have f4 : u 4 = .pointer (some ⟨w.heap.size, 7, none⟩) := hf 4 (by omega)
      have f5 : u 5 = .slice q.ga q.gl q.gc := hf 5 (by omega)
      have f6 : u 6 = .func (.func 109) #[] #[.pointer (some ⟨w.heap.size + 1, 0, none⟩)] := hf 6 (by omega)
      obtain ⟨ga, gl, gc, f7, hGS⟩ := hf 7 (by omega)
      have f8 : u 8 = .pointer (some ⟨w.heap.size, 4, none⟩) := hf 8 (by omega)
      refine UptoW.rest 3 9 (by rfl) (by kernel_rfl) ?_
      simp only [List.take, List.drop, putOps, Act.put, List.setIfInBounds_toArray, List.set_cons_zero, List.set_cons_succ, Nat.reduceAdd, f0, f1, f2, f3, f4, f5, f6, f7, f8]
      clear f0 f1 f2 f3 f4 f5 f6 f7 f8 hf hp
      have P5 := HP6.out.below hb
      have HP5 := hide P5
      have HB3 := hide (bl_on HBW2.out hb)
      have z5 := P5.lt
      have z6 := (HP7.out.below hb).lt
      have HP8 := hide (HP7.out.below hb)
      have HL3 := hide ((HLB.out.below hb).and (hPU.and hGS))
      have g4 := P5.free 4
      have g5 := P5.free 5
      have g6 := P5.free 6
      have g7 := P5.free 7
      clear p0 p1 p2 p3 p4 p5 p6 p7
      obtain ⟨p0, p1, p2, p3, p4, p5, p6, p7⟩ := P5.cells
      simp only at p0 p1 p2 p3 p4 p5 p6 p7
      clear hb P5 hPU hGS HLB HP6 HP7
      unfold AW.v
      go_upto_region 4 with fail
      obtain ⟨W3, hW3⟩ : ∃ W3, W3 = (((wz.setCell ⟨w.heap.size, 4, none⟩ (.int .i64 pu.arr)).setCell ⟨w.heap.size, 5, none⟩ (.slice pu.ca pu.cl pu.cc)).setCell ⟨w.heap.size, 6, none⟩ (.int .i64 pu.con)).setCell ⟨w.heap.size, 7, none⟩ (.slice ga gl gc) := ⟨_, rfl⟩
      rw [← hW3]
      have P6 := sw_set2 HP5.out pu ga gl gc
      rw [← hW3] at P6
      simp only at P6
      have HL4 := (((HL3.out.set (p := ⟨w.heap.size, 4, none⟩) hA (.int .i64 pu.arr)).set (p := ⟨w.heap.size, 5, none⟩) hA (.slice pu.ca pu.cl pu.cc)).set (p := ⟨w.heap.size, 6, none⟩) hA (.int .i64 pu.con)).set (p := ⟨w.heap.size, 7, none⟩) hA (.slice ga gl gc)
      rw [← hW3] at HL4
      have B4 := (((HB3.out.setCell (p := ⟨w.heap.size, 4, none⟩) (Nat.le_refl _) (.int .i64 pu.arr)).setCell (p := ⟨w.heap.size, 5, none⟩) (Nat.le_refl _) (.slice pu.ca pu.cl pu.cc)).setCell (p := ⟨w.heap.size, 6, none⟩) (Nat.le_refl _) (.int .i64 pu.con)).setCell (p := ⟨w.heap.size, 7, none⟩) (Nat.le_refl _) (.slice ga gl gc)
      rw [← hW3] at B4
      have P7 : swD.blk W3 (w.heap.size + 1 + 1) := by
        have e1 : W3.heap[w.heap.size + 1 + 1]? = wz.heap[w.heap.size + 1 + 1]? := by
          rw [hW3]
          exact (Below.heap_setCell _ ⟨w.heap.size, 7, none⟩ _ _ (by simp only; omega)).trans ((Below.heap_setCell _ ⟨w.heap.size, 6, none⟩ _ _ (by simp only; omega)).trans ((Below.heap_setCell _ ⟨w.heap.size, 5, none⟩ _ _ (by simp only; omega)).trans (Below.heap_setCell _ ⟨w.heap.size, 4, none⟩ _ _ (by simp only; omega))))
        exact e1.trans HP8.out
      obtain ⟨q3, hq3⟩ : ∃ q3 : SW, q3 = ⟨ba, bl, bc, some ⟨RR, 0, none⟩, rl, rl, q.kd, q.va, pu, ga, gl, gc⟩ := ⟨_, rfl⟩
      have HQ3 := hide hq3
      have HP6 := hide P6
      have HP7 := hide P7
      have HL5 := hide HL4
      have HB4 := hide B4
      clear p0 p1 p2 p3 p4 p5 p6 p7 g4 g5 g6 g7 z5 z6 hW3 HL4 B4 HP5 HL3 HP8 HB3 hq3
      obtain ⟨p0, p1, p2, p3, p4, p5, p6, p7⟩ := P6.cells
      simp only at p0 p1 p2 p3 p4 p5 p6 p7
      obtain ⟨y0, y1, y2, y3, y4, y5, y6, y7⟩ := P7.cells
      have g0 := P7.free 0
      have g1 := P7.free 1
      have g2 := P7.free 2
      have g3 := P7.free 3
      have g4 := P7.free 4
      have g5 := P7.free 5
      have g6 := P7.free 6
      have g7 := P7.free 7
      have z5 := P6.lt
      have z6 := P7.lt
      unfold swD at y0 y1 y2 y3 y4 y5 y6 y7
      clear P6 P7
      go_wp2_with fail
      obtain ⟨W5, hW5⟩ : ∃ W5, W5 = putS8 W3 (w.heap.size + 1 + 1) ⟨ba, bl, bc, some ⟨RR, 0, none⟩, rl, rl, q.kd, q.va, pu, ga, gl, gc⟩ := ⟨_, rfl⟩
      have hW5' := hW5
      unfold putS8 at hW5'
      simp only at hW5'
      rw [← hW5']
      rw [← HQ3.out] at hW5
      have P9 : q3.blk W5 (w.heap.size + 1 + 1) := by rw [hW5]; exact putS8_blk HP7.out
      obtain ⟨x0, x1, x2, x3, x4, x5, x6, x7⟩ := P9.cells
      refine bodyPost_ret (v := q3.v) (by simp [results, Try.results87, go_sem, x0, x1, x2, x3, x4, x5, x6, x7, SW.v, SW.cs]) rfl ⟨⟨q3, rfl, RR, rus, by rw [HQ3.out], by rw [HQ3.out], ?_⟩, ?_⟩
      · have hL := HL5.out.keep (putS8_keep (b := w.heap.size + 1 + 1) (by have := HZ.out; omega) q3)
        rw [← hW5] at hL
        refine (hL.mono (by omega)).imp (fun V hV => ?_)
        obtain ⟨⟨h1, h2⟩, h4, h5⟩ := hV
        obtain ⟨⟨k1, k2⟩, k3⟩ := HKD.out
        rw [HQ3.out]
        exact ⟨⟨h1, h2.rws, k1, k2, h4, h5, k3⟩, h2⟩
      · rw [hW5]
        exact putS8_below HB4.out (by omega) _
end Go.Proofs.Ytkbdnhchlkafnaa.V
namespace Go.Proofs.Ytkbdnhchlkafnaa.V
open Go.RowKit
set_option linter.unusedVariables false

/-- A place: the array, where in it. -/
structure PW where
  arr : Int
  pos : Int
def PW.v (q : PW) : Value := .agg #[.int .i64 q.arr, .int .i64 q.pos]
/-- To where an access leads. -/
def leadV (zs : List Int) (a : Acc) (x : List Int) : PW := ⟨a.1, if worthV a.2 x < 0 ∨ zs[a.1.toNat]?.getD 0 ≤ worthV a.2 x then -1 else worthV a.2 x⟩
/-- The words of a spot. -/
structure TW where
  stm : Int
  xa : Option Addr
  xl : Nat
  xc : Nat
  tm : Nat → Int
  kd : Int
  va : Int
  pu : PW
  ga : Option Addr
  gl : Nat
  gc : Nat
def TW.cs (q : TW) : Array Value := #[.int .i64 q.stm, .slice q.xa q.xl q.xc, .int .i64 (q.tm 0), .int .i64 (q.tm 1), .int .i64 (q.tm 2), .int .i64 (q.tm 3), .int .i64 (q.tm 4), .int .i64 (q.tm 5), .int .i64 (q.tm 6), .int .i64 (q.tm 7), .int .i64 q.kd, .int .i64 q.va, .int .i64 q.pu.arr, .int .i64 q.pu.pos, .slice q.ga q.gl q.gc]
def TW.v (q : TW) : Value := .agg q.cs
def twD : TW := ⟨0, none, 0, 0, fun _ => 0, 0, 0, ⟨0, 0⟩, none, 0, 0⟩
/-- A spot with all that is known of it. -/
structure Sp where
  stm : Nat
  pt : List Int
  tm : Nat → Int
  kd : Int
  va : Int
  put : PW
  gets : List PW
def spDD : Sp := ⟨0, [], fun _ => 0, 0, 0, ⟨0, 0⟩, []⟩
def spOf (zs : List Int) (ss : List Stm) (T : Tms) (p : Nat × List Int) : Sp := ⟨p.1, p.2, timeV (T[p.1]?.getD []) p.2, (ss[p.1]?.getD stmD).kind, (ss[p.1]?.getD stmD).val, leadV zs (ss[p.1]?.getD stmD).put p.2, (ss[p.1]?.getD stmD).gets.map fun a => leadV zs a p.2⟩
/-- A list of places. -/
def PlsAt (w : World) (a : Option Addr) (len : Nat) (ps : List PW) : Prop := ps.length = len ∧ len ≤ 9223372036854775807 ∧ (len = 0 ∨ ∃ b off, a = some ⟨b, off, none⟩ ∧ ∀ j, j < len → w.cell? ⟨b, off + j * 2, none⟩ = some (.int .i64 (ps[j]?.getD ⟨0, 0⟩).arr) ∧ w.cell? ⟨b, off + j * 2 + 1, none⟩ = some (.int .i64 (ps[j]?.getD ⟨0, 0⟩).pos))
structure TG (w : World) (q : TW) (p : Sp) : Prop where
  stm : q.stm = (p.stm : Int)
  pt : Lst w q.xa q.xl q.xc p.pt
  tm : q.tm = p.tm
  kd : q.kd = p.kd
  va : q.va = p.va
  put : q.pu = p.put
  gets : PlsAt w q.ga q.gl p.gets
  cap : q.gl ≤ q.gc
  num : ∀ b o, q.xa = some ⟨b, o, none⟩ → ∃ cur fz, w.heap[b]? = some (.cells cur 3 fz)
theorem info_P : (Try.prog.info? 60).map (fun i => (i.zero, i.size, i.bytes)) = some (some (.agg #[.int .i64 0, .int .i64 0]), 2, 16) := by kernel_rfl
/-- The first k of what has been made, in a row of the call's own. -/
def OutP (W : World) (R len : Nat) (us : Nat → PW) (k : Nat) : Prop := ∃ f, W.rowIs R 60 (len * 2) f ∧ ∀ j, j < k → f (j * 2) = .int .i64 (us j).arr ∧ f (j * 2 + 1) = .int .i64 (us j).pos
theorem OutP.lt {W : World} {R len k : Nat} {us : Nat → PW} (h : OutP W R len us k) : R < W.heap.size := by
  obtain ⟨f, h1, _⟩ := h
  exact h1.lt
theorem OutP.below {W V : World} {R len k : Nat} {us : Nat → PW} (h : OutP W R len us k) (hb : Below W.heap.size W V) : OutP V R len us k := by
  obtain ⟨f, h1, h2⟩ := h
  exact ⟨f, h1.of_block (hb.block _ h1.lt), h2⟩
theorem OutP.lies {W : World} {R len k N : Nat} {us : Nat → PW} (h : OutP W R len us k) (hN : N ≤ R) : Lies N (fun V => OutP V R len us k) W := by
  obtain ⟨f, h1, h2⟩ := h
  exact (lies_row h1 hN).imp (fun V hV => ⟨f, hV, h2⟩)
theorem OutP.snoc {W : World} {R len k : Nat} {us : Nat → PW} (h : OutP W R len us k) (u : PW) : OutP ((W.setCell ⟨R, k * 2, none⟩ (.int .i64 u.arr)).setCell ⟨R, k * 2 + 1, none⟩ (.int .i64 u.pos)) R len (fun j => if j = k then u else us j) (k + 1) := by
  obtain ⟨f, h1, h2⟩ := h
  refine ⟨_, (h1.set (k * 2) _).set (k * 2 + 1) _, fun j hj => ?_⟩
  by_cases e : j = k
  · subst e
    simp only [if_true]
    refine ⟨?_, ?_⟩ <;> simp
  · obtain ⟨e0, e1⟩ := h2 j (by omega)
    simp only [if_neg e]
    refine ⟨by rw [if_neg (by omega)]; rw [if_neg (by omega)]; exact e0, by rw [if_neg (by omega)]; rw [if_neg (by omega)]; exact e1⟩
set_option maxRecDepth 100000 in
set_option maxHeartbeats 4000000 in
theorem eachAP (a : Option Addr) (len cap : Nat) (qs : Nat → AW) (g : Nat) (bs : Array Value) (eg : ∀ args w, (callFunc g args).run Try.prog w = .ok (.enter g args) w) (Q : Nat → PW → World → Prop) (w : World) (hlen : len * 16 ≤ 281474976710656)
    (hin : len = 0 ∨ ∃ b off, a = some ⟨b, off, none⟩ ∧ ∀ j, j < len → w.cell? ⟨b, off + j * 3, none⟩ = some (.int .i64 (qs j).arr) ∧ w.cell? ⟨b, off + j * 3 + 1, none⟩ = some (.slice (qs j).ca (qs j).cl (qs j).cc) ∧ w.cell? ⟨b, off + j * 3 + 2, none⟩ = some (.int .i64 (qs j).con))
    (hcall : ∀ (j : Nat) (W : World), j < len → Below w.heap.size w W → w.heap.size < W.heap.size → Calls Try.prog g (#[(qs j).v] ++ bs) W fun e w' => (∃ u : PW, e = .returned u.v ∧ Lies W.heap.size (Q j u) w') ∧ Below W.heap.size W w') :
    Calls Try.prog 74 #[.slice a len cap, .func (.func g) #[] bs] w fun e w' => (∃ us : Nat → PW, e = .returned (.slice (some ⟨w.heap.size, 0, none⟩) len len) ∧ OutP w' w.heap.size len us len ∧ ∀ j, j < len → Lies (w.heap.size + 1) (Q j (us j)) w') ∧ Below w.heap.size w w' := by
  have HIN := hide hin
  have HCALL := hide hcall
  obtain ⟨i0, hi, hz0, hz1, hz2⟩ := info_parts info_P
  have hmk : ∀ W : World, (Instr.makeSlice 61 (.int .i64 (len : Int)) (.int .i64 (len : Int))).run Try.prog W = .ok (.slice (some ⟨W.heap.size, 0, none⟩) len len) (W.alloc (.cells (madeCells #[.int .i64 0, .int .i64 0] (len * 2)) 60)) := fun W => by
    have := run_make (P := Try.prog) W 61 60 i0 (.agg #[.int .i64 0, .int .i64 0]) Try.underlying61 hi hz0 .i64 .i64 len len (by omega) (by omega) (by rw [hz2]; omega) (by omega)
    simpa [hz1, Value.cells] using this
  have HROW : Hid (OutP (w.alloc (.cells (madeCells #[.int .i64 0, .int .i64 0] (len * 2)) 60)) w.heap.size len (fun _ => ⟨0, 0⟩) 0) := ⟨fun i => (#[.int .i64 0, .int .i64 0] : Array Value)[i % 2]!, ⟨_, World.alloc_heap_new _ _, size_madeCells _ _, fun i hi => by simp [madeCells, hi]⟩, fun j hj => by omega⟩
  have HB0 : Hid (Below w.heap.size w (w.alloc (.cells (madeCells #[.int .i64 0, .int .i64 0] (len * 2)) 60))) := bl_new _
  clear hin hcall hi hz0 hz1 hz2
  go_enter Try.func74, Try.ntmps74
  go_wp2_with fail
  clear hmk
  go_loopw [13] (fun i wr => ∃ k : Nat, k ≤ len ∧ i = .int .i64 k ∧ (∃ us, OutP wr w.heap.size len us k ∧ ∀ j, j < k → Lies (w.heap.size + 1) (Q j (us j)) wr) ∧ Below w.heap.size w wr) (fun i _ => len - (intOf i).toNat)
  case atStart => exact ⟨0, Nat.zero_le _, rfl, ⟨_, HROW.out, fun j hj => by omega⟩, HB0.out⟩
  case round =>
    obtain ⟨k, hk, rfl, ⟨us, hT, hL⟩, hB⟩ := hrel
    have HT := hide hT
    have HL := hide hL
    have HB := hide hB
    clear HROW HB0 hL
    by_cases hlt : k < len
    · obtain ⟨b, off, rfl, hat⟩ := HIN.out.resolve_left (by omega)
      obtain ⟨c0, c1, c2⟩ := hat k hlt
      have HC0 := hide (HCALL.out k)
      obtain ⟨q, hq⟩ : ∃ q, q = qs k := ⟨_, rfl⟩
      rw [← hq] at HC0 c0 c1 c2
      have c0' := (HB.out.cell (p := ⟨b, off + k * 3, none⟩) (lt_of_cell c0)).trans c0
      have z0 := lt_of_cell c0'
      have c1' := (HB.out.cell (p := ⟨b, off + k * 3 + 1, none⟩) (lt_of_cell c1)).trans c1
      have z1 := lt_of_cell c1'
      have c2' := (HB.out.cell (p := ⟨b, off + k * 3 + 2, none⟩) (lt_of_cell c2)).trans c2
      have z2 := lt_of_cell c2'
      have hRl := hT.lt
      have B2 : Below wr.heap.size wr (wr.alloc (.cells #[.int .i64 q.arr, .slice q.ca q.cl q.cc, .int .i64 q.con] 72)) := bl_new _
      have HC := hide (HC0.out (wr.alloc (.cells #[.int .i64 q.arr, .slice q.ca q.cl q.cc, .int .i64 q.con] 72)) hlt (bl_on HB.out B2) (by rw [World.size_alloc]; omega))
      have HB2 := hide B2
      unfold AW.v  at HC
      clear hat hq B2 hT hB HC0 c0 c1 c2
      go_wp2_with fail
      refine HC.out.mono ?_
      rintro e w2 ⟨⟨u, rfl, hl⟩, hb2⟩
      have T2 := HT.out.below (bl_on HB2.out hb2)
      obtain ⟨f, r1, r2⟩ := T2
      have d0 := r1.cell (i := k * 2) (by omega)
      have y0 := r1.frozen (k * 2)
      have d1 := r1.cell (i := k * 2 + 1) (by omega)
      have y1 := r1.frozen (k * 2 + 1)
      have z3 := r1.lt
      have hsz := HB.out.size
      have HT2 := hide (OutP.snoc ⟨f, r1, r2⟩ u)
      have HLn := hide (hl.mono (N := w.heap.size + 1) (by rw [World.size_alloc]; omega))
      have HLo := hide (fun j (hj : j < k) => (HL.out j hj).below (bl_on HB2.out hb2))
      have HBb := hide (bl_on HB.out (bl_on HB2.out hb2))
      clear hb2 r1 r2 hl
      try unfold PW.v 
      go_wp2_with fail
      go_roundw
      case rel =>
        refine ⟨k + 1, by omega, by go_num, ⟨_, HT2.out, fun j hj => ?_⟩, ((HBb.out.setCell (p := ⟨w.heap.size, k * 2, none⟩) (Nat.le_refl _) _).setCell (p := ⟨w.heap.size, k * 2 + 1, none⟩) (Nat.le_refl _) _)⟩
        by_cases e : k = j
        · subst e
          simp only [if_true]
          have hl := HLn.out
          exact (((hl).set (p := ⟨w.heap.size, k * 2, none⟩) (by simp only; omega) _).set (p := ⟨w.heap.size, k * 2 + 1, none⟩) (by simp only; omega) _)
        · simp only [if_neg (fun e' : j = k => e e'.symm)]
          have hl := HLo.out j (by omega)
          exact (((hl).set (p := ⟨w.heap.size, k * 2, none⟩) (by simp only; omega) _).set (p := ⟨w.heap.size, k * 2 + 1, none⟩) (by simp only; omega) _)
      case measure => simp [intOf]; omega
    · obtain rfl : k = len := by omega
      clear hT hB
      go_wp2_with fail
      go_ret
      exact ⟨⟨us, rfl, HT.out, HL.out⟩, HB.out⟩
theorem pls_out {V : World} {R len : Nat} {us : Nat → PW} {ps : List PW} (h : OutP V R len us len) (hl : ps.length = len) (hm : len ≤ 9223372036854775807) (hg : ∀ j, j < len → us j = ps[j]?.getD ⟨0, 0⟩) : PlsAt V (some ⟨R, 0, none⟩) len ps := by
  obtain ⟨f, h1, h2⟩ := h
  refine ⟨hl, hm, .inr ⟨R, 0, rfl, fun j hj => ?_⟩⟩
  obtain ⟨e0, e1⟩ := h2 j hj
  have c0 := h1.cell (i := j * 2) (by omega)
  have c1 := h1.cell (i := j * 2 + 1) (by omega)
  rw [e0, hg j hj] at c0
  rw [e1, hg j hj] at c1
  exact ⟨by rw [Nat.zero_add]; exact c0, by rw [Nat.zero_add]; exact c1⟩
set_option maxRecDepth 100000 in
set_option maxHeartbeats 4000000 in
theorem lead_any (q : AW) (a : Acc) (xa : Option Addr) (xl xc : Nat) (x : List Int) (za : Option Addr) (zl zc : Nat) (zs : List Int) (w : World) (hq : AG w q a) (hx : Ints w xa xl x) (hz : Ints w za zl zs) (ho : AccOk zs.length a x.length) (h4 : x.length ≤ 4) (hxb : ∀ y ∈ x, 0 ≤ y ∧ y ≤ 4096) :
    Calls Try.prog 73 #[q.v, .slice xa xl xc, .slice za zl zc] w fun e w' => e = .returned (leadV zs a x).v ∧ Below w.heap.size w w' := by
  have B0 : Below w.heap.size w ((w.alloc (.cells #[.int .i64 q.arr, .slice q.ca q.cl q.cc, .int .i64 q.con] 72)).alloc (.cells #[.int .i64 0, .int .i64 0] 60)) := bl_on (bl_new _) (bl_new _)
  have P0 := (q.new w).below (bl_new (.cells #[.int .i64 0, .int .i64 0] 60))
  have PZ : ((w.alloc (.cells #[.int .i64 q.arr, .slice q.ca q.cl q.cc, .int .i64 q.con] 72)).alloc (.cells #[.int .i64 0, .int .i64 0] 60)).heap[w.heap.size + 1]? = some (.cells #[.int .i64 0, .int .i64 0] 60 (0, 0)) := by have := World.alloc_heap_new (w.alloc (.cells #[.int .i64 q.arr, .slice q.ca q.cl q.cc, .int .i64 q.con] 72)) (.cells #[.int .i64 0, .int .i64 0] 60); simpa using this
  obtain ⟨W, hW⟩ : ∃ W, W = (w.alloc (.cells #[.int .i64 q.arr, .slice q.ca q.cl q.cc, .int .i64 q.con] 72)).alloc (.cells #[.int .i64 0, .int .i64 0] 60) := ⟨_, rfl⟩
  rw [← hW] at B0 P0 PZ
  have hxl := hx.1
  have hol := ho.len
  have hcl := hq.coef.1
  have HC := hide (worth_any q.ca q.cl q.cc a.2.1 q.con xa xl xc x W (hq.coef.below B0) (hx.below B0) (by omega) (by omega) (by rw [hq.con]; exact ho.con) ho.coef hxb)
  rw [hq.con] at HC
  obtain ⟨V, hV⟩ : ∃ V, V = worthV a.2 x := ⟨_, rfl⟩
  have e2 : worthV (a.2.1, a.2.2) x = V := by rw [hV]
  rw [e2] at HC
  obtain ⟨K, hK⟩ : ∃ K : Nat, a.1 = (K : Int) := ⟨a.1.toNat, by have := ho.arr; omega⟩
  have hKl : K < zl := by have := ho.arr; have := hz.1; omega
  obtain ⟨zb, zo, rfl, hzb, hzc⟩ := hz.at (by omega)
  have cz0 := hzc K hKl
  have HLV : Hid (worthV a.2 x = V ∧ zs[a.1.toNat]?.getD 0 = zs[K]?.getD 0) := ⟨hV.symm, by rw [hK, Int.toNat_natCast]⟩
  obtain ⟨Z, hZ⟩ : ∃ Z, Z = zs[K]?.getD 0 := ⟨_, rfl⟩
  rw [← hZ] at cz0 HLV
  have HAR : Hid (a.1 = q.arr) := hq.arr.symm
  have HQA : Hid (q.arr = (K : Int)) := by rw [Hid, hq.arr, hK]
  have HB := hide B0
  have HP := hide P0
  have HZ0 := hide PZ
  have HW := hide hW
  have HCZ := hide cz0
  have HCON : Hid (q.con = a.2.2) := hq.con
  have hKz : (K : Int) < (zl : Int) := by omega
  clear hq hx hz ho B0 P0 PZ hW hzc hV e2 hK hZ cz0 hxl hol hcl
  unfold AW.v
  obtain ⟨p0, p1, p2⟩ := HP.out.cells
  have zp := HP.out.lt
  rw [HCON.out] at p2
  go_enter Try.func73, Try.ntmps73
  go_upto_region 1 with fail
  rw [← HW.out]
  go_wp2_with fail
  refine HC.out.mono ?_
  rintro e w1 ⟨rfl, hb⟩
  have HB1 := hide (bl_on HB.out hb)
  have HP1 := hide (HP.out.below hb)
  have HZ2 : Hid (w1.heap[w.heap.size + 1]? = some (.cells #[.int .i64 0, .int .i64 0] 60 (0, 0))) := (hb.block _ (Array.getElem?_eq_some_iff.1 HZ0.out).1).trans HZ0.out
  have cz := (HB1.out.cell (p := ⟨zb, zo + K, none⟩) hzb).trans HCZ.out
  have zcz := lt_of_cell cz
  clear p0 p1 p2 zp hb HP HZ0
  obtain ⟨p0, p1, p2⟩ := HP1.out.cells
  rw [HQA.out] at p0
  have zp := HP1.out.lt
  have HLE : Hid (leadV zs a x = ⟨(K : Int), if V < 0 ∨ Z ≤ V then -1 else V⟩) := by
    rw [Hid, leadV, HLV.out.1, HLV.out.2, HAR.out, HQA.out]
  by_cases c1 : V < 0
  · have HV : Hid (leadV zs a x = ⟨(K : Int), -1⟩) := by rw [Hid, HLE.out, if_pos (.inl c1)]
    have P5 := HZ2.out
    have y0 : w1.cell? ⟨w.heap.size + 1, 0, none⟩ = some (.int .i64 0) := by simp only [World.cell?, P5]; rfl
    have y1 : w1.cell? ⟨w.heap.size + 1, 1, none⟩ = some (.int .i64 0) := by simp only [World.cell?, P5]; rfl
    have g0 : w1.frozen? ⟨w.heap.size + 1, 0, none⟩ = false := by simp [World.frozen?, P5]
    have g1 : w1.frozen? ⟨w.heap.size + 1, 1, none⟩ = false := by simp [World.frozen?, P5]
    have z5 := (Array.getElem?_eq_some_iff.1 P5).1
    clear P5
    go_wp2_with fail
    have P6 : ((w1.setCell ⟨w.heap.size + 1, 0, none⟩ (.int .i64 (K : Int))).setCell ⟨w.heap.size + 1, 1, none⟩ (.int .i64 (-1))).heap[w.heap.size + 1]? = some (.cells #[.int .i64 (K : Int), .int .i64 (-1)] 60 (0, 0)) := by
      simp [World.setCell, Array.getElem?_modify, HZ2.out]
    have x0 := cells_two P6
    refine bodyPost_ret (v := .agg #[.int .i64 (K : Int), .int .i64 (-1)]) (by simp [results, Try.results73, go_sem, x0.1, x0.2]) rfl ⟨by rw [HV.out]; rfl, ?_⟩
    exact (HB1.out.setCell (p := ⟨w.heap.size + 1, 0, none⟩) (by simp only; omega) _).setCell (p := ⟨w.heap.size + 1, 1, none⟩) (by simp only; omega) _
  · by_cases c2 : Z ≤ V
    · have HV : Hid (leadV zs a x = ⟨(K : Int), -1⟩) := by rw [Hid, HLE.out, if_pos (.inr c2)]
      have P5 := HZ2.out
      have y0 : w1.cell? ⟨w.heap.size + 1, 0, none⟩ = some (.int .i64 0) := by simp only [World.cell?, P5]; rfl
      have y1 : w1.cell? ⟨w.heap.size + 1, 1, none⟩ = some (.int .i64 0) := by simp only [World.cell?, P5]; rfl
      have g0 : w1.frozen? ⟨w.heap.size + 1, 0, none⟩ = false := by simp [World.frozen?, P5]
      have g1 : w1.frozen? ⟨w.heap.size + 1, 1, none⟩ = false := by simp [World.frozen?, P5]
      have z5 := (Array.getElem?_eq_some_iff.1 P5).1
      clear P5
      go_wp2_with fail
      have P6 : ((w1.setCell ⟨w.heap.size + 1, 0, none⟩ (.int .i64 (K : Int))).setCell ⟨w.heap.size + 1, 1, none⟩ (.int .i64 (-1))).heap[w.heap.size + 1]? = some (.cells #[.int .i64 (K : Int), .int .i64 (-1)] 60 (0, 0)) := by
        simp [World.setCell, Array.getElem?_modify, HZ2.out]
      have x0 := cells_two P6
      refine bodyPost_ret (v := .agg #[.int .i64 (K : Int), .int .i64 (-1)]) (by simp [results, Try.results73, go_sem, x0.1, x0.2]) rfl ⟨by rw [HV.out]; rfl, ?_⟩
      exact (HB1.out.setCell (p := ⟨w.heap.size + 1, 0, none⟩) (by simp only; omega) _).setCell (p := ⟨w.heap.size + 1, 1, none⟩) (by simp only; omega) _
    · have HV : Hid (leadV zs a x = ⟨(K : Int), V⟩) := by rw [Hid, HLE.out, if_neg (by omega)]
      have P5 := HZ2.out
      have y0 : w1.cell? ⟨w.heap.size + 1, 0, none⟩ = some (.int .i64 0) := by simp only [World.cell?, P5]; rfl
      have y1 : w1.cell? ⟨w.heap.size + 1, 1, none⟩ = some (.int .i64 0) := by simp only [World.cell?, P5]; rfl
      have g0 : w1.frozen? ⟨w.heap.size + 1, 0, none⟩ = false := by simp [World.frozen?, P5]
      have g1 : w1.frozen? ⟨w.heap.size + 1, 1, none⟩ = false := by simp [World.frozen?, P5]
      have z5 := (Array.getElem?_eq_some_iff.1 P5).1
      clear P5
      go_wp2_with fail
      have P6 : ((w1.setCell ⟨w.heap.size + 1, 0, none⟩ (.int .i64 (K : Int))).setCell ⟨w.heap.size + 1, 1, none⟩ (.int .i64 (V))).heap[w.heap.size + 1]? = some (.cells #[.int .i64 (K : Int), .int .i64 (V)] 60 (0, 0)) := by
        simp [World.setCell, Array.getElem?_modify, HZ2.out]
      have x0 := cells_two P6
      refine bodyPost_ret (v := .agg #[.int .i64 (K : Int), .int .i64 (V)]) (by simp [results, Try.results73, go_sem, x0.1, x0.2]) rfl ⟨by rw [HV.out]; rfl, ?_⟩
      exact (HB1.out.setCell (p := ⟨w.heap.size + 1, 0, none⟩) (by simp only; omega) _).setCell (p := ⟨w.heap.size + 1, 1, none⟩) (by simp only; omega) _
set_option maxRecDepth 100000 in
set_option maxHeartbeats 4000000 in
theorem to_any (q : AW) (a : Acc) (Bx Bn : Nat) (xa : Option Addr) (xl xc : Nat) (x : List Int) (za : Option Addr) (zl zc : Nat) (zs : List Int) (w : World) (hq : AG w q a) (cx : w.cell? ⟨Bx, 0, none⟩ = some (.slice xa xl xc)) (cn : w.cell? ⟨Bn, 0, none⟩ = some (.slice za zl zc)) (hx : Ints w xa xl x) (hz : Ints w za zl zs) (ho : AccOk zs.length a x.length) (h4 : x.length ≤ 4) (hxb : ∀ y ∈ x, 0 ≤ y ∧ y ≤ 4096) :
    Calls Try.prog 72 #[q.v, .pointer (some ⟨Bx, 0, none⟩), .pointer (some ⟨Bn, 0, none⟩)] w fun e w' => e = .returned (leadV zs a x).v ∧ Below w.heap.size w w' := by
  have B0 : Below w.heap.size w ((w.alloc (.cells #[.int .i64 q.arr, .slice q.ca q.cl q.cc, .int .i64 q.con] 72)).alloc (.cells #[.int .i64 0, .int .i64 0] 60)) := bl_on (bl_new _) (bl_new _)
  have P0 := (q.new w).below (bl_new (.cells #[.int .i64 0, .int .i64 0] 60))
  have PZ : ((w.alloc (.cells #[.int .i64 q.arr, .slice q.ca q.cl q.cc, .int .i64 q.con] 72)).alloc (.cells #[.int .i64 0, .int .i64 0] 60)).heap[w.heap.size + 1]? = some (.cells #[.int .i64 0, .int .i64 0] 60 (0, 0)) := by have := World.alloc_heap_new (w.alloc (.cells #[.int .i64 q.arr, .slice q.ca q.cl q.cc, .int .i64 q.con] 72)) (.cells #[.int .i64 0, .int .i64 0] 60); simpa using this
  obtain ⟨W, hW⟩ : ∃ W, W = (w.alloc (.cells #[.int .i64 q.arr, .slice q.ca q.cl q.cc, .int .i64 q.con] 72)).alloc (.cells #[.int .i64 0, .int .i64 0] 60) := ⟨_, rfl⟩
  rw [← hW] at B0 P0 PZ
  have HC := hide (lead_any q a xa xl xc x za zl zc zs W (hq.below B0) (hx.below B0) (hz.below B0) ho h4 hxb)
  have c1 := (B0.cell (p := ⟨Bx, 0, none⟩) (lt_of_cell cx)).trans cx
  have c2 := (B0.cell (p := ⟨Bn, 0, none⟩) (lt_of_cell cn)).trans cn
  have z1 := lt_of_cell c1
  have z2 := lt_of_cell c2
  obtain ⟨p0, p1, p2⟩ := P0.cells
  have zp := P0.lt
  have HB := hide B0
  have HZ0 := hide PZ
  have HW := hide hW
  obtain ⟨u, hu⟩ : ∃ u, u = leadV zs a x := ⟨_, rfl⟩
  rw [← hu] at HC ⊢
  clear hq hx hz ho B0 P0 PZ hW hu h4 hxb cx cn
  unfold AW.v PW.v at HC
  unfold AW.v PW.v
  go_enter Try.func72, Try.ntmps72
  go_upto_region 1 with fail
  rw [← HW.out]
  go_wp2_with fail
  refine HC.out.mono ?_
  rintro e w1 ⟨rfl, hb⟩
  have HB1 := hide (bl_on HB.out hb)
  have HZ2 : Hid (w1.heap[w.heap.size + 1]? = some (.cells #[.int .i64 0, .int .i64 0] 60 (0, 0))) := (hb.block _ (Array.getElem?_eq_some_iff.1 HZ0.out).1).trans HZ0.out
  clear p0 p1 p2 zp hb HZ0 c1 c2 z1 z2
  have P5 := HZ2.out
  have y0 : w1.cell? ⟨w.heap.size + 1, 0, none⟩ = some (.int .i64 0) := by simp only [World.cell?, P5]; rfl
  have y1 : w1.cell? ⟨w.heap.size + 1, 1, none⟩ = some (.int .i64 0) := by simp only [World.cell?, P5]; rfl
  have g0 : w1.frozen? ⟨w.heap.size + 1, 0, none⟩ = false := by simp [World.frozen?, P5]
  have g1 : w1.frozen? ⟨w.heap.size + 1, 1, none⟩ = false := by simp [World.frozen?, P5]
  have z5 := (Array.getElem?_eq_some_iff.1 P5).1
  clear P5
  go_wp2_with fail
  have P6 : ((w1.setCell ⟨w.heap.size + 1, 0, none⟩ (.int .i64 u.arr)).setCell ⟨w.heap.size + 1, 1, none⟩ (.int .i64 u.pos)).heap[w.heap.size + 1]? = some (.cells #[.int .i64 u.arr, .int .i64 u.pos] 60 (0, 0)) := by
    simp [World.setCell, Array.getElem?_modify, HZ2.out]
  have x0 := cells_two P6
  refine bodyPost_ret (v := .agg #[.int .i64 u.arr, .int .i64 u.pos]) (by simp [results, Try.results72, go_sem, x0.1, x0.2]) rfl ⟨rfl, ?_⟩
  exact (HB1.out.setCell (p := ⟨w.heap.size + 1, 0, none⟩) (by simp only; omega) _).setCell (p := ⟨w.heap.size + 1, 1, none⟩) (by simp only; omega) _
/-- list.Each of accesses: to where they lead. -/
theorem eachTo (a : Option Addr) (len cap : Nat) (gs : List Acc) (Bx Bn : Nat) (xa : Option Addr) (xl xc : Nat) (x : List Int) (za : Option Addr) (zl zc : Nat) (zs : List Int) (w : World) (hr : Accs w a len gs) (hlen : len ≤ 1000) (cx : w.cell? ⟨Bx, 0, none⟩ = some (.slice xa xl xc)) (cn : w.cell? ⟨Bn, 0, none⟩ = some (.slice za zl zc)) (hx : Ints w xa xl x) (hz : Ints w za zl zs) (ho : ∀ a ∈ gs, AccOk zs.length a x.length) (h4 : x.length ≤ 4) (hxb : ∀ y ∈ x, 0 ≤ y ∧ y ≤ 4096) :
    Calls Try.prog 74 #[.slice a len cap, .func (.func 72) #[] #[.pointer (some ⟨Bx, 0, none⟩), .pointer (some ⟨Bn, 0, none⟩)]] w fun e w' => (∃ R : Nat, e = .returned (.slice (some ⟨R, 0, none⟩) len len) ∧ Lies w.heap.size (fun V => PlsAt V (some ⟨R, 0, none⟩) len (gs.map fun a => leadV zs a x)) w') ∧ Below w.heap.size w w' := by
  obtain ⟨qs, hq, hin⟩ := accs_words hr
  refine (eachAP a len cap qs 72 #[.pointer (some ⟨Bx, 0, none⟩), .pointer (some ⟨Bn, 0, none⟩)] (enters_of Try.func72 (by kernel_rfl) rfl) (fun j u V => u = leadV zs (gs[j]?.getD accD) x) w (by omega) hin (fun j W hj hb _ => ?_)).mono ?_
  · refine (to_any (qs j) (gs[j]?.getD accD) Bx Bn xa xl xc x za zl zc zs W ((hq j hj).below hb) ((hb.cell (p := ⟨Bx, 0, none⟩) (lt_of_cell cx)).trans cx) ((hb.cell (p := ⟨Bn, 0, none⟩) (lt_of_cell cn)).trans cn) (hx.below hb) (hz.below hb) (ho _ (mem_getA gs j (by rw [hr.1]; exact hj))) h4 hxb).mono ?_
    rintro e w' ⟨rfl, hb'⟩
    exact ⟨⟨_, rfl, lies_pure rfl _⟩, hb'⟩
  rintro e w' ⟨⟨us, rfl, h1, h2⟩, hb⟩
  refine ⟨⟨_, rfl, (h1.lies (Nat.le_refl _)).imp (fun V hV => pls_out hV (by rw [List.length_map]; exact hr.1) (by omega) (fun j hj => ?_))⟩, hb⟩
  have hjl : j < gs.length := by rw [hr.1]; exact hj
  rw [(h2 j hj).out]
  simp [hjl]
end Go.Proofs.Ytkbdnhchlkafnaa.V
namespace Go.Proofs.Ytkbdnhchlkafnaa.V
open Go Go.RowKit
set_option linter.unusedVariables false

/-- What a place was touched by: two lists' words. -/
structure Ent where
  key : PW
  pa : Option Addr
  pl : Nat
  pc : Nat
  ga : Option Addr
  gl : Nat
  gc : Nat
def Ent.vv (e : Ent) : Value := .agg #[.slice e.pa e.pl e.pc, .slice e.ga e.gl e.gc]
def entZ (k : PW) : Ent := ⟨k, none, 0, 0, none, 0, 0⟩
theorem pw_ext {a b : PW} : a = b ↔ a.arr = b.arr ∧ a.pos = b.pos := by
  cases a
  cases b
  simp
instance : DecidableEq PW := fun a b => decidable_of_iff _ pw_ext.symm
theorem run_eq_place (a b : PW) (w : World) : (Op.equal 60 a.v b.v).run Try.prog w = .ok (decide (a = b)) w := by
  have u3 := Try.underlying3
  have a3 := Try.isAgg3
  have z3 := Try.sizeOf3
  have hS : Try.prog.underlying 60 = some (.struct (Try.prog.fieldsOf 60)) := by kernel_rfl
  have hp : Try.prog.stoodInHeld 60 = false := by kernel_rfl
  unfold PW.v Op.equal Op.maxDepth
  rw [show (10000 : Nat) = 9999 + 1 from rfl, run_equalIn_struct w 9999 60 _ _ hS hp]
  simp only [Program.fieldsOf, Try.underlying60]
  go_simp
  by_cases h1 : a.arr = b.arr <;> by_cases h2 : a.pos = b.pos <;> simp [h1, h2, pw_ext]
theorem run_check_place (e : Bool) (a : PW) (w : World) : (Instr.checkKey e 10000 60 a.v).run Try.prog w = .ok () w := by
  have a3 := Try.isAgg3
  have z3 := Try.sizeOf3
  have hk : ∀ (n : Int) (W : World), (Instr.checkKey e (9998 + 1) 3 (.int .i64 n)).run Try.prog W = .ok () W := fun n W => MapKept.run_checkKey Try.underlying3 (by simp [MapKept.IsKey]) e 9998
  unfold PW.v
  rw [show (10000 : Nat) = 9998 + 1 + 1 from rfl, Instr.checkKey]
  simp only [Sem.run_bind, run_underlying Try.underlying60, Result.andThen_ok]
  rw [← Array.forIn_toList]
  generalize 9998 + 1 = n at hk ⊢
  simp only [List.forIn_cons, List.forIn_nil, Sem.run_bind, Sem.run_ite]
  go_simp
/-- The entry of a place. -/
def findE (k : PW) : List Ent → Nat → Option (Nat × Ent)
  | [], _ => none
  | e :: M, i => if k = e.key then some (i, e) else findE k M (i + 1)
def EntsOf (l : List MapEntry) (M : List Ent) : Prop := l.map (fun e => (e.key, e.val)) = M.map (fun e => (e.key.v, e.vv))
theorem run_find (k : PW) (w : World) : ∀ (M : List Ent) (l : List MapEntry) (i : Nat), EntsOf l M → (Instr.findAsking 60 k.v l i).run Try.prog w = .ok ((findE k M i).map fun p => (p.1, p.2.vv)) w
  | [], l, i, h => by
    have : l = [] := by simpa [EntsOf] using h
    subst this
    simp [Instr.findAsking, findE]
  | e :: M, l, i, h => by
    cases l with
    | nil => simp [EntsOf] at h
    | cons x l =>
      simp only [EntsOf, List.map_cons, List.cons.injEq, Prod.mk.injEq] at h
      obtain ⟨⟨h1, h2⟩, h3⟩ := h
      simp only [Instr.findAsking, Sem.run_bind, h1, run_eq_place, Result.andThen_ok, Sem.run_ite]
      by_cases hk : k = e.key
      · simp [hk, findE, h2]
      · have ih := run_find k w M l (i + 1) h3
        simp [hk, findE, ih]
theorem run_findKey (k : PW) (w : World) (M : List Ent) (l : List MapEntry) (h : EntsOf l M) : (Instr.findKey 60 k.v l).run Try.prog w = .ok ((findE k M 0).map fun p => (p.1, p.2.vv)) w := by
  have hf := run_find k w M l 0 h
  unfold Instr.findKey
  simp only [Sem.run_bind, run_underlying Try.underlying60, Result.andThen_ok]
  cases l with
  | nil =>
    have : M = [] := by
      have := congrArg List.length h
      simpa using this.symm
    subst this
    simp [Instr.findNow, findE]
  | cons x l =>
    have : ∀ v, Instr.sameNow (.struct v) k.v x.key = none := fun v => by unfold PW.v; rfl
    simp only [Instr.findNow, this]
    exact hf
/-- The map's block. -/
def MapAt (W : World) (b : Nat) (M : List Ent) : Prop := ∃ es clock, W.heap[b]? = some (.map es clock) ∧ EntsOf es.toList M
def lookE (k : PW) (M : List Ent) : Ent := ((findE k M 0).map (·.2)).getD (entZ k)
theorem run_look {W : World} {b : Nat} {M : List Ent} (h : MapAt W b M) (k : PW) : (Instr.lookup 112 (.map (some b)) k.v false).run Try.prog W = .ok (lookE k M).vv W := by
  obtain ⟨es, clock, hb, he⟩ := h
  have hz : (zeroValue 147).run Try.prog W = .ok (entZ k).vv W := by
    simp [entZ, Ent.vv, Try.zeroValue147]
  unfold Instr.lookup lookE
  simp only [Sem.run_bind, run_underlying Try.underlying112, Result.andThen_ok, MapKept.run_getObj_map hb, Sem.run_pure, run_check_place, run_findKey k W M es.toList he]
  cases findE k M 0 with
  | none => simp [hz]
  | some p => simp
end Go.Proofs.Ytkbdnhchlkafnaa.V
namespace Go.Proofs.Ytkbdnhchlkafnaa.V
open Go Go.RowKit
set_option linter.unusedVariables false

/-- An entry is put. -/
def putR (e : Ent) : List Ent → List Ent
  | [] => [e]
  | x :: M => if e.key = x.key then e :: M else x :: putR e M
theorem find_put (e : Ent) : ∀ (M : List Ent) (i : Nat), (∀ j x, findE e.key M i = some (j, x) → i ≤ j ∧ j - i < M.length ∧ (M[j - i]?.map (·.key)) = some e.key ∧ putR e M = M.set (j - i) e) ∧ (findE e.key M i = none → putR e M = M ++ [e])
  | [], i => ⟨fun j x h => by simp [findE] at h, fun _ => rfl⟩
  | y :: M, i => by
    obtain ⟨h1, h2⟩ := find_put e M (i + 1)
    unfold findE putR
    by_cases hk : e.key = y.key
    · rw [if_pos hk, if_pos hk]
      refine ⟨fun j x h => ?_, fun h => by cases h⟩
      cases h
      refine ⟨Nat.le_refl _, by simp, ?_, ?_⟩
      · simp [hk]
      · simp
    · rw [if_neg hk, if_neg hk]
      refine ⟨fun j x h => ?_, fun h => by rw [h2 h]; rfl⟩
      obtain ⟨g1, g2, g3, g4⟩ := h1 j x h
      have e1 : j - i = (j - (i + 1)) + 1 := by omega
      rw [e1]
      refine ⟨by omega, by simp; omega, ?_, ?_⟩
      · simpa using g3
      · rw [g4]; rfl
theorem find_shift (k : PW) : ∀ (M : List Ent) (i j : Nat), (findE k M i).map (·.2) = (findE k M j).map (·.2)
  | [], _, _ => rfl
  | x :: M, i, j => by
    unfold findE
    by_cases h : k = x.key
    · simp [h]
    · rw [if_neg h, if_neg h]; exact find_shift k M _ _
theorem lookE_cons (k : PW) (x : Ent) (M : List Ent) : lookE k (x :: M) = if k = x.key then x else lookE k M := by
  unfold lookE
  conv => lhs; unfold findE
  by_cases h : k = x.key
  · simp [h]
  · rw [if_neg h, if_neg h, find_shift k M 1 0]
theorem lookE_put (k : PW) (e : Ent) : ∀ M : List Ent, lookE k (putR e M) = if k = e.key then e else lookE k M
  | [] => by unfold putR; rw [lookE_cons]
  | x :: M => by
    unfold putR
    by_cases h : e.key = x.key
    · rw [if_pos h, lookE_cons, lookE_cons]
      by_cases hk : k = e.key
      · simp [hk]
      · rw [if_neg hk, if_neg hk, if_neg (fun h' => hk (h'.trans h.symm))]
    · rw [if_neg h, lookE_cons, lookE_cons, lookE_put k e M]
      by_cases hk : k = e.key
      · rw [if_pos hk, if_pos hk, if_neg (fun h' => h (hk.symm.trans h'))]
      · rw [if_neg hk, if_neg hk]
theorem same_key (k : PW) : Instr.sameBits 10000 k.v k.v = true := by
  unfold PW.v
  rw [show (10000 : Nat) = 9999 + 1 from rfl]
  simp [Instr.sameBits]
theorem run_stays (k : PW) (w : World) : (Instr.keyThatStays k.v k.v).run Try.prog w = .ok k.v w := by
  simp [Instr.keyThatStays, same_key]
theorem run_put {W : World} {b : Nat} {M : List Ent} (h : MapAt W b M) (e : Ent) : ∃ o : Obj, (Instr.mapUpdate 112 (.map (some b)) e.key.v e.vv).run Try.prog W = .ok () { W with heap := W.heap.setIfInBounds b o } ∧ MapAt { W with heap := W.heap.setIfInBounds b o } b (putR e M) := by
  obtain ⟨es, clock, hb, he⟩ := h
  have hlt := (Array.getElem?_eq_some_iff.1 hb).1
  have hf := run_findKey e.key W M es.toList he
  obtain ⟨p1, p2⟩ := find_put e M 0
  have hlen : es.toList.length = M.length := by have := congrArg List.length he; simpa using this
  cases hfe : findE e.key M 0 with
  | none =>
    rw [hfe] at hf
    refine ⟨.map (es.push { key := e.key.v, val := e.vv, born := clock }) (clock + 1), ?_, es.push { key := e.key.v, val := e.vv, born := clock }, clock + 1, ?_, ?_⟩
    · unfold Instr.mapUpdate
      simp only [Sem.run_bind, run_underlying Try.underlying112, Result.andThen_ok, MapKept.run_getObj_map hb, run_check_place, hf, Option.map_none, MapKept.run_setObj_map _ hb]
    · simp [hlt]
    · rw [p2 hfe]
      unfold EntsOf at he ⊢
      simp [he]
  | some q =>
    obtain ⟨j, x⟩ := q
    obtain ⟨_, g2, g3, g4⟩ := p1 j x hfe
    rw [Nat.sub_zero] at g2 g3 g4
    rw [hfe] at hf
    have h0 : es.size = M.length := by simpa using hlen
    have hj : j < es.size := by omega
    have hkey : es[j].key = e.key.v := by
      have h1 := congrArg (fun l => (l[j]?).map (·.1)) he
      simp only [List.getElem?_map] at h1
      have h2 : es.toList[j]? = some es[j] := by simp [hj]
      rw [h2] at h1
      have h3 : M[j]? = some (M[j]'g2) := by simp [g2]
      rw [h3] at h1 g3
      simp at h1 g3
      rw [h1, g3]
    refine ⟨.map (es.modify j fun y => { y with key := e.key.v, val := e.vv }) clock, ?_, es.modify j fun y => { y with key := e.key.v, val := e.vv }, clock, ?_, ?_⟩
    · unfold Instr.mapUpdate
      have hold : ((es[j]?).map (·.key)).getD e.key.v = e.key.v := by simp [hj, hkey]
      simp only [Sem.run_bind, run_underlying Try.underlying112, Result.andThen_ok, MapKept.run_getObj_map hb, run_check_place, hf, Option.map_some, hold, run_stays, MapKept.run_setObj_map _ hb]
    · simp [hlt]
    · rw [g4]
      unfold EntsOf at he ⊢
      rw [List.map_set, ← he, Array.toList_modify]
      apply List.ext_getElem?
      intro i
      simp only [List.getElem?_map, List.getElem?_modify, List.getElem?_set]
      by_cases e1 : j = i
      · subst e1
        simp [hj]
      · simp [e1]
end Go.Proofs.Ytkbdnhchlkafnaa.V
