/-
  Contract: core.race.
-/
import Derived.Test.YtoabffmiedbkkaaGreatPK35
namespace Go.Proofs.YtoabffmiedbkkaaGreat.V
set_option maxRecDepth 20000
open Go Go.RowKit
set_option linter.unusedVariables false

def RcBlk (W : World) (g : Nat) (an : Bool) (i j : Int) : Prop := W.heap[g]? = some (.cells #[.bool an, .int .i64 i, .int .i64 j] 35 (0, 0))
theorem RcBlk.cells {W : World} {g : Nat} {an : Bool} {i j : Int} (h : RcBlk W g an i j) : (W.cell? ⟨g, 0, none⟩ = some (.bool an) ∧ W.cell? ⟨g, 1, none⟩ = some (.int .i64 i) ∧ W.cell? ⟨g, 2, none⟩ = some (.int .i64 j)) ∧ g < W.heap.size := by
  unfold RcBlk at h
  refine ⟨⟨?_, ?_, ?_⟩, (Array.getElem?_eq_some_iff.1 h).1⟩ <;> simp [World.cell?, h]
theorem RcBlk.free {W : World} {g : Nat} {an : Bool} {i j : Int} (h : RcBlk W g an i j) (k : Nat) : W.frozen? ⟨g, k, none⟩ = false := by
  unfold RcBlk at h
  simp [World.frozen?, h]
theorem RcBlk.put {W : World} {g : Nat} {an : Bool} {i j : Int} (h : RcBlk W g an i j) (an' : Bool) (i' j' : Int) : RcBlk (((W.setCell ⟨g, 0, none⟩ (.bool an')).setCell ⟨g, 1, none⟩ (.int .i64 i')).setCell ⟨g, 2, none⟩ (.int .i64 j')) g an' i' j' := by
  unfold RcBlk at h ⊢
  simp [World.setCell, Array.getElem?_modify, h]
def fFen (N n : Nat) (own others : List In) : Fact := ⟨fun v w => ∃ O, v = .slice (some ⟨O, 0, none⟩) n n ∧ N ≤ O ∧ IRow w O n (fun i => fenTo own others (i + 1)), false⟩
theorem fFen_good (N n : Nat) (own others : List In) : (fFen N n own others).Good := ⟨fun _ _ _ ⟨O, h1, h2, h3⟩ hb => ⟨O, h1, h2, h3.below hb⟩, fun h => by cases h⟩
def fFst (t : Tch) (l : List In) : Fact := ⟨fun v w => ∃ q, v = .int .i64 q ∧ FstW t l q, false⟩
theorem fFst_good (t : Tch) (l : List In) : (fFst t l).Good := ⟨fun _ _ _ h _ => h, fun h => by cases h⟩
/-- The trail is new. -/
structure TrS (W V : World) (T g1 g2 pad : Nat) : Prop where
  tr : TrB V T g1 g2 pad
  r1 : IRow V g1 pad (fun _ => 0)
  r2 : IRow V g2 pad (fun _ => 0)
  ge : W.heap.size ≤ T ∧ W.heap.size ≤ g1 ∧ W.heap.size ≤ g2
  ne : T ≠ g1 ∧ T ≠ g2 ∧ g1 ≠ g2
  bel : Below W.heap.size W V
theorem blk3_new (W : World) (o1 o2 o3 : Obj) : (((W.alloc o1).alloc o2).alloc o3).drew.heap[W.heap.size]? = some o1 ∧ (((W.alloc o1).alloc o2).alloc o3).drew.heap[W.heap.size + 1]? = some o2 ∧ (((W.alloc o1).alloc o2).alloc o3).drew.heap[W.heap.size + 1 + 1]? = some o3 ∧ Below W.heap.size W (((W.alloc o1).alloc o2).alloc o3).drew := by
  have h1 := World.alloc_heap_new W o1
  have h2 := World.alloc_heap_new (W.alloc o1) o2
  have h3 := World.alloc_heap_new ((W.alloc o1).alloc o2) o3
  rw [World.size_alloc] at h2
  rw [World.size_alloc, World.size_alloc] at h3
  refine ⟨?_, ?_, h3, (bl_on (bl_on (bl_new _) (bl_new _)) (bl_new _)).drew⟩
  · exact (Below.heap_alloc _ _ _ (by simp; omega)).trans ((Below.heap_alloc _ _ _ (by simp)).trans h1)
  · exact (Below.heap_alloc _ _ _ (by simp)).trans h2
theorem irow_made {V : World} {g pad : Nat} (h : V.heap[g]? = some (.cells (madeCells #[.int .i64 0] pad) 3)) : IRow V g pad (fun _ => 0) := ⟨_, h, size_madeCells _ _, fun i hi => by simp [madeCells, hi, Nat.mod_one]⟩
theorem trb_new {V : World} {T g1 g2 pad : Nat} (h : V.heap[T]? = some (.cells #[.slice (some ⟨g1, 0, none⟩) pad pad, .slice (some ⟨g2, 0, none⟩) pad pad] 81)) : TrB V T g1 g2 pad := by
  refine ⟨?_, ?_⟩ <;> simp [World.cell?, h]
theorem rt_0 (W : World) (pad : Nat) : TrS W (((W.alloc (.cells #[.slice (some ⟨W.heap.size + 1, 0, none⟩) pad pad, .slice (some ⟨W.heap.size + 1 + 1, 0, none⟩) pad pad] 81)).alloc (.cells (madeCells #[.int .i64 0] pad) 3)).alloc (.cells (madeCells #[.int .i64 0] pad) 3)).drew (W.heap.size) (W.heap.size + 1) (W.heap.size + 1 + 1) pad := by
  have h := blk3_new W (.cells #[.slice (some ⟨W.heap.size + 1, 0, none⟩) pad pad, .slice (some ⟨W.heap.size + 1 + 1, 0, none⟩) pad pad] 81) (.cells (madeCells #[.int .i64 0] pad) 3) (.cells (madeCells #[.int .i64 0] pad) 3)
  exact ⟨trb_new h.1, irow_made h.2.1, irow_made h.2.2.1, by omega, by omega, h.2.2.2⟩
theorem rt_1 (W : World) (pad : Nat) : TrS W (((W.alloc (.cells #[.slice (some ⟨W.heap.size + 1 + 1, 0, none⟩) pad pad, .slice (some ⟨W.heap.size + 1, 0, none⟩) pad pad] 81)).alloc (.cells (madeCells #[.int .i64 0] pad) 3)).alloc (.cells (madeCells #[.int .i64 0] pad) 3)).drew (W.heap.size) (W.heap.size + 1 + 1) (W.heap.size + 1) pad := by
  have h := blk3_new W (.cells #[.slice (some ⟨W.heap.size + 1 + 1, 0, none⟩) pad pad, .slice (some ⟨W.heap.size + 1, 0, none⟩) pad pad] 81) (.cells (madeCells #[.int .i64 0] pad) 3) (.cells (madeCells #[.int .i64 0] pad) 3)
  exact ⟨trb_new h.1, irow_made h.2.2.1, irow_made h.2.1, by omega, by omega, h.2.2.2⟩
theorem rt_2 (W : World) (pad : Nat) : TrS W (((W.alloc (.cells (madeCells #[.int .i64 0] pad) 3)).alloc (.cells #[.slice (some ⟨W.heap.size, 0, none⟩) pad pad, .slice (some ⟨W.heap.size + 1 + 1, 0, none⟩) pad pad] 81)).alloc (.cells (madeCells #[.int .i64 0] pad) 3)).drew (W.heap.size + 1) (W.heap.size) (W.heap.size + 1 + 1) pad := by
  have h := blk3_new W (.cells (madeCells #[.int .i64 0] pad) 3) (.cells #[.slice (some ⟨W.heap.size, 0, none⟩) pad pad, .slice (some ⟨W.heap.size + 1 + 1, 0, none⟩) pad pad] 81) (.cells (madeCells #[.int .i64 0] pad) 3)
  exact ⟨trb_new h.2.1, irow_made h.1, irow_made h.2.2.1, by omega, by omega, h.2.2.2⟩
theorem rt_3 (W : World) (pad : Nat) : TrS W (((W.alloc (.cells (madeCells #[.int .i64 0] pad) 3)).alloc (.cells (madeCells #[.int .i64 0] pad) 3)).alloc (.cells #[.slice (some ⟨W.heap.size, 0, none⟩) pad pad, .slice (some ⟨W.heap.size + 1, 0, none⟩) pad pad] 81)).drew (W.heap.size + 1 + 1) (W.heap.size) (W.heap.size + 1) pad := by
  have h := blk3_new W (.cells (madeCells #[.int .i64 0] pad) 3) (.cells (madeCells #[.int .i64 0] pad) 3) (.cells #[.slice (some ⟨W.heap.size, 0, none⟩) pad pad, .slice (some ⟨W.heap.size + 1, 0, none⟩) pad pad] 81)
  exact ⟨trb_new h.2.2.1, irow_made h.1, irow_made h.2.1, by omega, by omega, h.2.2.2⟩
theorem rt_4 (W : World) (pad : Nat) : TrS W (((W.alloc (.cells (madeCells #[.int .i64 0] pad) 3)).alloc (.cells #[.slice (some ⟨W.heap.size + 1 + 1, 0, none⟩) pad pad, .slice (some ⟨W.heap.size, 0, none⟩) pad pad] 81)).alloc (.cells (madeCells #[.int .i64 0] pad) 3)).drew (W.heap.size + 1) (W.heap.size + 1 + 1) (W.heap.size) pad := by
  have h := blk3_new W (.cells (madeCells #[.int .i64 0] pad) 3) (.cells #[.slice (some ⟨W.heap.size + 1 + 1, 0, none⟩) pad pad, .slice (some ⟨W.heap.size, 0, none⟩) pad pad] 81) (.cells (madeCells #[.int .i64 0] pad) 3)
  exact ⟨trb_new h.2.1, irow_made h.2.2.1, irow_made h.1, by omega, by omega, h.2.2.2⟩
theorem rt_5 (W : World) (pad : Nat) : TrS W (((W.alloc (.cells (madeCells #[.int .i64 0] pad) 3)).alloc (.cells (madeCells #[.int .i64 0] pad) 3)).alloc (.cells #[.slice (some ⟨W.heap.size + 1, 0, none⟩) pad pad, .slice (some ⟨W.heap.size, 0, none⟩) pad pad] 81)).drew (W.heap.size + 1 + 1) (W.heap.size + 1) (W.heap.size) pad := by
  have h := blk3_new W (.cells (madeCells #[.int .i64 0] pad) 3) (.cells (madeCells #[.int .i64 0] pad) 3) (.cells #[.slice (some ⟨W.heap.size + 1, 0, none⟩) pad pad, .slice (some ⟨W.heap.size, 0, none⟩) pad pad] 81)
  exact ⟨trb_new h.2.2.1, irow_made h.2.1, irow_made h.1, by omega, by omega, h.2.2.2⟩
/-- What holds while the mover is gone through. -/
structure RIn (c : CV) (mv mk : List In) (A P T g1 g2 O1 O2 pad : Nat) (w0 : World) (i e : Nat) (w : World) : Prop where
  cb : CBlk w A c
  pb : RcBlk w P false 0 0
  tr : TrB w T g1 g2 pad
  r1 : IRow w g1 pad (fun y => (lastT (touP mk (y : Int)) e : Int))
  r2 : IRow w g2 pad (fun y => (lastT (wriP mk (y : Int)) e : Int))
  fa : IRow w O1 mv.length (fun k => fenTo mv mk (k + 1))
  fb : IRow w O2 mk.length (fun k => fenTo mk mv (k + 1))
  eb : ∀ j, j < e → fenTo mk mv (j + 1) ≤ (i : Int)
  bel : Below w0.heap.size w0 w
  no : ∀ i' j, i' < i → ¬ RaceAt mv mk i' j
/-- No two of these are one. -/
structure RNe (A P T g1 g2 O1 O2 : Nat) : Prop where
  a1 : A ≠ g1
  a2 : A ≠ g2
  p1 : P ≠ g1
  p2 : P ≠ g2
  t1 : T ≠ g1
  t2 : T ≠ g2
  g : g1 ≠ g2
  x1 : O1 ≠ g1
  x2 : O1 ≠ g2
  y1 : O2 ≠ g1
  y2 : O2 ≠ g2
theorem RIn.below {c : CV} {mv mk : List In} {A P T g1 g2 O1 O2 pad : Nat} {w0 : World} {i e : Nat} {w w' : World} (h : RIn c mv mk A P T g1 g2 O1 O2 pad w0 i e w) (hb : Below w.heap.size w w') : RIn c mv mk A P T g1 g2 O1 O2 pad w0 i e w' :=
  ⟨h.cb.below hb, (hb.block _ (Array.getElem?_eq_some_iff.1 h.pb).1).trans h.pb, h.tr.below hb, h.r1.below hb, h.r2.below hb, h.fa.below hb, h.fb.below hb, h.eb, bl_on h.bel hb, h.no⟩
theorem RIn.marked {c : CV} {mv mk : List In} {A P T g1 g2 O1 O2 pad : Nat} {w0 : World} {i e : Nat} {w wm w' : World} (h : RIn c mv mk A P T g1 g2 O1 O2 pad w0 i e w) (hn : RNe A P T g1 g2 O1 O2) (hge : w0.heap.size ≤ g1 ∧ w0.heap.size ≤ g2) (k1 : w.grownBy wm (some g1)) (k2 : wm.grownBy w' (some g2)) (ht : TrB w' T g1 g2 pad)
    (h1 : IRow w' g1 pad (markF (fun y => (lastT (touP mk (y : Int)) e : Int)) (tchV (getI mk e)) ((e : Int) + 1))) (h2 : IRow w' g2 pad (markW (fun y => (lastT (wriP mk (y : Int)) e : Int)) (tchV (getI mk e)) ((e : Int) + 1))) (hf : fenTo mk mv (e + 1) ≤ (i : Int)) : RIn c mv mk A P T g1 g2 O1 O2 pad w0 i (e + 1) w' := by
  have kb : ∀ {b : Nat} {o : Obj}, w.heap[b]? = some o → b ≠ g1 → b ≠ g2 → w'.heap[b]? = some o := fun hb n1 n2 => blk_grown k2 (blk_grown k1 hb n1) n2
  have kr : ∀ {b n : Nat} {f : Nat → Int}, IRow w b n f → b ≠ g1 → b ≠ g2 → IRow w' b n f := fun hr n1 n2 => by
    obtain ⟨c, h1, h2, h3⟩ := hr
    exact ⟨c, kb h1 n1 n2, h2, h3⟩
  refine ⟨kb h.cb hn.a1 hn.a2, kb h.pb hn.p1 hn.p2, ht, h1.congr fun y hy => ?_, h2.congr fun y hy => ?_, kr h.fa hn.x1 hn.x2, kr h.fb hn.y1 hn.y2, fun j hj => ?_, ?_, h.no⟩
  · unfold markF
    rw [lastT]
    show _ = ((if touP mk (y : Int) e = true then e + 1 else lastT (touP mk (y : Int)) e : Nat) : Int)
    by_cases hb : tB (tchV (getI mk e)) (y : Int) = true
    · simp only [if_pos hb, if_pos (show touP mk (y : Int) e = true from hb)]; rfl
    · simp only [if_neg hb, if_neg (show ¬ touP mk (y : Int) e = true from hb)]
  · unfold markW
    rw [lastT]
    show _ = ((if wriP mk (y : Int) e = true then e + 1 else lastT (wriP mk (y : Int)) e : Nat) : Int)
    by_cases hb : inS (tchV (getI mk e)).wr (y : Int) = true
    · simp only [if_pos hb, if_pos (show wriP mk (y : Int) e = true from hb)]; rfl
    · simp only [if_neg hb, if_neg (show ¬ wriP mk (y : Int) e = true from hb)]
  · by_cases e1 : j = e
    · subst e1; exact hf
    · exact h.eb j (by omega)
  · have s1 := h.bel.grown k1 h.bel.size fun y e => by cases e; exact hge.1
    exact s1.grown k2 s1.size fun y e => by cases e; exact hge.2
/-- What crosses tells. -/
theorem crossV_iff {mk : List In} {x : In} {pad but e : Nat} (hx : 1 ≤ x.d ∧ x.d ≤ 4) (ht : TIn (tchV x) pad) : crossV (fun y => (lastT (touP mk (y : Int)) e : Int)) (fun y => (lastT (wriP mk (y : Int)) e : Int)) (tchV x) (but : Int) = true ↔ ∃ k, but ≤ k ∧ k < e ∧ clashI x (getI mk k) = true := by
  rw [← cross_iff hx]
  unfold crossV crossP
  rw [Bool.or_eq_true, later_iff ht.sm.wr ht.wr, later_iff ht.sm.r0 ht.r0]
  have key : ∀ (s : Str) (p : Int → Nat → Bool), inBk s (pad : Int) = true → ((∃ i : Nat, i < pad ∧ inS s (i : Int) = true ∧ (but : Int) < (lastT (p (i : Int)) e : Int)) ↔ ∃ w, inS s w = true ∧ but < lastT (p w) e) := fun s p hin => by
    constructor
    · rintro ⟨i, h1, h2, h3⟩
      exact ⟨(i : Int), h2, by omega⟩
    · rintro ⟨w, h1, h2⟩
      have h4 := h1
      simp only [inS, Bool.and_eq_true, decide_eq_true_eq] at h4
      have h5 := inB_pos hin (by omega)
      obtain ⟨i, rfl⟩ : ∃ i : Nat, w = (i : Int) := ⟨w.toNat, by omega⟩
      exact ⟨i, by omega, h1, by omega⟩
  rw [key _ (touP mk) ht.wr, key _ (wriP mk) ht.r0]
theorem insE_mover {pad mem : Int} {x : In} (h : insE pad mem true x = 0) : 1 ≤ x.d ∧ x.d ≤ 4 := by
  unfold insE at h
  by_cases h1 : hasV true x.d = false
  · rw [if_pos h1] at h; omega
  · unfold hasV at h1
    by_cases h2 : x.d = 1 ∨ x.d = 2
    · omega
    · rw [if_neg h2] at h1
      simp at h1
      omega
set_option maxRecDepth 100000 in
set_option maxHeartbeats 8000000 in
theorem race_any (c : CV) (mv mk : List In) (w : World) (hm : Inss w c.ma c.ml mv) (hk : Inss w c.ka c.kl mk) (hcap : c.kl ≤ c.kc) (h0 : codeE c.pad c.mem mv mk = 0) :
    Calls Tryz.prog 24 #[c.v] w fun r w' => (∃ an i j, r = .returned (.agg #[.bool an, .int .i64 ((i : Nat) : Int), .int .i64 ((j : Nat) : Int)]) ∧ RaceSp mv mk an i j) ∧ Below w.heap.size w w' := by
  have hcode : (0 ≤ c.pad ∧ c.pad ≤ 4096) ∧ mv.length ≤ 262144 ∧ mk.length ≤ 262144 ∧ (∀ x ∈ mv, insE c.pad c.mem true x = 0) ∧ ∀ x ∈ mk, insE c.pad c.mem false x = 0 := by
    have h1 : ¬ (c.pad < 0 ∨ 4096 < c.pad ∨ c.mem < 0 ∨ 1048576 < c.mem) := fun h => by rw [codeE, if_pos h] at h0; omega
    have h2 : ¬ (262144 < mv.length ∨ 262144 < mk.length) := fun h => by rw [codeE, if_neg h1, if_pos h] at h0; omega
    rw [codeE_rest h1 h2] at h0
    by_cases h3 : inssE c.pad c.mem true mv ≠ 0
    · rw [if_pos h3] at h0; exact absurd h0 h3
    rw [if_neg h3] at h0
    by_cases h4 : inssE c.pad c.mem false mk ≠ 0
    · rw [if_pos h4] at h0; exact absurd h0 h4
    exact ⟨by omega, by omega, by omega, fun x hx => inssE_ok (by simpa using h3) x hx, fun x hx => inssE_ok (by simpa using h4) x hx⟩
  obtain ⟨hpd, hml, hkl, hmo, hko⟩ := hcode
  obtain ⟨pad, hpad⟩ : ∃ p : Nat, c.pad = (p : Int) := ⟨c.pad.toNat, by omega⟩
  have hp4 : pad ≤ 4096 := by omega
  obtain ⟨cpad, mem, ma, ml, mc, ka, kl, kc⟩ := c
  simp only at *
  subst hpad
  have HMI : Hid (∀ x ∈ mv, TIn (tchV x) pad ∧ 1 ≤ x.d ∧ x.d ≤ 4) := fun x hx => ⟨tin_of rfl (hmo x hx), insE_mover (hmo x hx)⟩
  have HKI : Hid (∀ x ∈ mk, TIn (tchV x) pad) := fun x hx => tin_of rfl (hko x hx)
  have hmlen := hm.1
  have hklen := hk.1
  have hmb : ml ≤ 262144 := by omega
  have hkb : kl ≤ 262144 := by omega
  have HF1 := hide (fun (V : World) (hV : Below w.heap.size w V) => fences_any ma ml mc mv ka kl kc mk V (hm.below hV) (hk.below hV) (by omega) (by omega) (fun x hx hd => insE_sem (hmo x hx) hd) (fun x hx hd => insE_sem (hko x hx) hd))
  have HF2 := hide (fun (V : World) (hV : Below w.heap.size w V) => fences_any ka kl kc mk ma ml mc mv V (hk.below hV) (hm.below hV) (by omega) (by omega) (fun x hx hd => insE_sem (hko x hx) hd) (fun x hx hd => insE_sem (hmo x hx) hd))
  obtain ⟨W1, hW1⟩ : ∃ W, W = w.alloc (.cells #[.int .i64 (pad : Int), .int .i64 mem, .slice ma ml mc, .slice ka kl kc] 24) := ⟨_, rfl⟩
  obtain ⟨W, hW⟩ : ∃ W, W = W1.alloc (.cells #[.bool false, .int .i64 0, .int .i64 0] 35) := ⟨_, rfl⟩
  have s1 : W1.heap.size = w.heap.size + 1 := by rw [hW1]; simp
  have b1 : Below w.heap.size w W1 := by rw [hW1]; exact bl_new _
  have b2 : Below W1.heap.size W1 W := by rw [hW]; exact bl_new _
  have hb : Below w.heap.size w W := bl_on b1 b2
  have hC : CBlk W w.heap.size ⟨(pad : Int), mem, ma, ml, mc, ka, kl, kc⟩ := by
    have : CBlk W1 w.heap.size ⟨(pad : Int), mem, ma, ml, mc, ka, kl, kc⟩ := by rw [hW1]; exact CBlk.new w ⟨(pad : Int), mem, ma, ml, mc, ka, kl, kc⟩
    exact this.below b2
  have hP : RcBlk W (w.heap.size + 1) false 0 0 := by rw [hW, ← s1]; exact World.alloc_heap_new _ _
  have hW2 : W = (w.alloc (.cells #[.int .i64 (pad : Int), .int .i64 mem, .slice ma ml mc, .slice ka kl kc] 24)).alloc (.cells #[.bool false, .int .i64 0, .int .i64 0] 35) := by rw [hW, hW1]
  have hsz : W.heap.size = w.heap.size + 2 := by rw [hW2]; simp
  have hmk := run_make_row' (P := Tryz.prog) 26 3 (.int .i64 0) 8 Tryz.underlying26 (by kernel_rfl) rfl .i64 .i64 pad (by omega) (by omega)
  obtain ⟨⟨c0, c1, c2, c3⟩, zc⟩ := hC.cells
  simp only at c0 c1 c2 c3
  have HW := hide hW2
  have HB := hide hb
  have HC := hide hC
  have HP := hide hP
  have HM := hide hm
  have HK := hide hk
  have HSZ := hide hsz
  have HLN := hide (And.intro hmlen hklen)
  clear hW hW1 hW2 s1 b1 b2 hb hC hP hm hk hmo hko h0 hpd hsz hmlen hklen
  unfold CV.v
  simp only
  go_enter Tryz.func24, Tryz.ntmps24
  go_upto_region 1 with fail
  rw [← HW.out]
  refine region_made 10 12 [fIs (.pointer (some ⟨w.heap.size, 2, none⟩)), fIs (.slice ma ml mc), fIs (.pointer (some ⟨w.heap.size, 3, none⟩)), fIs (.slice ka kl kc), fFen W.heap.size ml mv mk, fIs (.pointer (some ⟨w.heap.size, 3, none⟩)), fIs (.slice ka kl kc), fIs (.pointer (some ⟨w.heap.size, 2, none⟩)), fIs (.slice ma ml mc), fFen W.heap.size kl mk mv] (by kernel_rfl) (by kernel_rfl) (by kernel_rfl) (fun ch p q w3 e h => by obtain ⟨t1, d1⟩ := p; obtain ⟨t2, d2⟩ := q; cases e; exact h) ⟨fIs_good _, fIs_good _, fIs_good _, fIs_good _, fFen_good _ _ _ _, fIs_good _, fIs_good _, fIs_good _, fIs_good _, fFen_good _ _ _ _, trivial⟩ ?mkA1 ?restA1
  case mkA1 =>
    refine ⟨fun u wz hb hd => ?_, fun u wz hb hd => ?_, fun u wz hb hd => ?_, fun u wz hb hd => ?_, fun u wz hb hd => ?_, fun u wz hb hd => ?_, fun u wz hb hd => ?_, fun u wz hb hd => ?_, fun u wz hb hd => ?_, fun u wz hb hd => ?_, trivial⟩
    all_goals simp only [Act.put, List.setIfInBounds_toArray, List.set_cons_zero, List.set_cons_succ]
    · go_simp
      exact ⟨rfl, Below.refl _ _, fun h => by cases h⟩
    · have e0 : u 0 = .pointer (some ⟨w.heap.size, 2, none⟩) := hd 0 (by omega) (by kernel_rfl)
      rw [e0]
      have c2' := (hb.cell (p := ⟨w.heap.size, 2, none⟩) (lt_of_cell c2)).trans c2
      go_simp
      exact ⟨rfl, Below.refl _ _, fun h => by cases h⟩
    · go_simp
      exact ⟨rfl, Below.refl _ _, fun h => by cases h⟩
    · have e2 : u 2 = .pointer (some ⟨w.heap.size, 3, none⟩) := hd 2 (by omega) (by kernel_rfl)
      rw [e2]
      have c3' := (hb.cell (p := ⟨w.heap.size, 3, none⟩) (lt_of_cell c3)).trans c3
      go_simp
      exact ⟨rfl, Below.refl _ _, fun h => by cases h⟩
    · have e1 : u 1 = .slice ma ml mc := hd 1 (by omega) (by kernel_rfl)
      have e3 : u 3 = .slice ka kl kc := hd 3 (by omega) (by kernel_rfl)
      rw [e1, e3]
      go_simp
      refine (HF1.out wz (bl_on HB.out hb)).mono ?_
      rintro r w2 ⟨⟨O, rfl, hO, hr⟩, hb2⟩
      exact ⟨⟨O, rfl, Nat.le_trans hb.size hO, hr⟩, hb2, fun h => by cases h⟩
    · go_simp
      exact ⟨rfl, Below.refl _ _, fun h => by cases h⟩
    · have e5 : u 5 = .pointer (some ⟨w.heap.size, 3, none⟩) := hd 5 (by omega) (by kernel_rfl)
      rw [e5]
      have c3' := (hb.cell (p := ⟨w.heap.size, 3, none⟩) (lt_of_cell c3)).trans c3
      go_simp
      exact ⟨rfl, Below.refl _ _, fun h => by cases h⟩
    · go_simp
      exact ⟨rfl, Below.refl _ _, fun h => by cases h⟩
    · have e7 : u 7 = .pointer (some ⟨w.heap.size, 2, none⟩) := hd 7 (by omega) (by kernel_rfl)
      rw [e7]
      have c2' := (hb.cell (p := ⟨w.heap.size, 2, none⟩) (lt_of_cell c2)).trans c2
      go_simp
      exact ⟨rfl, Below.refl _ _, fun h => by cases h⟩
    · have e6 : u 6 = .slice ka kl kc := hd 6 (by omega) (by kernel_rfl)
      have e8 : u 8 = .slice ma ml mc := hd 8 (by omega) (by kernel_rfl)
      rw [e6, e8]
      go_simp
      refine (HF2.out wz (bl_on HB.out hb)).mono ?_
      rintro r w2 ⟨⟨O, rfl, hO, hr⟩, hb2⟩
      exact ⟨⟨O, rfl, Nat.le_trans hb.size hO, hr⟩, hb2, fun h => by cases h⟩
  case restA1 =>
    intro u wz hb hf hp
    have f0 : u 0 = .pointer (some ⟨w.heap.size, 2, none⟩) := hf 0 (by omega)
    have f1 : u 1 = .slice ma ml mc := hf 1 (by omega)
    have f2 : u 2 = .pointer (some ⟨w.heap.size, 3, none⟩) := hf 2 (by omega)
    have f3 : u 3 = .slice ka kl kc := hf 3 (by omega)
    obtain ⟨O1, f4, hO1, hr1⟩ := hf 4 (by omega)
    have f5 : u 5 = .pointer (some ⟨w.heap.size, 3, none⟩) := hf 5 (by omega)
    have f6 : u 6 = .slice ka kl kc := hf 6 (by omega)
    have f7 : u 7 = .pointer (some ⟨w.heap.size, 2, none⟩) := hf 7 (by omega)
    have f8 : u 8 = .slice ma ml mc := hf 8 (by omega)
    obtain ⟨O2, f9, hO2, hr2⟩ := hf 9 (by omega)
    refine UptoW.rest 2 10 (by rfl) (by kernel_rfl) ?_
    simp only [List.take, List.drop, putOps, Act.put, List.setIfInBounds_toArray, List.set_cons_zero, List.set_cons_succ, Nat.reduceAdd, f0, f1, f2, f3, f4, f5, f6, f7, f8, f9]
    clear f0 f1 f2 f3 f4 f5 f6 f7 f8 f9 hf hp
    have HC2 := hide (HC.out.below hb)
    have HP2 : Hid (RcBlk wz (w.heap.size + 1) false 0 0) := (hb.block _ (Array.getElem?_eq_some_iff.1 HP.out).1).trans HP.out
    have HB2 := hide (bl_on HB.out hb)
    have HR1 := hide hr1
    have HR2 := hide hr2
    have HON := hide (And.intro hO1 hO2)
    have HZ2 := hide hb.size
    obtain ⟨W3, hW3⟩ : ∃ W3, W3 = wz := ⟨_, rfl⟩
    subst hW3
    clear hb hr1 hr2 hO1 hO2 c0 c1 c2 c3 zc
    obtain ⟨⟨c0, c1, c2, c3⟩, zc⟩ := HC2.out.cells
    simp only at c0 c1 c2 c3
    go_upto_region 2 with fail
    go_cut [5] (fun v5 wx => ∃ T g1 g2, v5 = .pointer (some ⟨T, 0, none⟩) ∧ TrS W3 wx T g1 g2 pad)
    case first =>
      go_region_held3 (fun w' => w'.cell? ⟨w.heap.size, 0, none⟩ = some (.int .i64 (pad : Int))) (with_reducible (repeat (first | assumption | apply drew_cell | apply alloc_cell))) ((fail))
      all_goals go_wp2
      all_goals go_meet
      all_goals first | exact ⟨_, _, _, rfl, rt_0 _ _⟩ | exact ⟨_, _, _, rfl, rt_1 _ _⟩ | exact ⟨_, _, _, rfl, rt_2 _ _⟩ | exact ⟨_, _, _, rfl, rt_3 _ _⟩ | exact ⟨_, _, _, rfl, rt_4 _ _⟩ | exact ⟨_, _, _, rfl, rt_5 _ _⟩
    case rest =>
      obtain ⟨T, g1, g2, rfl, hts⟩ := hcut
      have hne : RNe w.heap.size (w.heap.size + 1) T g1 g2 O1 O2 := by
        have h1 := hts.ge
        have h2 := hts.ne
        have h3 := HSZ.out
        have h4 := HZ2.out
        have h5 := HR1.out.lt
        have h6 := HR2.out.lt
        exact ⟨by omega, by omega, by omega, by omega, h2.1, h2.2.1, h2.2.2, by omega, by omega, by omega, by omega⟩
      have hge : w.heap.size ≤ g1 ∧ w.heap.size ≤ g2 := by
        have h1 := hts.ge
        have h2 := HB2.out.size
        omega
      have hri : RIn ⟨(pad : Int), mem, ma, ml, mc, ka, kl, kc⟩ mv mk w.heap.size (w.heap.size + 1) T g1 g2 O1 O2 pad w 0 0 wc := by
        refine ⟨HC2.out.below hts.bel, (hts.bel.block _ (Array.getElem?_eq_some_iff.1 HP2.out).1).trans HP2.out, hts.tr, hts.r1.congr fun y hy => rfl, hts.r2.congr fun y hy => rfl, ?_, ?_, fun j hj => by omega, bl_on HB2.out hts.bel, fun i' j h => by omega⟩
        · rw [HLN.out.1]; exact HR1.out.below hts.bel
        · rw [HLN.out.2]; exact HR2.out.below hts.bel
      have HRI := hide hri
      have HNE := hide hne
      have HGE := hide hge
      clear hts hne hge hri c0 c1 c2 c3 zc HC2 HP2 HB2 HR1 HR2 HON HZ2
      obtain ⟨⟨c0, c1, c2, c3⟩, zc⟩ := HRI.out.cb.cells
      simp only at c0 c1 c2 c3
      go_wp2_with fail
      go_loopw [6, 32] (fun v6 v32 wr => ∃ i e : Nat, i ≤ ml ∧ v32 = .int .i64 i ∧ e ≤ kl ∧ v6 = .int .i64 e ∧ RIn ⟨(pad : Int), mem, ma, ml, mc, ka, kl, kc⟩ mv mk w.heap.size (w.heap.size + 1) T g1 g2 O1 O2 pad w i e wr) (fun v6 v32 _ => ml - (intOf v32).toNat)
      case atStart => exact ⟨0, 0, by omega, rfl, by omega, rfl, HRI.out⟩
      case round =>
        clear HRI c0 c1 c2 c3 zc
        obtain ⟨i, e, hi, rfl, he, rfl, hri⟩ := hrel
        by_cases hil : i < ml
        · have hiz : (i : Int) < (ml : Int) := by omega
          obtain ⟨b, off, rfl, hin⟩ := HM.out.2.2.resolve_left (by omega)
          obtain ⟨k0, k1, k2, k3, k4, k5⟩ := (hin i hil).below hri.bel
          obtain ⟨x, hx⟩ : ∃ x, x = mv[i]?.getD inD := ⟨_, rfl⟩
          have him : i < mv.length := by have := HM.out.1; omega
          have hxi := HMI.out x (by rw [hx]; exact mem_getI _ _ him)
          have hgx : getI mv i = x := by rw [hx]; rfl
          rw [← hx] at k0 k1 k2 k3 k4 k5
          obtain ⟨V, hV⟩ : ∃ V, V = wr.alloc (.cells #[.int .i64 x.d, .int .i64 x.a, .int .i64 x.b, .int .i64 x.c, .int .i64 x.n, .int .i64 x.v] 50) := ⟨_, rfl⟩
          have hbV : Below wr.heap.size wr V := by rw [hV]; exact bl_new _
          have hI : InBlk V wr.heap.size x := by rw [hV]; exact InBlk.new _ _
          obtain ⟨g9, hg9⟩ : ∃ g9, g9 = wr.heap.size := ⟨_, rfl⟩
          rw [← hg9] at hI
          have hn9 : g9 ≠ g1 ∧ g9 ≠ g2 := by have h1 := hri.r1.lt; have h2 := hri.r2.lt; omega
          have zk := lt_of_cell k0
          simp only at zk
          have HV := hide hV
          have H9 := hide hg9
          have HI := hide hI
          have HRV := hide (hri.below hbV)
          have HGX := hide hgx
          have HXI := hide hxi
          have HN9 := hide hn9
          have HIM := hide him
          clear hin hbV hI hV hg9 hri hx hgx hxi hn9 him
          go_upto_region 7 with fail
          rw [← HV.out, ← H9.out]
          clear k0 k1 k2 k3 k4 k5 zk
          go_loopw [6] (fun v6 wv => ∃ e : Nat, e ≤ kl ∧ v6 = .int .i64 e ∧ RIn ⟨(pad : Int), mem, some ⟨b, off, none⟩, ml, mc, ka, kl, kc⟩ mv mk w.heap.size (w.heap.size + 1) T g1 g2 O1 O2 pad w i e wv ∧ InBlk wv g9 x) (fun v6 _ => kl - (intOf v6).toNat)
          case atStart => exact ⟨e, he, rfl, HRV.out, HI.out⟩
          case round =>
            clear HRV HI HV H9
            obtain ⟨e2, he2, rfl, hri, hI⟩ := hrel
            have HRI := hide hri
            have HI := hide hI
            obtain ⟨⟨c0, c1, c2, c3⟩, zc⟩ := hri.cb.cells
            simp only at c0 c1 c2 c3
            clear hri hI
            by_cases hel : e2 < kl
            · have hez : (e2 : Int) < (kl : Int) := by omega
              have d0 := HRI.out.fb.cell (i := e2) (by have := HK.out.1; omega)
              have zo := HRI.out.fb.lt
              obtain ⟨Z, hZ⟩ : ∃ Z, Z = fenTo mk mv (e2 + 1) := ⟨_, rfl⟩
              simp only [← hZ] at d0
              have HZ := hide hZ
              clear hZ
              by_cases hzi : Z ≤ (i : Int)
              · obtain ⟨b2, o2, hka, hin⟩ := HK.out.2.2.resolve_left (by omega)
                obtain ⟨k0, k1, k2, k3, k4, k5⟩ := (hin e2 hel).below HRI.out.bel
                obtain ⟨y, hy⟩ : ∃ y, y = mk[e2]?.getD inD := ⟨_, rfl⟩
                have hem : e2 < mk.length := by have := HK.out.1; omega
                have hyi := HKI.out y (by rw [hy]; exact mem_getI _ _ hem)
                have hgy : getI mk e2 = y := by rw [hy]; rfl
                rw [← hy] at k0 k1 k2 k3 k4 k5
                have zk := lt_of_cell k0
                simp only at zk
                rw [hka] at c3
                have HTY := hide (fun V => touched_any y V)
                unfold In.v6 at HTY
                have HGY := hide hgy
                have HYI := hide hyi
                clear hin hy hgy hyi hem hka
                go_wp2_with fail
                refine (HTY.out wr).mono ?_
                rintro r w5 ⟨rfl, hb5⟩
                have HR5 := hide (HRI.out.below hb5)
                have HI5 := hide (HI.out.below hb5)
                clear hb5 k0 k1 k2 k3 k4 k5 zk c0 c1 c2 c3 zc d0 zo
                go_wp2_with fail
                refine (mark_any T g1 g2 pad _ _ (tchV y) e2 HYI.out (by omega) (by omega) w5 HR5.out.tr HR5.out.r1 HR5.out.r2 HNE.out.t1 HNE.out.t2 HNE.out.g).mono ?_
                rintro r w6 ⟨rfl, m1, m2, m3, wm, m4, m5⟩
                rw [← HGY.out] at m1 m2
                have HR6 := hide (HR5.out.marked HNE.out HGE.out m4 m5 m3 m1 m2 (by rw [← HZ.out]; exact hzi))
                have HI6 : Hid (InBlk w6 g9 x) := blk_grown m5 (blk_grown m4 HI5.out HN9.out.1) HN9.out.2
                clear m1 m2 m3 m4 m5 wm
                go_wp2_with fail
                go_roundw
                case rel => exact ⟨e2 + 1, by omega, by go_num, HR6.out, HI6.out⟩
                case measure => simp [intOf]; omega
              · have HEND : Hid (∀ j, e2 ≤ j → ¬ fenTo mk mv (j + 1) ≤ (i : Int)) := fun j hj h => by
                  have h1 := fenTo_mono mk mv (j - e2) (e2 + 1)
                  rw [show e2 + 1 + (j - e2) = j + 1 by omega] at h1
                  have h2 := HZ.out
                  omega
                have HCAND : Hid (∀ j, RaceAt mv mk i j ↔ (fenTo mv mk (i + 1) ≤ (j : Int) ∧ j < e2 ∧ clashI x (getI mk j) = true)) := fun j => by
                  constructor
                  · intro h
                    refine ⟨h.ah, ?_, by rw [← HGX.out]; exact h.cl⟩
                    have h1 := h.bh
                    rcases Nat.lt_or_ge j e2 with h2 | h2
                    · exact h2
                    · exact absurd h1 (HEND.out j h2)
                  · rintro ⟨h1, h2, h3⟩
                    exact ⟨HIM.out, by have := HK.out.1; omega, h1, HRI.out.eb j h2, by rw [HGX.out]; exact h3⟩
                clear HEND
                obtain ⟨a0, ha0⟩ : ∃ a0 : Nat, fenTo mv mk (i + 1) = (a0 : Int) := ⟨(fenTo mv mk (i + 1)).toNat, by have := fenTo_bd mv mk (i + 1); omega⟩
                have ha1 : a0 ≤ kl := by have h1 := fenTo_bd mv mk (i + 1); have h2 := HK.out.1; omega
                have HA0 := hide ha0
                obtain ⟨⟨i0, i1, i2, i3, i4, i5⟩, zi⟩ := HI.out.cells
                have HTX := hide (touched_any x wr)
                unfold In.v6 at HTX
                go_wp2_with fail
                refine HTX.out.mono ?_
                rintro r w5 ⟨rfl, hb5⟩
                unfold Tch.v
                obtain ⟨t, ht⟩ : ∃ t, t = tchV x := ⟨_, rfl⟩
                rw [← ht]
                obtain ⟨V, hV⟩ : ∃ V, V = w5.alloc (.cells #[.int .i64 t.r0.f, .int .i64 t.r0.w, .int .i64 t.r1.f, .int .i64 t.r1.w, .int .i64 t.r2.f, .int .i64 t.r2.w, .int .i64 t.wr.f, .int .i64 t.wr.w] 68) := ⟨_, rfl⟩
                have hbV : Below w5.heap.size w5 V := by rw [hV]; exact bl_new _
                obtain ⟨B9, hB9⟩ : ∃ B9, B9 = w5.heap.size := ⟨_, rfl⟩
                have hT9 : TBlk V B9 t := by rw [hV, hB9]; exact World.alloc_heap_new _ _
                have hRV := (HRI.out.below hb5).below hbV
                have hti : TIn t pad := by rw [ht]; exact HXI.out.1
                have HCR := hide (fun (V2 : World) (hV2 : Below V.heap.size V V2) => crosses_any T g1 g2 pad _ _ t (a0 : Int) hti (by omega) V2 (hRV.tr.below hV2) (hRV.r1.below hV2) (hRV.r2.below hV2))
                have HCI := hide (crossV_iff (mk := mk) (x := x) (pad := pad) (but := a0) (e := e2) HXI.out.2 HXI.out.1)
                rw [← ht] at HCI
                obtain ⟨cb, hcb⟩ : ∃ cb, cb = crossV (fun y => (lastT (touP mk (y : Int)) e2 : Int)) (fun y => (lastT (wriP mk (y : Int)) e2 : Int)) t (a0 : Int) := ⟨_, rfl⟩
                rw [← hcb] at HCI HCR
                unfold Tch.v at HCR
                have d1 := hRV.fa.cell HIM.out
                simp only [ha0] at d1
                have zd := hRV.fa.lt
                obtain ⟨⟨p0, p1, p2, p3, p4, p5, p6, p7⟩, zp⟩ := blk8 hT9
                have HV := hide hV
                have H99 := hide hB9
                have HT9 := hide hT9
                have HRV := hide hRV
                have HTE := hide ht
                have HTI := hide hti
                clear hb5 hbV hV hB9 hT9 hRV ht hti hcb i0 i1 i2 i3 i4 i5 zi c0 c1 c2 c3 zc HRI HI
                go_upto_region 11 with fail
                rw [← HV.out, ← H99.out]
                cases cb
                · refine region_made 6 8 [fIs (.agg #[.int .i64 t.r0.f, .int .i64 t.r0.w, .int .i64 t.r1.f, .int .i64 t.r1.w, .int .i64 t.r2.f, .int .i64 t.r2.w, .int .i64 t.wr.f, .int .i64 t.wr.w]), fIs (.slice (some ⟨O1, 0, none⟩) ml ml), fIs (.int .i64 (i : Int)), fIs (.pointer (some ⟨O1, i, none⟩)), fIs (.int .i64 (a0 : Int)), fIs (.bool false)] (by kernel_rfl) (by kernel_rfl) (by kernel_rfl) (fun ch p q w3 e h => by obtain ⟨t1, d1⟩ := p; obtain ⟨t2, d2⟩ := q; cases e; exact h) ⟨fIs_good _, fIs_good _, fIs_good _, fIs_good _, fIs_good _, fIs_good _, trivial⟩ ?mkP ?restP
                  case mkP =>
                    refine ⟨fun u wz hb hd => ?_, fun u wz hb hd => ?_, fun u wz hb hd => ?_, fun u wz hb hd => ?_, fun u wz hb hd => ?_, fun u wz hb hd => ?_, trivial⟩
                    all_goals simp only [Act.put, List.setIfInBounds_toArray, List.set_cons_zero, List.set_cons_succ]
                    · have p0' := (hb.cell (p := ⟨B9, 0, none⟩) (lt_of_cell p0)).trans p0
                      have p1' := (hb.cell (p := ⟨B9, 1, none⟩) (lt_of_cell p1)).trans p1
                      have p2' := (hb.cell (p := ⟨B9, 2, none⟩) (lt_of_cell p2)).trans p2
                      have p3' := (hb.cell (p := ⟨B9, 3, none⟩) (lt_of_cell p3)).trans p3
                      have p4' := (hb.cell (p := ⟨B9, 4, none⟩) (lt_of_cell p4)).trans p4
                      have p5' := (hb.cell (p := ⟨B9, 5, none⟩) (lt_of_cell p5)).trans p5
                      have p6' := (hb.cell (p := ⟨B9, 6, none⟩) (lt_of_cell p6)).trans p6
                      have p7' := (hb.cell (p := ⟨B9, 7, none⟩) (lt_of_cell p7)).trans p7
                      go_simp
                      exact ⟨rfl, Below.refl _ _, fun h => by cases h⟩
                    · go_simp
                      exact ⟨rfl, Below.refl _ _, fun h => by cases h⟩
                    · go_simp
                      exact ⟨rfl, Below.refl _ _, fun h => by cases h⟩
                    · have e1 : u 1 = .slice (some ⟨O1, 0, none⟩) ml ml := hd 1 (by omega) (by kernel_rfl)
                      have e2 : u 2 = .int .i64 (i : Int) := hd 2 (by omega) (by kernel_rfl)
                      rw [e1, e2]
                      go_simp
                      exact ⟨rfl, Below.refl _ _, fun h => by cases h⟩
                    · have e3 : u 3 = .pointer (some ⟨O1, i, none⟩) := hd 3 (by omega) (by kernel_rfl)
                      rw [e3]
                      have d1' := (hb.cell (p := ⟨O1, i, none⟩) (lt_of_cell d1)).trans d1
                      go_simp
                      exact ⟨rfl, Below.refl _ _, fun h => by cases h⟩
                    · have e0 : u 0 = .agg #[.int .i64 t.r0.f, .int .i64 t.r0.w, .int .i64 t.r1.f, .int .i64 t.r1.w, .int .i64 t.r2.f, .int .i64 t.r2.w, .int .i64 t.wr.f, .int .i64 t.wr.w] := hd 0 (by omega) (by kernel_rfl)
                      have e4 : u 4 = .int .i64 (a0 : Int) := hd 4 (by omega) (by kernel_rfl)
                      rw [e0, e4]
                      go_simp
                      refine (HCR.out wz hb).mono ?_
                      rintro r w7 ⟨rfl, hb7⟩
                      exact ⟨rfl, hb7, fun h => by cases h⟩
                  case restP =>
                    intro u wz hb hf hp
                    have f0 : u 0 = .agg #[.int .i64 t.r0.f, .int .i64 t.r0.w, .int .i64 t.r1.f, .int .i64 t.r1.w, .int .i64 t.r2.f, .int .i64 t.r2.w, .int .i64 t.wr.f, .int .i64 t.wr.w] := hf 0 (by omega)
                    have f1 : u 1 = .slice (some ⟨O1, 0, none⟩) ml ml := hf 1 (by omega)
                    have f2 : u 2 = .int .i64 (i : Int) := hf 2 (by omega)
                    have f3 : u 3 = .pointer (some ⟨O1, i, none⟩) := hf 3 (by omega)
                    have f4 : u 4 = .int .i64 (a0 : Int) := hf 4 (by omega)
                    have f5 : u 5 = .bool false := hf 5 (by omega)
                    refine UptoW.rest 1 6 (by rfl) (by kernel_rfl) ?_
                    simp only [List.take, List.drop, putOps, Act.put, List.setIfInBounds_toArray, List.set_cons_zero, List.set_cons_succ, Nat.reduceAdd, f0, f1, f2, f3, f4, f5]
                    clear f0 f1 f2 f3 f4 f5 hf hp
                    have HRW := hide (HRV.out.below hb)
                    clear hb p0 p1 p2 p3 p4 p5 p6 p7 zp d1 zd
                    have HNI : Hid (RIn ⟨(pad : Int), mem, some ⟨b, off, none⟩, ml, mc, ka, kl, kc⟩ mv mk w.heap.size (w.heap.size + 1) T g1 g2 O1 O2 pad w (i + 1) e2 wz) := by
                      have h := HRW.out
                      refine ⟨h.cb, h.pb, h.tr, h.r1, h.r2, h.fa, h.fb, fun j hj => by have := h.eb j hj; omega, h.bel, fun i' j hi' hrc => ?_⟩
                      by_cases e1 : i' = i
                      · subst e1
                        have h1 := (HCAND.out j).1 hrc
                        have h2 : (false = true) := HCI.out.2 ⟨j, by have h3 := HA0.out; omega, h1.2.1, h1.2.2⟩
                        cases h2
                      · exact h.no i' j (by omega) hrc
                    go_wp2_with fail
                    go_roundw
                    case rel => exact ⟨i + 1, e2, by omega, by go_num, he2, rfl, HNI.out⟩
                    case measure => simp [intOf]; omega
                · refine region_made 6 8 [fIs (.agg #[.int .i64 t.r0.f, .int .i64 t.r0.w, .int .i64 t.r1.f, .int .i64 t.r1.w, .int .i64 t.r2.f, .int .i64 t.r2.w, .int .i64 t.wr.f, .int .i64 t.wr.w]), fIs (.slice (some ⟨O1, 0, none⟩) ml ml), fIs (.int .i64 (i : Int)), fIs (.pointer (some ⟨O1, i, none⟩)), fIs (.int .i64 (a0 : Int)), fIs (.bool true)] (by kernel_rfl) (by kernel_rfl) (by kernel_rfl) (fun ch p q w3 e h => by obtain ⟨t1, d1⟩ := p; obtain ⟨t2, d2⟩ := q; cases e; exact h) ⟨fIs_good _, fIs_good _, fIs_good _, fIs_good _, fIs_good _, fIs_good _, trivial⟩ ?mkQ ?restQ
                  case mkQ =>
                    refine ⟨fun u wz hb hd => ?_, fun u wz hb hd => ?_, fun u wz hb hd => ?_, fun u wz hb hd => ?_, fun u wz hb hd => ?_, fun u wz hb hd => ?_, trivial⟩
                    all_goals simp only [Act.put, List.setIfInBounds_toArray, List.set_cons_zero, List.set_cons_succ]
                    · have p0' := (hb.cell (p := ⟨B9, 0, none⟩) (lt_of_cell p0)).trans p0
                      have p1' := (hb.cell (p := ⟨B9, 1, none⟩) (lt_of_cell p1)).trans p1
                      have p2' := (hb.cell (p := ⟨B9, 2, none⟩) (lt_of_cell p2)).trans p2
                      have p3' := (hb.cell (p := ⟨B9, 3, none⟩) (lt_of_cell p3)).trans p3
                      have p4' := (hb.cell (p := ⟨B9, 4, none⟩) (lt_of_cell p4)).trans p4
                      have p5' := (hb.cell (p := ⟨B9, 5, none⟩) (lt_of_cell p5)).trans p5
                      have p6' := (hb.cell (p := ⟨B9, 6, none⟩) (lt_of_cell p6)).trans p6
                      have p7' := (hb.cell (p := ⟨B9, 7, none⟩) (lt_of_cell p7)).trans p7
                      go_simp
                      exact ⟨rfl, Below.refl _ _, fun h => by cases h⟩
                    · go_simp
                      exact ⟨rfl, Below.refl _ _, fun h => by cases h⟩
                    · go_simp
                      exact ⟨rfl, Below.refl _ _, fun h => by cases h⟩
                    · have e1 : u 1 = .slice (some ⟨O1, 0, none⟩) ml ml := hd 1 (by omega) (by kernel_rfl)
                      have e2 : u 2 = .int .i64 (i : Int) := hd 2 (by omega) (by kernel_rfl)
                      rw [e1, e2]
                      go_simp
                      exact ⟨rfl, Below.refl _ _, fun h => by cases h⟩
                    · have e3 : u 3 = .pointer (some ⟨O1, i, none⟩) := hd 3 (by omega) (by kernel_rfl)
                      rw [e3]
                      have d1' := (hb.cell (p := ⟨O1, i, none⟩) (lt_of_cell d1)).trans d1
                      go_simp
                      exact ⟨rfl, Below.refl _ _, fun h => by cases h⟩
                    · have e0 : u 0 = .agg #[.int .i64 t.r0.f, .int .i64 t.r0.w, .int .i64 t.r1.f, .int .i64 t.r1.w, .int .i64 t.r2.f, .int .i64 t.r2.w, .int .i64 t.wr.f, .int .i64 t.wr.w] := hd 0 (by omega) (by kernel_rfl)
                      have e4 : u 4 = .int .i64 (a0 : Int) := hd 4 (by omega) (by kernel_rfl)
                      rw [e0, e4]
                      go_simp
                      refine (HCR.out wz hb).mono ?_
                      rintro r w7 ⟨rfl, hb7⟩
                      exact ⟨rfl, hb7, fun h => by cases h⟩
                  case restQ =>
                    intro u wz hb hf hp
                    have f0 : u 0 = .agg #[.int .i64 t.r0.f, .int .i64 t.r0.w, .int .i64 t.r1.f, .int .i64 t.r1.w, .int .i64 t.r2.f, .int .i64 t.r2.w, .int .i64 t.wr.f, .int .i64 t.wr.w] := hf 0 (by omega)
                    have f1 : u 1 = .slice (some ⟨O1, 0, none⟩) ml ml := hf 1 (by omega)
                    have f2 : u 2 = .int .i64 (i : Int) := hf 2 (by omega)
                    have f3 : u 3 = .pointer (some ⟨O1, i, none⟩) := hf 3 (by omega)
                    have f4 : u 4 = .int .i64 (a0 : Int) := hf 4 (by omega)
                    have f5 : u 5 = .bool true := hf 5 (by omega)
                    refine UptoW.rest 1 6 (by rfl) (by kernel_rfl) ?_
                    simp only [List.take, List.drop, putOps, Act.put, List.setIfInBounds_toArray, List.set_cons_zero, List.set_cons_succ, Nat.reduceAdd, f0, f1, f2, f3, f4, f5]
                    clear f0 f1 f2 f3 f4 f5 hf hp
                    have HRW := hide (HRV.out.below hb)
                    have HT8 := hide (HT9.out.below hb)
                    obtain ⟨W8, hW8⟩ : ∃ W8, W8 = wz := ⟨_, rfl⟩
                    subst hW8
                    clear hb p0 p1 p2 p3 p4 p5 p6 p7 zp d1 zd
                    obtain ⟨k, hk1, hk2, hk3⟩ := HCI.out.1 rfl
                    have HKX := hide (And.intro hk1 (And.intro hk2 hk3))
                    obtain ⟨⟨c0, c1, c2, c3⟩, zc⟩ := HRW.out.cb.cells
                    simp only at c0 c1 c2 c3
                    have d1 := HRW.out.fa.cell HIM.out
                    simp only [HA0.out] at d1
                    have zd := HRW.out.fa.lt
                    obtain ⟨b2, o2, hka, hin⟩ := HK.out.2.2.resolve_left (by omega)
                    obtain ⟨na, hna⟩ : ∃ na : Option Addr, na = if kc = a0 then some ⟨b2, o2, none⟩ else some ⟨b2, o2 + a0 * 6, none⟩ := ⟨_, rfl⟩
                    have hND : Inss w na (kl - a0) (mk.drop a0) := by
                      refine ⟨by simp [HK.out.1], by omega, ?_⟩
                      by_cases h1 : kl - a0 = 0
                      · exact .inl h1
                      · refine .inr ⟨b2, o2 + a0 * 6, by rw [hna, if_neg (by omega)], fun j hj => ?_⟩
                        have h2 := hin (a0 + j) (by omega)
                        rw [show o2 + (a0 + j) * 6 = o2 + a0 * 6 + j * 6 by omega] at h2
                        simpa using h2
                    have HIX := hide (fun (V2 : World) (hV2 : Below W8.heap.size W8 V2) => indexF_any na (kl - a0) (kc - a0) (mk.drop a0) B9 t HTI.out.sm (fun y hy => (HKI.out y (List.mem_of_mem_drop hy)).sm) V2 ((hND.below HRW.out.bel).below hV2) (HT8.out.below hV2))
                    rw [hka] at c3
                    have HNA := hide hna
                    clear hin hND hk1 hk2 hk3 hka hna
                    go_upto_region 13 with fail
                    refine region_made 9 11 [fIs (.pointer (some ⟨w.heap.size, 3, none⟩)), fIs (.slice (some ⟨b2, o2, none⟩) kl kc), fIs (.slice (some ⟨O1, 0, none⟩) ml ml), fIs (.int .i64 (i : Int)), fIs (.pointer (some ⟨O1, i, none⟩)), fIs (.int .i64 (a0 : Int)), fIs (.slice na (kl - a0) (kc - a0)), fIs (.func (.func 39) #[] #[.pointer (some ⟨B9, 0, none⟩)]), fFst t (mk.drop a0)] (by kernel_rfl) (by kernel_rfl) (by kernel_rfl) (fun ch p q w3 e h => by obtain ⟨t1, d1⟩ := p; obtain ⟨t2, d2⟩ := q; cases e; exact h) ⟨fIs_good _, fIs_good _, fIs_good _, fIs_good _, fIs_good _, fIs_good _, fIs_good _, fIs_good _, fFst_good _ _, trivial⟩ ?mkR ?restR
                    case mkR =>
                      refine ⟨fun u wz hb hd => ?_, fun u wz hb hd => ?_, fun u wz hb hd => ?_, fun u wz hb hd => ?_, fun u wz hb hd => ?_, fun u wz hb hd => ?_, fun u wz hb hd => ?_, fun u wz hb hd => ?_, fun u wz hb hd => ?_, trivial⟩
                      all_goals simp only [Act.put, List.setIfInBounds_toArray, List.set_cons_zero, List.set_cons_succ]
                      · go_simp
                        exact ⟨rfl, Below.refl _ _, fun h => by cases h⟩
                      · have e0 : u 0 = .pointer (some ⟨w.heap.size, 3, none⟩) := hd 0 (by omega) (by kernel_rfl)
                        rw [e0]
                        have c3' := (hb.cell (p := ⟨w.heap.size, 3, none⟩) (lt_of_cell c3)).trans c3
                        go_simp
                        exact ⟨rfl, Below.refl _ _, fun h => by cases h⟩
                      · go_simp
                        exact ⟨rfl, Below.refl _ _, fun h => by cases h⟩
                      · go_simp
                        exact ⟨rfl, Below.refl _ _, fun h => by cases h⟩
                      · have e2 : u 2 = .slice (some ⟨O1, 0, none⟩) ml ml := hd 2 (by omega) (by kernel_rfl)
                        have e3 : u 3 = .int .i64 (i : Int) := hd 3 (by omega) (by kernel_rfl)
                        rw [e2, e3]
                        go_simp
                        exact ⟨rfl, Below.refl _ _, fun h => by cases h⟩
                      · have e4 : u 4 = .pointer (some ⟨O1, i, none⟩) := hd 4 (by omega) (by kernel_rfl)
                        rw [e4]
                        have d1' := (hb.cell (p := ⟨O1, i, none⟩) (lt_of_cell d1)).trans d1
                        go_simp
                        exact ⟨rfl, Below.refl _ _, fun h => by cases h⟩
                      · have e1 : u 1 = .slice (some ⟨b2, o2, none⟩) kl kc := hd 1 (by omega) (by kernel_rfl)
                        have e5 : u 5 = .int .i64 (a0 : Int) := hd 5 (by omega) (by kernel_rfl)
                        rw [e1, e5]
                        have s1 : (a0 : Int) ≤ (kl : Int) := by omega
                        go_simp
                        rw [← HNA.out]
                        exact ⟨rfl, Below.refl _ _, fun h => by cases h⟩
                      · go_simp
                        exact ⟨rfl, Below.refl _ _, fun h => by cases h⟩
                      · have e6 : u 6 = .slice na (kl - a0) (kc - a0) := hd 6 (by omega) (by kernel_rfl)
                        have e7 : u 7 = .func (.func 39) #[] #[.pointer (some ⟨B9, 0, none⟩)] := hd 7 (by omega) (by kernel_rfl)
                        rw [e6, e7]
                        go_simp
                        refine (HIX.out wz hb).mono ?_
                        rintro r w7 ⟨⟨q, rfl, hq⟩, hb7⟩
                        exact ⟨⟨q, rfl, hq⟩, hb7, fun h => by cases h⟩
                    case restR =>
                      intro u wz hb hf hp
                      have f0 : u 0 = .pointer (some ⟨w.heap.size, 3, none⟩) := hf 0 (by omega)
                      have f1 : u 1 = .slice (some ⟨b2, o2, none⟩) kl kc := hf 1 (by omega)
                      have f2 : u 2 = .slice (some ⟨O1, 0, none⟩) ml ml := hf 2 (by omega)
                      have f3 : u 3 = .int .i64 (i : Int) := hf 3 (by omega)
                      have f4 : u 4 = .pointer (some ⟨O1, i, none⟩) := hf 4 (by omega)
                      have f5 : u 5 = .int .i64 (a0 : Int) := hf 5 (by omega)
                      have f6 : u 6 = .slice na (kl - a0) (kc - a0) := hf 6 (by omega)
                      have f7 : u 7 = .func (.func 39) #[] #[.pointer (some ⟨B9, 0, none⟩)] := hf 7 (by omega)
                      obtain ⟨q, f8, hq⟩ := hf 8 (by omega)
                      refine UptoW.rest 1 9 (by rfl) (by kernel_rfl) ?_
                      simp only [List.take, List.drop, putOps, Act.put, List.setIfInBounds_toArray, List.set_cons_zero, List.set_cons_succ, Nat.reduceAdd, f0, f1, f2, f3, f4, f5, f6, f7, f8]
                      clear f0 f1 f2 f3 f4 f5 f6 f7 f8 hf hp
                      have HRX := hide (HRW.out.below hb)
                      clear hb c0 c1 c2 c3 zc d1 zd
                      obtain ⟨jr, hjr, hj2, hj3⟩ : ∃ jr : Nat, q = (jr : Int) ∧ RaceAt mv mk i (a0 + jr) ∧ ∀ j', j' < a0 + jr → ¬ RaceAt mv mk i j' := by
                        have hwc : ∀ j, wayV t ((mk.drop a0)[j]?.getD inD) = clashI x (getI mk (a0 + j)) := fun j => by
                          rw [HTE.out, List.getElem?_drop]
                          rfl
                        obtain ⟨m1, m2, m3⟩ := HKX.out
                        rcases hq with ⟨_, h2⟩ | ⟨jr, h1, h2, h3, h4⟩
                        · have h5 := h2 (getI mk k) (by
                            have h6 : k < mk.length := by have := HK.out.1; omega
                            have h7 : getI mk k = (mk.drop a0)[k - a0]?.getD inD := by rw [List.getElem?_drop, show a0 + (k - a0) = k by omega]; rfl
                            rw [h7]
                            exact mem_getI _ _ (by simp; omega))
                          have h8 : wayV t (getI mk k) = clashI x (getI mk k) := by rw [HTE.out]; rfl
                          rw [h8, m3] at h5
                          cases h5
                        · rw [hwc] at h3
                          have hle : a0 + jr ≤ k := by
                            rcases Nat.lt_or_ge k (a0 + jr) with h5 | h5
                            · have h6 := h4 (k - a0) (by omega)
                              rw [hwc, show a0 + (k - a0) = k by omega, m3] at h6
                              cases h6
                            · exact h5
                          refine ⟨jr, h1, (HCAND.out _).2 ⟨by rw [HA0.out]; omega, by omega, h3⟩, fun j' hj' hr => ?_⟩
                          have h5 := (HCAND.out j').1 hr
                          have h6 := HA0.out
                          have h7 := h4 (j' - a0) (by omega)
                          rw [hwc, show a0 + (j' - a0) = j' by omega, h5.2.2] at h7
                          cases h7
                      subst hjr
                      have HSP : Hid (RaceSp mv mk true i (a0 + jr)) := .inl ⟨rfl, hj2, fun i' j' hi' => HRX.out.no i' j' hi', hj3⟩
                      have hjb := hj2.hj
                      have hkle := HK.out.1
                      have d1 := HRX.out.fa.cell HIM.out
                      simp only [HA0.out] at d1
                      have zd := HRX.out.fa.lt
                      have HPB := hide HRX.out.pb
                      have HBB := hide HRX.out.bel
                      obtain ⟨⟨p0, p1, p2⟩, zp⟩ := HRX.out.pb.cells
                      have q0 := HRX.out.pb.free 0
                      have q1 := HRX.out.pb.free 1
                      have q2 := HRX.out.pb.free 2
                      have hw1 : IntKind.i64.wrap ((a0 : Int) + (jr : Int)) = ((a0 + jr : Nat) : Int) := by rw [IntKind.wrap_i64]; omega
                      obtain ⟨jx, hjx⟩ : ∃ jx, jx = a0 + jr := ⟨_, rfl⟩
                      rw [← hjx] at hw1 HSP
                      clear hq hj2 hj3 hjb hkle hjx
                      go_wp2_with fail
                      have PZ := HPB.out.put true (i : Int) (jx : Int)
                      obtain ⟨⟨x0, x1, x2⟩, _⟩ := PZ.cells
                      refine bodyPost_ret (v := .agg #[.bool true, .int .i64 (i : Int), .int .i64 (jx : Int)]) (by simp [results, Tryz.results24, go_sem, x0, x1, x2]) rfl ⟨.inr ⟨i, jx, rfl, HSP.out⟩, ?_⟩
                      exact ((HBB.out.setCell (p := ⟨w.heap.size + 1, 0, none⟩) (by simp) _).setCell (p := ⟨w.heap.size + 1, 1, none⟩) (by simp) _).setCell (p := ⟨w.heap.size + 1, 2, none⟩) (by simp) _
            · have hez : ¬ (e2 : Int) < (kl : Int) := by omega
              have HEND : Hid (∀ j, e2 ≤ j → j < mk.length → ¬ fenTo mk mv (j + 1) ≤ (i : Int)) := fun j hj hl h => by have := HK.out.1; omega
              have HCAND : Hid (∀ j, RaceAt mv mk i j ↔ (fenTo mv mk (i + 1) ≤ (j : Int) ∧ j < e2 ∧ clashI x (getI mk j) = true)) := fun j => by
                constructor
                · intro h
                  refine ⟨h.ah, ?_, by rw [← HGX.out]; exact h.cl⟩
                  have h1 := h.bh
                  rcases Nat.lt_or_ge j e2 with h2 | h2
                  · exact h2
                  · exact absurd h1 (HEND.out j h2 h.hj)
                · rintro ⟨h1, h2, h3⟩
                  exact ⟨HIM.out, by have := HK.out.1; omega, h1, HRI.out.eb j h2, by rw [HGX.out]; exact h3⟩
              clear HEND
              obtain ⟨a0, ha0⟩ : ∃ a0 : Nat, fenTo mv mk (i + 1) = (a0 : Int) := ⟨(fenTo mv mk (i + 1)).toNat, by have := fenTo_bd mv mk (i + 1); omega⟩
              have ha1 : a0 ≤ kl := by have h1 := fenTo_bd mv mk (i + 1); have h2 := HK.out.1; omega
              have HA0 := hide ha0
              obtain ⟨⟨i0, i1, i2, i3, i4, i5⟩, zi⟩ := HI.out.cells
              have HTX := hide (touched_any x wr)
              unfold In.v6 at HTX
              go_wp2_with fail
              refine HTX.out.mono ?_
              rintro r w5 ⟨rfl, hb5⟩
              unfold Tch.v
              obtain ⟨t, ht⟩ : ∃ t, t = tchV x := ⟨_, rfl⟩
              rw [← ht]
              obtain ⟨V, hV⟩ : ∃ V, V = w5.alloc (.cells #[.int .i64 t.r0.f, .int .i64 t.r0.w, .int .i64 t.r1.f, .int .i64 t.r1.w, .int .i64 t.r2.f, .int .i64 t.r2.w, .int .i64 t.wr.f, .int .i64 t.wr.w] 68) := ⟨_, rfl⟩
              have hbV : Below w5.heap.size w5 V := by rw [hV]; exact bl_new _
              obtain ⟨B9, hB9⟩ : ∃ B9, B9 = w5.heap.size := ⟨_, rfl⟩
              have hT9 : TBlk V B9 t := by rw [hV, hB9]; exact World.alloc_heap_new _ _
              have hRV := (HRI.out.below hb5).below hbV
              have hti : TIn t pad := by rw [ht]; exact HXI.out.1
              have HCR := hide (fun (V2 : World) (hV2 : Below V.heap.size V V2) => crosses_any T g1 g2 pad _ _ t (a0 : Int) hti (by omega) V2 (hRV.tr.below hV2) (hRV.r1.below hV2) (hRV.r2.below hV2))
              have HCI := hide (crossV_iff (mk := mk) (x := x) (pad := pad) (but := a0) (e := e2) HXI.out.2 HXI.out.1)
              rw [← ht] at HCI
              obtain ⟨cb, hcb⟩ : ∃ cb, cb = crossV (fun y => (lastT (touP mk (y : Int)) e2 : Int)) (fun y => (lastT (wriP mk (y : Int)) e2 : Int)) t (a0 : Int) := ⟨_, rfl⟩
              rw [← hcb] at HCI HCR
              unfold Tch.v at HCR
              have d1 := hRV.fa.cell HIM.out
              simp only [ha0] at d1
              have zd := hRV.fa.lt
              obtain ⟨⟨p0, p1, p2, p3, p4, p5, p6, p7⟩, zp⟩ := blk8 hT9
              have HV := hide hV
              have H99 := hide hB9
              have HT9 := hide hT9
              have HRV := hide hRV
              have HTE := hide ht
              have HTI := hide hti
              clear hb5 hbV hV hB9 hT9 hRV ht hti hcb i0 i1 i2 i3 i4 i5 zi c0 c1 c2 c3 zc HRI HI
              go_upto_region 11 with fail
              rw [← HV.out, ← H99.out]
              cases cb
              · refine region_made 6 8 [fIs (.agg #[.int .i64 t.r0.f, .int .i64 t.r0.w, .int .i64 t.r1.f, .int .i64 t.r1.w, .int .i64 t.r2.f, .int .i64 t.r2.w, .int .i64 t.wr.f, .int .i64 t.wr.w]), fIs (.slice (some ⟨O1, 0, none⟩) ml ml), fIs (.int .i64 (i : Int)), fIs (.pointer (some ⟨O1, i, none⟩)), fIs (.int .i64 (a0 : Int)), fIs (.bool false)] (by kernel_rfl) (by kernel_rfl) (by kernel_rfl) (fun ch p q w3 e h => by obtain ⟨t1, d1⟩ := p; obtain ⟨t2, d2⟩ := q; cases e; exact h) ⟨fIs_good _, fIs_good _, fIs_good _, fIs_good _, fIs_good _, fIs_good _, trivial⟩ ?mkP ?restP
                case mkP =>
                  refine ⟨fun u wz hb hd => ?_, fun u wz hb hd => ?_, fun u wz hb hd => ?_, fun u wz hb hd => ?_, fun u wz hb hd => ?_, fun u wz hb hd => ?_, trivial⟩
                  all_goals simp only [Act.put, List.setIfInBounds_toArray, List.set_cons_zero, List.set_cons_succ]
                  · have p0' := (hb.cell (p := ⟨B9, 0, none⟩) (lt_of_cell p0)).trans p0
                    have p1' := (hb.cell (p := ⟨B9, 1, none⟩) (lt_of_cell p1)).trans p1
                    have p2' := (hb.cell (p := ⟨B9, 2, none⟩) (lt_of_cell p2)).trans p2
                    have p3' := (hb.cell (p := ⟨B9, 3, none⟩) (lt_of_cell p3)).trans p3
                    have p4' := (hb.cell (p := ⟨B9, 4, none⟩) (lt_of_cell p4)).trans p4
                    have p5' := (hb.cell (p := ⟨B9, 5, none⟩) (lt_of_cell p5)).trans p5
                    have p6' := (hb.cell (p := ⟨B9, 6, none⟩) (lt_of_cell p6)).trans p6
                    have p7' := (hb.cell (p := ⟨B9, 7, none⟩) (lt_of_cell p7)).trans p7
                    go_simp
                    exact ⟨rfl, Below.refl _ _, fun h => by cases h⟩
                  · go_simp
                    exact ⟨rfl, Below.refl _ _, fun h => by cases h⟩
                  · go_simp
                    exact ⟨rfl, Below.refl _ _, fun h => by cases h⟩
                  · have e1 : u 1 = .slice (some ⟨O1, 0, none⟩) ml ml := hd 1 (by omega) (by kernel_rfl)
                    have e2 : u 2 = .int .i64 (i : Int) := hd 2 (by omega) (by kernel_rfl)
                    rw [e1, e2]
                    go_simp
                    exact ⟨rfl, Below.refl _ _, fun h => by cases h⟩
                  · have e3 : u 3 = .pointer (some ⟨O1, i, none⟩) := hd 3 (by omega) (by kernel_rfl)
                    rw [e3]
                    have d1' := (hb.cell (p := ⟨O1, i, none⟩) (lt_of_cell d1)).trans d1
                    go_simp
                    exact ⟨rfl, Below.refl _ _, fun h => by cases h⟩
                  · have e0 : u 0 = .agg #[.int .i64 t.r0.f, .int .i64 t.r0.w, .int .i64 t.r1.f, .int .i64 t.r1.w, .int .i64 t.r2.f, .int .i64 t.r2.w, .int .i64 t.wr.f, .int .i64 t.wr.w] := hd 0 (by omega) (by kernel_rfl)
                    have e4 : u 4 = .int .i64 (a0 : Int) := hd 4 (by omega) (by kernel_rfl)
                    rw [e0, e4]
                    go_simp
                    refine (HCR.out wz hb).mono ?_
                    rintro r w7 ⟨rfl, hb7⟩
                    exact ⟨rfl, hb7, fun h => by cases h⟩
                case restP =>
                  intro u wz hb hf hp
                  have f0 : u 0 = .agg #[.int .i64 t.r0.f, .int .i64 t.r0.w, .int .i64 t.r1.f, .int .i64 t.r1.w, .int .i64 t.r2.f, .int .i64 t.r2.w, .int .i64 t.wr.f, .int .i64 t.wr.w] := hf 0 (by omega)
                  have f1 : u 1 = .slice (some ⟨O1, 0, none⟩) ml ml := hf 1 (by omega)
                  have f2 : u 2 = .int .i64 (i : Int) := hf 2 (by omega)
                  have f3 : u 3 = .pointer (some ⟨O1, i, none⟩) := hf 3 (by omega)
                  have f4 : u 4 = .int .i64 (a0 : Int) := hf 4 (by omega)
                  have f5 : u 5 = .bool false := hf 5 (by omega)
                  refine UptoW.rest 1 6 (by rfl) (by kernel_rfl) ?_
                  simp only [List.take, List.drop, putOps, Act.put, List.setIfInBounds_toArray, List.set_cons_zero, List.set_cons_succ, Nat.reduceAdd, f0, f1, f2, f3, f4, f5]
                  clear f0 f1 f2 f3 f4 f5 hf hp
                  have HRW := hide (HRV.out.below hb)
                  clear hb p0 p1 p2 p3 p4 p5 p6 p7 zp d1 zd
                  have HNI : Hid (RIn ⟨(pad : Int), mem, some ⟨b, off, none⟩, ml, mc, ka, kl, kc⟩ mv mk w.heap.size (w.heap.size + 1) T g1 g2 O1 O2 pad w (i + 1) e2 wz) := by
                    have h := HRW.out
                    refine ⟨h.cb, h.pb, h.tr, h.r1, h.r2, h.fa, h.fb, fun j hj => by have := h.eb j hj; omega, h.bel, fun i' j hi' hrc => ?_⟩
                    by_cases e1 : i' = i
                    · subst e1
                      have h1 := (HCAND.out j).1 hrc
                      have h2 : (false = true) := HCI.out.2 ⟨j, by have h3 := HA0.out; omega, h1.2.1, h1.2.2⟩
                      cases h2
                    · exact h.no i' j (by omega) hrc
                  go_wp2_with fail
                  go_roundw
                  case rel => exact ⟨i + 1, e2, by omega, by go_num, he2, rfl, HNI.out⟩
                  case measure => simp [intOf]; omega
              · refine region_made 6 8 [fIs (.agg #[.int .i64 t.r0.f, .int .i64 t.r0.w, .int .i64 t.r1.f, .int .i64 t.r1.w, .int .i64 t.r2.f, .int .i64 t.r2.w, .int .i64 t.wr.f, .int .i64 t.wr.w]), fIs (.slice (some ⟨O1, 0, none⟩) ml ml), fIs (.int .i64 (i : Int)), fIs (.pointer (some ⟨O1, i, none⟩)), fIs (.int .i64 (a0 : Int)), fIs (.bool true)] (by kernel_rfl) (by kernel_rfl) (by kernel_rfl) (fun ch p q w3 e h => by obtain ⟨t1, d1⟩ := p; obtain ⟨t2, d2⟩ := q; cases e; exact h) ⟨fIs_good _, fIs_good _, fIs_good _, fIs_good _, fIs_good _, fIs_good _, trivial⟩ ?mkQ ?restQ
                case mkQ =>
                  refine ⟨fun u wz hb hd => ?_, fun u wz hb hd => ?_, fun u wz hb hd => ?_, fun u wz hb hd => ?_, fun u wz hb hd => ?_, fun u wz hb hd => ?_, trivial⟩
                  all_goals simp only [Act.put, List.setIfInBounds_toArray, List.set_cons_zero, List.set_cons_succ]
                  · have p0' := (hb.cell (p := ⟨B9, 0, none⟩) (lt_of_cell p0)).trans p0
                    have p1' := (hb.cell (p := ⟨B9, 1, none⟩) (lt_of_cell p1)).trans p1
                    have p2' := (hb.cell (p := ⟨B9, 2, none⟩) (lt_of_cell p2)).trans p2
                    have p3' := (hb.cell (p := ⟨B9, 3, none⟩) (lt_of_cell p3)).trans p3
                    have p4' := (hb.cell (p := ⟨B9, 4, none⟩) (lt_of_cell p4)).trans p4
                    have p5' := (hb.cell (p := ⟨B9, 5, none⟩) (lt_of_cell p5)).trans p5
                    have p6' := (hb.cell (p := ⟨B9, 6, none⟩) (lt_of_cell p6)).trans p6
                    have p7' := (hb.cell (p := ⟨B9, 7, none⟩) (lt_of_cell p7)).trans p7
                    go_simp
                    exact ⟨rfl, Below.refl _ _, fun h => by cases h⟩
                  · go_simp
                    exact ⟨rfl, Below.refl _ _, fun h => by cases h⟩
                  · go_simp
                    exact ⟨rfl, Below.refl _ _, fun h => by cases h⟩
                  · have e1 : u 1 = .slice (some ⟨O1, 0, none⟩) ml ml := hd 1 (by omega) (by kernel_rfl)
                    have e2 : u 2 = .int .i64 (i : Int) := hd 2 (by omega) (by kernel_rfl)
                    rw [e1, e2]
                    go_simp
                    exact ⟨rfl, Below.refl _ _, fun h => by cases h⟩
                  · have e3 : u 3 = .pointer (some ⟨O1, i, none⟩) := hd 3 (by omega) (by kernel_rfl)
                    rw [e3]
                    have d1' := (hb.cell (p := ⟨O1, i, none⟩) (lt_of_cell d1)).trans d1
                    go_simp
                    exact ⟨rfl, Below.refl _ _, fun h => by cases h⟩
                  · have e0 : u 0 = .agg #[.int .i64 t.r0.f, .int .i64 t.r0.w, .int .i64 t.r1.f, .int .i64 t.r1.w, .int .i64 t.r2.f, .int .i64 t.r2.w, .int .i64 t.wr.f, .int .i64 t.wr.w] := hd 0 (by omega) (by kernel_rfl)
                    have e4 : u 4 = .int .i64 (a0 : Int) := hd 4 (by omega) (by kernel_rfl)
                    rw [e0, e4]
                    go_simp
                    refine (HCR.out wz hb).mono ?_
                    rintro r w7 ⟨rfl, hb7⟩
                    exact ⟨rfl, hb7, fun h => by cases h⟩
                case restQ =>
                  intro u wz hb hf hp
                  have f0 : u 0 = .agg #[.int .i64 t.r0.f, .int .i64 t.r0.w, .int .i64 t.r1.f, .int .i64 t.r1.w, .int .i64 t.r2.f, .int .i64 t.r2.w, .int .i64 t.wr.f, .int .i64 t.wr.w] := hf 0 (by omega)
                  have f1 : u 1 = .slice (some ⟨O1, 0, none⟩) ml ml := hf 1 (by omega)
                  have f2 : u 2 = .int .i64 (i : Int) := hf 2 (by omega)
                  have f3 : u 3 = .pointer (some ⟨O1, i, none⟩) := hf 3 (by omega)
                  have f4 : u 4 = .int .i64 (a0 : Int) := hf 4 (by omega)
                  have f5 : u 5 = .bool true := hf 5 (by omega)
                  refine UptoW.rest 1 6 (by rfl) (by kernel_rfl) ?_
                  simp only [List.take, List.drop, putOps, Act.put, List.setIfInBounds_toArray, List.set_cons_zero, List.set_cons_succ, Nat.reduceAdd, f0, f1, f2, f3, f4, f5]
                  clear f0 f1 f2 f3 f4 f5 hf hp
                  have HRW := hide (HRV.out.below hb)
                  have HT8 := hide (HT9.out.below hb)
                  obtain ⟨W8, hW8⟩ : ∃ W8, W8 = wz := ⟨_, rfl⟩
                  subst hW8
                  clear hb p0 p1 p2 p3 p4 p5 p6 p7 zp d1 zd
                  obtain ⟨k, hk1, hk2, hk3⟩ := HCI.out.1 rfl
                  have HKX := hide (And.intro hk1 (And.intro hk2 hk3))
                  obtain ⟨⟨c0, c1, c2, c3⟩, zc⟩ := HRW.out.cb.cells
                  simp only at c0 c1 c2 c3
                  have d1 := HRW.out.fa.cell HIM.out
                  simp only [HA0.out] at d1
                  have zd := HRW.out.fa.lt
                  obtain ⟨b2, o2, hka, hin⟩ := HK.out.2.2.resolve_left (by omega)
                  obtain ⟨na, hna⟩ : ∃ na : Option Addr, na = if kc = a0 then some ⟨b2, o2, none⟩ else some ⟨b2, o2 + a0 * 6, none⟩ := ⟨_, rfl⟩
                  have hND : Inss w na (kl - a0) (mk.drop a0) := by
                    refine ⟨by simp [HK.out.1], by omega, ?_⟩
                    by_cases h1 : kl - a0 = 0
                    · exact .inl h1
                    · refine .inr ⟨b2, o2 + a0 * 6, by rw [hna, if_neg (by omega)], fun j hj => ?_⟩
                      have h2 := hin (a0 + j) (by omega)
                      rw [show o2 + (a0 + j) * 6 = o2 + a0 * 6 + j * 6 by omega] at h2
                      simpa using h2
                  have HIX := hide (fun (V2 : World) (hV2 : Below W8.heap.size W8 V2) => indexF_any na (kl - a0) (kc - a0) (mk.drop a0) B9 t HTI.out.sm (fun y hy => (HKI.out y (List.mem_of_mem_drop hy)).sm) V2 ((hND.below HRW.out.bel).below hV2) (HT8.out.below hV2))
                  rw [hka] at c3
                  have HNA := hide hna
                  clear hin hND hk1 hk2 hk3 hka hna
                  go_upto_region 13 with fail
                  refine region_made 9 11 [fIs (.pointer (some ⟨w.heap.size, 3, none⟩)), fIs (.slice (some ⟨b2, o2, none⟩) kl kc), fIs (.slice (some ⟨O1, 0, none⟩) ml ml), fIs (.int .i64 (i : Int)), fIs (.pointer (some ⟨O1, i, none⟩)), fIs (.int .i64 (a0 : Int)), fIs (.slice na (kl - a0) (kc - a0)), fIs (.func (.func 39) #[] #[.pointer (some ⟨B9, 0, none⟩)]), fFst t (mk.drop a0)] (by kernel_rfl) (by kernel_rfl) (by kernel_rfl) (fun ch p q w3 e h => by obtain ⟨t1, d1⟩ := p; obtain ⟨t2, d2⟩ := q; cases e; exact h) ⟨fIs_good _, fIs_good _, fIs_good _, fIs_good _, fIs_good _, fIs_good _, fIs_good _, fIs_good _, fFst_good _ _, trivial⟩ ?mkR ?restR
                  case mkR =>
                    refine ⟨fun u wz hb hd => ?_, fun u wz hb hd => ?_, fun u wz hb hd => ?_, fun u wz hb hd => ?_, fun u wz hb hd => ?_, fun u wz hb hd => ?_, fun u wz hb hd => ?_, fun u wz hb hd => ?_, fun u wz hb hd => ?_, trivial⟩
                    all_goals simp only [Act.put, List.setIfInBounds_toArray, List.set_cons_zero, List.set_cons_succ]
                    · go_simp
                      exact ⟨rfl, Below.refl _ _, fun h => by cases h⟩
                    · have e0 : u 0 = .pointer (some ⟨w.heap.size, 3, none⟩) := hd 0 (by omega) (by kernel_rfl)
                      rw [e0]
                      have c3' := (hb.cell (p := ⟨w.heap.size, 3, none⟩) (lt_of_cell c3)).trans c3
                      go_simp
                      exact ⟨rfl, Below.refl _ _, fun h => by cases h⟩
                    · go_simp
                      exact ⟨rfl, Below.refl _ _, fun h => by cases h⟩
                    · go_simp
                      exact ⟨rfl, Below.refl _ _, fun h => by cases h⟩
                    · have e2 : u 2 = .slice (some ⟨O1, 0, none⟩) ml ml := hd 2 (by omega) (by kernel_rfl)
                      have e3 : u 3 = .int .i64 (i : Int) := hd 3 (by omega) (by kernel_rfl)
                      rw [e2, e3]
                      go_simp
                      exact ⟨rfl, Below.refl _ _, fun h => by cases h⟩
                    · have e4 : u 4 = .pointer (some ⟨O1, i, none⟩) := hd 4 (by omega) (by kernel_rfl)
                      rw [e4]
                      have d1' := (hb.cell (p := ⟨O1, i, none⟩) (lt_of_cell d1)).trans d1
                      go_simp
                      exact ⟨rfl, Below.refl _ _, fun h => by cases h⟩
                    · have e1 : u 1 = .slice (some ⟨b2, o2, none⟩) kl kc := hd 1 (by omega) (by kernel_rfl)
                      have e5 : u 5 = .int .i64 (a0 : Int) := hd 5 (by omega) (by kernel_rfl)
                      rw [e1, e5]
                      have s1 : (a0 : Int) ≤ (kl : Int) := by omega
                      go_simp
                      rw [← HNA.out]
                      exact ⟨rfl, Below.refl _ _, fun h => by cases h⟩
                    · go_simp
                      exact ⟨rfl, Below.refl _ _, fun h => by cases h⟩
                    · have e6 : u 6 = .slice na (kl - a0) (kc - a0) := hd 6 (by omega) (by kernel_rfl)
                      have e7 : u 7 = .func (.func 39) #[] #[.pointer (some ⟨B9, 0, none⟩)] := hd 7 (by omega) (by kernel_rfl)
                      rw [e6, e7]
                      go_simp
                      refine (HIX.out wz hb).mono ?_
                      rintro r w7 ⟨⟨q, rfl, hq⟩, hb7⟩
                      exact ⟨⟨q, rfl, hq⟩, hb7, fun h => by cases h⟩
                  case restR =>
                    intro u wz hb hf hp
                    have f0 : u 0 = .pointer (some ⟨w.heap.size, 3, none⟩) := hf 0 (by omega)
                    have f1 : u 1 = .slice (some ⟨b2, o2, none⟩) kl kc := hf 1 (by omega)
                    have f2 : u 2 = .slice (some ⟨O1, 0, none⟩) ml ml := hf 2 (by omega)
                    have f3 : u 3 = .int .i64 (i : Int) := hf 3 (by omega)
                    have f4 : u 4 = .pointer (some ⟨O1, i, none⟩) := hf 4 (by omega)
                    have f5 : u 5 = .int .i64 (a0 : Int) := hf 5 (by omega)
                    have f6 : u 6 = .slice na (kl - a0) (kc - a0) := hf 6 (by omega)
                    have f7 : u 7 = .func (.func 39) #[] #[.pointer (some ⟨B9, 0, none⟩)] := hf 7 (by omega)
                    obtain ⟨q, f8, hq⟩ := hf 8 (by omega)
                    refine UptoW.rest 1 9 (by rfl) (by kernel_rfl) ?_
                    simp only [List.take, List.drop, putOps, Act.put, List.setIfInBounds_toArray, List.set_cons_zero, List.set_cons_succ, Nat.reduceAdd, f0, f1, f2, f3, f4, f5, f6, f7, f8]
                    clear f0 f1 f2 f3 f4 f5 f6 f7 f8 hf hp
                    have HRX := hide (HRW.out.below hb)
                    clear hb c0 c1 c2 c3 zc d1 zd
                    obtain ⟨jr, hjr, hj2, hj3⟩ : ∃ jr : Nat, q = (jr : Int) ∧ RaceAt mv mk i (a0 + jr) ∧ ∀ j', j' < a0 + jr → ¬ RaceAt mv mk i j' := by
                      have hwc : ∀ j, wayV t ((mk.drop a0)[j]?.getD inD) = clashI x (getI mk (a0 + j)) := fun j => by
                        rw [HTE.out, List.getElem?_drop]
                        rfl
                      obtain ⟨m1, m2, m3⟩ := HKX.out
                      rcases hq with ⟨_, h2⟩ | ⟨jr, h1, h2, h3, h4⟩
                      · have h5 := h2 (getI mk k) (by
                          have h6 : k < mk.length := by have := HK.out.1; omega
                          have h7 : getI mk k = (mk.drop a0)[k - a0]?.getD inD := by rw [List.getElem?_drop, show a0 + (k - a0) = k by omega]; rfl
                          rw [h7]
                          exact mem_getI _ _ (by simp; omega))
                        have h8 : wayV t (getI mk k) = clashI x (getI mk k) := by rw [HTE.out]; rfl
                        rw [h8, m3] at h5
                        cases h5
                      · rw [hwc] at h3
                        have hle : a0 + jr ≤ k := by
                          rcases Nat.lt_or_ge k (a0 + jr) with h5 | h5
                          · have h6 := h4 (k - a0) (by omega)
                            rw [hwc, show a0 + (k - a0) = k by omega, m3] at h6
                            cases h6
                          · exact h5
                        refine ⟨jr, h1, (HCAND.out _).2 ⟨by rw [HA0.out]; omega, by omega, h3⟩, fun j' hj' hr => ?_⟩
                        have h5 := (HCAND.out j').1 hr
                        have h6 := HA0.out
                        have h7 := h4 (j' - a0) (by omega)
                        rw [hwc, show a0 + (j' - a0) = j' by omega, h5.2.2] at h7
                        cases h7
                    subst hjr
                    have HSP : Hid (RaceSp mv mk true i (a0 + jr)) := .inl ⟨rfl, hj2, fun i' j' hi' => HRX.out.no i' j' hi', hj3⟩
                    have hjb := hj2.hj
                    have hkle := HK.out.1
                    have d1 := HRX.out.fa.cell HIM.out
                    simp only [HA0.out] at d1
                    have zd := HRX.out.fa.lt
                    have HPB := hide HRX.out.pb
                    have HBB := hide HRX.out.bel
                    obtain ⟨⟨p0, p1, p2⟩, zp⟩ := HRX.out.pb.cells
                    have q0 := HRX.out.pb.free 0
                    have q1 := HRX.out.pb.free 1
                    have q2 := HRX.out.pb.free 2
                    have hw1 : IntKind.i64.wrap ((a0 : Int) + (jr : Int)) = ((a0 + jr : Nat) : Int) := by rw [IntKind.wrap_i64]; omega
                    obtain ⟨jx, hjx⟩ : ∃ jx, jx = a0 + jr := ⟨_, rfl⟩
                    rw [← hjx] at hw1 HSP
                    clear hq hj2 hj3 hjb hkle hjx
                    go_wp2_with fail
                    have PZ := HPB.out.put true (i : Int) (jx : Int)
                    obtain ⟨⟨x0, x1, x2⟩, _⟩ := PZ.cells
                    refine bodyPost_ret (v := .agg #[.bool true, .int .i64 (i : Int), .int .i64 (jx : Int)]) (by simp [results, Tryz.results24, go_sem, x0, x1, x2]) rfl ⟨.inr ⟨i, jx, rfl, HSP.out⟩, ?_⟩
                    exact ((HBB.out.setCell (p := ⟨w.heap.size + 1, 0, none⟩) (by simp) _).setCell (p := ⟨w.heap.size + 1, 1, none⟩) (by simp) _).setCell (p := ⟨w.heap.size + 1, 2, none⟩) (by simp) _
        · have hiz : ¬ (i : Int) < (ml : Int) := by omega
          have HSP : Hid (RaceSp mv mk false 0 0) := .inr ⟨rfl, rfl, rfl, fun i' j h => hri.no i' j (by have h1 := h.hi; have h2 := HM.out.1; omega) h⟩
          have HPB := hide hri.pb
          have HBB := hide hri.bel
          obtain ⟨⟨p0, p1, p2⟩, zp⟩ := hri.pb.cells
          have q0 := hri.pb.free 0
          have q1 := hri.pb.free 1
          have q2 := hri.pb.free 2
          clear hri
          go_wp2_with fail
          have PZ := HPB.out.put false 0 0
          obtain ⟨⟨x0, x1, x2⟩, _⟩ := PZ.cells
          refine bodyPost_ret (v := .agg #[.bool false, .int .i64 0, .int .i64 0]) (by simp [results, Tryz.results24, go_sem, x0, x1, x2]) rfl ⟨.inl ⟨0, 0, rfl, HSP.out⟩, ?_⟩
          exact ((HBB.out.setCell (p := ⟨w.heap.size + 1, 0, none⟩) (by simp) _).setCell (p := ⟨w.heap.size + 1, 1, none⟩) (by simp) _).setCell (p := ⟨w.heap.size + 1, 2, none⟩) (by simp) _
end Go.Proofs.YtoabffmiedbkkaaGreat.V
