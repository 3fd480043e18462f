/-
  Contract: order.Strip.
-/
import Derived.Test.YtoidgdbgpbcebaaK46
import Derived.Test.YtoidgdbgpbcebaaK20
import Derived.Test.YtoidgdbgpbcebaaK23
import Derived.Deep.DeepCutAuto
namespace Go.Proofs.Ytoidgdbgpbcebaa.V
open Go.RowKit
set_option linter.unusedVariables false

set_option maxHeartbeats 1000000 in
theorem freshL_any (a : Option Addr) (len cap : Nat) (xs : List Int) (w : World) (h : Ints w a len xs) (h6 : len * 8 ≤ 140737488355328) :
    Calls Try.prog 38 #[.slice a len cap] w fun e w' => (∃ g : Nat, e = .returned (.slice (some ⟨g, 0, none⟩) len len) ∧ RowI w' g len xs ∧ w.heap.size ≤ g) ∧ Below w.heap.size w w' := by
  have H := hide h
  have HL := hide h.1
  have hmk := run_make_row' (P := Try.prog) 22 3 (.int .i64 0) 8 Try.underlying22 info_int rfl .i64 .i64 len (by omega) (by omega)
  clear h
  obtain ⟨cs, hcs⟩ : ∃ cs : List Value, cs = xs.map (Value.int .i64) := ⟨_, rfl⟩
  have HCS := hide hcs
  have hlen : cs.length = len := by rw [hcs]; simp [HL.out]
  have HLEN := hide hlen
  clear hcs hlen
  go_enter Try.func38, Try.ntmps38
  go_wp2_with (refine wpList_copy_splice rfl (.tmp 7) (.tmp 8) 22 22 rfl 3 Try.underlying22 size_int (some ⟨w.heap.size, 0, none⟩) a len len len cap rfl rfl w.heap.size 0 (List.replicate len (.int .i64 0)) 3 ?hg cs ?hn ?hpos ?hfit ?h1 w.heap.size w ?hb (Nat.le_refl _) ?_)
  case hg =>
    have := World.alloc_heap_new w (.cells (madeCells #[.int .i64 0] len) 3)
    rw [this]
    rw [← toList_madeCells_one]
  case hn => rw [HLEN.out]; simp
  case hpos =>
    intro h0
    rw [HLEN.out] at h0
    obtain ⟨b, off, rfl, hb, hc⟩ := H.out.at h0
    refine ⟨_, rfl, fun j v hj => ?_⟩
    have hjl : j < len := by rw [← HLEN.out]; exact (List.getElem?_eq_some_iff.1 hj).1
    have h2 := hc j hjl
    have h3 : v = .int .i64 (xs[j]?.getD 0) := by
      rw [HCS.out] at hj
      simp [HL.out, hjl] at hj ⊢
      exact hj.symm
    rw [h3]
    have hb' : Below w.heap.size w (w.alloc (.cells (madeCells #[.int .i64 0] len) 3)) := (Below.refl _ _).alloc (Nat.le_refl _) _
    rw [Go.WideShapes.add_plain]
    exact (hb'.cell (p := ⟨b, off + j, none⟩) hb).trans h2
  case hfit => simp [HLEN.out]
  case h1 => intro v hv; rw [HCS.out] at hv; simp at hv; obtain ⟨x, _, rfl⟩ := hv; rfl
  case hb => exact (Below.refl _ _).alloc (Nat.le_refl _) _
  intro w' hrow hbel
  have HB := hide hbel
  clear hbel hmk
  go_wp2
  go_ret
  refine ⟨⟨_, rfl, ?_, Nat.le_refl _⟩, HB.out⟩
  refine ⟨_, hrow.out, by simp [splice, HLEN.out], fun i hi => ?_⟩
  have hs : splice (List.replicate len (Value.int .i64 0)) 0 cs = cs := by simp [splice, HLEN.out]
  rw [hs, HCS.out]
  simp [HL.out, hi]
/-- A statement is put into a row of the call's own. -/
def putS (W : World) (R i : Nat) (u : SW) : World := (((((((W.setCell ⟨R, i * 8, none⟩ (.slice u.ba u.bl u.bc)).setCell ⟨R, i * 8 + 1, none⟩ (.slice u.ra u.rl u.rc)).setCell ⟨R, i * 8 + 2, none⟩ (.int .i64 u.kd)).setCell ⟨R, i * 8 + 3, none⟩ (.int .i64 u.va)).setCell ⟨R, i * 8 + 4, none⟩ (.int .i64 u.pu.arr)).setCell ⟨R, i * 8 + 5, none⟩ (.slice u.pu.ca u.pu.cl u.pu.cc)).setCell ⟨R, i * 8 + 6, none⟩ (.int .i64 u.pu.con)).setCell ⟨R, i * 8 + 7, none⟩ (.slice u.ga u.gl u.gc)
theorem OutS8.put {W : World} {R len i : Nat} {us : Nat → SW} (h : OutS8 W R len us len) (hi : i < len) (u : SW) : OutS8 (putS W R i u) R len (fun j => if j = i then u else us j) len := by
  obtain ⟨f, h1, h2⟩ := h
  unfold putS
  refine ⟨_, (((((((h1.set (i * 8) _).set (i * 8 + 1) _).set (i * 8 + 2) _).set (i * 8 + 3) _).set (i * 8 + 4) _).set (i * 8 + 5) _).set (i * 8 + 6) _).set (i * 8 + 7) _, fun j hj => ?_⟩
  by_cases e : j = i
  · subst e
    simp only [if_true]
    refine ⟨?_, ?_, ?_, ?_, ?_, ?_, ?_, ?_⟩ <;> simp
  · obtain ⟨e0, e1, e2, e3, e4, e5, e6, e7⟩ := h2 j hj
    simp only [if_neg e]
    refine ⟨by rw [if_neg (by omega)]; rw [if_neg (by omega)]; rw [if_neg (by omega)]; rw [if_neg (by omega)]; rw [if_neg (by omega)]; rw [if_neg (by omega)]; rw [if_neg (by omega)]; rw [if_neg (by omega)]; exact e0, by rw [if_neg (by omega)]; rw [if_neg (by omega)]; rw [if_neg (by omega)]; rw [if_neg (by omega)]; rw [if_neg (by omega)]; rw [if_neg (by omega)]; rw [if_neg (by omega)]; rw [if_neg (by omega)]; exact e1, by rw [if_neg (by omega)]; rw [if_neg (by omega)]; rw [if_neg (by omega)]; rw [if_neg (by omega)]; rw [if_neg (by omega)]; rw [if_neg (by omega)]; rw [if_neg (by omega)]; rw [if_neg (by omega)]; exact e2, by rw [if_neg (by omega)]; rw [if_neg (by omega)]; rw [if_neg (by omega)]; rw [if_neg (by omega)]; rw [if_neg (by omega)]; rw [if_neg (by omega)]; rw [if_neg (by omega)]; rw [if_neg (by omega)]; exact e3, by rw [if_neg (by omega)]; rw [if_neg (by omega)]; rw [if_neg (by omega)]; rw [if_neg (by omega)]; rw [if_neg (by omega)]; rw [if_neg (by omega)]; rw [if_neg (by omega)]; rw [if_neg (by omega)]; exact e4, by rw [if_neg (by omega)]; rw [if_neg (by omega)]; rw [if_neg (by omega)]; rw [if_neg (by omega)]; rw [if_neg (by omega)]; rw [if_neg (by omega)]; rw [if_neg (by omega)]; rw [if_neg (by omega)]; exact e5, by rw [if_neg (by omega)]; rw [if_neg (by omega)]; rw [if_neg (by omega)]; rw [if_neg (by omega)]; rw [if_neg (by omega)]; rw [if_neg (by omega)]; rw [if_neg (by omega)]; rw [if_neg (by omega)]; exact e6, by rw [if_neg (by omega)]; rw [if_neg (by omega)]; rw [if_neg (by omega)]; rw [if_neg (by omega)]; rw [if_neg (by omega)]; rw [if_neg (by omega)]; rw [if_neg (by omega)]; rw [if_neg (by omega)]; exact e7⟩
theorem putS_oth (W : World) (R i : Nat) (u : SW) (b : Nat) (hb : b ≠ R) : (putS W R i u).heap[b]? = W.heap[b]? := by
  unfold putS
  simp [World.setCell, Array.getElem?_modify, hb.symm]
theorem putS_size (W : World) (R i : Nat) (u : SW) : (putS W R i u).heap.size = W.heap.size := by simp [putS]
theorem putS_below {w W : World} {R : Nat} (hb : Below w.heap.size w W) (h : w.heap.size ≤ R) (i : Nat) (u : SW) : Below w.heap.size w (putS W R i u) := by
  unfold putS
  exact ((((((((hb.setCell (p := ⟨R, i * 8, none⟩) h _).setCell (p := ⟨R, i * 8 + 1, none⟩) h _).setCell (p := ⟨R, i * 8 + 2, none⟩) h _).setCell (p := ⟨R, i * 8 + 3, none⟩) h _).setCell (p := ⟨R, i * 8 + 4, none⟩) h _).setCell (p := ⟨R, i * 8 + 5, none⟩) h _).setCell (p := ⟨R, i * 8 + 6, none⟩) h _).setCell (p := ⟨R, i * 8 + 7, none⟩) h _)
/-- Numbers of the call's own. -/
def fNums (N l : Nat) (zs : List Int) : Fact := ⟨fun v w => ∃ g : Nat, v = .slice (some ⟨g, 0, none⟩) l l ∧ RowI w g l zs ∧ N ≤ g, false⟩
theorem fNums_good (N l : Nat) (zs : List Int) : (fNums N l zs).Good := ⟨fun _ _ _ ⟨g, h1, h2, h3⟩ hb => ⟨g, h1, h2.below hb, h3⟩, fun h => by cases h⟩
/-- Statements of the call's own: their row, and what they hang on. -/
def StmX (W : World) (N R len : Nat) (us : Nat → SW) (ss : List Stm) : Prop := OutS8 W R len us len ∧ N ≤ R ∧ ∀ j, j < len → Lies (R + 1) (fun V => SG V (us j) (ss[j]?.getD stmD)) W
theorem StmX.below {W V : World} {N R len : Nat} {us : Nat → SW} {ss : List Stm} (h : StmX W N R len us ss) (hb : Below W.heap.size W V) : StmX V N R len us ss := ⟨h.1.below hb, h.2.1, fun j hj => (h.2.2 j hj).below hb⟩
theorem StmX.stms {W : World} {N R len : Nat} {us : Nat → SW} {ss : List Stm} (h : StmX W N R len us ss) (hl : ss.length = len) (hm : len ≤ 9223372036854775807) : Stms W (some ⟨R, 0, none⟩) len ss := stms_out h.1 hl hm (fun j hj => (h.2.2 j hj).out)
def fStms (N l : Nat) (ss : List Stm) : Fact := ⟨fun v w => ∃ R us, v = .slice (some ⟨R, 0, none⟩) l l ∧ StmX w N R l us ss, false⟩
theorem fStms_good (N l : Nat) (ss : List Stm) : (fStms N l ss).Good := ⟨fun _ _ _ ⟨R, us, h1, h2⟩ hb => ⟨R, us, h1, h2.below hb⟩, fun h => by cases h⟩
def fNestX (N zl tl : Nat) (zs : List Int) (ss : List Stm) : Fact := ⟨fun v w => ∃ g R us, v = .agg #[.slice (some ⟨g, 0, none⟩) zl zl, .slice (some ⟨R, 0, none⟩) tl tl] ∧ (RowI w g zl zs ∧ N ≤ g) ∧ StmX w N R tl us ss, false⟩
theorem fNestX_good (N zl tl : Nat) (zs : List Int) (ss : List Stm) : (fNestX N zl tl zs ss).Good := ⟨fun _ _ _ ⟨g, R, us, h1, h2, h3⟩ hb => ⟨g, R, us, h1, ⟨h2.1.below hb, h2.2⟩, h3.below hb⟩, fun h => by cases h⟩
def fNewNest (N : Nat) : Fact := ⟨fun v w => ∃ g : Nat, v = .pointer (some ⟨g, 0, none⟩) ∧ NsBlk w g none 0 0 none 0 0 ∧ N ≤ g, false⟩
theorem fNewNest_good (N : Nat) : (fNewNest N).Good := ⟨fun _ _ _ ⟨g, h1, h2, h3⟩ hb => ⟨g, h1, h2.below hb, h3⟩, fun h => by cases h⟩
def fSG (N : Nat) (s : Stm) : Fact := ⟨fun v w => ∃ u : SW, v = u.v ∧ Lies N (fun V => SG V u s) w, false⟩
theorem fSG_good (N : Nat) (s : Stm) : (fSG N s).Good := ⟨fun _ _ _ ⟨u, h1, h2⟩ hb => ⟨u, h1, h2.below hb⟩, fun h => by cases h⟩
theorem NsBlk.free {w : World} {b : Nat} {za : Option Addr} {zl zc : Nat} {ta : Option Addr} {tl tc : Nat} (h : NsBlk w b za zl zc ta tl tc) (i : Nat) : w.frozen? ⟨b, i, none⟩ = false := by
  unfold NsBlk at h
  simp [World.frozen?, h]
theorem NsBlk.put {w : World} {b : Nat} {za : Option Addr} {zl zc : Nat} {ta : Option Addr} {tl tc : Nat} (h : NsBlk w b za zl zc ta tl tc) (xa : Option Addr) (xl xc : Nat) (ya : Option Addr) (yl yc : Nat) : NsBlk ((w.setCell ⟨b, 0, none⟩ (.slice xa xl xc)).setCell ⟨b, 1, none⟩ (.slice ya yl yc)) b xa xl xc ya yl yc := by
  unfold NsBlk at h ⊢
  simp [World.setCell, Array.getElem?_modify, h]
theorem ints_no (w : World) : Ints w none 0 [] := ⟨rfl, by omega, fun x h => by simp at h, .inl rfl⟩
theorem stms_nil (w : World) : Stms w none 0 [] := ⟨rfl, by omega, .inl rfl⟩
/-- list.Each of statements, by fresh. -/
theorem eachFresh (ta : Option Addr) (tl tc : Nat) (ss : List Stm) (n : Nat) (w : World) (hs : Stms w ta tl ss) (ho : ∀ s ∈ ss, StmOk n s) (hl : tl ≤ 256) :
    Calls Try.prog 39 #[.slice ta tl tc, .func (.func 40) #[] #[]] w fun e w' => (∃ R us, e = .returned (.slice (some ⟨R, 0, none⟩) tl tl) ∧ StmX w' w.heap.size R tl us ss) ∧ Below w.heap.size w w' := by
  obtain ⟨qs, hq, hin⟩ := stms_words hs
  refine (eachSS ta tl tc qs 40 #[] (enters_of Try.func40 (by kernel_rfl) rfl) (fun j u V => SG V u (ss[j]?.getD stmD)) w (by omega) hin (fun j W hj hb _ => ?_)).mono ?_
  · rw [Array.append_empty]
    exact sFresh_any (qs j) (ss[j]?.getD stmD) n W ((hq j hj).below hb) (ho _ (mem_getS ss j (by rw [hs.1]; exact hj)))
  rintro e w' ⟨⟨us, rfl, h1, h2⟩, hb⟩
  exact ⟨⟨_, us, rfl, h1, Nat.le_refl _, h2⟩, hb⟩
set_option maxRecDepth 100000 in
set_option maxHeartbeats 8000000 in
theorem oStrip_any (za : Option Addr) (zl zc : Nat) (zs : List Int) (ta : Option Addr) (tl tc : Nat) (ss : List Stm) (i k n : Int) (w : World) (hz : Ints w za zl zs) (hs : Stms w ta tl ss) (hi : B64 i) (hk : B64 k) (hn : B64 n) (hzb : zl * 8 ≤ 140737488355328) :
    Calls Try.prog 15 #[.agg #[.slice za zl zc, .slice ta tl tc], .int .i64 i, .int .i64 k, .int .i64 n] w fun e w' => (∃ za' zl' zc' ta' tl' tc' zs' ss', e = .returned (.tuple #[.agg #[.slice za' zl' zc', .slice ta' tl' tc'], .int .i64 (stripE zs ss i k n)]) ∧ Ints w' za' zl' zs' ∧ Stms w' ta' tl' ss' ∧ (stripE zs ss i k n = 0 → zs' = zs ∧ ss' = ss.set i.toNat (stripS (ss[i.toNat]?.getD stmD) k.toNat n.toNat)) ∧ (stripE zs ss i k n ≠ 0 → zs' = [] ∧ ss' = [])) ∧ Below w.heap.size w w' := by
  have B0 : Below w.heap.size w ((w.alloc (.cells #[.slice za zl zc, .slice ta tl tc] 25)).alloc (.cells #[.slice none 0 0, .slice none 0 0] 25)) := bl_on (bl_new _) (bl_new _)
  have P0 := (NsBlk.new w za zl zc ta tl tc).below (bl_new (.cells #[.slice none 0 0, .slice none 0 0] 25))
  have PZ := NsBlk.new (w.alloc (.cells #[.slice za zl zc, .slice ta tl tc] 25)) none 0 0 none 0 0
  rw [World.size_alloc] at PZ
  obtain ⟨W, hW⟩ : ∃ W, W = (w.alloc (.cells #[.slice za zl zc, .slice ta tl tc] 25)).alloc (.cells #[.slice none 0 0, .slice none 0 0] 25) := ⟨_, rfl⟩
  rw [← hW] at B0 P0 PZ
  have HSW : Hid (W.heap.size = w.heap.size + 2) := by rw [Hid, hW]; simp
  have HNW := hide (nestWrong_any za zl zc zs ta tl tc ss W (hz.below B0) (hs.below B0))
  obtain ⟨n0, n1⟩ := P0.cells
  have zn := P0.lt
  have HB := hide B0
  have HN := hide P0
  have HPZ0 := hide PZ
  have HW := hide hW
  have HZ := hide hz
  have HS := hide hs
  have hsl := hs.1
  obtain ⟨e8, he8⟩ : ∃ e8, e8 = stripE zs ss i k n := ⟨_, rfl⟩
  rw [← he8]
  have HE8 := hide he8
  clear hz hs B0 P0 PZ hW he8
  go_enter Try.func15, Try.ntmps15
  go_wp2_with fail
  rw [← HW.out]
  refine HNW.out.mono ?_
  rintro e w1 ⟨rfl, hb⟩
  have HB1 := hide (bl_on HB.out hb)
  have HN1 := hide (HN.out.below hb)
  have HPZ := hide (HPZ0.out.below hb)
  have hw1 := hb.size
  clear hb n0 n1 zn HN HPZ0 HNW
  obtain ⟨n0, n1⟩ := HN1.out.cells
  have zn := HN1.out.lt
  obtain ⟨q0, q1⟩ := HPZ.out.cells
  have zq := HPZ.out.lt
  have g0 := HPZ.out.free 0
  have g1 := HPZ.out.free 1
  obtain ⟨E, hE⟩ : ∃ E, E = nestE zs ss := ⟨_, rfl⟩
  rw [← hE]
  by_cases hE0 : E = 0
  rotate_left
  · have e1 : stripE zs ss i k n = E := by unfold stripE; rw [if_pos (by rw [← hE]; exact hE0), hE]
    have E1 := hide e1
    have qE : (E != 0) = true := by simpa using hE0
    have HNE := hide hE0
    clear hE0 e1 hE
    go_wp2_with fail
    have PZ2 := HPZ.out.put none 0 0 none 0 0
    obtain ⟨x0, x1⟩ := PZ2.cells
    refine bodyPost_ret (v := .tuple #[.agg #[.slice none 0 0, .slice none 0 0], .int .i64 E]) (by simp [results, Try.results15, go_sem, x0, x1]) rfl ⟨⟨none, 0, 0, none, 0, 0, [], [], by rw [show e8 = E from HE8.out.trans E1.out], ints_no _, stms_nil _, fun h => absurd (show E = (0 : Int) from (HE8.out.trans E1.out).symm.trans h) HNE.out, fun _ => ⟨rfl, rfl⟩⟩, ?_⟩
    exact (HB1.out.setCell (p := ⟨w.heap.size + 1, 0, none⟩) (by simp only; omega) _).setCell (p := ⟨w.heap.size + 1, 1, none⟩) (by simp only; omega) _
  have hok : nestE zs ss = 0 := by rw [← hE]; exact hE0
  have HOK := hide (nestE_ok hok)
  subst hE0
  by_cases h1 : i < 0
  · have e1 : stripE zs ss i k n = 4 := by unfold stripE; rw [if_neg (by simpa using hok), if_pos (.inl h1)]
    have E1 := hide e1
    clear e1 hE hok
    go_wp2_with fail
    have PZ2 := HPZ.out.put none 0 0 none 0 0
    obtain ⟨x0, x1⟩ := PZ2.cells
    refine bodyPost_ret (v := .tuple #[.agg #[.slice none 0 0, .slice none 0 0], .int .i64 4]) (by simp [results, Try.results15, go_sem, x0, x1]) rfl ⟨⟨none, 0, 0, none, 0, 0, [], [], by rw [show e8 = 4 from HE8.out.trans E1.out], ints_no _, stms_nil _, fun h => absurd (show 4 = (0 : Int) from (HE8.out.trans E1.out).symm.trans h) (by decide), fun _ => ⟨rfl, rfl⟩⟩, ?_⟩
    exact (HB1.out.setCell (p := ⟨w.heap.size + 1, 0, none⟩) (by simp only; omega) _).setCell (p := ⟨w.heap.size + 1, 1, none⟩) (by simp only; omega) _
  by_cases h2 : (tl : Int) ≤ i
  · have e1 : stripE zs ss i k n = 4 := by unfold stripE; rw [if_neg (by simpa using hok), if_pos (.inr (by rw [hsl]; exact h2))]
    have E1 := hide e1
    clear e1 hE hok
    go_wp2_with fail
    have PZ2 := HPZ.out.put none 0 0 none 0 0
    obtain ⟨x0, x1⟩ := PZ2.cells
    refine bodyPost_ret (v := .tuple #[.agg #[.slice none 0 0, .slice none 0 0], .int .i64 4]) (by simp [results, Try.results15, go_sem, x0, x1]) rfl ⟨⟨none, 0, 0, none, 0, 0, [], [], by rw [show e8 = 4 from HE8.out.trans E1.out], ints_no _, stms_nil _, fun h => absurd (show 4 = (0 : Int) from (HE8.out.trans E1.out).symm.trans h) (by decide), fun _ => ⟨rfl, rfl⟩⟩, ?_⟩
    exact (HB1.out.setCell (p := ⟨w.heap.size + 1, 0, none⟩) (by simp only; omega) _).setCell (p := ⟨w.heap.size + 1, 1, none⟩) (by simp only; omega) _
  obtain ⟨I, rfl⟩ : ∃ I : Nat, i = (I : Int) := ⟨i.toNat, by omega⟩
  have hIl : I < tl := by omega
  obtain ⟨s, hs⟩ : ∃ s, s = ss[I]?.getD stmD := ⟨_, rfl⟩
  have hso := HOK.out.stms s (by rw [hs]; exact mem_getS ss I (by omega))
  obtain ⟨b, off, rfl, hat⟩ := HS.out.at (by omega)
  obtain ⟨q, hq, hc⟩ := hat I hIl
  rw [← hs] at hq
  have hqc := hide hc
  have HQ := hide hq
  have hbl : s.box.length = q.bl := hq.box.1.1
  have c0w := hc.1
  have c0 := (HB1.out.cell (p := ⟨b, off + I * 8, none⟩) (lt_of_cell c0w)).trans c0w
  have zc0 := lt_of_cell c0
  have hIz : (I : Int) < (tl : Int) := by omega
  have HSO := hide hso
  have HSE := hide hs
  have e0 : stripE zs ss (I : Int) k n = if k < 0 ∨ ((s.box.length : Nat) : Int) ≤ k then 6 else if n < 1 ∨ 4096 < n then 4 else nestE zs (ss.set I (stripS s k.toNat n.toNat)) := by
    unfold stripE
    rw [if_neg (by simpa using hok), if_neg (by omega), Int.toNat_natCast, ← hs]
  have HE0 := hide e0
  clear hat hc hq hso hs e0 hok hE c0w
  by_cases h3 : k < 0
  · have e1 : stripE zs ss (I : Int) k n = 6 := by rw [HE0.out, if_pos (.inl h3)]
    have E1 := hide e1
    clear e1
    go_wp2_with fail
    have PZ2 := HPZ.out.put none 0 0 none 0 0
    obtain ⟨x0, x1⟩ := PZ2.cells
    refine bodyPost_ret (v := .tuple #[.agg #[.slice none 0 0, .slice none 0 0], .int .i64 6]) (by simp [results, Try.results15, go_sem, x0, x1]) rfl ⟨⟨none, 0, 0, none, 0, 0, [], [], by rw [show e8 = 6 from HE8.out.trans E1.out], ints_no _, stms_nil _, fun h => absurd (show 6 = (0 : Int) from (HE8.out.trans E1.out).symm.trans h) (by decide), fun _ => ⟨rfl, rfl⟩⟩, ?_⟩
    exact (HB1.out.setCell (p := ⟨w.heap.size + 1, 0, none⟩) (by simp only; omega) _).setCell (p := ⟨w.heap.size + 1, 1, none⟩) (by simp only; omega) _
  by_cases h4 : (q.bl : Int) ≤ k
  · have e1 : stripE zs ss (I : Int) k n = 6 := by rw [HE0.out, if_pos (.inr (by rw [hbl]; exact h4))]
    have E1 := hide e1
    clear e1
    go_wp2_with fail
    have PZ2 := HPZ.out.put none 0 0 none 0 0
    obtain ⟨x0, x1⟩ := PZ2.cells
    refine bodyPost_ret (v := .tuple #[.agg #[.slice none 0 0, .slice none 0 0], .int .i64 6]) (by simp [results, Try.results15, go_sem, x0, x1]) rfl ⟨⟨none, 0, 0, none, 0, 0, [], [], by rw [show e8 = 6 from HE8.out.trans E1.out], ints_no _, stms_nil _, fun h => absurd (show 6 = (0 : Int) from (HE8.out.trans E1.out).symm.trans h) (by decide), fun _ => ⟨rfl, rfl⟩⟩, ?_⟩
    exact (HB1.out.setCell (p := ⟨w.heap.size + 1, 0, none⟩) (by simp only; omega) _).setCell (p := ⟨w.heap.size + 1, 1, none⟩) (by simp only; omega) _
  obtain ⟨K, rfl⟩ : ∃ K : Nat, k = (K : Int) := ⟨k.toNat, by omega⟩
  by_cases h5 : n < 1
  · have e1 : stripE zs ss (I : Int) (K : Int) n = 4 := by rw [HE0.out, if_neg (by omega), if_pos (.inl h5)]
    have E1 := hide e1
    clear e1
    go_wp2_with fail
    have PZ2 := HPZ.out.put none 0 0 none 0 0
    obtain ⟨x0, x1⟩ := PZ2.cells
    refine bodyPost_ret (v := .tuple #[.agg #[.slice none 0 0, .slice none 0 0], .int .i64 4]) (by simp [results, Try.results15, go_sem, x0, x1]) rfl ⟨⟨none, 0, 0, none, 0, 0, [], [], by rw [show e8 = 4 from HE8.out.trans E1.out], ints_no _, stms_nil _, fun h => absurd (show 4 = (0 : Int) from (HE8.out.trans E1.out).symm.trans h) (by decide), fun _ => ⟨rfl, rfl⟩⟩, ?_⟩
    exact (HB1.out.setCell (p := ⟨w.heap.size + 1, 0, none⟩) (by simp only; omega) _).setCell (p := ⟨w.heap.size + 1, 1, none⟩) (by simp only; omega) _
  by_cases h6 : 4096 < n
  · have e1 : stripE zs ss (I : Int) (K : Int) n = 4 := by rw [HE0.out, if_neg (by omega), if_pos (.inr h6)]
    have E1 := hide e1
    clear e1
    go_wp2_with fail
    have PZ2 := HPZ.out.put none 0 0 none 0 0
    obtain ⟨x0, x1⟩ := PZ2.cells
    refine bodyPost_ret (v := .tuple #[.agg #[.slice none 0 0, .slice none 0 0], .int .i64 4]) (by simp [results, Try.results15, go_sem, x0, x1]) rfl ⟨⟨none, 0, 0, none, 0, 0, [], [], by rw [show e8 = 4 from HE8.out.trans E1.out], ints_no _, stms_nil _, fun h => absurd (show 4 = (0 : Int) from (HE8.out.trans E1.out).symm.trans h) (by decide), fun _ => ⟨rfl, rfl⟩⟩, ?_⟩
    exact (HB1.out.setCell (p := ⟨w.heap.size + 1, 0, none⟩) (by simp only; omega) _).setCell (p := ⟨w.heap.size + 1, 1, none⟩) (by simp only; omega) _
  obtain ⟨M, rfl⟩ : ∃ M : Nat, n = (M : Int) := ⟨n.toNat, by omega⟩
  have e1 : stripE zs ss (I : Int) (K : Int) (M : Int) = nestE zs (ss.set I (stripS s K M)) := by rw [HE0.out, if_neg (by omega), if_neg (by omega), Int.toNat_natCast, Int.toNat_natCast]
  have HEQ := hide (HE8.out.trans e1)
  have HF := hide (fun V (hb : Below w1.heap.size w1 V) => freshL_any za zl zc zs V (HZ.out.below (bl_on HB1.out hb)) hzb)
  have HE := hide (fun V (hb : Below w1.heap.size w1 V) => eachFresh (some ⟨b, off, none⟩) tl tc ss zs.length V (HS.out.below (bl_on HB1.out hb)) HOK.out.stms (by have := HOK.out.many; omega))
  clear e1 HE0
  go_upto_region 10 with fail
  have HNZ := hide (And.intro q0 q1)
  clear q0 q1 zq g0 g1 c0 zc0
  generalize decide ((I : Int) < 0) = d1
  generalize decide ((K : Int) < 0) = d2
  generalize decide ((M : Int) < 1) = d3
  have HH := hide (And.intro h1 (And.intro h2 (And.intro h3 (And.intro h4 (And.intro h5 h6)))))
  have hsm : I < tl ∧ K < q.bl ∧ 1 ≤ M ∧ M ≤ 4096 := by omega
  have HSM := hide hsm
  have HLL := hide (And.intro hsl (And.intro hbl hw1))
  clear h1 h2 h3 h4 h5 h6 hIz hsm hIl hi hk hn hsl hbl hw1 hzb
  refine region_made 8 14 [fIs (.pointer (some ⟨w.heap.size, 0, none⟩)), fIs (.slice za zl zc), fNums w1.heap.size zl zs, fIs (.pointer (some ⟨w.heap.size, 1, none⟩)), fIs (.slice (some ⟨b, off, none⟩) tl tc), fStms w1.heap.size tl ss, fNestX w1.heap.size zl tl zs ss, fNewNest w1.heap.size] (by kernel_rfl) (by kernel_rfl) (by kernel_rfl) (fun _ ⟨_, _⟩ ⟨_, _⟩ _ e h => by cases e; exact h) ⟨fIs_good _, fIs_good _, fNums_good _ _ _, fIs_good _, fIs_good _, fStms_good _ _ _, fNestX_good _ _ _ _ _, fNewNest_good _, trivial⟩ ?mk ?rest
  case mk =>
    refine ⟨fun u wz hb hd => ?_, fun u wz hb hd => ?_, fun u wz hb hd => ?_, fun u wz hb hd => ?_, fun u wz hb hd => ?_, fun u wz hb hd => ?_, fun u wz hb hd => ?_, fun u wz hb hd => ?_, trivial⟩
    all_goals simp only [Act.put, List.setIfInBounds_toArray, List.set_cons_zero, List.set_cons_succ]
    · go_simp
      exact ⟨rfl, Below.refl _ _, fun h => by cases h⟩
    · have e0 : u 0 = .pointer (some ⟨w.heap.size, 0, none⟩) := hd 0 (by omega) (by kernel_rfl)
      rw [e0]
      have n0' := (hb.cell (p := ⟨w.heap.size, 0, none⟩) (lt_of_cell n0)).trans n0
      go_simp
      exact ⟨rfl, Below.refl _ _, fun h => by cases h⟩
    · have e1 : u 1 = .slice za zl zc := hd 1 (by omega) (by kernel_rfl)
      rw [e1]
      go_simp
      refine (HF.out wz hb).mono ?_
      rintro e w2 ⟨⟨g, rfl, h1, h2⟩, hb2⟩
      exact ⟨⟨g, rfl, h1, Nat.le_trans hb.size h2⟩, hb2, fun h => by cases h⟩
    · go_simp
      exact ⟨rfl, Below.refl _ _, fun h => by cases h⟩
    · have e3 : u 3 = .pointer (some ⟨w.heap.size, 1, none⟩) := hd 3 (by omega) (by kernel_rfl)
      rw [e3]
      have n1' := (hb.cell (p := ⟨w.heap.size, 1, none⟩) (lt_of_cell n1)).trans n1
      go_simp
      exact ⟨rfl, Below.refl _ _, fun h => by cases h⟩
    · have e4 : u 4 = .slice (some ⟨b, off, none⟩) tl tc := hd 4 (by omega) (by kernel_rfl)
      rw [e4]
      go_simp
      refine (HE.out wz hb).mono ?_
      rintro e w2 ⟨⟨R, us, rfl, h1⟩, hb2⟩
      exact ⟨⟨R, us, rfl, h1.1, Nat.le_trans hb.size h1.2.1, h1.2.2⟩, hb2, fun h => by cases h⟩
    · obtain ⟨g2, e2, h2, h2n⟩ := hd 2 (by omega) (by kernel_rfl)
      obtain ⟨R5, us5, e5, h5⟩ := hd 5 (by omega) (by kernel_rfl)
      rw [e2, e5]
      go_simp
      exact ⟨⟨g2, R5, us5, rfl, ⟨h2, h2n⟩, h5⟩, Below.refl _ _, fun h => by cases h⟩
    · go_simp
      exact ⟨⟨_, rfl, World.alloc_heap_new _ _, hb.size⟩, bl_new _, fun h => by cases h⟩
  case rest =>
    intro u wz hb hf hp
    have f0 : u 0 = .pointer (some ⟨w.heap.size, 0, none⟩) := hf 0 (by omega)
    have f1 : u 1 = .slice za zl zc := hf 1 (by omega)
    obtain ⟨_, f2, _, _⟩ := hf 2 (by omega)
    have f3 : u 3 = .pointer (some ⟨w.heap.size, 1, none⟩) := hf 3 (by omega)
    have f4 : u 4 = .slice (some ⟨b, off, none⟩) tl tc := hf 4 (by omega)
    obtain ⟨_, _, f5, _⟩ := hf 5 (by omega)
    obtain ⟨g, R, us, f6, hg, hX⟩ := hf 6 (by omega)
    obtain ⟨O, f7, hO, hOn⟩ := hf 7 (by omega)
    refine UptoW.rest 1 8 (by rfl) (by kernel_rfl) ?_
    simp only [List.take, List.drop, putOps, Act.put, List.setIfInBounds_toArray, List.set_cons_zero, List.set_cons_succ, Nat.reduceAdd, f0, f1, f2, f3, f4, f5, f6, f7]
    clear f0 f1 f2 f3 f4 f5 f6 f7 hf hp
    have HO := hide hO
    have HG := hide hg
    have HX := hide hX
    have HB2 := hide (bl_on HB1.out hb)
    have HN2 := hide (HN1.out.below hb)
    have HPZ2 := hide (HPZ.out.below hb)
    obtain ⟨y0, y1⟩ := hO.cells
    have g0 := hO.free 0
    have g1 := hO.free 1
    have zO := hO.lt
    have hs2 := hb.size
    clear n0 n1 zn hb hO hg hX HN1 HPZ HF HE
    go_upto_region 11 with fail
    obtain ⟨W4, hW4⟩ : ∃ W4, W4 = (wz.setCell ⟨O, 0, none⟩ (.slice (some ⟨g, 0, none⟩) zl zl)).setCell ⟨O, 1, none⟩ (.slice (some ⟨R, 0, none⟩) tl tl) := ⟨_, rfl⟩
    rw [← hW4]
    have hsw := HSW.out
    obtain ⟨hsl, hbl, hw1⟩ := HLL.out
    have oth : ∀ b, b ≠ O → W4.heap[b]? = wz.heap[b]? := fun b hb => by
      rw [hW4]
      exact (Below.heap_setCell _ ⟨O, 1, none⟩ _ b hb).trans (Below.heap_setCell _ ⟨O, 0, none⟩ _ b hb)
    have hO4 : NsBlk W4 O (some ⟨g, 0, none⟩) zl zl (some ⟨R, 0, none⟩) tl tl := by rw [hW4]; exact HO.out.put _ _ _ _ _ _
    have hgO : g ≠ O := fun e => by
      obtain ⟨c, hc, _⟩ := HG.out.1
      have := HO.out
      unfold NsBlk at this
      rw [← e, hc] at this
      cases this
    have hRO : R ≠ O := fun e => by
      obtain ⟨f, ⟨c, hc, _⟩, _⟩ := HX.out.1
      have := HO.out
      unfold NsBlk at this
      rw [← e, hc] at this
      cases this
    have hgR : g ≠ R := fun e => by
      obtain ⟨f, ⟨c, hc, _⟩, _⟩ := HX.out.1
      obtain ⟨c2, hc2, _⟩ := HG.out.1
      rw [← e, hc2] at hc
      cases hc
    have hG4 : RowI W4 g zl zs := World.rowIs.of_block HG.out.1 (oth g hgO)
    have hk4 : ∀ N, KeepF N wz W4 := fun N => by
      have h1 : KeepF N wz (wz.setCell ⟨O, 0, none⟩ (.slice (some ⟨g, 0, none⟩) zl zl)) := KeepF.nest (p := ⟨O, 0, none⟩) HO.out _
      refine h1.trans ?_
      rw [hW4]
      have h2 : (wz.setCell ⟨O, 0, none⟩ (.slice (some ⟨g, 0, none⟩) zl zl)).heap[O]? = some (.cells #[.slice (some ⟨g, 0, none⟩) zl zl, .slice none 0 0] 25 (0, 0)) := by
        have := HO.out
        unfold NsBlk at this
        simp [World.setCell, Array.getElem?_modify, this]
      exact KeepF.nest (p := ⟨O, 1, none⟩) h2 _
    have hX4 : StmX W4 w1.heap.size R tl us ss := by
      refine ⟨?_, HX.out.2.1, fun j hj => (HX.out.2.2 j hj).keep (hk4 _)⟩
      obtain ⟨f, h1, h2⟩ := HX.out.1
      exact ⟨f, h1.of_block (oth R hRO), h2⟩
    have hN4 : NsBlk W4 w.heap.size za zl zc (some ⟨b, off, none⟩) tl tc := (oth _ (by omega)).trans HN2.out
    have hP4 : NsBlk W4 (w.heap.size + 1) none 0 0 none 0 0 := (oth _ (by omega)).trans HPZ2.out
    have hB4 : Below w.heap.size w W4 := by
      rw [hW4]
      exact (HB2.out.setCell (p := ⟨O, 0, none⟩) (by simp only; omega) _).setCell (p := ⟨O, 1, none⟩) (by simp only; omega) _
    have hz4 : W4.heap.size = wz.heap.size := by rw [hW4, World.size_setCell, World.size_setCell]
    have HST := hide (fun V (hb : Below W4.heap.size W4 V) => stripped_any q s K M zs.length V (HQ.out.below (bl_on hB4 hb)) HSO.out (by have := HSM.out; omega) (by have := HSM.out; omega))
    unfold SW.v SW.cs at HST
    obtain ⟨c0, c1, c2, c3, c4, c5, c6, c7⟩ := hqc.out
    have c0' := (hB4.cell (p := ⟨b, off + I * 8, none⟩) (lt_of_cell c0)).trans c0
    have c1' := (hB4.cell (p := ⟨b, off + I * 8 + 1, none⟩) (lt_of_cell c1)).trans c1
    have c2' := (hB4.cell (p := ⟨b, off + I * 8 + 2, none⟩) (lt_of_cell c2)).trans c2
    have c3' := (hB4.cell (p := ⟨b, off + I * 8 + 3, none⟩) (lt_of_cell c3)).trans c3
    have c4' := (hB4.cell (p := ⟨b, off + I * 8 + 4, none⟩) (lt_of_cell c4)).trans c4
    have c5' := (hB4.cell (p := ⟨b, off + I * 8 + 5, none⟩) (lt_of_cell c5)).trans c5
    have c6' := (hB4.cell (p := ⟨b, off + I * 8 + 6, none⟩) (lt_of_cell c6)).trans c6
    have c7' := (hB4.cell (p := ⟨b, off + I * 8 + 7, none⟩) (lt_of_cell c7)).trans c7
    clear c0 c1 c2 c3 c4 c5 c6 c7
    have c0 := c0'
    have c1 := c1'
    have c2 := c2'
    have c3 := c3'
    have c4 := c4'
    have c5 := c5'
    have c6 := c6'
    have c7 := c7'
    clear c0' c1' c2' c3' c4' c5' c6' c7'
    obtain ⟨_, n1⟩ := hN4.cells
    obtain ⟨_, o1⟩ := hO4.cells
    have H4 := hide (And.intro (And.intro hO4 hG4) (And.intro (And.intro hX4 hP4) hB4))
    have HNE := hide (And.intro hgO (And.intro hRO hgR))
    have HLT := hide (And.intro hsw (And.intro hOn (And.intro hw1 (And.intro hz4 hs2))))
    clear y0 y1 g0 g1 zO hW4 oth hO4 hG4 hk4 hX4 hN4 hP4 hB4 hgO hRO hgR HO HG HX HB2 HN2 HPZ2 hsw hOn hw1 hz4 hs2 hsl hbl
    refine region_made 12 18 [fIs (.pointer (some ⟨O, 1, none⟩)), fIs (.slice (some ⟨R, 0, none⟩) tl tl), fIs (.int .i64 (I : Int)), fIs (.pointer (some ⟨w.heap.size, 1, none⟩)), fIs (.slice (some ⟨b, off, none⟩) tl tc), fIs (.int .i64 (I : Int)), fIs (.pointer (some ⟨b, off + I * 8, none⟩)), fIs (.agg #[.slice q.ba q.bl q.bc, .slice q.ra q.rl q.rc, .int .i64 q.kd, .int .i64 q.va, .int .i64 q.pu.arr, .slice q.pu.ca q.pu.cl q.pu.cc, .int .i64 q.pu.con, .slice q.ga q.gl q.gc]), fIs (.int .i64 (K : Int)), fIs (.int .i64 (M : Int)), fSG W4.heap.size (stripS s K M), fIs (.pointer (some ⟨R, I * 8, none⟩))] (by kernel_rfl) (by kernel_rfl) (by kernel_rfl) (fun _ ⟨_, _⟩ ⟨_, _⟩ _ e h => by cases e; exact h) ⟨fIs_good _, fIs_good _, fIs_good _, fIs_good _, fIs_good _, fIs_good _, fIs_good _, fIs_good _, fIs_good _, fIs_good _, fSG_good _ _, fIs_good _, trivial⟩ ?mk ?rest
    case mk =>
      refine ⟨fun u wz hb hd => ?_, fun u wz hb hd => ?_, fun u wz hb hd => ?_, fun u wz hb hd => ?_, fun u wz hb hd => ?_, fun u wz hb hd => ?_, fun u wz hb hd => ?_, fun u wz hb hd => ?_, fun u wz hb hd => ?_, fun u wz hb hd => ?_, fun u wz hb hd => ?_, fun u wz hb hd => ?_, trivial⟩
      all_goals simp only [Act.put, List.setIfInBounds_toArray, List.set_cons_zero, List.set_cons_succ]
      · go_simp
        exact ⟨rfl, Below.refl _ _, fun h => by cases h⟩
      · have e0 : u 0 = .pointer (some ⟨O, 1, none⟩) := hd 0 (by omega) (by kernel_rfl)
        rw [e0]
        have o1' := (hb.cell (p := ⟨O, 1, none⟩) (lt_of_cell o1)).trans o1
        go_simp
        exact ⟨rfl, Below.refl _ _, fun h => by cases h⟩
      · go_simp
        exact ⟨rfl, Below.refl _ _, fun h => by cases h⟩
      · go_simp
        exact ⟨rfl, Below.refl _ _, fun h => by cases h⟩
      · have e3 : u 3 = .pointer (some ⟨w.heap.size, 1, none⟩) := hd 3 (by omega) (by kernel_rfl)
        rw [e3]
        have n1' := (hb.cell (p := ⟨w.heap.size, 1, none⟩) (lt_of_cell n1)).trans n1
        go_simp
        exact ⟨rfl, Below.refl _ _, fun h => by cases h⟩
      · go_simp
        exact ⟨rfl, Below.refl _ _, fun h => by cases h⟩
      · have e4 : u 4 = .slice (some ⟨b, off, none⟩) tl tc := hd 4 (by omega) (by kernel_rfl)
        have e5 : u 5 = .int .i64 (I : Int) := hd 5 (by omega) (by kernel_rfl)
        rw [e4, e5]
        have hIz : (I : Int) < (tl : Int) := by have := HSM.out.1; omega
        go_simp
        exact ⟨rfl, Below.refl _ _, fun h => by cases h⟩
      · have e6 : u 6 = .pointer (some ⟨b, off + I * 8, none⟩) := hd 6 (by omega) (by kernel_rfl)
        rw [e6]
        have c0' := (hb.cell (p := ⟨b, off + I * 8, none⟩) (lt_of_cell c0)).trans c0
        have c1' := (hb.cell (p := ⟨b, off + I * 8 + 1, none⟩) (lt_of_cell c1)).trans c1
        have c2' := (hb.cell (p := ⟨b, off + I * 8 + 2, none⟩) (lt_of_cell c2)).trans c2
        have c3' := (hb.cell (p := ⟨b, off + I * 8 + 3, none⟩) (lt_of_cell c3)).trans c3
        have c4' := (hb.cell (p := ⟨b, off + I * 8 + 4, none⟩) (lt_of_cell c4)).trans c4
        have c5' := (hb.cell (p := ⟨b, off + I * 8 + 5, none⟩) (lt_of_cell c5)).trans c5
        have c6' := (hb.cell (p := ⟨b, off + I * 8 + 6, none⟩) (lt_of_cell c6)).trans c6
        have c7' := (hb.cell (p := ⟨b, off + I * 8 + 7, none⟩) (lt_of_cell c7)).trans c7
        go_simp
        exact ⟨rfl, Below.refl _ _, fun h => by cases h⟩
      · go_simp
        exact ⟨rfl, Below.refl _ _, fun h => by cases h⟩
      · go_simp
        exact ⟨rfl, Below.refl _ _, fun h => by cases h⟩
      · have e7 : u 7 = .agg #[.slice q.ba q.bl q.bc, .slice q.ra q.rl q.rc, .int .i64 q.kd, .int .i64 q.va, .int .i64 q.pu.arr, .slice q.pu.ca q.pu.cl q.pu.cc, .int .i64 q.pu.con, .slice q.ga q.gl q.gc] := hd 7 (by omega) (by kernel_rfl)
        have e8 : u 8 = .int .i64 (K : Int) := hd 8 (by omega) (by kernel_rfl)
        have e9 : u 9 = .int .i64 (M : Int) := hd 9 (by omega) (by kernel_rfl)
        rw [e7, e8, e9]
        go_simp
        refine (HST.out wz hb).mono ?_
        rintro e w2 ⟨⟨u, rfl, hl⟩, hb2⟩
        exact ⟨⟨u, rfl, hl.mono hb.size⟩, hb2, fun h => by cases h⟩
      · have e1 : u 1 = .slice (some ⟨R, 0, none⟩) tl tl := hd 1 (by omega) (by kernel_rfl)
        have e2 : u 2 = .int .i64 (I : Int) := hd 2 (by omega) (by kernel_rfl)
        rw [e1, e2]
        have hIz : (I : Int) < (tl : Int) := by have := HSM.out.1; omega
        go_simp
        exact ⟨rfl, Below.refl _ _, fun h => by cases h⟩
    case rest =>
      intro u wz hb hf hp
      have f0 : u 0 = .pointer (some ⟨O, 1, none⟩) := hf 0 (by omega)
      have f1 : u 1 = .slice (some ⟨R, 0, none⟩) tl tl := hf 1 (by omega)
      have f2 : u 2 = .int .i64 (I : Int) := hf 2 (by omega)
      have f3 : u 3 = .pointer (some ⟨w.heap.size, 1, none⟩) := hf 3 (by omega)
      have f4 : u 4 = .slice (some ⟨b, off, none⟩) tl tc := hf 4 (by omega)
      have f5 : u 5 = .int .i64 (I : Int) := hf 5 (by omega)
      have f6 : u 6 = .pointer (some ⟨b, off + I * 8, none⟩) := hf 6 (by omega)
      have f7 : u 7 = .agg #[.slice q.ba q.bl q.bc, .slice q.ra q.rl q.rc, .int .i64 q.kd, .int .i64 q.va, .int .i64 q.pu.arr, .slice q.pu.ca q.pu.cl q.pu.cc, .int .i64 q.pu.con, .slice q.ga q.gl q.gc] := hf 7 (by omega)
      have f8 : u 8 = .int .i64 (K : Int) := hf 8 (by omega)
      have f9 : u 9 = .int .i64 (M : Int) := hf 9 (by omega)
      obtain ⟨sw, f10, hsw⟩ := hf 10 (by omega)
      have f11 : u 11 = .pointer (some ⟨R, I * 8, none⟩) := hf 11 (by omega)
      refine UptoW.rest 1 12 (by rfl) (by kernel_rfl) ?_
      simp only [List.take, List.drop, putOps, Act.put, List.setIfInBounds_toArray, List.set_cons_zero, List.set_cons_succ, Nat.reduceAdd, f0, f1, f2, f3, f4, f5, f6, f7, f8, f9, f10, f11]
      clear f0 f1 f2 f3 f4 f5 f6 f7 f8 f9 f10 f11 hf hp
      obtain ⟨⟨hO4, hG4⟩, ⟨hX4, hP4⟩, hB4⟩ := H4.out
      have X5 := hX4.below hb
      obtain ⟨f, r1, r2⟩ := X5.1
      have hIl := HSM.out.1
      have d0 := r1.cell (i := I * 8) (by omega)
      have y0 := r1.frozen (I * 8)
      have d1 := r1.cell (i := I * 8 + 1) (by omega)
      have y1 := r1.frozen (I * 8 + 1)
      have d2 := r1.cell (i := I * 8 + 2) (by omega)
      have y2 := r1.frozen (I * 8 + 2)
      have d3 := r1.cell (i := I * 8 + 3) (by omega)
      have y3 := r1.frozen (I * 8 + 3)
      have d4 := r1.cell (i := I * 8 + 4) (by omega)
      have y4 := r1.frozen (I * 8 + 4)
      have d5 := r1.cell (i := I * 8 + 5) (by omega)
      have y5 := r1.frozen (I * 8 + 5)
      have d6 := r1.cell (i := I * 8 + 6) (by omega)
      have y6 := r1.frozen (I * 8 + 6)
      have d7 := r1.cell (i := I * 8 + 7) (by omega)
      have y7 := r1.frozen (I * 8 + 7)
      have zR := r1.lt
      have H5 := hide (And.intro (And.intro (hO4.below hb) (hG4.below hb)) (And.intro (And.intro X5 (hP4.below hb)) (bl_on hB4 hb)))
      have HSG := hide hsw
      have hs5 := hb.size
      have hR4 := hX4.1.lt
      clear hb hsw X5 r1 r2 hO4 hG4 hX4 hP4 hB4 n1 o1 c0 c1 c2 c3 c4 c5 c6 c7 HST
      unfold SW.v SW.cs
      go_upto_region 12 with fail
      obtain ⟨W6, hW6⟩ : ∃ W6, W6 = putS wz R I sw := ⟨_, rfl⟩
      have hW6' := hW6
      unfold putS at hW6'
      rw [← hW6']
      obtain ⟨⟨hO5, hG5⟩, ⟨hX5, hP5⟩, hB5⟩ := H5.out
      obtain ⟨hgO, hRO, hgR⟩ := HNE.out
      obtain ⟨hsz1, hOn, hw1, hz4, hs2⟩ := HLT.out
      obtain ⟨hsl, hbl, _⟩ := HLL.out
      have hRn := hX5.2.1
      have oth : ∀ b, b ≠ R → W6.heap[b]? = wz.heap[b]? := fun b hb => by rw [hW6]; exact putS_oth _ _ _ _ b hb
      have hO6 : NsBlk W6 O (some ⟨g, 0, none⟩) zl zl (some ⟨R, 0, none⟩) tl tl := (oth O (fun e => hRO e.symm)).trans hO5
      have hP6 : NsBlk W6 (w.heap.size + 1) none 0 0 none 0 0 := (oth _ (by omega)).trans hP5
      have hG6 : RowI W6 g zl zs := World.rowIs.of_block hG5 (oth g hgR)
      have hB6 : Below w.heap.size w W6 := by rw [hW6]; exact putS_below hB5 (by omega) _ _
      have hk6 : ∀ N, R < N → KeepF N wz W6 := fun N hN => ⟨fun b _ _ h1 _ _ => oth b (by omega), by rw [hW6, putS_size]; exact Nat.le_refl _⟩
      have hI6 : Ints W6 (some ⟨g, 0, none⟩) zl zs := ints_of_rowI hG6 HZ.out.1 HZ.out.2.1 HZ.out.2.2.1
      have hX6 : StmX W6 w1.heap.size R tl (fun j => if j = I then sw else us j) (ss.set I (stripS s K M)) := by
        have h1 := hX5.1.put (i := I) hIl sw
        rw [← hW6] at h1
        refine ⟨h1, hRn, fun j hj => ?_⟩
        by_cases e : j = I
        · subst e
          simp only [if_true]
          have h2 := (HSG.out.mono (N := R + 1) (by omega)).keep (hk6 _ (by omega))
          have e2 : (ss.set j (stripS s K M))[j]?.getD stmD = stripS s K M := by simp [hsl, hIl]
          rw [e2]
          exact h2
        · simp only [if_neg e]
          have h2 := (hX5.2.2 j hj).keep (hk6 _ (by omega))
          rw [List.getElem?_set, if_neg (fun e' => e e'.symm)]
          exact h2
      have hS6 := hX6.stms (by rw [List.length_set]; exact hsl) HS.out.2.1
      have HNW2 := hide (nestWrong_any (some ⟨g, 0, none⟩) zl zl zs (some ⟨R, 0, none⟩) tl tl (ss.set I (stripS s K M)) W6 hI6 hS6)
      rw [← HEQ.out] at HNW2
      obtain ⟨o0, o1⟩ := hO6.cells
      have zO := hO6.lt
      have HSL := hide (show (ss.set I (stripS s K M)).length = tl by rw [List.length_set]; exact hsl)
      have H6 := hide (And.intro (And.intro hO6 hP6) (And.intro (And.intro hG6 hX6) hB6))
      clear d0 d1 d2 d3 d4 d5 d6 d7 y0 y1 y2 y3 y4 y5 y6 y7 zR hW6 hW6' hO5 hG5 hX5 hP5 hB5 hO6 hP6 hG6 hB6 hk6 hI6 hX6 hS6 oth HSG H5 H4 hs5 hR4 hsl hbl hgO hRO hgR
      go_wp2_with fail
      refine HNW2.out.mono ?_
      rintro e w7 ⟨rfl, hb⟩
      obtain ⟨⟨hO6, hP6⟩, ⟨hG6, hX6⟩, hB6⟩ := H6.out
      have HO7 := hide (hO6.below hb)
      have HPZ := hide (hP6.below hb)
      have HI7 := hide (hG6.below hb)
      have HS7 := hide (hX6.below hb)
      have HB1 := hide (bl_on hB6 hb)
      clear o0 o1 zO hO6 hP6 hG6 hX6 hB6 hb H6
      obtain ⟨o0, o1⟩ := HO7.out.cells
      have zO := HO7.out.lt
      obtain ⟨q0, q1⟩ := HPZ.out.cells
      have zq := HPZ.out.lt
      have g0 := HPZ.out.free 0
      have g1 := HPZ.out.free 1
      by_cases hE0 : e8 = 0
      rotate_left
      · have qE : (e8 != 0) = true := by simpa using hE0
        have HNN := hide hE0
        clear hE0
        go_wp2_with fail
        have PZ2 := HPZ.out.put none 0 0 none 0 0
        obtain ⟨x0, x1⟩ := PZ2.cells
        refine bodyPost_ret (v := .tuple #[.agg #[.slice none 0 0, .slice none 0 0], .int .i64 e8]) (by simp [results, Try.results15, go_sem, x0, x1]) rfl ⟨⟨none, 0, 0, none, 0, 0, [], [], rfl, ints_no _, stms_nil _, fun h => absurd h HNN.out, fun _ => ⟨rfl, rfl⟩⟩, ?_⟩
        exact (HB1.out.setCell (p := ⟨w.heap.size + 1, 0, none⟩) (by simp only; omega) _).setCell (p := ⟨w.heap.size + 1, 1, none⟩) (by simp only; omega) _
      · have HE9 := hide hE0
        rw [hE0]
        clear hE0
        go_wp2_with fail
        have PZ2 := HPZ.out.put (some ⟨g, 0, none⟩) zl zl (some ⟨R, 0, none⟩) tl tl
        obtain ⟨x0, x1⟩ := PZ2.cells
        have hk9 : KeepF 0 w7 ((w7.setCell ⟨w.heap.size + 1, 0, none⟩ (.slice (some ⟨g, 0, none⟩) zl zl)).setCell ⟨w.heap.size + 1, 1, none⟩ (.slice (some ⟨R, 0, none⟩) tl tl)) := by
          have h1 : KeepF 0 w7 (w7.setCell ⟨w.heap.size + 1, 0, none⟩ (.slice (some ⟨g, 0, none⟩) zl zl)) := KeepF.nest (p := ⟨w.heap.size + 1, 0, none⟩) HPZ.out _
          refine h1.trans ?_
          have h2 : (w7.setCell ⟨w.heap.size + 1, 0, none⟩ (.slice (some ⟨g, 0, none⟩) zl zl)).heap[w.heap.size + 1]? = some (.cells #[.slice (some ⟨g, 0, none⟩) zl zl, .slice none 0 0] 25 (0, 0)) := by
            have := HPZ.out
            unfold NsBlk at this
            simp [World.setCell, Array.getElem?_modify, this]
          exact KeepF.nest (p := ⟨w.heap.size + 1, 1, none⟩) h2 _
        refine bodyPost_ret (v := .tuple #[.agg #[.slice (some ⟨g, 0, none⟩) zl zl, .slice (some ⟨R, 0, none⟩) tl tl], .int .i64 0]) (by simp [results, Try.results15, go_sem, x0, x1]) rfl ⟨⟨some ⟨g, 0, none⟩, zl, zl, some ⟨R, 0, none⟩, tl, tl, zs, ss.set I (stripS s K M), by rw [HE9.out], ?_, ?_, fun _ => ⟨rfl, ?_⟩, fun h => absurd HE9.out h⟩, ?_⟩
        · have hgA : g ≠ w.heap.size + 1 := fun e => by
            obtain ⟨c, hc, _⟩ := HI7.out
            have := HPZ.out
            unfold NsBlk at this
            rw [← e, hc] at this
            cases this
          have h9 := (HI7.out.setO (p := ⟨w.heap.size + 1, 0, none⟩) hgA (.slice (some ⟨g, 0, none⟩) zl zl)).setO (p := ⟨w.heap.size + 1, 1, none⟩) hgA (.slice (some ⟨R, 0, none⟩) tl tl)
          exact ints_of_rowI h9 HZ.out.1 HZ.out.2.1 HZ.out.2.2.1
        · have hRA : R ≠ w.heap.size + 1 := fun e => by
            obtain ⟨f, ⟨c, hc, _⟩, _⟩ := HS7.out.1
            have := HPZ.out
            unfold NsBlk at this
            rw [← e, hc] at this
            cases this
          obtain ⟨f, r1, r2⟩ := HS7.out.1
          refine stms_out ⟨f, (r1.setOther (a := ⟨w.heap.size + 1, 0, none⟩) hRA _).setOther (a := ⟨w.heap.size + 1, 1, none⟩) hRA _, r2⟩ HSL.out HS.out.2.1 (fun j hj => ?_)
          exact ((HS7.out.2.2 j hj).keep (hk9.mono (Nat.zero_le _))).out
        · rw [HSE.out]
          rfl
        · exact (HB1.out.setCell (p := ⟨w.heap.size + 1, 0, none⟩) (by simp only; omega) _).setCell (p := ⟨w.heap.size + 1, 1, none⟩) (by simp only; omega) _
end Go.Proofs.Ytoidgdbgpbcebaa.V
