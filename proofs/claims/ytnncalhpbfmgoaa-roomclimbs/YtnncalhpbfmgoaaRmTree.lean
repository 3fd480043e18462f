/-
  Contract: room.treeOf.
-/
import Derived.Test.YtnncalhpbfmgoaaRmBel
import Derived.Laws.ResultCell
import Derived.Laws.Rows
namespace Go.Proofs.Ytnncalhpbfmgoaa.V
open Go.RowKit
set_option linter.unusedVariables false

theorem info_ints27 : (Try.prog.info? 27).map (fun i => (i.zero, i.size, i.bytes)) = some (some (.slice none 0 0), 1, 24) := by kernel_rfl
theorem rm_grown_trans {row : Option Nat} (w w' w'' : World) (h : w.grownBy w' row) (k : w'.grownBy w'' row) : w.grownBy w'' row :=
  ⟨k.os.trans h.os, k.tape.trans h.tape, k.output.trans h.output, Nat.le_trans h.size k.size, fun i hi hne => (k.block i (Nat.lt_of_lt_of_le hi h.size) hne).trans (h.block i hi hne)⟩
theorem rm_grown_of {row : Option Nat} (w w' : World) (h : Below w.heap.size w w') : w.grownBy w' row := ⟨h.os, h.tape, h.output, h.size, fun i hi _ => h.block i hi⟩
theorem rm_is_good (c : Value) (R : World → World → Prop) (b : Bool) : (fIs c).GoodR R b := ⟨fun _ _ _ h _ => h, fun _ _ _ _ h _ => h, fun h => by cases h⟩
def fCellN (row : Option Nat) (y : Nat) : Fact := ⟨fun u W => ∃ B, u = .slice (some ⟨B, 0, none⟩) 1 1 ∧ W.cell? ⟨B, 0, none⟩ = some (nv y) ∧ some B ≠ row, false⟩
theorem fCellN_good (row : Option Nat) (y : Nat) : (fCellN row y).GoodR (fun a b => a.grownBy b row) false := ⟨fun _ _ _ ⟨B, h1, h2, h3⟩ hb => ⟨B, h1, (hb.cell (p := ⟨B, 0, none⟩) (lt_of_cell h2)).trans h2, h3⟩, fun _ _ _ _ ⟨B, h1, h2, h3⟩ hg => ⟨B, h1, (World.cell?_of_block (hg.block B (lt_of_cell h2) h3)).trans h2, h3⟩, fun h => by cases h⟩
def fSideN (B N0 : Nat) (row : Option Nat) (l : List Nat) : Fact := ⟨fun u W => OwnN W B u l ∧ (u.ownBlock = row ∨ ∀ i, u.ownBlock = some i → N0 ≤ i), false⟩
theorem fSideN_good (B N0 : Nat) (row : Option Nat) (l : List Nat) (R : World → World → Prop) : (fSideN B N0 row l).GoodR R true := ⟨fun _ _ _ h hb => ⟨h.1.below hb, h.2⟩, (fun h => by cases h), (fun h => by cases h)⟩
/-- The answer. -/
def TreeAns (w : World) (n : Nat) (b : Option Addr) (m cap' : Nat) (ab ws : List Int) (e : Ending) (w' : World) : Prop :=
  (treeE ab ws ≠ 0 → e = .returned (.tuple #[.agg #[.slice none 0 0, .slice none 0 0], .int .i64 (treeE ab ws)])) ∧
  (treeE ab ws = 0 → ∃ L v, e = .returned (.tuple #[.agg #[.slice (some ⟨L, 0, none⟩) n n, .slice b m cap'], .int .i64 0]) ∧ Bel w' w.heap.size L n v (kids ab))
/-- While the rows grow. -/
structure TreeInv (w : World) (n : Nat) (b : Option Addr) (m cap' : Nat) (ab : List Int) (k : Nat) (v : Nat → Value) (wr : World) : Prop where
  bel : Below w.heap.size w wr
  res : wr.heap[w.heap.size]? = some (.cells #[.slice none 0 0, .slice none 0 0] 57 (0, 0))
  own : wr.heap[w.heap.size + 2]? = some (.cells #[.slice (some ⟨w.heap.size + 1, 0, none⟩) n n, .slice b m cap'] 57 (0, 0))
  row : Bel wr w.heap.size (w.heap.size + 1) n v (kidsTo ab k)
theorem size_tree : (Try.prog.info? 57).map (·.size) = some 2 := by kernel_rfl
theorem results_tree (tmps : Array Value) (w : World) (g : Nat) (c1 c2 x : Value) (fr : Nat × Nat) (hp : tmps.getD 4 undef = .pointer (some ⟨g, 0, none⟩)) (hx : tmps.getD 5 undef = x) (hg : w.heap[g]? = some (.cells #[c1, c2] 57 fr)) :
    (results Try.f31 tmps).run Try.prog w = .ok (.tuple #[.agg #[c1, c2], x]) w := by
  rw [results_cell_tmp Try.results31]
  rw [hp, hx]
  simp [asAddr, run_loadVar_row w g 57 57 #[c1, c2] fr _ hg Try.underlying57 rfl size_tree, Result.andThen]
theorem tree_start (w : World) (n : Nat) (b : Option Addr) (m cap' : Nat) (ab : List Int) :
    TreeInv w n b m cap' ab 0 (fun _ => .slice none 0 0) (((w.alloc (.cells #[.slice none 0 0, .slice none 0 0] 57)).alloc (.cells (madeCells #[.slice none 0 0] n) 27)).alloc (.cells #[.slice (some ⟨w.heap.size + 1, 0, none⟩) n n, .slice b m cap'] 57)) := by
  have z1 : (w.alloc (.cells #[.slice none 0 0, .slice none 0 0] 57)).heap.size = w.heap.size + 1 := by simp
  have z2 : ((w.alloc (.cells #[.slice none 0 0, .slice none 0 0] 57)).alloc (.cells (madeCells #[.slice none 0 0] n) 27)).heap.size = w.heap.size + 2 := by simp
  have hr := World.rowIs_made (w.alloc (.cells #[.slice none 0 0, .slice none 0 0] 57)) (.slice none 0 0) n 27
  have hn := World.alloc_heap_new ((w.alloc (.cells #[.slice none 0 0, .slice none 0 0] 57)).alloc (.cells (madeCells #[.slice none 0 0] n) 27)) (.cells #[.slice (some ⟨w.heap.size + 1, 0, none⟩) n n, .slice b m cap'] 57)
  rw [z1] at hr
  rw [z2] at hn
  refine ⟨bl_on (bl_on (bl_new _) (bl_new _)) (bl_new _), ?_, hn, ⟨World.rowIs.alloc hr _, fun s _ => ⟨by simp [kidsTo], .inl ⟨rfl, by simp [kidsTo]⟩⟩, (fun s t g _ _ e => by simp [Value.ownBlock] at e), by omega⟩⟩
  exact ((bl_new _).block _ (by omega)).trans (((bl_new _).block _ (by omega)).trans (World.alloc_heap_new _ _))
theorem tree_stored {wr : World} {B : Nat} {t : TypeId} {p q : Value} (h : wr.heap[B]? = some (.cells #[p, q] t (0, 0))) (u0 u1 : Value) : ((wr.setCell ⟨B, 0, none⟩ u0).setCell ⟨B, 1, none⟩ u1).heap[B]? = some (.cells #[u0, u1] t (0, 0)) :=
  heap_setCell_same _ _ _ _ _ _ (heap_setCell_same _ _ _ _ _ _ h)
theorem tree_cells {wr : World} {B : Nat} {t : TypeId} {p q : Value} (h : wr.heap[B]? = some (.cells #[p, q] t (0, 0))) : wr.cell? ⟨B, 0, none⟩ = some p ∧ wr.cell? ⟨B, 1, none⟩ = some q ∧ wr.frozen? ⟨B, 0, none⟩ = false ∧ wr.frozen? ⟨B, 1, none⟩ = false ∧ B < wr.heap.size := by
  refine ⟨by simp [World.cell?, h], by simp [World.cell?, h], by simp [World.frozen?, h], by simp [World.frozen?, h], (Array.getElem?_eq_some_iff.1 h).1⟩
theorem tree_bad {w : World} {n : Nat} {b : Option Addr} {m cap' : Nat} {ab ws : List Int} {w' : World} (E : Int) (hE : treeE ab ws = E) (h0 : E ≠ 0) : TreeAns w n b m cap' ab ws (.returned (.tuple #[.agg #[.slice none 0 0, .slice none 0 0], .int .i64 E])) w' :=
  ⟨fun _ => by rw [hE], fun h => absurd (hE ▸ h) h0⟩
theorem tree_below {w wr : World} (h : Below w.heap.size w wr) (u0 u1 : Value) : Below w.heap.size w ((wr.setCell ⟨w.heap.size, 0, none⟩ u0).setCell ⟨w.heap.size, 1, none⟩ u1) :=
  (h.setCell (p := ⟨w.heap.size, 0, none⟩) (Nat.le_refl _) _).setCell (p := ⟨w.heap.size, 1, none⟩) (Nat.le_refl _) _
theorem OwnN.apart {w : World} {B L g : Nat} {u : Value} {l : List Nat} {cs : Array Value} (h : OwnN w B u l) (hr : w.heap[L]? = some (.cells cs 57 (0, 0))) (e : u.ownBlock = some g) : g ≠ L := by
  obtain ⟨_, _, cur, hc⟩ := h.at e
  rintro rfl
  rw [hc] at hr
  simp at hr
theorem TreeInv.skip {w : World} {n : Nat} {b : Option Addr} {m cap' : Nat} {ab : List Int} {k : Nat} {v : Nat → Value} {wr : World} (h : TreeInv w n b m cap' ab k v wr) (hu : nth ab k = -1) : TreeInv w n b m cap' ab (k + 1) v wr :=
  ⟨h.bel, h.res, h.own, h.row.congr fun s _ => by rw [kids_next, if_neg (by omega)]⟩
theorem TreeInv.kept {w : World} {n : Nat} {b : Option Addr} {m cap' : Nat} {ab : List Int} {k s : Nat} {v : Nat → Value} {wr wz : World} (h : TreeInv w n b m cap' ab k v wr) (hs : s < n) (hg : wr.grownBy wz (v s).ownBlock) :
    wz.rowIs (w.heap.size + 1) 27 n v ∧ wz.heap[w.heap.size]? = some (.cells #[.slice none 0 0, .slice none 0 0] 57 (0, 0)) ∧ wz.heap[w.heap.size + 1 + 1]? = some (.cells #[.slice (some ⟨w.heap.size + 1, 0, none⟩) n n, .slice b m cap'] 57 (0, 0)) :=
  ⟨h.row.row.of_block (hg.block _ h.row.row.lt (fun e => h.row.ne hs e.symm rfl)),
   (hg.block _ (Array.getElem?_eq_some_iff.1 h.res).1 (fun e => (h.row.side s hs).apart h.res e.symm rfl)).trans h.res,
   (hg.block _ (Array.getElem?_eq_some_iff.1 h.own).1 (fun e => (h.row.side s hs).apart h.own e.symm rfl)).trans h.own⟩
theorem TreeInv.put {w : World} {n : Nat} {b : Option Addr} {m cap' : Nat} {ab : List Int} {k s : Nat} {v : Nat → Value} {wr wz : World} {u : Value} (h : TreeInv w n b m cap' ab k v wr) (hs : s < n) (hu : nth ab k = (s : Int)) (hg : wr.grownBy wz (v s).ownBlock)
    (sd : OwnN wz w.heap.size u (kidsTo ab k s ++ [k])) (ho : u.ownBlock = (v s).ownBlock ∨ ∀ i, u.ownBlock = some i → wr.heap.size ≤ i) : TreeInv w n b m cap' ab (k + 1) (fun t => if t = s then u else v t) (wz.setCell ⟨w.heap.size + 1, s, none⟩ u) := by
  obtain ⟨_, k2, k3⟩ := h.kept hs hg
  refine ⟨(h.bel.grown hg h.bel.size (fun j e => ((h.row.side s hs).at e).1)).setCell (p := ⟨w.heap.size + 1, s, none⟩) (by simp) _, ?_, ?_, ?_⟩
  · exact (heap_setCell_other _ _ _ _ (by simp)).trans k2
  · exact (heap_setCell_other _ _ _ _ (by simp)).trans k3
  · refine (h.row.put hs hg sd ho).congr fun t _ => ?_
    rw [kids_next]
    by_cases e : t = s
    · subst e
      rw [if_pos hu, if_pos rfl]
    · rw [if_neg (by omega), if_neg e]
theorem TreeInv.done {w : World} {n : Nat} {b : Option Addr} {m cap' : Nat} {ab ws : List Int} {v : Nat → Value} {wr : World} (h : TreeInv w n b m cap' ab n v wr) (hl : ab.length = n) (h0 : treeE ab ws = 0) (u0 u1 : Value) :
    TreeAns w n b m cap' ab ws (.returned (.tuple #[.agg #[.slice (some ⟨w.heap.size + 1, 0, none⟩) n n, .slice b m cap'], .int .i64 0])) ((wr.setCell ⟨w.heap.size, 0, none⟩ u0).setCell ⟨w.heap.size, 1, none⟩ u1) := by
  refine ⟨fun e => absurd h0 e, fun _ => ⟨_, v, rfl, ?_⟩⟩
  have ek : ∀ s, kids ab s = kidsTo ab n s := fun s => by unfold kids; rw [hl]
  refine Bel.congr ?_ fun s _ => ek s
  exact h.row.keep ((heap_setCell_other _ _ _ _ (by simp)).trans (heap_setCell_other _ _ _ _ (by simp))) fun s g hs hg => (heap_setCell_other _ _ _ _ ((h.row.side s hs).apart h.res hg)).trans (heap_setCell_other _ _ _ _ ((h.row.side s hs).apart h.res hg))
set_option maxHeartbeats 8000000 in
theorem treeOf_any (a : Option Addr) (n cap : Nat) (ab : List Int) (b : Option Addr) (m cap' : Nat) (ws : List Int) (w : World) (h : Ints w a n ab) (h' : Ints w b m ws) :
    Calls Try.prog 31 #[.slice a n cap, .slice b m cap'] w fun e w' => TreeAns w n b m cap' ab ws e w' ∧ Below w.heap.size w w' := by
  have hn := h.2.1
  have hm := h'.2.1
  have H := hide h
  have H' := hide h'
  have HE : Hid (treeE ab ws = if n ≠ m ∨ 4096 < n then 2 else scanE n ab ws (List.range n)) := by rw [Hid]; unfold treeE; rw [h.1, h'.1]
  have HAL := hide h.1
  clear h h'
  go_enter Try.func31, Try.ntmps31
  by_cases e1 : m = n
  · subst e1
    by_cases e2 : 4096 < m
    · go_wp2
      refine bodyPost_ret (results_tree _ _ w.heap.size _ _ _ _ rfl rfl (World.alloc_heap_new _ _)) rfl ⟨⟨fun _ => ?_, fun h => ?_⟩, bl_new _⟩
      · rw [HE.out, if_pos (.inr e2)]; rfl
      · rw [HE.out, if_pos (.inr e2)] at h; omega
    · have HE2 : Hid (treeE ab ws = scanE m ab ws (List.range m)) := by rw [Hid, HE.out, if_neg (by omega)]
      have hmk := run_make_row' (P := Try.prog) 55 27 (.slice none 0 0) 24 Try.underlying55 info_ints27 rfl .i64 .i64 m (by omega) (by omega)
      go_wp2
      go_loopw [28] (fun i wr => ∃ (k : Nat) (v : Nat → Value), k ≤ m ∧ i = .int .i64 k ∧ scanE m ab ws ((List.range m).drop k) = treeE ab ws ∧ TreeInv w m b m cap' ab k v wr) (fun i _ => m - (intOf i).toNat)
      case atStart => exact ⟨0, _, Nat.zero_le _, rfl, by rw [HE2.out]; rfl, tree_start w m b m cap' ab⟩
      case round =>
        clear hmk
        obtain ⟨k, v, hk, rfl, hs, hinv⟩ := hrel
        have HS := hide hs
        have HV := hide hinv
        clear hs hinv
        by_cases hlt : k < m
        · obtain ⟨b1, o1, rfl, zb1, c1⟩ := (H.out.below HV.out.bel).at (show 0 < m by omega)
          obtain ⟨b2, o2, rfl, zb2, c2⟩ := (H'.out.below HV.out.bel).at (show 0 < m by omega)
          have q1 := c1 k hlt
          have q2 := c2 k hlt
          have hsc := HS.out
          rw [range_drop m k hlt, scanE] at hsc
          obtain ⟨u, hu⟩ : ∃ u, u = nth ab k := ⟨_, rfl⟩
          obtain ⟨x, hx⟩ : ∃ x, x = nth ws k := ⟨_, rfl⟩
          rw [← hu] at hsc
          rw [← hx] at hsc
          have HU := hide hu
          simp only [nth] at hu hx
          rw [← hu] at q1
          rw [← hx] at q2
          have HSC := hide hsc
          have hw1 : IntKind.i64.wrap ((m : Int) - 1) = (m : Int) - 1 := by rw [IntKind.wrap_i64]; omega
          obtain ⟨t1, t2, t3, t4, t5⟩ := tree_cells HV.out.res
          clear c1 c2 hu hx hsc HS
          by_cases hl : (k : Int) = (m : Int) - 1
          · have hkn : k + 1 = m := by omega
            have hlb : ((k : Int) == (m : Int) - 1) = true := by simpa using hl
            clear hl
            have HKN := hide hkn
            clear hkn
            by_cases hr : u = -1
            · have hfb : formBad m k u = false := by simp [formBad, HKN.out, hr]
              have hsc := HSC.out
              rw [hfb] at hsc
              rw [if_neg (by simp)] at hsc
              have HSC2 := hide hsc
              clear hsc hfb HSC
              subst hr
              by_cases hwb : wordBad x = true
              · have HWB : Hid ((!(decide (x < 0) || decide (1048576 < x))) = false) := by have h := hwb; unfold wordBad at h; rw [Hid, h]; rfl
                have HSC3 := hide hwb
                clear hwb
                go_wp2_with (go_at_call 24; refine (wordsFit_any _ _).mono ?_; rintro e w' ⟨rfl, rfl⟩; rw [HWB.out])
                exact bodyPost_ret (results_tree _ _ w.heap.size _ _ _ _ rfl rfl (tree_stored HV.out.res _ _)) rfl ⟨tree_bad 4 (by rw [← HSC2.out, if_pos HSC3.out]) (by decide), tree_below HV.out.bel _ _⟩
              · have HWB : Hid ((!(decide (x < 0) || decide (1048576 < x))) = true) := by have h := hwb; unfold wordBad at h; rw [Bool.not_eq_true] at h; rw [Hid, h]; rfl
                have hsc := HSC2.out
                rw [if_neg hwb] at hsc
                have HSC3 := hide hsc
                clear hsc hwb
                go_wp2_with (go_at_call 24; refine (wordsFit_any _ _).mono ?_; rintro e w' ⟨rfl, rfl⟩; rw [HWB.out])
                go_roundw
                case rel => exact ⟨k + 1, v, by omega, by go_num, HSC3.out, HV.out.skip HU.out.symm⟩
                case measure => simp [intOf]; omega
            · have hrb : (u != -1) = true := by simpa using hr
              have hfb : formBad m k u = true := by simp [formBad, HKN.out, hr]
              go_wp2
              exact bodyPost_ret (results_tree _ _ w.heap.size _ _ _ _ rfl rfl (tree_stored HV.out.res _ _)) rfl ⟨tree_bad 7 (by rw [← HSC.out, if_pos hfb]) (by decide), tree_below HV.out.bel _ _⟩
          · have hkn : k + 1 ≠ m := by omega
            have hlb : ((k : Int) == (m : Int) - 1) = false := by simpa using hl
            by_cases f1 : u ≤ (k : Int)
            · have hfb : formBad m k u = true := by simp [formBad, hkn, f1]
              have e3 : decide (u ≤ (k : Int)) = true := decide_eq_true f1
              go_wp2
              exact bodyPost_ret (results_tree _ _ w.heap.size _ _ _ _ rfl rfl (tree_stored HV.out.res _ _)) rfl ⟨tree_bad 7 (by rw [← HSC.out, if_pos hfb]) (by decide), tree_below HV.out.bel _ _⟩
            · have e3 : decide (u ≤ (k : Int)) = false := decide_eq_false f1
              by_cases f2 : u ≥ (m : Int)
              · have hfb : formBad m k u = true := by simp [formBad, hkn]; omega
                have e4 : decide (u ≥ (m : Int)) = true := decide_eq_true f2
                go_wp2
                exact bodyPost_ret (results_tree _ _ w.heap.size _ _ _ _ rfl rfl (tree_stored HV.out.res _ _)) rfl ⟨tree_bad 7 (by rw [← HSC.out, if_pos hfb]) (by decide), tree_below HV.out.bel _ _⟩
              · have e4 : decide (u ≥ (m : Int)) = false := decide_eq_false f2
                have hfb : formBad m k u = false := by simp [formBad, hkn]; omega
                have hsc := HSC.out
                rw [hfb] at hsc
                rw [if_neg (by simp)] at hsc
                have HSC2 := hide hsc
                clear hsc hfb HSC
                by_cases hwb : wordBad x = true
                · have HWB : Hid ((!(decide (x < 0) || decide (1048576 < x))) = false) := by have h := hwb; unfold wordBad at h; rw [Hid, h]; rfl
                  have HSC3 := hide hwb
                  clear hwb
                  go_wp2_with (go_at_call 24; refine (wordsFit_any _ _).mono ?_; rintro e w' ⟨rfl, rfl⟩; rw [HWB.out])
                  exact bodyPost_ret (results_tree _ _ w.heap.size _ _ _ _ rfl rfl (tree_stored HV.out.res _ _)) rfl ⟨tree_bad 4 (by rw [← HSC2.out, if_pos HSC3.out]) (by decide), tree_below HV.out.bel _ _⟩
                · have HWB : Hid ((!(decide (x < 0) || decide (1048576 < x))) = true) := by have h := hwb; unfold wordBad at h; rw [Bool.not_eq_true] at h; rw [Hid, h]; rfl
                  have hsc := HSC2.out
                  rw [if_neg hwb] at hsc
                  have HSC3 := hide hsc
                  clear hsc hwb
                  obtain ⟨s, hus⟩ : ∃ s : Nat, u = (s : Int) := ⟨u.toNat, by omega⟩
                  subst hus
                  have hsm : s < m := by omega
                  go_wp2_with (go_at_call 24; refine (wordsFit_any _ _).mono ?_; rintro e w1 ⟨rfl, hw⟩; rw [hw, HWB.out]; clear hw w1)
                  clear t1 t2 t3 t4 t5 q1 q2
                  have KEEP : Hid (∀ wz, wr.grownBy wz (v s).ownBlock → wz.rowIs (w.heap.size + 1) 27 m v ∧ wz.heap[w.heap.size + 1 + 1]? = some (.cells #[.slice (some ⟨w.heap.size + 1, 0, none⟩) m m, .slice (some ⟨b2, o2, none⟩) m cap'] 57 (0, 0))) := fun wz hg => ⟨(HV.out.kept hsm hg).1, (HV.out.kept hsm hg).2.2⟩
                  obtain ⟨aa, cc, ev, _⟩ := (HV.out.row.side s hsm).slice
                  have EV := hide ev
                  clear ev
                  refine region_madeR (fun a b => a.grownBy b (v s).ownBlock) (fun _ _ _ h k => rm_grown_trans _ _ _ h k) (fun _ _ h => rm_grown_of _ _ h) 10 12 14 [fIs (.pointer (some ⟨w.heap.size + 1 + 1, 0, none⟩)), fIs (.slice (some ⟨w.heap.size + 1, 0, none⟩) m m), fIs (.int .i64 (s : Int)), fIs (.pointer (some ⟨w.heap.size + 1 + 1, 0, none⟩)), fIs (.slice (some ⟨w.heap.size + 1, 0, none⟩) m m), fIs (.int .i64 (s : Int)), fIs (.pointer (some ⟨w.heap.size + 1, s, none⟩)), fIs (v s), fIs (.int .i64 (k : Int)), fCellN (v s).ownBlock k, fSideN w.heap.size wr.heap.size (v s).ownBlock (kidsTo ab k s ++ [k]), fIs (.pointer (some ⟨w.heap.size + 1, s, none⟩))] (by kernel_rfl) (by kernel_rfl) (by kernel_rfl) (fun _ ⟨_, _⟩ ⟨_, _⟩ _ e h => by cases e; exact h) ⟨rm_is_good _ _ _, rm_is_good _ _ _, rm_is_good _ _ _, rm_is_good _ _ _, rm_is_good _ _ _, rm_is_good _ _ _, rm_is_good _ _ _, rm_is_good _ _ _, rm_is_good _ _ _, fCellN_good _ _, fSideN_good _ _ _ _ _, rm_is_good _ _ _, trivial⟩ ?mk ?rest
                  case mk =>
                    refine ⟨fun u wz hb hs hd => ?_, fun u wz hb hs hd => ?_, fun u wz hb hs hd => ?_, fun u wz hb hs hd => ?_, fun u wz hb hs hd => ?_, fun u wz hb hs hd => ?_, fun u wz hb hs hd => ?_, fun u wz hb hs hd => ?_, fun u wz hb hs hd => ?_, fun u wz hb hs hd => ?_, fun u wz hb hs hd => ?_, fun u wz hb hs hd => ?_, trivial⟩
                    all_goals simp only [Act.put, List.setIfInBounds_toArray, List.set_cons_zero, List.set_cons_succ]
                    · go_simp
                      exact ⟨rfl, St.of (Below.refl _ _) (by decide), fun h => by cases h⟩
                    · have e0 : u 0 = .pointer (some ⟨w.heap.size + 1 + 1, 0, none⟩) := hd 0 (by omega) (by kernel_rfl)
                      rw [e0]
                      have p1 := (tree_cells (KEEP.out wz hb).2).1
                      have p5 := (tree_cells (KEEP.out wz hb).2).2.2.2.2
                      go_simp
                      exact ⟨rfl, St.of (Below.refl _ _) (by decide), fun h => by cases h⟩
                    · go_simp
                      exact ⟨rfl, St.of (Below.refl _ _) (by decide), fun h => by cases h⟩
                    · go_simp
                      exact ⟨rfl, St.of (Below.refl _ _) (by decide), fun h => by cases h⟩
                    · have e3 : u 3 = .pointer (some ⟨w.heap.size + 1 + 1, 0, none⟩) := hd 3 (by omega) (by kernel_rfl)
                      rw [e3]
                      have p1 := (tree_cells (KEEP.out wz hb).2).1
                      have p5 := (tree_cells (KEEP.out wz hb).2).2.2.2.2
                      go_simp
                      exact ⟨rfl, St.of (Below.refl _ _) (by decide), fun h => by cases h⟩
                    · go_simp
                      exact ⟨rfl, St.of (Below.refl _ _) (by decide), fun h => by cases h⟩
                    · have e4 : u 4 = .slice (some ⟨w.heap.size + 1, 0, none⟩) m m := hd 4 (by omega) (by kernel_rfl)
                      have e5 : u 5 = .int .i64 (s : Int) := hd 5 (by omega) (by kernel_rfl)
                      rw [e4, e5]
                      go_simp
                      exact ⟨rfl, St.of (Below.refl _ _) (by decide), fun h => by cases h⟩
                    · have e6 : u 6 = .pointer (some ⟨w.heap.size + 1, s, none⟩) := hd 6 (by omega) (by kernel_rfl)
                      rw [e6]
                      have r1 := (KEEP.out wz hb).1
                      have c1 := r1.cell (i := s) hsm
                      have z1 := r1.lt
                      rw [EV.out] at c1 ⊢
                      go_simp
                      exact ⟨rfl, St.of (Below.refl _ _) (by decide), fun h => by cases h⟩
                    · go_simp
                      exact ⟨rfl, St.of (Below.refl _ _) (by decide), fun h => by cases h⟩
                    · have hc : (wz.alloc (.cells #[nv k] 3)).cell? ⟨wz.heap.size, 0, none⟩ = some (nv k) := by have h := World.alloc_heap_new wz (.cells #[nv k] 3); simp only [World.cell?, h]; rfl
                      have e8 : u 8 = .int .i64 (k : Int) := hd 8 (by omega) (by kernel_rfl)
                      rw [e8]
                      go_simp
                      refine ⟨⟨wz.heap.size, rfl, hc, ?_⟩, St.of (bl_new _) (by decide), fun h => by cases h⟩
                      intro e
                      have := ((HV.out.row.side s hsm).at e.symm).2.1
                      have := hb.size
                      omega
                    · have e7 : u 7 = v s := hd 7 (by omega) (by kernel_rfl)
                      obtain ⟨B7, e9, h9, n9⟩ := hd 9 (by omega) (by kernel_rfl)
                      rw [e7, e9]
                      have hbb := hs rfl
                      have hsz := hbb.size
                      have hkl := kids_len ab k s
                      refine wp_append_nv (.tmp 73) (.tmp 75) rfl w.heap.size _ (kidsTo ab k s) rfl ((HV.out.row.side s hsm).below hbb) B7 k rfl h9 (by omega) (by have := HV.out.bel.size; omega) (fun v' w3 hS hg ho => ?_)
                      refine ⟨v', rfl, ⟨hS, ?_⟩, St.at hg, fun h => by cases h⟩
                      rcases ho with ho | ho
                      · exact .inl ho
                      · exact .inr (fun i hi => by rw [ho] at hi; cases hi; exact hsz)
                    · have e1 : u 1 = .slice (some ⟨w.heap.size + 1, 0, none⟩) m m := hd 1 (by omega) (by kernel_rfl)
                      have e2 : u 2 = .int .i64 (s : Int) := hd 2 (by omega) (by kernel_rfl)
                      rw [e1, e2]
                      go_simp
                      exact ⟨rfl, St.of (Below.refl _ _) (by decide), fun h => by cases h⟩
                  case rest =>
                    intro u wz hb hf hp
                    have f11 : u 11 = .pointer (some ⟨w.heap.size + 1, s, none⟩) := hf 11 (by omega)
                    obtain ⟨sd, ho⟩ := hf 10 (by omega)
                    obtain ⟨v8, f10⟩ : ∃ v8, u 10 = v8 := ⟨_, rfl⟩
                    rw [f10] at sd ho
                    refine UptoW.rest 1 12 (by rfl) (by kernel_rfl) ?_
                    simp only [List.take, List.drop, putOps, Act.put, List.setIfInBounds_toArray, List.set_cons_zero, List.set_cons_succ, Nat.reduceAdd, f11, f10]
                    clear f11 f10 hf hp
                    have FIN := hide (HV.out.put hsm HU.out.symm hb sd ho)
                    obtain ⟨a8, c8, e8, _⟩ := sd.slice
                    subst e8
                    rw [show (kidsTo ab k s ++ [k]).length = (kidsTo ab k s).length + 1 by simp] at FIN
                    have r1 := (KEEP.out wz hb).1
                    have c1 := r1.cell (i := s) hsm
                    have fz := r1.frozen s
                    have z1 := r1.lt
                    rw [EV.out] at c1
                    clear sd ho
                    refine wpList_plain rfl (fun K hK => ?_)
                    go_simp
                    refine hK _ _ (wpList_nil ?_)
                    clear hK K
                    go_wp2_with fail
                    go_roundw
                    case rel => exact ⟨k + 1, _, by omega, by go_num, HSC3.out, FIN.out⟩
                    case measure => simp [intOf]; omega
        · obtain rfl : k = m := by omega
          obtain ⟨t1, t2, t3, t4, t5⟩ := tree_cells HV.out.res
          obtain ⟨p1, p2, p3, p4, p5⟩ := tree_cells (show wr.heap[w.heap.size + 1 + 1]? = _ from HV.out.own)
          have HT : Hid (treeE ab ws = 0) := by rw [Hid, ← HS.out, List.drop_eq_nil_of_le (by simp)]; rfl
          go_wp2
          exact bodyPost_ret (results_tree _ _ w.heap.size _ _ _ _ rfl rfl (tree_stored HV.out.res _ _)) rfl ⟨HV.out.done HAL.out HT.out _ _, tree_below HV.out.bel _ _⟩
  · go_wp2
    refine bodyPost_ret (results_tree _ _ w.heap.size _ _ _ _ rfl rfl (World.alloc_heap_new _ _)) rfl ⟨⟨fun _ => ?_, fun h => ?_⟩, bl_new _⟩
    · rw [HE.out, if_pos (.inl (fun e => e1 e.symm))]; rfl
    · rw [HE.out, if_pos (.inl (fun e => e1 e.symm))] at h; omega
end Go.Proofs.Ytnncalhpbfmgoaa.V
