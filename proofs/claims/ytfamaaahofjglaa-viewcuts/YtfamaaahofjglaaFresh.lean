/-
  Contracts: view.fresh, view.blank, view.reached, adjointref1.made.
-/
import Derived.Test.YtfamaaahofjglaaOwn
import Derived.Test.YtfamaaahofjglaaRWrong
import Derived.Test.YtfamaaahofjglaaIndex
import Derived.Laws.CopyOwn
import Derived.Deep.RegionWith
namespace Go.Proofs.Ytfamaaahofjglaa.V
open Go.RowKit



set_option maxHeartbeats 1000000 in
theorem fresh_any (a : Option Addr) (len cap : Nat) (xs : List Int) (w : World) (h : Ints w a len xs) (h6 : len ≤ 6) :
    Calls Try.prog 42 #[.slice a len cap] w fun e w' => (∃ g : Nat, e = .returned (.slice (some ⟨g, 0, none⟩) len len) ∧ RowI w' g len xs ∧ w.heap.size ≤ g) ∧ Below w.heap.size w w' := by
  have H := hide h
  have HL := hide h.1
  have hmk := run_make_row' (P := Try.prog) 22 3 (.int .i64 0) 8 Try.underlying22 info_int rfl .i64 .i64 len (by omega) (by omega)
  clear h
  obtain ⟨cs, hcs⟩ : ∃ cs : List Value, cs = xs.map (Value.int .i64) := ⟨_, rfl⟩
  have HCS := hide hcs
  have hlen : cs.length = len := by rw [hcs]; simp [HL.out]
  have HLEN := hide hlen
  clear hcs hlen
  go_enter Try.func42, Try.ntmps42
  go_wp2_with (refine wpList_copy_splice rfl (.tmp 7) (.tmp 8) 22 22 rfl 3 Try.underlying22 size_int (some ⟨w.heap.size, 0, none⟩) a len len len cap rfl rfl w.heap.size 0 (List.replicate len (.int .i64 0)) 3 ?hg cs ?hn ?hpos ?hfit ?h1 w.heap.size w ?hb (Nat.le_refl _) ?_)
  case hg =>
    have := World.alloc_heap_new w (.cells (madeCells #[.int .i64 0] len) 3)
    rw [this]
    rw [← toList_madeCells_one]
  case hn => rw [HLEN.out]; simp
  case hpos =>
    intro h0
    rw [HLEN.out] at h0
    obtain ⟨b, off, rfl, hb, hc⟩ := H.out.at h0
    refine ⟨_, rfl, fun j v hj => ?_⟩
    have hjl : j < len := by rw [← HLEN.out]; exact (List.getElem?_eq_some_iff.1 hj).1
    have h2 := hc j hjl
    have h3 : v = .int .i64 (xs[j]?.getD 0) := by
      rw [HCS.out] at hj
      simp [HL.out, hjl] at hj ⊢
      exact hj.symm
    rw [h3]
    have hb' : Below w.heap.size w (w.alloc (.cells (madeCells #[.int .i64 0] len) 3)) := (Below.refl _ _).alloc (Nat.le_refl _) _
    rw [Go.WideShapes.add_plain]
    exact (hb'.cell (p := ⟨b, off + j, none⟩) hb).trans h2
  case hfit => simp [HLEN.out]
  case h1 => intro v hv; rw [HCS.out] at hv; simp at hv; obtain ⟨x, _, rfl⟩ := hv; rfl
  case hb => exact (Below.refl _ _).alloc (Nat.le_refl _) _
  intro w' hrow hbel
  have HB := hide hbel
  clear hbel hmk
  go_wp2
  go_ret
  refine ⟨⟨_, rfl, ?_, Nat.le_refl _⟩, HB.out⟩
  refine ⟨_, hrow.out, by simp [splice, HLEN.out], fun i hi => ?_⟩
  have hs : splice (List.replicate len (Value.int .i64 0)) 0 cs = cs := by simp [splice, HLEN.out]
  rw [hs, HCS.out]
  simp [HL.out, hi]

/-- A View's block that has been laid lies on. -/
theorem cells3 {w W w1 : World} {c0 c1 c2 : Value} {t : TypeId} (hW : W.heap[w.heap.size]? = some (.cells #[c0, c1, c2] t (0, 0))) (hb : Below W.heap.size W w1) :
    w1.cell? ⟨w.heap.size, 0, none⟩ = some c0 ∧ w1.cell? ⟨w.heap.size, 1, none⟩ = some c1 ∧ w1.cell? ⟨w.heap.size, 2, none⟩ = some c2 ∧ w1.frozen? ⟨w.heap.size, 0, none⟩ = false ∧ w1.frozen? ⟨w.heap.size, 1, none⟩ = false ∧ w1.frozen? ⟨w.heap.size, 2, none⟩ = false ∧ w.heap.size < w1.heap.size := by
  have hl := (Array.getElem?_eq_some_iff.1 hW).1
  have h1 : w1.heap[w.heap.size]? = some (.cells #[c0, c1, c2] t (0, 0)) := (hb.block _ hl).trans hW
  have hl1 := (Array.getElem?_eq_some_iff.1 h1).1
  refine ⟨?_, ?_, ?_, ?_, ?_, ?_, hl1⟩ <;> simp [World.cell?, World.frozen?, h1]

set_option maxRecDepth 100000 in
set_option maxHeartbeats 2000000 in
theorem blank_any (s : Int) (a : Option Addr) (len cap : Nat) (xs : List Int) (w : World) (h : Ints w a len xs) (h6 : len ≤ 6) :
    Calls Try.prog 30 #[.int .i64 s, .slice a len cap] w fun e w' => (∃ g1 g2 : Nat, e = .returned (.agg #[.int .i64 s, .slice (some ⟨g1, 0, none⟩) len len, .slice (some ⟨g2, 0, none⟩) len len]) ∧ (RowI w' g1 len xs ∧ w'.rowIs g2 3 len (fun _ => .int .i64 0)) ∧ g1 ≠ g2 ∧ w.heap.size ≤ g1 ∧ w.heap.size ≤ g2) ∧ Below w.heap.size w w' := by
  have H := hide h
  have hmk := run_make_row' (P := Try.prog) 22 3 (.int .i64 0) 8 Try.underlying22 info_int rfl .i64 .i64 len (by omega) (by omega)
  clear h
  go_enter Try.func30, Try.ntmps30
  go_wp2
  go_region_with (go_at_call 42; refine (fresh_any _ _ _ xs _ (H.out.below (by first | exact ((Below.refl _ _).alloc (Nat.le_refl _) _).drew | exact (((Below.refl _ _).alloc (Nat.le_refl _) _).alloc (by simp) _).drew)) h6).mono ?_; rintro e w1 ⟨⟨g, rfl, hr, hg⟩, hb⟩; have HR := hide hr; have HG := hide hg; have HB := hide hb; have hz := hb.size; simp at hz; obtain ⟨k0, k1, k2, f0, f1, f2, hz1⟩ := cells3 (w := w) (t := 24) (c0 := .int .i64 0) (c1 := .slice none 0 0) (c2 := .slice none 0 0) (by first | exact World.alloc_heap_new w _ | exact (Below.heap_alloc _ _ _ (by simp)).trans (World.alloc_heap_new w _)) hb; clear hr hg hb hz)
  all_goals go_wp2
  · have hg := HG.out
    have hg' : w.heap.size + 1 ≤ g := by simpa using hg
    have hgl := HR.out.lt
    have hr1 : RowI (((w1.setCell ⟨w.heap.size, 0, none⟩ (.int .i64 s)).setCell ⟨w.heap.size, 1, none⟩ (.slice (some ⟨g, 0, none⟩) len len)).setCell ⟨w.heap.size, 2, none⟩ (.slice (some ⟨w1.heap.size, 0, none⟩) len len)) g len xs :=
      ((HR.out.setOther (a := ⟨w.heap.size, 0, none⟩) (by simp; omega) _).setOther (a := ⟨w.heap.size, 1, none⟩) (by simp; omega) _).setOther (a := ⟨w.heap.size, 2, none⟩) (by simp; omega) _
    have hr2 := World.rowIs_made (((w1.setCell ⟨w.heap.size, 0, none⟩ (.int .i64 s)).setCell ⟨w.heap.size, 1, none⟩ (.slice (some ⟨g, 0, none⟩) len len)).setCell ⟨w.heap.size, 2, none⟩ (.slice (some ⟨w1.heap.size, 0, none⟩) len len)) (.int .i64 0) len 3
    simp only [World.size_setCell] at hr2
    have hb : Below w.heap.size w w1 := ((Below.refl _ w).alloc (Nat.le_refl _) _).drew.trans (HB.out.mono (by simp))
    refine bodyPost_ret (v := .agg #[.int .i64 s, .slice (some ⟨g, 0, none⟩) len len, .slice (some ⟨w1.heap.size, 0, none⟩) len len]) (by simp [results, Try.results30, go_sem, k0, k1, k2, hz1]) rfl ⟨⟨g, _, rfl, ⟨World.rowIs.alloc hr1 _, hr2⟩, by omega, by omega, by omega⟩, ?_⟩
    exact (((hb.setCell (p := ⟨w.heap.size, 0, none⟩) (Nat.le_refl _) _).setCell (p := ⟨w.heap.size, 1, none⟩) (Nat.le_refl _) _).setCell (p := ⟨w.heap.size, 2, none⟩) (Nat.le_refl _) _).alloc (by simp; omega) _
  · have hg := HG.out
    have hg' : w.heap.size + 2 ≤ g := by simpa using hg
    have hr1 : RowI (((w1.setCell ⟨w.heap.size, 0, none⟩ (.int .i64 s)).setCell ⟨w.heap.size, 1, none⟩ (.slice (some ⟨g, 0, none⟩) len len)).setCell ⟨w.heap.size, 2, none⟩ (.slice (some ⟨w.heap.size + 1, 0, none⟩) len len)) g len xs :=
      ((HR.out.setOther (a := ⟨w.heap.size, 0, none⟩) (by simp; omega) _).setOther (a := ⟨w.heap.size, 1, none⟩) (by simp; omega) _).setOther (a := ⟨w.heap.size, 2, none⟩) (by simp; omega) _
    have hr0 := World.rowIs_made (w.alloc (.cells #[.int .i64 0, .slice none 0 0, .slice none 0 0] 24)) (.int .i64 0) len 3
    simp only [World.size_alloc] at hr0
    have hr00 : w1.rowIs (w.heap.size + 1) 3 len (fun _ => .int .i64 0) := hr0.of_block (HB.out.block _ (by simp))
    have hr2 : (((w1.setCell ⟨w.heap.size, 0, none⟩ (.int .i64 s)).setCell ⟨w.heap.size, 1, none⟩ (.slice (some ⟨g, 0, none⟩) len len)).setCell ⟨w.heap.size, 2, none⟩ (.slice (some ⟨w.heap.size + 1, 0, none⟩) len len)).rowIs (w.heap.size + 1) 3 len (fun _ => .int .i64 0) :=
      ((hr00.setOther (a := ⟨w.heap.size, 0, none⟩) (by simp) _).setOther (a := ⟨w.heap.size, 1, none⟩) (by simp) _).setOther (a := ⟨w.heap.size, 2, none⟩) (by simp) _
    have hb : Below w.heap.size w w1 := (((Below.refl _ w).alloc (Nat.le_refl _) _).alloc (by simp) _).drew.trans (HB.out.mono (by simp; omega))
    refine bodyPost_ret (v := .agg #[.int .i64 s, .slice (some ⟨g, 0, none⟩) len len, .slice (some ⟨w.heap.size + 1, 0, none⟩) len len]) (by simp [results, Try.results30, go_sem, k0, k1, k2]) rfl ⟨⟨g, _, rfl, ⟨hr1, hr2⟩, by omega, by omega, by omega⟩, ?_⟩
    exact ((hb.setCell (p := ⟨w.heap.size, 0, none⟩) (Nat.le_refl _) _).setCell (p := ⟨w.heap.size, 1, none⟩) (Nat.le_refl _) _).setCell (p := ⟨w.heap.size, 2, none⟩) (Nat.le_refl _) _
end Go.Proofs.Ytfamaaahofjglaa.V
