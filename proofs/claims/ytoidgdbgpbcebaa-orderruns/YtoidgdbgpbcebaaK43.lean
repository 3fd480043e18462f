/-
  Contract: the document's Clash. Contracts: the document's Time and Clash, at spots.
-/
import Derived.Test.YtoidgdbgpbcebaaK11
import Derived.Test.YtoidgdbgpbcebaaK16
import Derived.Test.YtoidgdbgpbcebaaK18
import Derived.BigRegion
import Derived.Deep.DeepCutAuto
import Derived.Deep.RegionHeld3
import Derived.Test.YtoidgdbgpbcebaaK42
import Derived.Test.YtoidgdbgpbcebaaK15
namespace Go.Proofs.Ytoidgdbgpbcebaa.V
open Go.RowKit
set_option linter.unusedVariables false

theorem two_new (W : World) (a b : Array Value) (t : TypeId) : Below W.heap.size W (((W.alloc (.cells a t)).alloc (.cells b t)).drew) ∧ (((W.alloc (.cells a t)).alloc (.cells b t)).drew).heap[W.heap.size]? = some (.cells a t (0, 0)) ∧ (((W.alloc (.cells a t)).alloc (.cells b t)).drew).heap[W.heap.size + 1]? = some (.cells b t (0, 0)) := by
  refine ⟨(bl_on (bl_new _) (bl_new _)).drew, ?_, ?_⟩
  · exact (Below.heap_alloc _ _ _ (by simp)).trans (World.alloc_heap_new W _)
  · have := World.alloc_heap_new (W.alloc (.cells a t)) (.cells b t)
    rw [World.size_alloc] at this
    exact this
theorem cells_eight {W : World} {b : Nat} {x0 x1 x2 x3 x4 x5 x6 x7 : Value} {t : TypeId} (h : W.heap[b]? = some (.cells #[x0, x1, x2, x3, x4, x5, x6, x7] t (0, 0))) : W.cell? ⟨b, 0, none⟩ = some x0 ∧ W.cell? ⟨b, 1, none⟩ = some x1 ∧ W.cell? ⟨b, 2, none⟩ = some x2 ∧ W.cell? ⟨b, 3, none⟩ = some x3 ∧ W.cell? ⟨b, 4, none⟩ = some x4 ∧ W.cell? ⟨b, 5, none⟩ = some x5 ∧ W.cell? ⟨b, 6, none⟩ = some x6 ∧ W.cell? ⟨b, 7, none⟩ = some x7 := by
  refine ⟨?_, ?_, ?_, ?_, ?_, ?_, ?_, ?_⟩ <;> simp [World.cell?, h]
/-- One of these gets from that place. -/
def hitG (M : Mem) (gs : List Acc) (arr : Int) (y : List Int) (P : Int) : Prop := ∃ g ∈ gs, g.1 = arr ∧ whereV M g y = P
theorem whereV_iff {M : Mem} {g : Acc} {y : List Int} {P : Int} (h : 0 ≤ P) : whereV M g y = P ↔ inM M g y ∧ worthV g.2 y = P := by
  unfold whereV
  by_cases c : inM M g y
  · rw [if_pos c]; exact ⟨fun e => ⟨c, e⟩, fun e => e.2⟩
  · rw [if_neg c]; exact ⟨fun e => by omega, fun e => absurd e.1 c⟩
theorem whereV_nn {M : Mem} {g : Acc} {y : List Int} : 0 ≤ whereV M g y ↔ inM M g y := by
  unfold whereV
  by_cases c : inM M g y
  · rw [if_pos c]; exact ⟨fun _ => c, fun _ => c.1⟩
  · rw [if_neg c]; exact ⟨fun e => by omega, fun e => absurd e c⟩
theorem clash_iff (M : Mem) (s t : Stm) (x y : List Int) : clash M s t x y ↔ (0 ≤ whereV M s.put x ∧ 0 ≤ whereV M t.put y) ∧ ((s.put.1 = t.put.1 ∧ whereV M s.put x = whereV M t.put y ∧ ¬ (9 ≤ s.kind ∧ 9 ≤ t.kind)) ∨ hitG M t.gets s.put.1 y (whereV M s.put x) ∨ hitG M s.gets t.put.1 x (whereV M t.put y)) := by
  unfold clash hitG
  rw [whereV_nn, whereV_nn]
  constructor
  · rintro ⟨⟨h1, h2⟩, h⟩
    have e1 : whereV M s.put x = worthV s.put.2 x := by unfold whereV; rw [if_pos h1]
    have e2 : whereV M t.put y = worthV t.put.2 y := by unfold whereV; rw [if_pos h2]
    refine ⟨⟨h1, h2⟩, ?_⟩
    rw [e1, e2]
    rcases h with h | ⟨g, hg, h3, h4, h5⟩ | ⟨g, hg, h3, h4, h5⟩
    · exact .inl h
    · exact .inr (.inl ⟨g, hg, h3, by unfold whereV; rw [if_pos h4]; exact h5⟩)
    · exact .inr (.inr ⟨g, hg, h3, by unfold whereV; rw [if_pos h4]; exact h5⟩)
  · rintro ⟨⟨h1, h2⟩, h⟩
    have e1 : whereV M s.put x = worthV s.put.2 x := by unfold whereV; rw [if_pos h1]
    have e2 : whereV M t.put y = worthV t.put.2 y := by unfold whereV; rw [if_pos h2]
    have k1 : 0 ≤ worthV s.put.2 x := h1.1
    have k2 : 0 ≤ worthV t.put.2 y := h2.1
    refine ⟨⟨h1, h2⟩, ?_⟩
    rw [e1, e2] at h
    rcases h with h | ⟨g, hg, h3, h4⟩ | ⟨g, hg, h3, h4⟩
    · exact .inl h
    · rw [whereV_iff k1] at h4; exact .inr (.inl ⟨g, hg, h3, h4⟩)
    · rw [whereV_iff k2] at h4; exact .inr (.inr ⟨g, hg, h3, h4⟩)

end Go.Proofs.Ytoidgdbgpbcebaa.V
namespace Go.Proofs.Ytoidgdbgpbcebaa.V
open Go.RowKit
set_option linter.unusedVariables false

structure SpOk (ss : List Stm) (T : Tms) (sp : Nat × List Int) : Prop where
  lt : sp.1 < ss.length
  len : sp.2.length = (ss[sp.1]?.getD stmD).box.length
  four : sp.2.length ≤ 4
  bd : ∀ v ∈ sp.2, 0 ≤ v ∧ v ≤ 4096
  eight : (T[sp.1]?.getD []).length ≤ 8
  rows : ∀ r ∈ T[sp.1]?.getD [], r.1.length = sp.2.length ∧ (-1048576 ≤ r.2 ∧ r.2 ≤ 1048576) ∧ ∀ c ∈ r.1, -1048576 ≤ c ∧ c ≤ 1048576
theorem sp_ok {zs : List Int} {ss : List Stm} {T : Tms} (hR : RightOk zs ss T) {sp : Nat × List Int} (h : sp ∈ spK ss ss.length) : SpOk ss T sp := by
  obtain ⟨h1, h2⟩ := sp_mem h
  have hok := nestE_ok hR.ord.nest
  have hp := ptE_ok (hok.stms _ (mem_getS ss _ h1)).pt
  obtain ⟨h3, h4⟩ := ne_pts_mem hp h2
  have hr := hR.ord.rows sp.1 (by rw [hR.ord.len]; exact h1)
  refine ⟨h1, h4, by have := hp.rank; omega, h3, hr.1, fun r hm => ?_⟩
  have := rowE_ok (hr.2 r hm)
  exact ⟨by rw [this.1, h4], this.2⟩
theorem rTime_sp {zs : List Int} {ss : List Stm} {T : Tms} (ma : Option Addr) (ml mc : Nat) (sp : Nat × List Int) (xa : Option Addr) (xl xc : Nat) (w : World) (hl : ml = ss.length) (hT : TimesA w ma ml T) (h : SpOk ss T sp) (hx : Ints w xa xl sp.2) :
    Calls Try.prog 27 #[.slice ma ml mc, .agg #[.int .i64 (sp.1 : Int), .slice xa xl xc]] w fun e w' => e = .returned (arr8 (spT T sp)) ∧ Below w.heap.size w w' := by
  have hxl := hx.1
  exact rTime_any ma ml mc T sp.1 xa xl xc sp.2 w hT (by rw [hl]; exact h.lt) hx (by have := h.four; omega) h.bd h.eight (fun r hr => by rw [← hxl]; exact h.rows r hr)
/-- A new array of eight numbers. -/
def fEight (N : Nat) : Fact := ⟨fun v w => ∃ C, v = .pointer (some ⟨C, 0, none⟩) ∧ w.rowIs C 54 8 (fun _ => .int .i64 0) ∧ N ≤ C, true⟩
theorem fEight_good (N : Nat) : (fEight N).Good := ⟨fun _ _ _ ⟨C, h1, h2, h3⟩ hb => ⟨C, h1, h2.of_block (hb.block _ h2.lt), h3⟩, fun _ v w b ⟨C, h1, h2, h3⟩ hb => by
  rw [h1] at hb
  simp only [blk, Option.some.injEq] at hb
  rw [← hb]
  exact h2.lt⟩
theorem eight_new (w : World) : (w.alloc (.cells (cs8 fun _ => 0) 54)).rowIs w.heap.size 54 8 (fun _ => .int .i64 0) := row8 (fun _ => 0) (World.alloc_heap_new w _)
theorem rowIs_other8 {w : World} {C b : Nat} {t : TypeId} {g : Nat → Value} (h : w.rowIs C t 8 g) (hne : C ≠ b) (f : Nat → Value) : (put8 w b f).rowIs C t 8 g := by
  have hn : C ≠ b := hne
  exact (((((((h.setOther (a := ⟨b, 0, none⟩) hn _).setOther (a := ⟨b, 1, none⟩) hn _).setOther (a := ⟨b, 2, none⟩) hn _).setOther (a := ⟨b, 3, none⟩) hn _).setOther (a := ⟨b, 4, none⟩) hn _).setOther (a := ⟨b, 5, none⟩) hn _).setOther (a := ⟨b, 6, none⟩) hn _).setOther (a := ⟨b, 7, none⟩) hn _
theorem SP.at2 {w : World} {A : Option Addr} {n : Nat} {S : List (Nat × List Int)} (h : SP w A n S) (h0 : 0 < n) : ∃ b off, A = some ⟨b, off, none⟩ ∧ ∀ i, i < n → ∃ a l c, w.cell? ⟨b, off + i * 2, none⟩ = some (.int .i64 ((S[i]?.getD spD).1 : Int)) ∧ w.cell? ⟨b, off + i * 2 + 1, none⟩ = some (.slice a l c) ∧ Lst w a l c (S[i]?.getD spD).2 ∧ FlushT w a := by
  rcases h.2 with h2 | ⟨b, off, e, _, h2⟩
  · omega
  · exact ⟨b, off, e, h2⟩
theorem flush_ne {w : World} {Y : Option Addr} {B : Nat} {cs : Array Value} {t : TypeId} (h : FlushT w Y) (hB : w.heap[B]? = some (.cells cs t (0, 0))) (ht : 3 ≠ t) : ∀ g o, Y = some ⟨g, o, none⟩ → g ≠ B := fun g o e eg => by
  obtain ⟨_, cur, hc⟩ := h g o e
  rw [eg, hB] at hc
  injection hc with hc
  injection hc with _ h2
  exact ht h2.symm
end Go.Proofs.Ytoidgdbgpbcebaa.V
