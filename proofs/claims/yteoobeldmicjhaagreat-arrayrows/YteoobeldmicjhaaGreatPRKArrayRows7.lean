/-
  Contract: view.Index. Contracts: view.fresh, view.blank, view.reached, adjointref1.made. Contracts: view.reached, adjointref1.made. Contracts: view.permutes, view.rises, adjointref1.Rising; what a permutation is, said in two ways. Contract: view.permutes. Contract: view.Turn. Contracts: adjointref2.SameList, slices.Equal, array.Wrong, adjointref2.Wrong, array.inner. A world of which all but one block is as it was. Contracts: array.ofTwo and its closures, array.fill.
-/
import Derived.Test.YteoobeldmicjhaaGreatPRKArrayRows3
import Derived.Test.YteoobeldmicjhaaGreatPRKArrayRows6
import Derived.Test.YteoobeldmicjhaaGreatPRKArrayRows5
import Derived.Deep.OwnRows
import Derived.Test.YteoobeldmicjhaaGreatPRKArrayRows2
import Derived.Laws.CopyOwn
import Derived.Deep.RegionWith
import Derived.BigRegion
namespace Go.Proofs.YteoobeldmicjhaaGreat.V
set_option maxRecDepth 20000
open Go.RowKit Go.Shelf
attribute [local go_sem] Oper.semAt_some


theorem row_own {β : Type} (R : Nat) (t : TypeId) (n : Nat) (f : β → Nat → Value) : Own (fun s W => W.rowIs R t n (f s)) := fun s X Y row hs hg hrow =>
  hs.of_block (hg.block R hs.lt (fun e' => by obtain ⟨o, ho, hc⟩ := hrow R e'.symm; obtain ⟨c, hb, _⟩ := hs; rw [hb] at ho; cases ho; cases hc))
theorem wrap_in (n : Int) (h1 : -9223372036854775808 ≤ n) (h2 : n ≤ 9223372036854775807) : IntKind.i64.wrap n = n := by
  simp only [IntKind.wrap, IntKind.bits, IntKind.signed]
  simp
  split <;> omega

end Go.Proofs.YteoobeldmicjhaaGreat.V
namespace Go.Proofs.YteoobeldmicjhaaGreat.V
set_option maxRecDepth 20000
open Go.RowKit



set_option maxHeartbeats 1000000 in
theorem fresh_any (a : Option Addr) (len cap : Nat) (xs : List Int) (w : World) (h : Ints w a len xs) (h6 : len ≤ 6) :
    Calls Tryz.prog 60 #[.slice a len cap] w fun e w' => (∃ g : Nat, e = .returned (.slice (some ⟨g, 0, none⟩) len len) ∧ RowI w' g len xs ∧ w.heap.size ≤ g) ∧ Below w.heap.size w w' := by
  have H := hide h
  have HL := hide h.1
  have hmk := run_make_row' (P := Tryz.prog) 22 3 (.int .i64 0) 8 Tryz.underlying22 info_int rfl .i64 .i64 len (by omega) (by omega)
  clear h
  obtain ⟨cs, hcs⟩ : ∃ cs : List Value, cs = xs.map (Value.int .i64) := ⟨_, rfl⟩
  have HCS := hide hcs
  have hlen : cs.length = len := by rw [hcs]; simp [HL.out]
  have HLEN := hide hlen
  clear hcs hlen
  go_enter Tryz.func60, Tryz.ntmps60
  go_wp2_with (refine wpList_copy_splice rfl (.tmp 7) (.tmp 8) 22 22 rfl 3 Tryz.underlying22 size_int (some ⟨w.heap.size, 0, none⟩) a len len len cap rfl rfl w.heap.size 0 (List.replicate len (.int .i64 0)) 3 ?hg cs ?hn ?hpos ?hfit ?h1 w.heap.size w ?hb (Nat.le_refl _) ?_)
  case hg =>
    have := World.alloc_heap_new w (.cells (madeCells #[.int .i64 0] len) 3)
    rw [this]
    rw [← toList_madeCells_one]
  case hn => rw [HLEN.out]; simp
  case hpos =>
    intro h0
    rw [HLEN.out] at h0
    obtain ⟨b, off, rfl, hb, hc⟩ := H.out.at h0
    refine ⟨_, rfl, fun j v hj => ?_⟩
    have hjl : j < len := by rw [← HLEN.out]; exact (List.getElem?_eq_some_iff.1 hj).1
    have h2 := hc j hjl
    have h3 : v = .int .i64 (xs[j]?.getD 0) := by
      rw [HCS.out] at hj
      simp [HL.out, hjl] at hj ⊢
      exact hj.symm
    rw [h3]
    have hb' : Below w.heap.size w (w.alloc (.cells (madeCells #[.int .i64 0] len) 3)) := (Below.refl _ _).alloc (Nat.le_refl _) _
    rw [Go.WideShapes.add_plain]
    exact (hb'.cell (p := ⟨b, off + j, none⟩) hb).trans h2
  case hfit => simp [HLEN.out]
  case h1 => intro v hv; rw [HCS.out] at hv; simp at hv; obtain ⟨x, _, rfl⟩ := hv; rfl
  case hb => exact (Below.refl _ _).alloc (Nat.le_refl _) _
  intro w' hrow hbel
  have HB := hide hbel
  clear hbel hmk
  go_wp2
  go_ret
  refine ⟨⟨_, rfl, ?_, Nat.le_refl _⟩, HB.out⟩
  refine ⟨_, hrow.out, by simp [splice, HLEN.out], fun i hi => ?_⟩
  have hs : splice (List.replicate len (Value.int .i64 0)) 0 cs = cs := by simp [splice, HLEN.out]
  rw [hs, HCS.out]
  simp [HL.out, hi]

/-- A View's block that has been laid lies on. -/
theorem cells3 {w W w1 : World} {c0 c1 c2 : Value} {t : TypeId} (hW : W.heap[w.heap.size]? = some (.cells #[c0, c1, c2] t (0, 0))) (hb : Below W.heap.size W w1) :
    w1.cell? ⟨w.heap.size, 0, none⟩ = some c0 ∧ w1.cell? ⟨w.heap.size, 1, none⟩ = some c1 ∧ w1.cell? ⟨w.heap.size, 2, none⟩ = some c2 ∧ w1.frozen? ⟨w.heap.size, 0, none⟩ = false ∧ w1.frozen? ⟨w.heap.size, 1, none⟩ = false ∧ w1.frozen? ⟨w.heap.size, 2, none⟩ = false ∧ w.heap.size < w1.heap.size := by
  have hl := (Array.getElem?_eq_some_iff.1 hW).1
  have h1 : w1.heap[w.heap.size]? = some (.cells #[c0, c1, c2] t (0, 0)) := (hb.block _ hl).trans hW
  have hl1 := (Array.getElem?_eq_some_iff.1 h1).1
  refine ⟨?_, ?_, ?_, ?_, ?_, ?_, hl1⟩ <;> simp [World.cell?, World.frozen?, h1]

set_option maxRecDepth 100000 in
set_option maxHeartbeats 2000000 in
theorem blank_any (s : Int) (a : Option Addr) (len cap : Nat) (xs : List Int) (w : World) (h : Ints w a len xs) (h6 : len ≤ 6) :
    Calls Tryz.prog 101 #[.int .i64 s, .slice a len cap] w fun e w' => (∃ g1 g2 : Nat, e = .returned (.agg #[.int .i64 s, .slice (some ⟨g1, 0, none⟩) len len, .slice (some ⟨g2, 0, none⟩) len len]) ∧ (RowI w' g1 len xs ∧ w'.rowIs g2 3 len (fun _ => .int .i64 0)) ∧ g1 ≠ g2 ∧ w.heap.size ≤ g1 ∧ w.heap.size ≤ g2) ∧ Below w.heap.size w w' := by
  have H := hide h
  have hmk := run_make_row' (P := Tryz.prog) 22 3 (.int .i64 0) 8 Tryz.underlying22 info_int rfl .i64 .i64 len (by omega) (by omega)
  clear h
  go_enter Tryz.func101, Tryz.ntmps101
  go_wp2
  go_region_with (go_at_call 60; refine (fresh_any _ _ _ xs _ (H.out.below (by first | exact ((Below.refl _ _).alloc (Nat.le_refl _) _).drew | exact (((Below.refl _ _).alloc (Nat.le_refl _) _).alloc (by simp) _).drew)) h6).mono ?_; rintro e w1 ⟨⟨g, rfl, hr, hg⟩, hb⟩; have HR := hide hr; have HG := hide hg; have HB := hide hb; have hz := hb.size; simp at hz; obtain ⟨k0, k1, k2, f0, f1, f2, hz1⟩ := cells3 (w := w) (t := 68) (c0 := .int .i64 0) (c1 := .slice none 0 0) (c2 := .slice none 0 0) (by first | exact World.alloc_heap_new w _ | exact (Below.heap_alloc _ _ _ (by simp)).trans (World.alloc_heap_new w _)) hb; clear hr hg hb hz)
  all_goals go_wp2
  · have hg := HG.out
    have hg' : w.heap.size + 1 ≤ g := by simpa using hg
    have hgl := HR.out.lt
    have hr1 : RowI (((w1.setCell ⟨w.heap.size, 0, none⟩ (.int .i64 s)).setCell ⟨w.heap.size, 1, none⟩ (.slice (some ⟨g, 0, none⟩) len len)).setCell ⟨w.heap.size, 2, none⟩ (.slice (some ⟨w1.heap.size, 0, none⟩) len len)) g len xs :=
      ((HR.out.setOther (a := ⟨w.heap.size, 0, none⟩) (by simp; omega) _).setOther (a := ⟨w.heap.size, 1, none⟩) (by simp; omega) _).setOther (a := ⟨w.heap.size, 2, none⟩) (by simp; omega) _
    have hr2 := World.rowIs_made (((w1.setCell ⟨w.heap.size, 0, none⟩ (.int .i64 s)).setCell ⟨w.heap.size, 1, none⟩ (.slice (some ⟨g, 0, none⟩) len len)).setCell ⟨w.heap.size, 2, none⟩ (.slice (some ⟨w1.heap.size, 0, none⟩) len len)) (.int .i64 0) len 3
    simp only [World.size_setCell] at hr2
    have hb : Below w.heap.size w w1 := ((Below.refl _ w).alloc (Nat.le_refl _) _).drew.trans (HB.out.mono (by simp))
    refine bodyPost_ret (v := .agg #[.int .i64 s, .slice (some ⟨g, 0, none⟩) len len, .slice (some ⟨w1.heap.size, 0, none⟩) len len]) (by simp [results, Tryz.results101, go_sem, k0, k1, k2, hz1]) rfl ⟨⟨g, _, rfl, ⟨World.rowIs.alloc hr1 _, hr2⟩, by omega, by omega, by omega⟩, ?_⟩
    exact (((hb.setCell (p := ⟨w.heap.size, 0, none⟩) (Nat.le_refl _) _).setCell (p := ⟨w.heap.size, 1, none⟩) (Nat.le_refl _) _).setCell (p := ⟨w.heap.size, 2, none⟩) (Nat.le_refl _) _).alloc (by simp; omega) _
  · have hg := HG.out
    have hg' : w.heap.size + 2 ≤ g := by simpa using hg
    have hr1 : RowI (((w1.setCell ⟨w.heap.size, 0, none⟩ (.int .i64 s)).setCell ⟨w.heap.size, 1, none⟩ (.slice (some ⟨g, 0, none⟩) len len)).setCell ⟨w.heap.size, 2, none⟩ (.slice (some ⟨w.heap.size + 1, 0, none⟩) len len)) g len xs :=
      ((HR.out.setOther (a := ⟨w.heap.size, 0, none⟩) (by simp; omega) _).setOther (a := ⟨w.heap.size, 1, none⟩) (by simp; omega) _).setOther (a := ⟨w.heap.size, 2, none⟩) (by simp; omega) _
    have hr0 := World.rowIs_made (w.alloc (.cells #[.int .i64 0, .slice none 0 0, .slice none 0 0] 68)) (.int .i64 0) len 3
    simp only [World.size_alloc] at hr0
    have hr00 : w1.rowIs (w.heap.size + 1) 3 len (fun _ => .int .i64 0) := hr0.of_block (HB.out.block _ (by simp))
    have hr2 : (((w1.setCell ⟨w.heap.size, 0, none⟩ (.int .i64 s)).setCell ⟨w.heap.size, 1, none⟩ (.slice (some ⟨g, 0, none⟩) len len)).setCell ⟨w.heap.size, 2, none⟩ (.slice (some ⟨w.heap.size + 1, 0, none⟩) len len)).rowIs (w.heap.size + 1) 3 len (fun _ => .int .i64 0) :=
      ((hr00.setOther (a := ⟨w.heap.size, 0, none⟩) (by simp) _).setOther (a := ⟨w.heap.size, 1, none⟩) (by simp) _).setOther (a := ⟨w.heap.size, 2, none⟩) (by simp) _
    have hb : Below w.heap.size w w1 := (((Below.refl _ w).alloc (Nat.le_refl _) _).alloc (by simp) _).drew.trans (HB.out.mono (by simp; omega))
    refine bodyPost_ret (v := .agg #[.int .i64 s, .slice (some ⟨g, 0, none⟩) len len, .slice (some ⟨w.heap.size + 1, 0, none⟩) len len]) (by simp [results, Tryz.results101, go_sem, k0, k1, k2]) rfl ⟨⟨g, _, rfl, ⟨hr1, hr2⟩, by omega, by omega, by omega⟩, ?_⟩
    exact ((hb.setCell (p := ⟨w.heap.size, 0, none⟩) (Nat.le_refl _) _).setCell (p := ⟨w.heap.size, 1, none⟩) (Nat.le_refl _) _).setCell (p := ⟨w.heap.size, 2, none⟩) (Nat.le_refl _) _
end Go.Proofs.YteoobeldmicjhaaGreat.V
namespace Go.Proofs.YteoobeldmicjhaaGreat.V
set_option maxRecDepth 20000
open Go.RowKit

set_option maxHeartbeats 1000000 in
theorem reached_any (s : Int) (da : Option Addr) (dl dc : Nat) (sa : Option Addr) (sl sc : Nat) (ss : List Int) (w : World) (h : Ints w sa sl ss) :
    Calls Tryz.prog 103 #[.agg #[.int .i64 s, .slice da dl dc, .slice sa sl sc]] w fun e w' => e = .returned (if beyondB s ss = true then .tuple #[.agg #[.int .i64 0, .slice none 0 0, .slice none 0 0], .int .i64 5] else .tuple #[.agg #[.int .i64 s, .slice da dl dc, .slice sa sl sc], .int .i64 0]) ∧ Below w.heap.size w w' := by
  have H := hide h
  clear h
  have hb2 : Below w.heap.size w ((w.alloc (.cells #[.int .i64 s, .slice da dl dc, .slice sa sl sc] 68)).alloc (.cells #[.int .i64 0, .slice none 0 0, .slice none 0 0] 68)) := ((Below.refl _ _).alloc (Nat.le_refl _) _).alloc (by simp) _
  have HB2 := hide hb2
  clear hb2
  cases c : beyondB s ss with
  | true =>
    rw [if_pos rfl]
    have C := hide c
    clear c
    go_enter Tryz.func103, Tryz.ntmps103
    go_wp2_with fail
    refine (beyond_any _ _ _ _ _ _ _ ss _ (H.out.below HB2.out)).mono ?_
    rintro e w1 ⟨rfl, hb⟩
    rw [C.out]
    have HB := hide (Below.on HB2.out hb)
    obtain ⟨hc1, hf1⟩ := bcell hb
    have hz := hb.size
    simp at hz
    clear hb
    go_wp2
    refine bodyPost_ret (v := .tuple #[.agg #[.int .i64 0, .slice none 0 0, .slice none 0 0], .int .i64 5]) (by simp [results, Tryz.results103, go_sem, hc1]) rfl ⟨rfl, ?_⟩
    exact ((HB.out.setCell (p := ⟨w.heap.size + 1, 0, none⟩) (by simp) _).setCell (p := ⟨w.heap.size + 1, 1, none⟩) (by simp) _).setCell (p := ⟨w.heap.size + 1, 2, none⟩) (by simp) _
  | false =>
    rw [if_neg (by simp)]
    have C := hide c
    clear c
    go_enter Tryz.func103, Tryz.ntmps103
    go_wp2_with fail
    refine (beyond_any _ _ _ _ _ _ _ ss _ (H.out.below HB2.out)).mono ?_
    rintro e w1 ⟨rfl, hb⟩
    rw [C.out]
    have HB := hide (Below.on HB2.out hb)
    obtain ⟨hc1, hf1⟩ := bcell hb
    have hz := hb.size
    simp at hz
    clear hb
    go_wp2
    refine bodyPost_ret (v := .tuple #[.agg #[.int .i64 s, .slice da dl dc, .slice sa sl sc], .int .i64 0]) (by simp [results, Tryz.results103, go_sem, hc1]) rfl ⟨rfl, ?_⟩
    exact ((HB.out.setCell (p := ⟨w.heap.size + 1, 0, none⟩) (by simp) _).setCell (p := ⟨w.heap.size + 1, 1, none⟩) (by simp) _).setCell (p := ⟨w.heap.size + 1, 2, none⟩) (by simp) _

set_option maxHeartbeats 1000000 in
theorem made_any (s : Int) (da : Option Addr) (dl dc : Nat) (ds : List Int) (sa : Option Addr) (sl sc : Nat) (ss : List Int) (w : World) (hd : Ints w da dl ds) (h : Ints w sa sl ss) :
    Calls Tryz.prog 117 #[.agg #[.int .i64 s, .slice da dl dc, .slice sa sl sc]] w fun e w' => e = .returned (if wrongE s ds ss ≠ 0 then .tuple #[.agg #[.int .i64 0, .slice none 0 0, .slice none 0 0], .int .i64 5] else .tuple #[.agg #[.int .i64 s, .slice da dl dc, .slice sa sl sc], .int .i64 0]) ∧ Below w.heap.size w w' := by
  have H := hide h
  have HD := hide hd
  clear h hd
  have hb2 : Below w.heap.size w ((w.alloc (.cells #[.int .i64 s, .slice da dl dc, .slice sa sl sc] 68)).alloc (.cells #[.int .i64 0, .slice none 0 0, .slice none 0 0] 68)) := ((Below.refl _ _).alloc (Nat.le_refl _) _).alloc (by simp) _
  have HB2 := hide hb2
  clear hb2
  by_cases c : wrongE s ds ss ≠ 0
  · rw [if_pos c]
    have c1 : (wrongE s ds ss != 0) = true := by simp [c]
    clear c
    go_enter Tryz.func117, Tryz.ntmps117
    go_wp2_with fail
    refine (rwrong_any _ _ _ _ ds _ _ _ ss _ (HD.out.below HB2.out) (H.out.below HB2.out)).mono ?_
    rintro e w1 ⟨rfl, hb⟩
    have HB := hide (Below.on HB2.out hb)
    obtain ⟨hc1, hf1⟩ := bcell hb
    have hz := hb.size
    simp at hz
    clear hb
    go_wp2
    refine bodyPost_ret (v := .tuple #[.agg #[.int .i64 0, .slice none 0 0, .slice none 0 0], .int .i64 5]) (by simp [results, Tryz.results117, go_sem, hc1]) rfl ⟨rfl, ?_⟩
    exact ((HB.out.setCell (p := ⟨w.heap.size + 1, 0, none⟩) (by simp) _).setCell (p := ⟨w.heap.size + 1, 1, none⟩) (by simp) _).setCell (p := ⟨w.heap.size + 1, 2, none⟩) (by simp) _
  · rw [if_neg c]
    have c1 : wrongE s ds ss = 0 := by simpa using c
    have C := hide c1
    clear c c1
    go_enter Tryz.func117, Tryz.ntmps117
    go_wp2_with fail
    refine (rwrong_any _ _ _ _ ds _ _ _ ss _ (HD.out.below HB2.out) (H.out.below HB2.out)).mono ?_
    rintro e w1 ⟨rfl, hb⟩
    rw [C.out]
    have HB := hide (Below.on HB2.out hb)
    obtain ⟨hc1, hf1⟩ := bcell hb
    have hz := hb.size
    simp at hz
    clear hb
    go_wp2
    refine bodyPost_ret (v := .tuple #[.agg #[.int .i64 s, .slice da dl dc, .slice sa sl sc], .int .i64 0]) (by simp [results, Tryz.results117, go_sem, hc1]) rfl ⟨rfl, ?_⟩
    exact ((HB.out.setCell (p := ⟨w.heap.size + 1, 0, none⟩) (by simp) _).setCell (p := ⟨w.heap.size + 1, 1, none⟩) (by simp) _).setCell (p := ⟨w.heap.size + 1, 2, none⟩) (by simp) _
end Go.Proofs.YteoobeldmicjhaaGreat.V
namespace Go.Proofs.YteoobeldmicjhaaGreat.V
set_option maxRecDepth 20000
open Go.RowKit

/-- Those ahead of place k are numbers below n, no two alike. -/
def goodPre (xs : List Int) (n k : Nat) : Prop := ∀ i, i < k → 0 ≤ xs[i]?.getD 0 ∧ xs[i]?.getD 0 < n ∧ ∀ j, j < i → xs[j]?.getD 0 ≠ xs[i]?.getD 0
def PermOk (xs : List Int) (n : Nat) : Prop := xs.length = n ∧ goodPre xs n n
theorem goodPre_succ {xs : List Int} {n k : Nat} (h : goodPre xs n k) (h0 : 0 ≤ xs[k]?.getD 0) (h1 : xs[k]?.getD 0 < n) (h2 : ∀ j, j < k → xs[j]?.getD 0 ≠ xs[k]?.getD 0) : goodPre xs n (k + 1) := fun i hi => by
  by_cases e : i = k
  · subst e; exact ⟨h0, h1, h2⟩
  · exact h i (by omega)

/-- How often the numbers below n are met in a list. -/
def met (xs : List Int) : Nat → Nat
  | 0 => 0
  | n + 1 => met xs n + xs.countP (fun x => x == (n : Int))
theorem met_cons (x : Int) (xs : List Int) : ∀ n : Nat, met (x :: xs) n = met xs n + if 0 ≤ x ∧ x < n then 1 else 0
  | 0 => by
    have : ¬ (0 ≤ x ∧ x < ((0 : Nat) : Int)) := by omega
    rw [if_neg this]; rfl
  | n + 1 => by
    rw [met, met, met_cons x xs n, List.countP_cons]
    by_cases e : x = (n : Int)
    · subst e
      have h1 : ¬ (0 ≤ (n : Int) ∧ (n : Int) < (n : Int)) := by omega
      have h2 : 0 ≤ (n : Int) ∧ (n : Int) < ((n + 1 : Nat) : Int) := by omega
      rw [if_neg h1, if_pos h2]; simp; omega
    · have h3 : (x == (n : Int)) = false := by simp [e]
      rw [h3]
      by_cases h : 0 ≤ x ∧ x < (n : Int)
      · have h2 : 0 ≤ x ∧ x < ((n + 1 : Nat) : Int) := by omega
        rw [if_pos h, if_pos h2]; simp; omega
      · have h2 : ¬ (0 ≤ x ∧ x < ((n + 1 : Nat) : Int)) := by omega
        rw [if_neg h, if_neg h2]; simp
theorem met_le (n : Nat) : ∀ xs : List Int, met xs n ≤ xs.length
  | [] => by have : ∀ n, met [] n = 0 := fun n => by induction n with | zero => rfl | succ n ih => simp [met, ih]
             simp [this]
  | x :: xs => by rw [met_cons]; have := met_le n xs; simp; split <;> omega
theorem met_all (n : Nat) : ∀ xs : List Int, met xs n = xs.length → ∀ x ∈ xs, 0 ≤ x ∧ x < n
  | [], _, _, h => by cases h
  | x :: xs, h, y, hy => by
    rw [met_cons] at h
    have hle := met_le n xs
    simp at h
    by_cases hx : 0 ≤ x ∧ x < (n : Int)
    · rw [if_pos hx] at h
      rcases List.mem_cons.1 hy with rfl | hy'
      · exact hx
      · exact met_all n xs (by omega) y hy'
    · rw [if_neg hx] at h; omega
theorem met_of_all (n : Nat) : ∀ xs : List Int, (∀ x ∈ xs, 0 ≤ x ∧ x < n) → met xs n = xs.length
  | [], _ => by have : ∀ n, met [] n = 0 := fun n => by induction n with | zero => rfl | succ n ih => simp [met, ih]
                simp [this]
  | x :: xs, h => by rw [met_cons, met_of_all n xs (fun y hy => h y (by simp [hy])), if_pos (h x (by simp))]; simp
theorem met_ge (xs : List Int) : ∀ n : Nat, (∀ k : Nat, k < n → (k : Int) ∈ xs) → n ≤ met xs n
  | 0, _ => Nat.zero_le _
  | n + 1, h => by
    have ih := met_ge xs n (fun k hk => h k (by omega))
    have : 0 < xs.countP (fun x => x == (n : Int)) := List.countP_pos_iff.2 ⟨_, h n (by omega), by simp⟩
    rw [met]; omega
/-- If each is met at most once, and there are n of them in all, each is met. -/
theorem met_full (xs : List Int) : ∀ n : Nat, (∀ k : Nat, k < n → xs.countP (fun x => x == (k : Int)) ≤ 1) → met xs n ≤ n ∧ (met xs n = n → ∀ k : Nat, k < n → (k : Int) ∈ xs)
  | 0, _ => ⟨Nat.le_refl _, fun _ k hk => by omega⟩
  | n + 1, h => by
    obtain ⟨i1, i2⟩ := met_full xs n (fun k hk => h k (by omega))
    have hc := h n (by omega)
    refine ⟨by rw [met]; omega, fun he k hk => ?_⟩
    rw [met] at he
    have h1 : met xs n = n := by omega
    by_cases e : k = n
    · subst e
      have : 0 < xs.countP (fun x => x == (k : Int)) := by omega
      obtain ⟨y, hy, hb⟩ := List.countP_pos_iff.1 this
      simp at hb
      exact hb ▸ hy
    · exact i2 h1 k (by omega)

theorem countP_le_one {xs : List Int} (v : Int) (h : ∀ i j, i < xs.length → j < i → xs[j]?.getD 0 ≠ xs[i]?.getD 0) : xs.countP (fun x => x == v) ≤ 1 := by
  induction xs with
  | nil => simp
  | cons x r ih =>
    have ih' := ih (fun i j hi hj => by
      have := h (i + 1) (j + 1) (by simp; omega) (by omega)
      simpa using this)
    rw [List.countP_cons]
    by_cases e : x = v
    · subst e
      have h0 : r.countP (fun y => y == x) = 0 := by
        rw [List.countP_eq_zero]
        intro y hy hb
        simp at hb
        subst hb
        obtain ⟨k, hk, he⟩ := List.getElem_of_mem hy
        have := h (k + 1) 0 (by simp; omega) (by omega)
        simp [hk, he] at this
      simp [h0]
    · have : (x == v) = false := by simp [e]
      simp [this]; exact ih'
theorem perm_iff {xs : List Int} {n : Nat} (hl : xs.length = n) : goodPre xs n n ↔ ∀ k : Nat, k < n → (k : Int) ∈ xs := by
  constructor
  · intro h
    have hr : ∀ x ∈ xs, 0 ≤ x ∧ x < n := fun x hx => by
      obtain ⟨i, hi, he⟩ := List.getElem_of_mem hx
      have := h i (by omega)
      simp [hi, he] at this
      exact ⟨this.1, this.2.1⟩
    have h1 := met_of_all n xs hr
    exact (met_full xs n (fun k _ => countP_le_one _ (fun i j hi hj => (h i (by omega)).2.2 j hj))).2 (by omega)
  · intro h
    have h1 := met_ge xs n h
    have h2 := met_le n xs
    have hr := met_all n xs (by omega)
    intro i hi
    have hil : i < xs.length := by omega
    have hm := hr _ (mem_getD xs i hil)
    refine ⟨hm.1, hm.2, fun j hj he => ?_⟩
    -- two alike: one could be left out, and all would still be met
    have h3 : ∀ k : Nat, k < n → (k : Int) ∈ xs.eraseIdx i := fun k hk => by
      obtain ⟨t, ht, hte⟩ := List.getElem_of_mem (h k hk)
      by_cases e : t = i
      · rw [List.mem_eraseIdx_iff_getElem?]
        refine ⟨j, by omega, ?_⟩
        have hjl : j < xs.length := by omega
        subst e
        simp [hjl, hil] at he
        simp [hjl, he, hte]
      · rw [List.mem_eraseIdx_iff_getElem?]
        exact ⟨t, e, by simp [ht, hte]⟩
    have h4 := met_ge (xs.eraseIdx i) n h3
    have h5 := met_le n (xs.eraseIdx i)
    rw [List.length_eraseIdx_of_lt hil] at h5
    omega
end Go.Proofs.YteoobeldmicjhaaGreat.V
namespace Go.Proofs.YteoobeldmicjhaaGreat.V
set_option maxRecDepth 20000
open Go.RowKit

/-- It answers whether. -/
def Tells (e : Ending) (p : Prop) : Prop := ∃ r : Bool, e = .returned (.bool r) ∧ (r = true ↔ p)
/-- What has been seen among the first k. -/
def seen (xs : List Int) (k : Nat) (j : Nat) : Value := .bool ((xs.take k).any fun x => x == (j : Int))
theorem seen_succ (xs : List Int) (k j : Nat) (m : Nat) (h : k < xs.length) (hm : xs[k]?.getD 0 = (m : Int)) : (if j = m then .bool true else seen xs k j) = seen xs (k + 1) j := by
  unfold seen
  rw [take_succ_getD xs k h, List.any_append, hm]
  by_cases e : j = m
  · subst e; simp
  · have : ((m : Int) == (j : Int)) = false := by simp; omega
    simp [e, this]

set_option maxRecDepth 100000 in
set_option maxHeartbeats 2000000 in
theorem permutes_any (a : Option Addr) (len cap : Nat) (xs : List Int) (n : Nat) (w : World) (h : Ints w a len xs) (h6 : n ≤ 6) :
    Calls Tryz.prog 118 #[.slice a len cap, .int .i64 n] w fun e w' => Tells e (PermOk xs n) ∧ Below w.heap.size w w' := by
  have hl := h.1
  have hm := h.2.1
  have H := hide h
  clear h
  by_cases hn : len ≠ n
  · have hn1 : ((len : Int) != (n : Int)) = true := by simp; omega
    have P : Hid (¬ PermOk xs n) := fun hp => hn (by rw [← hl]; exact hp.1)
    clear hn hl
    go_enter Tryz.func118, Tryz.ntmps118
    go_wp2
    go_ret
    exact ⟨⟨false, rfl, by simp; exact P.out⟩, Below.refl _ _⟩
  obtain rfl : len = n := by omega
  have HL := hide hl
  clear hl hn
  go_enter Tryz.func118, Tryz.ntmps118
  go_wp2
  go_loopw [14] (fun i wr => ∃ k : Nat, k ≤ len ∧ i = .int .i64 k ∧ wr.rowIs w.heap.size 119 6 (seen xs k) ∧ Below w.heap.size w wr ∧ goodPre xs len k) (fun i _ => len - (intOf i).toNat)
  case atStart =>
    refine ⟨0, Nat.zero_le _, rfl, ?_, (Below.refl _ _).alloc (Nat.le_refl _) _, fun i hi => by omega⟩
    refine World.rowIs_alloc w #[.bool false, .bool false, .bool false, .bool false, .bool false, .bool false] 119 (seen xs 0) (fun i hi => ?_)
    have : i = 0 ∨ i = 1 ∨ i = 2 ∨ i = 3 ∨ i = 4 ∨ i = 5 := by simp at hi; omega
    rcases this with e | e | e | e | e | e <;> subst e <;> simp [seen]
  case round =>
    obtain ⟨k, hk, rfl, hrow, hB, hgood⟩ := hrel
    have HR := hide hrow
    have HB := hide hB
    have HG := hide hgood
    clear hrow hB hgood
    by_cases hlt : k < len
    · obtain ⟨b, off, rfl, hb, hc⟩ := H.out.at (by omega)
      have hck : wr.cell? ⟨b, off + k, none⟩ = some (.int .i64 (xs[k]?.getD 0)) := (HB.out.cell (p := ⟨b, off + k, none⟩) hb).trans (hc k hlt)
      have HKL : Hid (k < xs.length) := by rw [Hid, HL.out]; exact hlt
      clear hc
      by_cases q1 : xs[k]?.getD 0 < 0
      · go_wp2
        go_ret
        exact ⟨⟨false, rfl, by simp; exact fun hp => by have := hp.2 k hlt; omega⟩, HB.out⟩
      by_cases q2 : (len : Int) ≤ xs[k]?.getD 0
      · go_wp2
        go_ret
        exact ⟨⟨false, rfl, by simp; exact fun hp => by have := hp.2 k hlt; omega⟩, HB.out⟩
      obtain ⟨m, hm'⟩ : ∃ m : Nat, xs[k]?.getD 0 = (m : Int) := ⟨(xs[k]?.getD 0).toNat, by omega⟩
      have HM := hide hm'
      rw [hm'] at hck q1 q2
      have hm6 : m < 6 := by omega
      have hcm := HR.out.cell hm6
      have hfm := HR.out.frozen m
      clear hm'
      cases q3 : ((xs.take k).any fun x => x == (m : Int)) with
      | true =>
        have hcm' : wr.cell? ⟨w.heap.size, m, none⟩ = some (.bool true) := by rw [hcm]; simp [seen, q3]
        have Q3 := hide q3
        clear hcm q3
        go_wp2
        go_ret
        have hno : ¬ PermOk xs len := fun hp => by
          have q := Q3.out
          rw [List.any_eq_true] at q
          obtain ⟨y, hy, hye⟩ := q
          simp at hye
          obtain ⟨j, hj, hje⟩ := List.getElem_of_mem hy
          have hj' : j < k ∧ j < xs.length := by simp at hj; omega
          have := (hp.2 k hlt).2.2 j hj'.1
          apply this
          rw [HM.out, ← hye, ← hje]
          simp [hj'.2]
        exact ⟨⟨false, rfl, by simp; exact hno⟩, HB.out⟩
      | false =>
        have hcm' : wr.cell? ⟨w.heap.size, m, none⟩ = some (.bool false) := by rw [hcm]; simp [seen, q3]
        have Q3 := hide q3
        clear hcm q3
        go_wp2
        go_roundw
        case rel =>
          refine ⟨k + 1, by omega, by go_num, (HR.out.set m _).congr (fun j _ => seen_succ xs k j m HKL.out HM.out), HB.out.setCell (p := ⟨w.heap.size, m, none⟩) (Nat.le_refl _) _, goodPre_succ HG.out (by rw [HM.out]; omega) (by rw [HM.out]; omega) (fun j hj he => ?_)⟩
          have q := Q3.out
          rw [List.any_eq_false] at q
          have hjl : j < xs.length := by have := HKL.out; omega
          apply q (xs[j]?.getD 0) _ (by rw [he, HM.out]; simp)
          rw [List.mem_iff_getElem?]
          exact ⟨j, by simp [List.getElem?_take_of_lt hj, hjl]⟩
        case measure => simp [intOf]; omega
    · go_wp2
      go_ret
      obtain rfl : k = len := by omega
      exact ⟨⟨true, rfl, by simp; exact ⟨HL.out, HG.out⟩⟩, HB.out⟩
end Go.Proofs.YteoobeldmicjhaaGreat.V
namespace Go.Proofs.YteoobeldmicjhaaGreat.V
set_option maxRecDepth 20000
open Go.RowKit

/-- A list taken in another order. -/
def taken (xs perm : List Int) : List Int := perm.map fun k => xs[k.toNat]?.getD 0
/-- A block that holds a View. -/
def ViewAt (w : World) (b : Nat) (c0 c1 c2 : Value) : Prop := w.heap[b]? = some (.cells #[c0, c1, c2] 68 (0, 0))
theorem ViewAt.lt {w : World} {b : Nat} {c0 c1 c2 : Value} (h : ViewAt w b c0 c1 c2) : b < w.heap.size := (Array.getElem?_eq_some_iff.1 h).1
theorem ViewAt.below {w w' : World} {b : Nat} {c0 c1 c2 : Value} (h : ViewAt w b c0 c1 c2) (hb : Below w.heap.size w w') : ViewAt w' b c0 c1 c2 := (hb.block b h.lt).trans h
theorem ViewAt.alloc {w : World} {b : Nat} {c0 c1 c2 : Value} (h : ViewAt w b c0 c1 c2) (o : Obj) : ViewAt (w.alloc o) b c0 c1 c2 := (Below.heap_alloc _ _ _ h.lt).trans h
theorem ViewAt.set {w : World} {b : Nat} {c0 c1 c2 : Value} (h : ViewAt w b c0 c1 c2) {p : Addr} (hne : b ≠ p.block) (u : Value) : ViewAt (w.setCell p u) b c0 c1 c2 := (Below.heap_setCell _ _ _ _ hne).trans h
theorem ViewAt.cells {w : World} {b : Nat} {c0 c1 c2 : Value} (h : ViewAt w b c0 c1 c2) : (w.cell? ⟨b, 0, none⟩ = some c0 ∧ w.cell? ⟨b, 1, none⟩ = some c1 ∧ w.cell? ⟨b, 2, none⟩ = some c2) ∧ (w.frozen? ⟨b, 0, none⟩ = false ∧ w.frozen? ⟨b, 1, none⟩ = false ∧ w.frozen? ⟨b, 2, none⟩ = false) := by
  unfold ViewAt at h
  refine ⟨⟨?_, ?_, ?_⟩, ?_, ?_, ?_⟩ <;> simp [World.cell?, World.frozen?, h]
theorem ViewAt.new (w : World) (c0 c1 c2 : Value) : ViewAt (w.alloc (.cells #[c0, c1, c2] 68)) w.heap.size c0 c1 c2 := World.alloc_heap_new w _

/-- A row on its way: the first k are as they are to be, the others as they were. -/
def onWay (xs ys : List Int) (k j : Nat) : Value := .int .i64 (if j < k then xs[j]?.getD 0 else ys[j]?.getD 0)
theorem onWay_succ (xs ys : List Int) (k j : Nat) : (if j = k then .int .i64 (xs[k]?.getD 0) else onWay xs ys k j) = onWay xs ys (k + 1) j := by
  unfold onWay
  by_cases e : j = k
  · subst e; simp
  · by_cases h : j < k
    · rw [if_neg e, if_pos h, if_pos (by omega)]
    · rw [if_neg e, if_neg h, if_neg (by omega)]
theorem onWay_all {w : World} {g t len : Nat} {xs ys : List Int} (h : w.rowIs g t len (onWay xs ys len)) : w.rowIs g t len (fun j => .int .i64 (xs[j]?.getD 0)) := h.congr (fun j hj => by simp [onWay, hj])
theorem onWay_zero {w : World} {g t len : Nat} {xs ys : List Int} (h : w.rowIs g t len (fun j => .int .i64 (ys[j]?.getD 0))) : w.rowIs g t len (onWay xs ys 0) := h.congr (fun j _ => by simp [onWay])
theorem taken_getD (xs ps : List Int) (k m : Nat) (hk : k < ps.length) (hm : ps[k]?.getD 0 = (m : Int)) : (taken xs ps)[k]?.getD 0 = xs[m]?.getD 0 := by
  have e : ps[k] = (m : Int) := by simpa [hk] using hm
  simp [taken, hk, e]
theorem taken_length (xs ps : List Int) : (taken xs ps).length = ps.length := by simp [taken]
theorem taken_bd {xs ps : List Int} (h : ∀ x ∈ xs, -9223372036854775808 ≤ x ∧ x ≤ 9223372036854775807) : ∀ x ∈ taken xs ps, -9223372036854775808 ≤ x ∧ x ≤ 9223372036854775807 := by
  intro y hy
  simp only [taken, List.mem_map] at hy
  obtain ⟨p, _, rfl⟩ := hy
  by_cases hk : p.toNat < xs.length
  · exact h _ (mem_getD xs _ hk)
  · have : xs[p.toNat]? = none := by simp; omega
    simp [this]

theorem wrongE_ok {s : Int} {ds ss : List Int} (h : wrongE s ds ss = 0) : sizeE ds = 0 ∧ ss.length = ds.length ∧ beyondB s ss = false := by
  unfold wrongE at h
  by_cases h1 : sizeE ds ≠ 0
  · rw [if_pos h1] at h; exact absurd h h1
  rw [if_neg h1] at h
  by_cases h2 : ss.length ≠ ds.length
  · rw [if_pos h2] at h; omega
  rw [if_neg h2] at h
  by_cases h3 : beyondB s ss = true
  · rw [if_pos h3] at h; omega
  exact ⟨by simpa using h1, by simpa using h2, by simpa using h3⟩
theorem turn_far {s : Int} {ds ss ps : List Int} {n : Nat} (h : wrongE s ds ss = 0) (hp : PermOk ps n) (hl : ss.length = n) : beyondB s (taken ss ps) = false := by
  obtain ⟨_, _, h3⟩ := wrongE_ok h
  simp only [beyondB, Bool.or_eq_false_iff] at h3 ⊢
  refine ⟨h3.1, ?_⟩
  rw [List.any_eq_false] at h3 ⊢
  intro x hx
  simp only [taken, List.mem_map] at hx
  obtain ⟨p, hp', rfl⟩ := hx
  obtain ⟨i, hi, he⟩ := List.getElem_of_mem hp'
  have hg := hp.2 i (by rw [← hp.1]; exact hi)
  simp [hi, he] at hg
  exact h3.2 _ (mem_getD ss _ (by omega))
theorem ints_set3 {w : World} {g len B : Nat} {xs : List Int} {a b c : Value} (h : Ints w (some ⟨g, 0, none⟩) len xs) (hne : g ≠ B) : Ints (((w.setCell ⟨B, 0, none⟩ a).setCell ⟨B, 1, none⟩ b).setCell ⟨B, 2, none⟩ c) (some ⟨g, 0, none⟩) len xs := by
  obtain ⟨h1, h2, h3, h4⟩ := h
  refine ⟨h1, h2, h3, ?_⟩
  rcases h4 with h4 | ⟨b', off, ha, hc⟩
  · exact .inl h4
  · cases ha
    have e : (((w.setCell ⟨B, 0, none⟩ a).setCell ⟨B, 1, none⟩ b).setCell ⟨B, 2, none⟩ c).heap[g]? = w.heap[g]? :=
      ((Below.heap_setCell _ ⟨B, 2, none⟩ _ g hne).trans (Below.heap_setCell _ ⟨B, 1, none⟩ _ g hne)).trans (Below.heap_setCell _ ⟨B, 0, none⟩ _ g hne)
    exact .inr ⟨_, _, rfl, fun j hj => (World.cell?_of_block (w := w) e).trans (hc j hj)⟩

end Go.Proofs.YteoobeldmicjhaaGreat.V
namespace Go.Proofs.YteoobeldmicjhaaGreat.V
set_option maxRecDepth 20000
open Go.RowKit

/-- A block that holds an Array. -/
def ArrAt (w : World) (b : Nat) (c0 c1 : Value) : Prop := w.heap[b]? = some (.cells #[c0, c1] 25 (0, 0))
theorem ArrAt.lt {w : World} {b : Nat} {c0 c1 : Value} (h : ArrAt w b c0 c1) : b < w.heap.size := (Array.getElem?_eq_some_iff.1 h).1
theorem ArrAt.below {w w' : World} {b : Nat} {c0 c1 : Value} (h : ArrAt w b c0 c1) (hb : Below w.heap.size w w') : ArrAt w' b c0 c1 := (hb.block b h.lt).trans h
theorem ArrAt.alloc {w : World} {b : Nat} {c0 c1 : Value} (h : ArrAt w b c0 c1) (o : Obj) : ArrAt (w.alloc o) b c0 c1 := (Below.heap_alloc _ _ _ h.lt).trans h
theorem ArrAt.cells {w : World} {b : Nat} {c0 c1 : Value} (h : ArrAt w b c0 c1) : (w.cell? ⟨b, 0, none⟩ = some c0 ∧ w.cell? ⟨b, 1, none⟩ = some c1) ∧ (w.frozen? ⟨b, 0, none⟩ = false ∧ w.frozen? ⟨b, 1, none⟩ = false) := by
  unfold ArrAt at h
  refine ⟨⟨?_, ?_⟩, ?_, ?_⟩ <;> simp [World.cell?, World.frozen?, h]
theorem ArrAt.new (w : World) (c0 c1 : Value) : ArrAt (w.alloc (.cells #[c0, c1] 25)) w.heap.size c0 c1 := World.alloc_heap_new w _

/-- What is wrong with an array of these dimensions and so many numbers. -/
def arrE (ds : List Int) (n : Nat) : Int := if sizeE ds ≠ 0 then sizeE ds else if (n : Int) ≠ sizeN ds then 6 else 0

set_option maxHeartbeats 1000000 in
theorem awrong_any (da : Option Addr) (dl dc : Nat) (ds : List Int) (xa : Option Addr) (xl xc : Nat) (w : World) (hd : Ints w da dl ds) :
    Calls Tryz.prog 21 #[.agg #[.slice da dl dc, .slice xa xl xc]] w fun e w' => e = .returned (.int .i64 (arrE ds xl)) ∧ Below w.heap.size w w' := by
  have HD := hide hd
  clear hd
  have hb1 : Below w.heap.size w (w.alloc (.cells #[.slice da dl dc, .slice xa xl xc] 25)) := (Below.refl _ _).alloc (Nat.le_refl _) _
  have HB1 := hide hb1
  clear hb1
  by_cases c1 : sizeE ds = 0
  · have HE := hide c1
    by_cases c2 : (xl : Int) = sizeN ds
    · have e : arrE ds xl = 0 := by unfold arrE; rw [if_neg (by simp [c1]), if_neg (by simp [c2])]
      rw [e]
      have q : ((xl : Int) != sizeN ds) = false := by simp [c2]
      clear c1 c2 e
      go_enter Tryz.func21, Tryz.ntmps21
      go_wp2_with (go_at_call 40; refine (size_any _ _ _ ds _ (HD.out.below HB1.out)).mono ?_; rintro e w' ⟨rfl, hw'⟩; obtain rfl := hw'.symm; rw [HE.out])
      go_ret
      exact ⟨rfl, HB1.out⟩
    · have e : arrE ds xl = 6 := by unfold arrE; rw [if_neg (by simp [c1]), if_pos c2]
      rw [e]
      have q : ((xl : Int) != sizeN ds) = true := by simp [c2]
      clear c1 c2 e
      go_enter Tryz.func21, Tryz.ntmps21
      go_wp2_with (go_at_call 40; refine (size_any _ _ _ ds _ (HD.out.below HB1.out)).mono ?_; rintro e w' ⟨rfl, hw'⟩; obtain rfl := hw'.symm; rw [HE.out])
      go_ret
      exact ⟨rfl, HB1.out⟩
  · have e : arrE ds xl = sizeE ds := by unfold arrE; rw [if_pos c1]
    rw [e]
    have q : (sizeE ds != 0) = true := by simp [c1]
    clear c1 e
    go_enter Tryz.func21, Tryz.ntmps21
    go_wp2_with (go_at_call 40; refine (size_any _ _ _ ds _ (HD.out.below HB1.out)).mono ?_; rintro e w' ⟨rfl, hw'⟩; obtain rfl := hw'.symm)
    go_ret
    exact ⟨rfl, HB1.out⟩

set_option maxHeartbeats 1000000 in
theorem rawrong_any (da : Option Addr) (dl dc : Nat) (ds : List Int) (xa : Option Addr) (xl xc : Nat) (w : World) (hd : Ints w da dl ds) :
    Calls Tryz.prog 16 #[.agg #[.slice da dl dc, .slice xa xl xc]] w fun e w' => e = .returned (.int .i64 (arrE ds xl)) ∧ Below w.heap.size w w' := by
  have HD := hide hd
  clear hd
  have hb1 : Below w.heap.size w (w.alloc (.cells #[.slice da dl dc, .slice xa xl xc] 25)) := (Below.refl _ _).alloc (Nat.le_refl _) _
  have HB1 := hide hb1
  clear hb1
  by_cases c1 : sizeE ds = 0
  · have HE := hide c1
    by_cases c2 : (xl : Int) = sizeN ds
    · have e : arrE ds xl = 0 := by unfold arrE; rw [if_neg (by simp [c1]), if_neg (by simp [c2])]
      rw [e]
      have q : ((xl : Int) != sizeN ds) = false := by simp [c2]
      clear c1 c2 e
      go_enter Tryz.func16, Tryz.ntmps16
      go_wp2_with (go_at_call 27; refine (rsize_any _ _ _ ds _ (HD.out.below HB1.out)).mono ?_; rintro e w' ⟨rfl, hw'⟩; obtain rfl := hw'.symm; rw [HE.out])
      go_ret
      exact ⟨rfl, HB1.out⟩
    · have e : arrE ds xl = 6 := by unfold arrE; rw [if_neg (by simp [c1]), if_pos c2]
      rw [e]
      have q : ((xl : Int) != sizeN ds) = true := by simp [c2]
      clear c1 c2 e
      go_enter Tryz.func16, Tryz.ntmps16
      go_wp2_with (go_at_call 27; refine (rsize_any _ _ _ ds _ (HD.out.below HB1.out)).mono ?_; rintro e w' ⟨rfl, hw'⟩; obtain rfl := hw'.symm; rw [HE.out])
      go_ret
      exact ⟨rfl, HB1.out⟩
  · have e : arrE ds xl = sizeE ds := by unfold arrE; rw [if_pos c1]
    rw [e]
    have q : (sizeE ds != 0) = true := by simp [c1]
    clear c1 e
    go_enter Tryz.func16, Tryz.ntmps16
    go_wp2_with (go_at_call 27; refine (rsize_any _ _ _ ds _ (HD.out.below HB1.out)).mono ?_; rintro e w' ⟨rfl, hw'⟩; obtain rfl := hw'.symm)
    go_ret
    exact ⟨rfl, HB1.out⟩

/-- The sum of the products of the first k pairs, as it wraps round. -/
def innS (xs ys : List Int) : Nat → Int
  | 0 => 0
  | k + 1 => wrap64 (innS xs ys k + wrap64 (xs[k]?.getD 0 * ys[k]?.getD 0))

set_option maxHeartbeats 1000000 in
theorem inner_any (a : Option Addr) (len cap : Nat) (xs : List Int) (a' : Option Addr) (len' cap' : Nat) (ys : List Int) (w : World) (h : Ints w a len xs) (h' : Ints w a' len' ys) (hle : len ≤ len') :
    Calls Tryz.prog 26 #[.slice a len cap, .slice a' len' cap'] w fun e w' => e = .returned (.int .i64 (innS xs ys len)) ∧ w' = w := by
  have hm := h.2.1
  have hm' := h'.2.1
  have H := hide h
  have H' := hide h'
  clear h h'
  go_enter Tryz.func26, Tryz.ntmps26
  go_wp2
  go_loop [5, 10] (fun n i => ∃ k : Nat, k ≤ len ∧ i = .int .i64 k ∧ n = .int .i64 (innS xs ys k)) (fun _ i => len - (intOf i).toNat)
  case atStart => exact ⟨0, Nat.zero_le _, rfl, rfl⟩
  case round =>
    obtain ⟨k, hk, rfl, rfl⟩ := hrel
    by_cases hlt : k < len
    · obtain ⟨b, off, rfl, hb, hc⟩ := H.out.at (by omega)
      obtain ⟨b', off', rfl, hb', hc'⟩ := H'.out.at (by omega)
      have hck := hc k hlt
      have hck' := hc' k (by omega)
      clear hc hc'
      go_wp2
      go_round
      case rel => exact ⟨k + 1, by omega, by go_num, rfl⟩
      case measure => simp [intOf]; omega
    · go_wp2
      go_ret
      obtain rfl : k = len := by omega
      exact ⟨rfl, rfl⟩
end Go.Proofs.YteoobeldmicjhaaGreat.V
namespace Go.Proofs.YteoobeldmicjhaaGreat.V
set_option maxRecDepth 20000
open Go.RowKit

/-- All but block g is as it was. -/
def But (g : Nat) (W W' : World) : Prop := (∀ x, x ≠ g → W'.heap[x]? = W.heap[x]?) ∧ W'.heap.size = W.heap.size
theorem But.refl (g : Nat) (W : World) : But g W W := ⟨fun _ _ => rfl, rfl⟩
theorem But.set {g : Nat} {W W' : World} (h : But g W W') (i : Nat) (v : Value) : But g W (W'.setCell ⟨g, i, none⟩ v) := ⟨fun x hx => (Below.heap_setCell _ ⟨g, i, none⟩ _ x hx).trans (h.1 x hx), by rw [World.size_setCell]; exact h.2⟩
theorem But.drew {g : Nat} {W W' : World} (h : But g W W') : But g W W'.drew := h
theorem But.view {g C : Nat} {W W' : World} {c0 c1 c2 : Value} (h : But g W W') (hv : ViewAt W C c0 c1 c2) (hne : C ≠ g) : ViewAt W' C c0 c1 c2 := (h.1 C hne).trans hv
theorem But.ints {g n : Nat} {W W' : World} {a : Option Addr} {xs : List Int} (h : But g W W') (hi : Ints W a n xs) (hne : ∀ b o, a = some ⟨b, o, none⟩ → b ≠ g) : Ints W' a n xs := by
  obtain ⟨h1, h2, h3, h4⟩ := hi
  refine ⟨h1, h2, h3, ?_⟩
  rcases h4 with h4 | ⟨b, off, e, hc⟩
  · exact .inl h4
  · exact .inr ⟨b, off, e, fun j hj => (World.cell?_of_block (w := W) (h.1 b (hne b off e))).trans (hc j hj)⟩
end Go.Proofs.YteoobeldmicjhaaGreat.V
namespace Go.Proofs.YteoobeldmicjhaaGreat.V
set_option maxRecDepth 20000
open Go.RowKit

/-- What Add, Sub, Mul make of two numbers. -/
def twoV (k a b : Int) : Int := wrap64 (if k = 3 then a + b else if k = 4 then a - b else a * b)
/-- The function that ofTwo answers. -/
def twoF (k : Int) : Nat := if k = 3 then 109 else if k = 4 then 110 else 111

theorem two_any (k a b : Int) (hk : k = 3 ∨ k = 4 ∨ k = 5) (w : World) : Calls Tryz.prog (twoF k) #[.int .i64 a, .int .i64 b] w fun e w' => e = .returned (.int .i64 (twoV k a b)) ∧ w' = w := by
  rcases hk with rfl | rfl | rfl
  · show Calls Tryz.prog 109 _ _ _
    go_enter Tryz.func109, Tryz.ntmps109
    go_wp2
    go_ret
    exact ⟨rfl, rfl⟩
  · show Calls Tryz.prog 110 _ _ _
    go_enter Tryz.func110, Tryz.ntmps110
    go_wp2
    go_ret
    exact ⟨rfl, rfl⟩
  · show Calls Tryz.prog 111 _ _ _
    go_enter Tryz.func111, Tryz.ntmps111
    go_wp2
    go_ret
    exact ⟨rfl, rfl⟩
theorem ofTwo_any (k : Int) (hk : k = 3 ∨ k = 4 ∨ k = 5) (w : World) : Calls Tryz.prog 82 #[.int .i64 k] w fun e w' => e = .returned (.func (Fn.func (twoF k)) #[] #[]) ∧ w' = w := by
  rcases hk with rfl | rfl | rfl
  all_goals
    go_enter Tryz.func82, Tryz.ntmps82
    go_wp2
    go_ret
    exact ⟨rfl, rfl⟩

theorem But.heap {g : Nat} {W W' W'' : World} (h : But g W W') (e : W''.heap = W'.heap) : But g W W'' := ⟨fun x hx => by rw [e]; exact h.1 x hx, by rw [e]; exact h.2⟩
theorem rowIs_heap {W W' : World} {g : Nat} {t : TypeId} {n : Nat} {f : Nat → Value} (h : W.rowIs g t n f) (e : W'.heap = W.heap) : W'.rowIs g t n f := h.of_block (by rw [e])

/-- A call of a function with a body enters it. -/
theorem enters {f : FuncId} {fn : Func} (hf : Tryz.prog.funcs[f]? = some fn) (hn : (fn.name == "runtime.NumGoroutine") = false) (hb : fn.body.isNone = false) (args : Array Value) (w : World) : (callFunc f args).run Tryz.prog w = .ok (.enter f args) w := by
  simp [callFunc, go_sem, hf]
  rw [if_neg (by intro e; rw [e] at hn; simp at hn), if_neg (by intro e; rw [e] at hb; simp at hb)]

set_option maxHeartbeats 1000000 in
theorem fill_any (f : FuncId) (caps : Array Value) (g n : Nat) (vs zs : List Int) (hvs : vs.length = n) (w : World) (hn : n ≤ 9223372036854775807) (hcf : ∀ (args : Array Value) (w : World), (callFunc f args).run Tryz.prog w = .ok (.enter f args) w) (hrow : w.rowIs g 2 n (onWay vs zs 0))
    (hcall : ∀ (i : Nat) (W : World), i < n → But g w W → Calls Tryz.prog f (#[.int .i64 i] ++ caps) W fun e W' => e = .returned (.int .i64 (vs[i]?.getD 0)) ∧ W'.heap = W.heap ∧ Below 0 W W') :
    Calls Tryz.prog 48 #[.slice (some ⟨g, 0, none⟩) n n, .func (Fn.func f) #[] caps] w fun e w' => e = .returned (.tuple #[]) ∧ w'.rowIs g 2 n (onWay vs zs n) ∧ But g w w' ∧ Below 0 w w' := by
  have HC := hide hcall
  have HR0 := hide hrow
  clear hcall hrow
  go_enter Tryz.func48, Tryz.ntmps48
  go_wp2
  go_loopw [7] (fun i wr => ∃ k : Nat, k ≤ n ∧ i = .int .i64 k ∧ wr.rowIs g 2 n (onWay vs zs k) ∧ But g w wr ∧ Below 0 w wr) (fun i _ => n - (intOf i).toNat)
  case atStart => exact ⟨0, Nat.zero_le _, rfl, HR0.out, But.refl _ _, Below.refl _ _⟩
  case round =>
    obtain ⟨k, hk, rfl, hrow, hB, h0⟩ := hrel
    have HR := hide hrow
    have HB := hide hB
    have H0 := hide h0
    clear hrow hB h0
    by_cases hlt : k < n
    · have HCK := hide (HC.out k wr hlt HB.out)
      obtain ⟨X, hX⟩ : ∃ X, X = vs[k]?.getD 0 := ⟨_, rfl⟩
      rw [← hX] at HCK
      have HX := hide hX
      clear hX
      go_wp2_with (refine HCK.out.mono ?_; rintro e w1 ⟨rfl, hw1, h01⟩; have H01 := hide (H0.out.trans h01); have HB1 := hide (HB.out.heap hw1); have HR1 := hide (rowIs_heap HR.out hw1); have hr := HR1.out.cell hlt; have hf := HR1.out.frozen k; clear hw1 h01)
      go_roundw
      case rel =>
        refine ⟨k + 1, by omega, by go_num, (HR1.out.set k (.int .i64 X)).congr (fun j _ => ?_), HB1.out.set k _, H01.out.setCell (p := ⟨g, k, none⟩) (Nat.zero_le _) _⟩
        rw [HX.out]; exact onWay_succ _ _ k j
      case measure => simp [intOf]; omega
    · obtain rfl : k = n := by omega
      go_wp2
      exact bodyPost_end (v := .tuple #[]) (by simp [results, Tryz.results48, go_sem]) rfl ⟨rfl, HR.out, HB.out, H0.out⟩
end Go.Proofs.YteoobeldmicjhaaGreat.V
