/-
  Contract: view.Index. Contracts: view.fresh, view.blank, view.reached, adjointref1.made. Contracts: view.reached, adjointref1.made. Contracts: view.permutes, view.rises, adjointref1.Rising; what a permutation is, said in two ways. Contract: view.permutes. Contract: view.Turn. Contract: view.Turn, whatever it is asked. Contracts: view.rises, adjointref1.Rising; sums over rising lists. Contracts: adjointref2.SameList, slices.Equal, array.Wrong, adjointref2.Wrong, array.inner. A world of which all but one block is as it was.
-/
import Derived.Test.YteoobeldmicjhaaK5
import Derived.Test.YteoobeldmicjhaaK4
import Derived.Test.YteoobeldmicjhaaK0
import Derived.Deep.OwnRows
import Derived.Test.YteoobeldmicjhaaK3
import Derived.Laws.CopyOwn
import Derived.Deep.RegionWith
import Derived.BigRegion
namespace Go.Proofs.Yteoobeldmicjhaa.V
open Go.RowKit Go.Shelf
attribute [local go_sem] Oper.semAt_some


def idxV (xs : List Int) (p : Int) (k : Nat) : Int := p / beh xs k % xs[k]?.getD 0
def indexV (xs : List Int) (p : Int) : List Int := (List.range xs.length).map (idxV xs p)
def indexE (xs : List Int) (p : Int) : Int := if sizeE xs ≠ 0 then sizeE xs else if p < 0 ∨ sizeN xs ≤ p then 4 else 0
def indexL (xs : List Int) (p : Int) : List Int := if sizeE xs ≠ 0 then [] else if p < 0 ∨ sizeN xs ≤ p then [] else indexV xs p

/-- The row of an index on its way: those that have come hold their number, the others 0. -/
def rowF (xs : List Int) (p : Int) {n : Nat} (pre : List (Fin n)) (j : Nat) : Value := .int .i64 (if pre.any (fun k => k.1 == j) = true then idxV xs p j else 0)
theorem rowF_snoc (xs : List Int) (p : Int) {n : Nat} (pre : List (Fin n)) (k : Fin n) (j : Nat) : (if j = k.1 then .int .i64 (idxV xs p k.1) else rowF xs p pre j) = rowF xs p (pre ++ [k]) j := by
  unfold rowF
  rw [List.any_append]
  by_cases e : j = k.1
  · subst e; simp
  · have : (k.1 == j) = false := by simp; omega
    simp [e, this]
theorem down_any (n j : Nat) (hj : j < n) : (down n 0).any (fun k => k.1 == j) = true := by
  rw [List.any_eq_true]
  exact ⟨⟨j, hj⟩, by simp [down], by simp⟩
theorem rowF_all (xs : List Int) (p : Int) (n j : Nat) (hj : j < n) : rowF xs p (down n 0) j = .int .i64 (idxV xs p j) := by
  unfold rowF; rw [down_any n j hj]; simp

theorem row_own {β : Type} (R : Nat) (t : TypeId) (n : Nat) (f : β → Nat → Value) : Own (fun s W => W.rowIs R t n (f s)) := fun s X Y row hs hg hrow =>
  hs.of_block (hg.block R hs.lt (fun e' => by obtain ⟨o, ho, hc⟩ := hrow R e'.symm; obtain ⟨c, hb, _⟩ := hs; rw [hb] at ho; cases ho; cases hc))
theorem row_setBox {w : World} {b : Nat} {t : TypeId} {n : Nat} {f : Nat → Value} (h : w.rowIs b t n f) {b' : Nat} (hne : b ≠ b') (v : Value) : (w.setCell ⟨b', 0, none⟩ v).rowIs b t n f := h.setOther (a := ⟨b', 0, none⟩) hne v
theorem boxed_setRow {W : World} {B : Nat} {t : TypeId} {v : Value} (h : Boxed W B t v) {b : Nat} (hne : B ≠ b) (i : Nat) (u : Value) : Boxed (W.setCell ⟨b, i, none⟩ u) B t v := (Below.heap_setCell W ⟨b, i, none⟩ u B hne).trans h

theorem wrap_in (n : Int) (h1 : -9223372036854775808 ≤ n) (h2 : n ≤ 9223372036854775807) : IntKind.i64.wrap n = n := by
  simp only [IntKind.wrap, IntKind.bits, IntKind.signed]
  simp
  split <;> omega

theorem idxV_bd {xs : List Int} {p : Int} (hg : ∀ x ∈ xs, 1 ≤ x) {k : Nat} (hk : k < xs.length) : 0 ≤ idxV xs p k ∧ idxV xs p k < xs[k]?.getD 0 := by
  have := hg _ (mem_getD xs k hk)
  unfold idxV
  exact ⟨Int.emod_nonneg _ (by omega), Int.emod_lt_of_pos _ (by omega)⟩

theorem index_good {xs : List Int} {p : Int} (hE : sizeE xs = 0) (h0 : 0 ≤ p) (h1 : p < sizeN xs) : (∀ x ∈ xs, 1 ≤ x ∧ x ≤ 4096) ∧ prod xs ≤ 65536 ∧ sizeN xs = prod xs ∧ xs.length ≤ 6 := by
  obtain ⟨z1, z2, z3, z4⟩ := sizeE_ok hE
  have hpos : ∀ x ∈ xs, 1 ≤ x := fun x hx => by
    have := z2 x hx
    by_cases e : x = 0
    · subst e; have := z4 hx; omega
    · omega
  exact ⟨fun x hx => ⟨hpos x hx, (z2 x hx).2⟩, (z3 hpos).1, (z3 hpos).2, z1⟩

end Go.Proofs.Yteoobeldmicjhaa.V
namespace Go.Proofs.Yteoobeldmicjhaa.V
open Go.RowKit



set_option maxHeartbeats 1000000 in
theorem fresh_any (a : Option Addr) (len cap : Nat) (xs : List Int) (w : World) (h : Ints w a len xs) (h6 : len ≤ 6) :
    Calls Try.prog 28 #[.slice a len cap] w fun e w' => (∃ g : Nat, e = .returned (.slice (some ⟨g, 0, none⟩) len len) ∧ RowI w' g len xs ∧ w.heap.size ≤ g) ∧ Below w.heap.size w w' := by
  have H := hide h
  have HL := hide h.1
  have hmk := run_make_row' (P := Try.prog) 22 3 (.int .i64 0) 8 Try.underlying22 info_int rfl .i64 .i64 len (by omega) (by omega)
  clear h
  obtain ⟨cs, hcs⟩ : ∃ cs : List Value, cs = xs.map (Value.int .i64) := ⟨_, rfl⟩
  have HCS := hide hcs
  have hlen : cs.length = len := by rw [hcs]; simp [HL.out]
  have HLEN := hide hlen
  clear hcs hlen
  go_enter Try.func28, Try.ntmps28
  go_wp2_with (refine wpList_copy_splice rfl (.tmp 7) (.tmp 8) 22 22 rfl 3 Try.underlying22 size_int (some ⟨w.heap.size, 0, none⟩) a len len len cap rfl rfl w.heap.size 0 (List.replicate len (.int .i64 0)) 3 ?hg cs ?hn ?hpos ?hfit ?h1 w.heap.size w ?hb (Nat.le_refl _) ?_)
  case hg =>
    have := World.alloc_heap_new w (.cells (madeCells #[.int .i64 0] len) 3)
    rw [this]
    rw [← toList_madeCells_one]
  case hn => rw [HLEN.out]; simp
  case hpos =>
    intro h0
    rw [HLEN.out] at h0
    obtain ⟨b, off, rfl, hb, hc⟩ := H.out.at h0
    refine ⟨_, rfl, fun j v hj => ?_⟩
    have hjl : j < len := by rw [← HLEN.out]; exact (List.getElem?_eq_some_iff.1 hj).1
    have h2 := hc j hjl
    have h3 : v = .int .i64 (xs[j]?.getD 0) := by
      rw [HCS.out] at hj
      simp [HL.out, hjl] at hj ⊢
      exact hj.symm
    rw [h3]
    have hb' : Below w.heap.size w (w.alloc (.cells (madeCells #[.int .i64 0] len) 3)) := (Below.refl _ _).alloc (Nat.le_refl _) _
    rw [Go.WideShapes.add_plain]
    exact (hb'.cell (p := ⟨b, off + j, none⟩) hb).trans h2
  case hfit => simp [HLEN.out]
  case h1 => intro v hv; rw [HCS.out] at hv; simp at hv; obtain ⟨x, _, rfl⟩ := hv; rfl
  case hb => exact (Below.refl _ _).alloc (Nat.le_refl _) _
  intro w' hrow hbel
  have HB := hide hbel
  clear hbel hmk
  go_wp2
  go_ret
  refine ⟨⟨_, rfl, ?_, Nat.le_refl _⟩, HB.out⟩
  refine ⟨_, hrow.out, by simp [splice, HLEN.out], fun i hi => ?_⟩
  have hs : splice (List.replicate len (Value.int .i64 0)) 0 cs = cs := by simp [splice, HLEN.out]
  rw [hs, HCS.out]
  simp [HL.out, hi]

/-- A View's block that has been laid lies on. -/
theorem cells3 {w W w1 : World} {c0 c1 c2 : Value} {t : TypeId} (hW : W.heap[w.heap.size]? = some (.cells #[c0, c1, c2] t (0, 0))) (hb : Below W.heap.size W w1) :
    w1.cell? ⟨w.heap.size, 0, none⟩ = some c0 ∧ w1.cell? ⟨w.heap.size, 1, none⟩ = some c1 ∧ w1.cell? ⟨w.heap.size, 2, none⟩ = some c2 ∧ w1.frozen? ⟨w.heap.size, 0, none⟩ = false ∧ w1.frozen? ⟨w.heap.size, 1, none⟩ = false ∧ w1.frozen? ⟨w.heap.size, 2, none⟩ = false ∧ w.heap.size < w1.heap.size := by
  have hl := (Array.getElem?_eq_some_iff.1 hW).1
  have h1 : w1.heap[w.heap.size]? = some (.cells #[c0, c1, c2] t (0, 0)) := (hb.block _ hl).trans hW
  have hl1 := (Array.getElem?_eq_some_iff.1 h1).1
  refine ⟨?_, ?_, ?_, ?_, ?_, ?_, hl1⟩ <;> simp [World.cell?, World.frozen?, h1]

set_option maxRecDepth 100000 in
set_option maxHeartbeats 2000000 in
theorem blank_any (s : Int) (a : Option Addr) (len cap : Nat) (xs : List Int) (w : World) (h : Ints w a len xs) (h6 : len ≤ 6) :
    Calls Try.prog 63 #[.int .i64 s, .slice a len cap] w fun e w' => (∃ g1 g2 : Nat, e = .returned (.agg #[.int .i64 s, .slice (some ⟨g1, 0, none⟩) len len, .slice (some ⟨g2, 0, none⟩) len len]) ∧ (RowI w' g1 len xs ∧ w'.rowIs g2 3 len (fun _ => .int .i64 0)) ∧ g1 ≠ g2 ∧ w.heap.size ≤ g1 ∧ w.heap.size ≤ g2) ∧ Below w.heap.size w w' := by
  have H := hide h
  have hmk := run_make_row' (P := Try.prog) 22 3 (.int .i64 0) 8 Try.underlying22 info_int rfl .i64 .i64 len (by omega) (by omega)
  clear h
  go_enter Try.func63, Try.ntmps63
  go_wp2
  go_region_with (go_at_call 28; refine (fresh_any _ _ _ xs _ (H.out.below (by first | exact ((Below.refl _ _).alloc (Nat.le_refl _) _).drew | exact (((Below.refl _ _).alloc (Nat.le_refl _) _).alloc (by simp) _).drew)) h6).mono ?_; rintro e w1 ⟨⟨g, rfl, hr, hg⟩, hb⟩; have HR := hide hr; have HG := hide hg; have HB := hide hb; have hz := hb.size; simp at hz; obtain ⟨k0, k1, k2, f0, f1, f2, hz1⟩ := cells3 (w := w) (t := 50) (c0 := .int .i64 0) (c1 := .slice none 0 0) (c2 := .slice none 0 0) (by first | exact World.alloc_heap_new w _ | exact (Below.heap_alloc _ _ _ (by simp)).trans (World.alloc_heap_new w _)) hb; clear hr hg hb hz)
  all_goals go_wp2
  · have hg := HG.out
    have hg' : w.heap.size + 1 ≤ g := by simpa using hg
    have hgl := HR.out.lt
    have hr1 : RowI (((w1.setCell ⟨w.heap.size, 0, none⟩ (.int .i64 s)).setCell ⟨w.heap.size, 1, none⟩ (.slice (some ⟨g, 0, none⟩) len len)).setCell ⟨w.heap.size, 2, none⟩ (.slice (some ⟨w1.heap.size, 0, none⟩) len len)) g len xs :=
      ((HR.out.setOther (a := ⟨w.heap.size, 0, none⟩) (by simp; omega) _).setOther (a := ⟨w.heap.size, 1, none⟩) (by simp; omega) _).setOther (a := ⟨w.heap.size, 2, none⟩) (by simp; omega) _
    have hr2 := World.rowIs_made (((w1.setCell ⟨w.heap.size, 0, none⟩ (.int .i64 s)).setCell ⟨w.heap.size, 1, none⟩ (.slice (some ⟨g, 0, none⟩) len len)).setCell ⟨w.heap.size, 2, none⟩ (.slice (some ⟨w1.heap.size, 0, none⟩) len len)) (.int .i64 0) len 3
    simp only [World.size_setCell] at hr2
    have hb : Below w.heap.size w w1 := ((Below.refl _ w).alloc (Nat.le_refl _) _).drew.trans (HB.out.mono (by simp))
    refine bodyPost_ret (v := .agg #[.int .i64 s, .slice (some ⟨g, 0, none⟩) len len, .slice (some ⟨w1.heap.size, 0, none⟩) len len]) (by simp [results, Try.results63, go_sem, k0, k1, k2, hz1]) rfl ⟨⟨g, _, rfl, ⟨World.rowIs.alloc hr1 _, hr2⟩, by omega, by omega, by omega⟩, ?_⟩
    exact (((hb.setCell (p := ⟨w.heap.size, 0, none⟩) (Nat.le_refl _) _).setCell (p := ⟨w.heap.size, 1, none⟩) (Nat.le_refl _) _).setCell (p := ⟨w.heap.size, 2, none⟩) (Nat.le_refl _) _).alloc (by simp; omega) _
  · have hg := HG.out
    have hg' : w.heap.size + 2 ≤ g := by simpa using hg
    have hr1 : RowI (((w1.setCell ⟨w.heap.size, 0, none⟩ (.int .i64 s)).setCell ⟨w.heap.size, 1, none⟩ (.slice (some ⟨g, 0, none⟩) len len)).setCell ⟨w.heap.size, 2, none⟩ (.slice (some ⟨w.heap.size + 1, 0, none⟩) len len)) g len xs :=
      ((HR.out.setOther (a := ⟨w.heap.size, 0, none⟩) (by simp; omega) _).setOther (a := ⟨w.heap.size, 1, none⟩) (by simp; omega) _).setOther (a := ⟨w.heap.size, 2, none⟩) (by simp; omega) _
    have hr0 := World.rowIs_made (w.alloc (.cells #[.int .i64 0, .slice none 0 0, .slice none 0 0] 50)) (.int .i64 0) len 3
    simp only [World.size_alloc] at hr0
    have hr00 : w1.rowIs (w.heap.size + 1) 3 len (fun _ => .int .i64 0) := hr0.of_block (HB.out.block _ (by simp))
    have hr2 : (((w1.setCell ⟨w.heap.size, 0, none⟩ (.int .i64 s)).setCell ⟨w.heap.size, 1, none⟩ (.slice (some ⟨g, 0, none⟩) len len)).setCell ⟨w.heap.size, 2, none⟩ (.slice (some ⟨w.heap.size + 1, 0, none⟩) len len)).rowIs (w.heap.size + 1) 3 len (fun _ => .int .i64 0) :=
      ((hr00.setOther (a := ⟨w.heap.size, 0, none⟩) (by simp) _).setOther (a := ⟨w.heap.size, 1, none⟩) (by simp) _).setOther (a := ⟨w.heap.size, 2, none⟩) (by simp) _
    have hb : Below w.heap.size w w1 := (((Below.refl _ w).alloc (Nat.le_refl _) _).alloc (by simp) _).drew.trans (HB.out.mono (by simp; omega))
    refine bodyPost_ret (v := .agg #[.int .i64 s, .slice (some ⟨g, 0, none⟩) len len, .slice (some ⟨w.heap.size + 1, 0, none⟩) len len]) (by simp [results, Try.results63, go_sem, k0, k1, k2]) rfl ⟨⟨g, _, rfl, ⟨hr1, hr2⟩, by omega, by omega, by omega⟩, ?_⟩
    exact ((hb.setCell (p := ⟨w.heap.size, 0, none⟩) (Nat.le_refl _) _).setCell (p := ⟨w.heap.size, 1, none⟩) (Nat.le_refl _) _).setCell (p := ⟨w.heap.size, 2, none⟩) (Nat.le_refl _) _
end Go.Proofs.Yteoobeldmicjhaa.V
namespace Go.Proofs.Yteoobeldmicjhaa.V
open Go.RowKit

set_option maxHeartbeats 1000000 in
theorem reached_any (s : Int) (da : Option Addr) (dl dc : Nat) (sa : Option Addr) (sl sc : Nat) (ss : List Int) (w : World) (h : Ints w sa sl ss) :
    Calls Try.prog 65 #[.agg #[.int .i64 s, .slice da dl dc, .slice sa sl sc]] w fun e w' => e = .returned (if beyondB s ss = true then .tuple #[.agg #[.int .i64 0, .slice none 0 0, .slice none 0 0], .int .i64 5] else .tuple #[.agg #[.int .i64 s, .slice da dl dc, .slice sa sl sc], .int .i64 0]) ∧ Below w.heap.size w w' := by
  have H := hide h
  clear h
  have hb2 : Below w.heap.size w ((w.alloc (.cells #[.int .i64 s, .slice da dl dc, .slice sa sl sc] 50)).alloc (.cells #[.int .i64 0, .slice none 0 0, .slice none 0 0] 50)) := ((Below.refl _ _).alloc (Nat.le_refl _) _).alloc (by simp) _
  have HB2 := hide hb2
  clear hb2
  cases c : beyondB s ss with
  | true =>
    rw [if_pos rfl]
    have C := hide c
    clear c
    go_enter Try.func65, Try.ntmps65
    go_wp2_with fail
    refine (beyond_any _ _ _ _ _ _ _ ss _ (H.out.below HB2.out)).mono ?_
    rintro e w1 ⟨rfl, hb⟩
    rw [C.out]
    have HB := hide (Below.on HB2.out hb)
    obtain ⟨hc1, hf1⟩ := bcell hb
    have hz := hb.size
    simp at hz
    clear hb
    go_wp2
    refine bodyPost_ret (v := .tuple #[.agg #[.int .i64 0, .slice none 0 0, .slice none 0 0], .int .i64 5]) (by simp [results, Try.results65, go_sem, hc1]) rfl ⟨rfl, ?_⟩
    exact ((HB.out.setCell (p := ⟨w.heap.size + 1, 0, none⟩) (by simp) _).setCell (p := ⟨w.heap.size + 1, 1, none⟩) (by simp) _).setCell (p := ⟨w.heap.size + 1, 2, none⟩) (by simp) _
  | false =>
    rw [if_neg (by simp)]
    have C := hide c
    clear c
    go_enter Try.func65, Try.ntmps65
    go_wp2_with fail
    refine (beyond_any _ _ _ _ _ _ _ ss _ (H.out.below HB2.out)).mono ?_
    rintro e w1 ⟨rfl, hb⟩
    rw [C.out]
    have HB := hide (Below.on HB2.out hb)
    obtain ⟨hc1, hf1⟩ := bcell hb
    have hz := hb.size
    simp at hz
    clear hb
    go_wp2
    refine bodyPost_ret (v := .tuple #[.agg #[.int .i64 s, .slice da dl dc, .slice sa sl sc], .int .i64 0]) (by simp [results, Try.results65, go_sem, hc1]) rfl ⟨rfl, ?_⟩
    exact ((HB.out.setCell (p := ⟨w.heap.size + 1, 0, none⟩) (by simp) _).setCell (p := ⟨w.heap.size + 1, 1, none⟩) (by simp) _).setCell (p := ⟨w.heap.size + 1, 2, none⟩) (by simp) _

end Go.Proofs.Yteoobeldmicjhaa.V
namespace Go.Proofs.Yteoobeldmicjhaa.V
open Go.RowKit

/-- Those ahead of place k are numbers below n, no two alike. -/
def goodPre (xs : List Int) (n k : Nat) : Prop := ∀ i, i < k → 0 ≤ xs[i]?.getD 0 ∧ xs[i]?.getD 0 < n ∧ ∀ j, j < i → xs[j]?.getD 0 ≠ xs[i]?.getD 0
def PermOk (xs : List Int) (n : Nat) : Prop := xs.length = n ∧ goodPre xs n n
theorem goodPre_succ {xs : List Int} {n k : Nat} (h : goodPre xs n k) (h0 : 0 ≤ xs[k]?.getD 0) (h1 : xs[k]?.getD 0 < n) (h2 : ∀ j, j < k → xs[j]?.getD 0 ≠ xs[k]?.getD 0) : goodPre xs n (k + 1) := fun i hi => by
  by_cases e : i = k
  · subst e; exact ⟨h0, h1, h2⟩
  · exact h i (by omega)

/-- How often the numbers below n are met in a list. -/
def met (xs : List Int) : Nat → Nat
  | 0 => 0
  | n + 1 => met xs n + xs.countP (fun x => x == (n : Int))
theorem met_cons (x : Int) (xs : List Int) : ∀ n : Nat, met (x :: xs) n = met xs n + if 0 ≤ x ∧ x < n then 1 else 0
  | 0 => by
    have : ¬ (0 ≤ x ∧ x < ((0 : Nat) : Int)) := by omega
    rw [if_neg this]; rfl
  | n + 1 => by
    rw [met, met, met_cons x xs n, List.countP_cons]
    by_cases e : x = (n : Int)
    · subst e
      have h1 : ¬ (0 ≤ (n : Int) ∧ (n : Int) < (n : Int)) := by omega
      have h2 : 0 ≤ (n : Int) ∧ (n : Int) < ((n + 1 : Nat) : Int) := by omega
      rw [if_neg h1, if_pos h2]; simp; omega
    · have h3 : (x == (n : Int)) = false := by simp [e]
      rw [h3]
      by_cases h : 0 ≤ x ∧ x < (n : Int)
      · have h2 : 0 ≤ x ∧ x < ((n + 1 : Nat) : Int) := by omega
        rw [if_pos h, if_pos h2]; simp; omega
      · have h2 : ¬ (0 ≤ x ∧ x < ((n + 1 : Nat) : Int)) := by omega
        rw [if_neg h, if_neg h2]; simp
theorem met_le (n : Nat) : ∀ xs : List Int, met xs n ≤ xs.length
  | [] => by have : ∀ n, met [] n = 0 := fun n => by induction n with | zero => rfl | succ n ih => simp [met, ih]
             simp [this]
  | x :: xs => by rw [met_cons]; have := met_le n xs; simp; split <;> omega
theorem met_all (n : Nat) : ∀ xs : List Int, met xs n = xs.length → ∀ x ∈ xs, 0 ≤ x ∧ x < n
  | [], _, _, h => by cases h
  | x :: xs, h, y, hy => by
    rw [met_cons] at h
    have hle := met_le n xs
    simp at h
    by_cases hx : 0 ≤ x ∧ x < (n : Int)
    · rw [if_pos hx] at h
      rcases List.mem_cons.1 hy with rfl | hy'
      · exact hx
      · exact met_all n xs (by omega) y hy'
    · rw [if_neg hx] at h; omega
theorem met_of_all (n : Nat) : ∀ xs : List Int, (∀ x ∈ xs, 0 ≤ x ∧ x < n) → met xs n = xs.length
  | [], _ => by have : ∀ n, met [] n = 0 := fun n => by induction n with | zero => rfl | succ n ih => simp [met, ih]
                simp [this]
  | x :: xs, h => by rw [met_cons, met_of_all n xs (fun y hy => h y (by simp [hy])), if_pos (h x (by simp))]; simp
theorem met_ge (xs : List Int) : ∀ n : Nat, (∀ k : Nat, k < n → (k : Int) ∈ xs) → n ≤ met xs n
  | 0, _ => Nat.zero_le _
  | n + 1, h => by
    have ih := met_ge xs n (fun k hk => h k (by omega))
    have : 0 < xs.countP (fun x => x == (n : Int)) := List.countP_pos_iff.2 ⟨_, h n (by omega), by simp⟩
    rw [met]; omega
/-- If each is met at most once, and there are n of them in all, each is met. -/
theorem met_full (xs : List Int) : ∀ n : Nat, (∀ k : Nat, k < n → xs.countP (fun x => x == (k : Int)) ≤ 1) → met xs n ≤ n ∧ (met xs n = n → ∀ k : Nat, k < n → (k : Int) ∈ xs)
  | 0, _ => ⟨Nat.le_refl _, fun _ k hk => by omega⟩
  | n + 1, h => by
    obtain ⟨i1, i2⟩ := met_full xs n (fun k hk => h k (by omega))
    have hc := h n (by omega)
    refine ⟨by rw [met]; omega, fun he k hk => ?_⟩
    rw [met] at he
    have h1 : met xs n = n := by omega
    by_cases e : k = n
    · subst e
      have : 0 < xs.countP (fun x => x == (k : Int)) := by omega
      obtain ⟨y, hy, hb⟩ := List.countP_pos_iff.1 this
      simp at hb
      exact hb ▸ hy
    · exact i2 h1 k (by omega)

theorem countP_le_one {xs : List Int} (v : Int) (h : ∀ i j, i < xs.length → j < i → xs[j]?.getD 0 ≠ xs[i]?.getD 0) : xs.countP (fun x => x == v) ≤ 1 := by
  induction xs with
  | nil => simp
  | cons x r ih =>
    have ih' := ih (fun i j hi hj => by
      have := h (i + 1) (j + 1) (by simp; omega) (by omega)
      simpa using this)
    rw [List.countP_cons]
    by_cases e : x = v
    · subst e
      have h0 : r.countP (fun y => y == x) = 0 := by
        rw [List.countP_eq_zero]
        intro y hy hb
        simp at hb
        subst hb
        obtain ⟨k, hk, he⟩ := List.getElem_of_mem hy
        have := h (k + 1) 0 (by simp; omega) (by omega)
        simp [hk, he] at this
      simp [h0]
    · have : (x == v) = false := by simp [e]
      simp [this]; exact ih'
theorem perm_iff {xs : List Int} {n : Nat} (hl : xs.length = n) : goodPre xs n n ↔ ∀ k : Nat, k < n → (k : Int) ∈ xs := by
  constructor
  · intro h
    have hr : ∀ x ∈ xs, 0 ≤ x ∧ x < n := fun x hx => by
      obtain ⟨i, hi, he⟩ := List.getElem_of_mem hx
      have := h i (by omega)
      simp [hi, he] at this
      exact ⟨this.1, this.2.1⟩
    have h1 := met_of_all n xs hr
    exact (met_full xs n (fun k _ => countP_le_one _ (fun i j hi hj => (h i (by omega)).2.2 j hj))).2 (by omega)
  · intro h
    have h1 := met_ge xs n h
    have h2 := met_le n xs
    have hr := met_all n xs (by omega)
    intro i hi
    have hil : i < xs.length := by omega
    have hm := hr _ (mem_getD xs i hil)
    refine ⟨hm.1, hm.2, fun j hj he => ?_⟩
    -- two alike: one could be left out, and all would still be met
    have h3 : ∀ k : Nat, k < n → (k : Int) ∈ xs.eraseIdx i := fun k hk => by
      obtain ⟨t, ht, hte⟩ := List.getElem_of_mem (h k hk)
      by_cases e : t = i
      · rw [List.mem_eraseIdx_iff_getElem?]
        refine ⟨j, by omega, ?_⟩
        have hjl : j < xs.length := by omega
        subst e
        simp [hjl, hil] at he
        simp [hjl, he, hte]
      · rw [List.mem_eraseIdx_iff_getElem?]
        exact ⟨t, e, by simp [ht, hte]⟩
    have h4 := met_ge (xs.eraseIdx i) n h3
    have h5 := met_le n (xs.eraseIdx i)
    rw [List.length_eraseIdx_of_lt hil] at h5
    omega
end Go.Proofs.Yteoobeldmicjhaa.V
namespace Go.Proofs.Yteoobeldmicjhaa.V
open Go.RowKit

/-- It answers whether. -/
def Tells (e : Ending) (p : Prop) : Prop := ∃ r : Bool, e = .returned (.bool r) ∧ (r = true ↔ p)
/-- What has been seen among the first k. -/
def seen (xs : List Int) (k : Nat) (j : Nat) : Value := .bool ((xs.take k).any fun x => x == (j : Int))
theorem seen_succ (xs : List Int) (k j : Nat) (m : Nat) (h : k < xs.length) (hm : xs[k]?.getD 0 = (m : Int)) : (if j = m then .bool true else seen xs k j) = seen xs (k + 1) j := by
  unfold seen
  rw [take_succ_getD xs k h, List.any_append, hm]
  by_cases e : j = m
  · subst e; simp
  · have : ((m : Int) == (j : Int)) = false := by simp; omega
    simp [e, this]

set_option maxRecDepth 100000 in
set_option maxHeartbeats 2000000 in
theorem permutes_any (a : Option Addr) (len cap : Nat) (xs : List Int) (n : Nat) (w : World) (h : Ints w a len xs) (h6 : n ≤ 6) :
    Calls Try.prog 76 #[.slice a len cap, .int .i64 n] w fun e w' => Tells e (PermOk xs n) ∧ Below w.heap.size w w' := by
  have hl := h.1
  have hm := h.2.1
  have H := hide h
  clear h
  by_cases hn : len ≠ n
  · have hn1 : ((len : Int) != (n : Int)) = true := by simp; omega
    have P : Hid (¬ PermOk xs n) := fun hp => hn (by rw [← hl]; exact hp.1)
    clear hn hl
    go_enter Try.func76, Try.ntmps76
    go_wp2
    go_ret
    exact ⟨⟨false, rfl, by simp; exact P.out⟩, Below.refl _ _⟩
  obtain rfl : len = n := by omega
  have HL := hide hl
  clear hl hn
  go_enter Try.func76, Try.ntmps76
  go_wp2
  go_loopw [14] (fun i wr => ∃ k : Nat, k ≤ len ∧ i = .int .i64 k ∧ wr.rowIs w.heap.size 101 6 (seen xs k) ∧ Below w.heap.size w wr ∧ goodPre xs len k) (fun i _ => len - (intOf i).toNat)
  case atStart =>
    refine ⟨0, Nat.zero_le _, rfl, ?_, (Below.refl _ _).alloc (Nat.le_refl _) _, fun i hi => by omega⟩
    refine World.rowIs_alloc w #[.bool false, .bool false, .bool false, .bool false, .bool false, .bool false] 101 (seen xs 0) (fun i hi => ?_)
    have : i = 0 ∨ i = 1 ∨ i = 2 ∨ i = 3 ∨ i = 4 ∨ i = 5 := by simp at hi; omega
    rcases this with e | e | e | e | e | e <;> subst e <;> simp [seen]
  case round =>
    obtain ⟨k, hk, rfl, hrow, hB, hgood⟩ := hrel
    have HR := hide hrow
    have HB := hide hB
    have HG := hide hgood
    clear hrow hB hgood
    by_cases hlt : k < len
    · obtain ⟨b, off, rfl, hb, hc⟩ := H.out.at (by omega)
      have hck : wr.cell? ⟨b, off + k, none⟩ = some (.int .i64 (xs[k]?.getD 0)) := (HB.out.cell (p := ⟨b, off + k, none⟩) hb).trans (hc k hlt)
      have HKL : Hid (k < xs.length) := by rw [Hid, HL.out]; exact hlt
      clear hc
      by_cases q1 : xs[k]?.getD 0 < 0
      · go_wp2
        go_ret
        exact ⟨⟨false, rfl, by simp; exact fun hp => by have := hp.2 k hlt; omega⟩, HB.out⟩
      by_cases q2 : (len : Int) ≤ xs[k]?.getD 0
      · go_wp2
        go_ret
        exact ⟨⟨false, rfl, by simp; exact fun hp => by have := hp.2 k hlt; omega⟩, HB.out⟩
      obtain ⟨m, hm'⟩ : ∃ m : Nat, xs[k]?.getD 0 = (m : Int) := ⟨(xs[k]?.getD 0).toNat, by omega⟩
      have HM := hide hm'
      rw [hm'] at hck q1 q2
      have hm6 : m < 6 := by omega
      have hcm := HR.out.cell hm6
      have hfm := HR.out.frozen m
      clear hm'
      cases q3 : ((xs.take k).any fun x => x == (m : Int)) with
      | true =>
        have hcm' : wr.cell? ⟨w.heap.size, m, none⟩ = some (.bool true) := by rw [hcm]; simp [seen, q3]
        have Q3 := hide q3
        clear hcm q3
        go_wp2
        go_ret
        have hno : ¬ PermOk xs len := fun hp => by
          have q := Q3.out
          rw [List.any_eq_true] at q
          obtain ⟨y, hy, hye⟩ := q
          simp at hye
          obtain ⟨j, hj, hje⟩ := List.getElem_of_mem hy
          have hj' : j < k ∧ j < xs.length := by simp at hj; omega
          have := (hp.2 k hlt).2.2 j hj'.1
          apply this
          rw [HM.out, ← hye, ← hje]
          simp [hj'.2]
        exact ⟨⟨false, rfl, by simp; exact hno⟩, HB.out⟩
      | false =>
        have hcm' : wr.cell? ⟨w.heap.size, m, none⟩ = some (.bool false) := by rw [hcm]; simp [seen, q3]
        have Q3 := hide q3
        clear hcm q3
        go_wp2
        go_roundw
        case rel =>
          refine ⟨k + 1, by omega, by go_num, (HR.out.set m _).congr (fun j _ => seen_succ xs k j m HKL.out HM.out), HB.out.setCell (p := ⟨w.heap.size, m, none⟩) (Nat.le_refl _) _, goodPre_succ HG.out (by rw [HM.out]; omega) (by rw [HM.out]; omega) (fun j hj he => ?_)⟩
          have q := Q3.out
          rw [List.any_eq_false] at q
          have hjl : j < xs.length := by have := HKL.out; omega
          apply q (xs[j]?.getD 0) _ (by rw [he, HM.out]; simp)
          rw [List.mem_iff_getElem?]
          exact ⟨j, by simp [List.getElem?_take_of_lt hj, hjl]⟩
        case measure => simp [intOf]; omega
    · go_wp2
      go_ret
      obtain rfl : k = len := by omega
      exact ⟨⟨true, rfl, by simp; exact ⟨HL.out, HG.out⟩⟩, HB.out⟩
end Go.Proofs.Yteoobeldmicjhaa.V
namespace Go.Proofs.Yteoobeldmicjhaa.V
open Go.RowKit

/-- A list taken in another order. -/
def taken (xs perm : List Int) : List Int := perm.map fun k => xs[k.toNat]?.getD 0
/-- The value of a View that answers nothing. -/
def zeroV : Value := .agg #[.int .i64 0, .slice none 0 0, .slice none 0 0]

/-- A block that holds a View. -/
def ViewAt (w : World) (b : Nat) (c0 c1 c2 : Value) : Prop := w.heap[b]? = some (.cells #[c0, c1, c2] 50 (0, 0))
theorem ViewAt.lt {w : World} {b : Nat} {c0 c1 c2 : Value} (h : ViewAt w b c0 c1 c2) : b < w.heap.size := (Array.getElem?_eq_some_iff.1 h).1
theorem ViewAt.below {w w' : World} {b : Nat} {c0 c1 c2 : Value} (h : ViewAt w b c0 c1 c2) (hb : Below w.heap.size w w') : ViewAt w' b c0 c1 c2 := (hb.block b h.lt).trans h
theorem ViewAt.alloc {w : World} {b : Nat} {c0 c1 c2 : Value} (h : ViewAt w b c0 c1 c2) (o : Obj) : ViewAt (w.alloc o) b c0 c1 c2 := (Below.heap_alloc _ _ _ h.lt).trans h
theorem ViewAt.set {w : World} {b : Nat} {c0 c1 c2 : Value} (h : ViewAt w b c0 c1 c2) {p : Addr} (hne : b ≠ p.block) (u : Value) : ViewAt (w.setCell p u) b c0 c1 c2 := (Below.heap_setCell _ _ _ _ hne).trans h
theorem ViewAt.cells {w : World} {b : Nat} {c0 c1 c2 : Value} (h : ViewAt w b c0 c1 c2) : (w.cell? ⟨b, 0, none⟩ = some c0 ∧ w.cell? ⟨b, 1, none⟩ = some c1 ∧ w.cell? ⟨b, 2, none⟩ = some c2) ∧ (w.frozen? ⟨b, 0, none⟩ = false ∧ w.frozen? ⟨b, 1, none⟩ = false ∧ w.frozen? ⟨b, 2, none⟩ = false) := by
  unfold ViewAt at h
  refine ⟨⟨?_, ?_, ?_⟩, ?_, ?_, ?_⟩ <;> simp [World.cell?, World.frozen?, h]
theorem ViewAt.new (w : World) (c0 c1 c2 : Value) : ViewAt (w.alloc (.cells #[c0, c1, c2] 50)) w.heap.size c0 c1 c2 := World.alloc_heap_new w _

/-- A row on its way: the first k are as they are to be, the others as they were. -/
def onWay (xs ys : List Int) (k j : Nat) : Value := .int .i64 (if j < k then xs[j]?.getD 0 else ys[j]?.getD 0)
theorem onWay_succ (xs ys : List Int) (k j : Nat) : (if j = k then .int .i64 (xs[k]?.getD 0) else onWay xs ys k j) = onWay xs ys (k + 1) j := by
  unfold onWay
  by_cases e : j = k
  · subst e; simp
  · by_cases h : j < k
    · rw [if_neg e, if_pos h, if_pos (by omega)]
    · rw [if_neg e, if_neg h, if_neg (by omega)]
theorem onWay_all {w : World} {g t len : Nat} {xs ys : List Int} (h : w.rowIs g t len (onWay xs ys len)) : w.rowIs g t len (fun j => .int .i64 (xs[j]?.getD 0)) := h.congr (fun j hj => by simp [onWay, hj])
theorem onWay_zero {w : World} {g t len : Nat} {xs ys : List Int} (h : w.rowIs g t len (fun j => .int .i64 (ys[j]?.getD 0))) : w.rowIs g t len (onWay xs ys 0) := h.congr (fun j _ => by simp [onWay])
theorem taken_getD (xs ps : List Int) (k m : Nat) (hk : k < ps.length) (hm : ps[k]?.getD 0 = (m : Int)) : (taken xs ps)[k]?.getD 0 = xs[m]?.getD 0 := by
  have e : ps[k] = (m : Int) := by simpa [hk] using hm
  simp [taken, hk, e]
theorem taken_length (xs ps : List Int) : (taken xs ps).length = ps.length := by simp [taken]
theorem taken_bd {xs ps : List Int} (h : ∀ x ∈ xs, -9223372036854775808 ≤ x ∧ x ≤ 9223372036854775807) : ∀ x ∈ taken xs ps, -9223372036854775808 ≤ x ∧ x ≤ 9223372036854775807 := by
  intro y hy
  simp only [taken, List.mem_map] at hy
  obtain ⟨p, _, rfl⟩ := hy
  by_cases hk : p.toNat < xs.length
  · exact h _ (mem_getD xs _ hk)
  · have : xs[p.toNat]? = none := by simp; omega
    simp [this]

theorem wrongE_ok {s : Int} {ds ss : List Int} (h : wrongE s ds ss = 0) : sizeE ds = 0 ∧ ss.length = ds.length ∧ beyondB s ss = false := by
  unfold wrongE at h
  by_cases h1 : sizeE ds ≠ 0
  · rw [if_pos h1] at h; exact absurd h h1
  rw [if_neg h1] at h
  by_cases h2 : ss.length ≠ ds.length
  · rw [if_pos h2] at h; omega
  rw [if_neg h2] at h
  by_cases h3 : beyondB s ss = true
  · rw [if_pos h3] at h; omega
  exact ⟨by simpa using h1, by simpa using h2, by simpa using h3⟩
theorem turn_far {s : Int} {ds ss ps : List Int} {n : Nat} (h : wrongE s ds ss = 0) (hp : PermOk ps n) (hl : ss.length = n) : beyondB s (taken ss ps) = false := by
  obtain ⟨_, _, h3⟩ := wrongE_ok h
  simp only [beyondB, Bool.or_eq_false_iff] at h3 ⊢
  refine ⟨h3.1, ?_⟩
  rw [List.any_eq_false] at h3 ⊢
  intro x hx
  simp only [taken, List.mem_map] at hx
  obtain ⟨p, hp', rfl⟩ := hx
  obtain ⟨i, hi, he⟩ := List.getElem_of_mem hp'
  have hg := hp.2 i (by rw [← hp.1]; exact hi)
  simp [hi, he] at hg
  exact h3.2 _ (mem_getD ss _ (by omega))
theorem ints_set3 {w : World} {g len B : Nat} {xs : List Int} {a b c : Value} (h : Ints w (some ⟨g, 0, none⟩) len xs) (hne : g ≠ B) : Ints (((w.setCell ⟨B, 0, none⟩ a).setCell ⟨B, 1, none⟩ b).setCell ⟨B, 2, none⟩ c) (some ⟨g, 0, none⟩) len xs := by
  obtain ⟨h1, h2, h3, h4⟩ := h
  refine ⟨h1, h2, h3, ?_⟩
  rcases h4 with h4 | ⟨b', off, ha, hc⟩
  · exact .inl h4
  · cases ha
    have e : (((w.setCell ⟨B, 0, none⟩ a).setCell ⟨B, 1, none⟩ b).setCell ⟨B, 2, none⟩ c).heap[g]? = w.heap[g]? :=
      ((Below.heap_setCell _ ⟨B, 2, none⟩ _ g hne).trans (Below.heap_setCell _ ⟨B, 1, none⟩ _ g hne)).trans (Below.heap_setCell _ ⟨B, 0, none⟩ _ g hne)
    exact .inr ⟨_, _, rfl, fun j hj => (World.cell?_of_block (w := w) e).trans (hc j hj)⟩

set_option maxRecDepth 100000 in
set_option maxHeartbeats 4000000 in
theorem turn_ok (s : Int) (da : Option Addr) (dl dc : Nat) (ds : List Int) (sa : Option Addr) (sc : Nat) (ss : List Int) (a : Option Addr) (cap : Nat) (ps : List Int) (w : World)
    (hd : Ints w da dl ds) (hs : Ints w sa dl ss) (hp : Ints w a dl ps) (hW : wrongE s ds ss = 0) (hP : PermOk ps dl) (h6 : dl ≤ 6) :
    Calls Try.prog 55 #[.agg #[.int .i64 s, .slice da dl dc, .slice sa dl sc], .slice a dl cap] w fun e w' => (∃ g1 g2 : Nat, e = .returned (.tuple #[.agg #[.int .i64 s, .slice (some ⟨g1, 0, none⟩) dl dl, .slice (some ⟨g2, 0, none⟩) dl dl], .int .i64 0]) ∧ Ints w' (some ⟨g1, 0, none⟩) dl (taken ds ps) ∧ Ints w' (some ⟨g2, 0, none⟩) dl (taken ss ps)) ∧ Below w.heap.size w w' := by
  have HD := hide hd
  have HS := hide hs
  have HP := hide hp
  have HW := hide hW
  have HPO := hide hP
  clear hd hs hp hW hP
  have hb2 : Below w.heap.size w ((w.alloc (.cells #[.int .i64 s, .slice da dl dc, .slice sa dl sc] 50)).alloc (.cells #[.int .i64 0, .slice none 0 0, .slice none 0 0] 50)) := ((Below.refl _ _).alloc (Nat.le_refl _) _).alloc (by simp) _
  have HB2 := hide hb2
  clear hb2
  go_enter Try.func55, Try.ntmps55
  go_wp2_with fail
  refine (wrong_any _ _ _ _ ds _ _ _ ss _ (HD.out.below HB2.out) (HS.out.below HB2.out)).mono ?_
  rintro e w1 ⟨rfl, hb⟩
  rw [HW.out]
  have HB := hide (Below.on HB2.out hb)
  have hV1 : ViewAt w1 w.heap.size (.int .i64 s) (.slice da dl dc) (.slice sa dl sc) := ((ViewAt.new w _ _ _).alloc _).below hb
  have hR1 : ViewAt w1 (w.heap.size + 1) (.int .i64 0) (.slice none 0 0) (.slice none 0 0) := by
    have := (ViewAt.new (w.alloc (.cells #[.int .i64 s, .slice da dl dc, .slice sa dl sc] 50)) (.int .i64 0) (.slice none 0 0) (.slice none 0 0)).below hb
    simpa using this
  have HV1 := hide hV1
  have HR1 := hide hR1
  obtain ⟨⟨v0, v1, v2⟩, _⟩ := hV1.cells
  clear hb hV1 hR1
  go_wp2_with fail
  refine (permutes_any _ _ _ ps dl _ (HP.out.below HB.out) h6).mono ?_
  rintro e w2 ⟨⟨r, rfl, hr⟩, hb⟩
  obtain rfl : r = true := hr.2 HPO.out
  have HBa := hide (Below.on HB.out hb)
  have HV2 := hide (HV1.out.below hb)
  have HR2 := hide (HR1.out.below hb)
  obtain ⟨⟨v0', v1', v2'⟩, _⟩ := HV2.out.cells
  clear hb hr v0 v1 v2
  go_wp2_with fail
  refine (blank_any _ _ _ _ ds _ (HD.out.below HBa.out) h6).mono ?_
  rintro e w3 ⟨⟨g1, g2, rfl, ⟨hr1, hr2⟩, hne, hg1, hg2⟩, hb⟩
  have HBb := hide (Below.on HBa.out hb)
  have HV3 := hide (HV2.out.below hb)
  have HR3 := hide (HR2.out.below hb)
  have HR1' := hide hr1
  have HR2' := hide hr2
  have hlt1 := hr1.lt
  have hlt2 := hr2.lt
  have hsz := HR2.out.lt
  clear hb hr1 hr2 v0' v1' v2'
  go_wp2_with fail
  go_loopw [30] (fun i wr => ∃ k : Nat, k ≤ dl ∧ i = .int .i64 k ∧ (wr.rowIs g1 3 dl (onWay (taken ds ps) ds k) ∧ wr.rowIs g2 3 dl (onWay (taken ss ps) [] k)) ∧ (ViewAt wr w.heap.size (.int .i64 s) (.slice da dl dc) (.slice sa dl sc) ∧ ViewAt wr (w.heap.size + 1) (.int .i64 0) (.slice none 0 0) (.slice none 0 0) ∧ ViewAt wr w3.heap.size (.int .i64 s) (.slice (some ⟨g1, 0, none⟩) dl dl) (.slice (some ⟨g2, 0, none⟩) dl dl)) ∧ Below w.heap.size w wr) (fun i _ => dl - (intOf i).toNat)
  case atStart =>
    refine ⟨0, Nat.zero_le _, rfl, ⟨onWay_zero (HR1'.out.alloc _), ?_⟩, ⟨HV3.out.alloc _, HR3.out.alloc _, ViewAt.new w3 _ _ _⟩, HBb.out.alloc HBb.out.size _⟩
    exact (HR2'.out.alloc _).congr (fun j _ => by simp [onWay])
  case round =>
    obtain ⟨k, hk, rfl, ⟨hr1, hr2⟩, ⟨hv, hrr, ho⟩, hB⟩ := hrel
    have HQ1 := hide hr1
    have HQ2 := hide hr2
    have HV := hide hv
    have HRR := hide hrr
    have HO := hide ho
    have HBw := hide hB
    clear hr1 hr2 hv hrr ho hB
    by_cases hlt : k < dl
    · obtain ⟨pb, poff, rfl, hpb, hpc⟩ := HP.out.at (by omega)
      obtain ⟨db, doff, rfl, hdb, hdc⟩ := HD.out.at (by omega)
      obtain ⟨sb, soff, rfl, hsb, hsc⟩ := HS.out.at (by omega)
      have hpo := HPO.out.2 k hlt
      obtain ⟨m, hm⟩ : ∃ m : Nat, ps[k]?.getD 0 = (m : Int) := ⟨(ps[k]?.getD 0).toNat, by omega⟩
      have hmlt : m < dl := by omega
      have cp : wr.cell? ⟨pb, poff + k, none⟩ = some (.int .i64 (m : Int)) := by rw [← hm]; exact (HBw.out.cell (p := ⟨pb, poff + k, none⟩) hpb).trans (hpc k hlt)
      have cd : wr.cell? ⟨db, doff + m, none⟩ = some (.int .i64 (ds[m]?.getD 0)) := (HBw.out.cell (p := ⟨db, doff + m, none⟩) hdb).trans (hdc m hmlt)
      have cs : wr.cell? ⟨sb, soff + m, none⟩ = some (.int .i64 (ss[m]?.getD 0)) := (HBw.out.cell (p := ⟨sb, soff + m, none⟩) hsb).trans (hsc m hmlt)
      have HPL : Hid (k < ps.length) := by rw [Hid, HPO.out.1]; exact hlt
      have HM := hide hm
      obtain ⟨⟨v0, v1, v2⟩, _⟩ := HV.out.cells
      obtain ⟨⟨o0, o1, o2⟩, _⟩ := HO.out.cells
      have c1 := HQ1.out.cell hlt
      have f1 := HQ1.out.frozen k
      have c2 := HQ2.out.cell hlt
      have f2 := HQ2.out.frozen k
      have i1 : (0 : Int) ≤ (k : Int) := Int.natCast_nonneg _
      have i2 : (k : Int) < (dl : Int) := by omega
      have i3 : (0 : Int) ≤ (m : Int) := Int.natCast_nonneg _
      have i4 : (m : Int) < (dl : Int) := by omega
      clear hpc hdc hsc hm hpo
      go_wp2_with fail
      go_region
      go_wp2
      go_roundw
      case rel =>
        have hg1 : g1 ≠ w3.heap.size := by omega
        have hg2 : g2 ≠ w3.heap.size := by omega
        have e1 := taken_getD ds ps k m HPL.out HM.out
        have e2 := taken_getD ss ps k m HPL.out HM.out
        refine ⟨k + 1, by omega, by go_num, ⟨?_, ?_⟩, ⟨?_, ?_, ?_⟩, ?_⟩
        · refine ((HQ1.out.set k (.int .i64 (ds[m]?.getD 0))).setOther (a := ⟨g2, k, none⟩) hne _).congr (fun j _ => ?_)
          rw [← e1]; exact onWay_succ _ _ k j
        · refine ((HQ2.out.setOther (a := ⟨g1, k, none⟩) (Ne.symm hne) _).set k (.int .i64 (ss[m]?.getD 0))).congr (fun j _ => ?_)
          rw [← e2]; exact onWay_succ _ _ k j
        · exact (HV.out.set (p := ⟨g1, k, none⟩) (by simp; omega) _).set (p := ⟨g2, k, none⟩) (by simp; omega) _
        · exact (HRR.out.set (p := ⟨g1, k, none⟩) (by simp; omega) _).set (p := ⟨g2, k, none⟩) (by simp; omega) _
        · exact (HO.out.set (p := ⟨g1, k, none⟩) (by simp; omega) _).set (p := ⟨g2, k, none⟩) (by simp; omega) _
        · exact ((HBw.out.setCell (p := ⟨g1, k, none⟩) (by simp; omega) _).setCell (p := ⟨g2, k, none⟩) (by simp; omega) _).drew
      case measure => simp [intOf]; omega
    · obtain rfl : k = dl := by omega
      obtain ⟨⟨o0, o1, o2⟩, _⟩ := HO.out.cells
      have hfar : beyondB s (taken ss ps) = false := turn_far HW.out HPO.out (by have := HS.out.1; omega)
      have HF := hide hfar
      have hi1 : Ints wr (some ⟨g1, 0, none⟩) k (taken ds ps) := ints_of_rowI (onWay_all HQ1.out) (by rw [taken_length, HPO.out.1]) (by omega) (taken_bd HD.out.2.2.1)
      have hi2 : Ints wr (some ⟨g2, 0, none⟩) k (taken ss ps) := ints_of_rowI (onWay_all HQ2.out) (by rw [taken_length, HPO.out.1]) (by omega) (taken_bd HS.out.2.2.1)
      have HI1 := hide hi1
      have HI2 := hide hi2
      clear hfar hi1 hi2
      go_wp2_with fail
      refine (reached_any _ _ _ _ _ _ _ (taken ss ps) _ HI2.out).mono ?_
      rintro e w4 ⟨rfl, hb⟩
      rw [if_neg (by rw [HF.out]; simp)]
      have HBc := hide (Below.on HBw.out hb)
      have HRR4 := hide (HRR.out.below hb)
      have HI1' := hide (HI1.out.below hb)
      have HI2' := hide (HI2.out.below hb)
      obtain ⟨⟨r0, r1, r2⟩, rf0, rf1, rf2⟩ := HRR4.out.cells
      clear hb o0 o1 o2
      go_wp2
      refine bodyPost_ret (v := .tuple #[.agg #[.int .i64 s, .slice (some ⟨g1, 0, none⟩) k k, .slice (some ⟨g2, 0, none⟩) k k], .int .i64 0]) (by simp [results, Try.results55, go_sem, r0, r1, r2]) rfl ⟨⟨g1, g2, rfl, ?_, ?_⟩, ?_⟩
      · exact ints_set3 HI1'.out (by omega)
      · exact ints_set3 HI2'.out (by omega)
      · exact ((HBc.out.setCell (p := ⟨w.heap.size + 1, 0, none⟩) (by simp) _).setCell (p := ⟨w.heap.size + 1, 1, none⟩) (by simp) _).setCell (p := ⟨w.heap.size + 1, 2, none⟩) (by simp) _
end Go.Proofs.Yteoobeldmicjhaa.V
namespace Go.Proofs.Yteoobeldmicjhaa.V
open Go.RowKit

/-- It answers a View and what it tells. -/
def Gives (e : Ending) (w : World) (s : Int) (ds ss : List Int) (E : Int) : Prop :=
  ∃ (da : Option Addr) (dl dc : Nat) (sa : Option Addr) (sl sc : Nat), e = .returned (.tuple #[.agg #[.int .i64 s, .slice da dl dc, .slice sa sl sc], .int .i64 E]) ∧ Ints w da dl ds ∧ Ints w sa sl ss ∧ dl ≤ dc ∧ sl ≤ sc
theorem gives_none (w : World) (E : Int) : Gives (.returned (.tuple #[.agg #[.int .i64 0, .slice none 0 0, .slice none 0 0], .int .i64 E])) w 0 [] [] E :=
  ⟨none, 0, 0, none, 0, 0, rfl, ⟨rfl, by omega, by simp, .inl rfl⟩, ⟨rfl, by omega, by simp, .inl rfl⟩, Nat.le_refl _, Nat.le_refl _⟩

def permB (xs : List Int) (n : Nat) : Bool := decide (xs.length = n) && (List.range n).all fun k => xs.any fun x => x == (k : Int)
theorem permB_iff (xs : List Int) (n : Nat) : permB xs n = true ↔ PermOk xs n := by
  unfold permB PermOk
  simp only [Bool.and_eq_true, decide_eq_true_eq, List.all_eq_true, List.mem_range, List.any_eq_true, beq_iff_eq]
  constructor
  · rintro ⟨h1, h2⟩
    exact ⟨h1, (perm_iff h1).2 (fun k hk => by obtain ⟨x, hx, he⟩ := h2 k hk; exact he ▸ hx)⟩
  · rintro ⟨h1, h2⟩
    exact ⟨h1, fun k hk => ⟨_, (perm_iff h1).1 h2 k hk, rfl⟩⟩
def turnE (s : Int) (ds ss ps : List Int) : Int := if wrongE s ds ss ≠ 0 then wrongE s ds ss else if permB ps ds.length = true then 0 else 6
def okS (E : Int) (s : Int) : Int := if E = 0 then s else 0
def okL (E : Int) (l : List Int) : List Int := if E = 0 then l else []

set_option maxHeartbeats 1000000 in
theorem turn_wrong (s : Int) (da : Option Addr) (dl dc : Nat) (ds : List Int) (sa : Option Addr) (sl sc : Nat) (ss : List Int) (a : Option Addr) (len cap : Nat) (w : World)
    (hd : Ints w da dl ds) (hs : Ints w sa sl ss) (hW : wrongE s ds ss ≠ 0) :
    Calls Try.prog 55 #[.agg #[.int .i64 s, .slice da dl dc, .slice sa sl sc], .slice a len cap] w fun e w' => e = .returned (.tuple #[.agg #[.int .i64 0, .slice none 0 0, .slice none 0 0], .int .i64 (wrongE s ds ss)]) ∧ Below w.heap.size w w' := by
  have HD := hide hd
  have HS := hide hs
  have c1 : (wrongE s ds ss != 0) = true := by simp [hW]
  clear hd hs hW
  have hb2 : Below w.heap.size w ((w.alloc (.cells #[.int .i64 s, .slice da dl dc, .slice sa sl sc] 50)).alloc (.cells #[.int .i64 0, .slice none 0 0, .slice none 0 0] 50)) := ((Below.refl _ _).alloc (Nat.le_refl _) _).alloc (by simp) _
  have HB2 := hide hb2
  clear hb2
  go_enter Try.func55, Try.ntmps55
  go_wp2_with fail
  refine (wrong_any _ _ _ _ ds _ _ _ ss _ (HD.out.below HB2.out) (HS.out.below HB2.out)).mono ?_
  rintro e w1 ⟨rfl, hb⟩
  have HB := hide (Below.on HB2.out hb)
  obtain ⟨hc1, hf1⟩ := bcell hb
  have hz := hb.size
  simp at hz
  clear hb
  go_wp2
  refine bodyPost_ret (v := .tuple #[.agg #[.int .i64 0, .slice none 0 0, .slice none 0 0], .int .i64 (wrongE s ds ss)]) (by simp [results, Try.results55, go_sem, hc1]) rfl ⟨rfl, ?_⟩
  exact ((HB.out.setCell (p := ⟨w.heap.size + 1, 0, none⟩) (by simp) _).setCell (p := ⟨w.heap.size + 1, 1, none⟩) (by simp) _).setCell (p := ⟨w.heap.size + 1, 2, none⟩) (by simp) _

set_option maxHeartbeats 1000000 in
theorem turn_shape (s : Int) (da : Option Addr) (dl dc : Nat) (ds : List Int) (sa : Option Addr) (sl sc : Nat) (ss : List Int) (a : Option Addr) (len cap : Nat) (ps : List Int) (w : World)
    (hd : Ints w da dl ds) (hs : Ints w sa sl ss) (hp : Ints w a len ps) (hW : wrongE s ds ss = 0) (hP : ¬ PermOk ps dl) (h6 : dl ≤ 6) :
    Calls Try.prog 55 #[.agg #[.int .i64 s, .slice da dl dc, .slice sa sl sc], .slice a len cap] w fun e w' => e = .returned (.tuple #[.agg #[.int .i64 0, .slice none 0 0, .slice none 0 0], .int .i64 6]) ∧ Below w.heap.size w w' := by
  have HD := hide hd
  have HS := hide hs
  have HP := hide hp
  have HW := hide hW
  have HPO := hide hP
  clear hd hs hp hW hP
  have hb2 : Below w.heap.size w ((w.alloc (.cells #[.int .i64 s, .slice da dl dc, .slice sa sl sc] 50)).alloc (.cells #[.int .i64 0, .slice none 0 0, .slice none 0 0] 50)) := ((Below.refl _ _).alloc (Nat.le_refl _) _).alloc (by simp) _
  have HB2 := hide hb2
  clear hb2
  go_enter Try.func55, Try.ntmps55
  go_wp2_with fail
  refine (wrong_any _ _ _ _ ds _ _ _ ss _ (HD.out.below HB2.out) (HS.out.below HB2.out)).mono ?_
  rintro e w1 ⟨rfl, hb⟩
  rw [HW.out]
  have HB := hide (Below.on HB2.out hb)
  have hV1 : ViewAt w1 w.heap.size (.int .i64 s) (.slice da dl dc) (.slice sa sl sc) := ((ViewAt.new w _ _ _).alloc _).below hb
  have hR1 : ViewAt w1 (w.heap.size + 1) (.int .i64 0) (.slice none 0 0) (.slice none 0 0) := by
    have := (ViewAt.new (w.alloc (.cells #[.int .i64 s, .slice da dl dc, .slice sa sl sc] 50)) (.int .i64 0) (.slice none 0 0) (.slice none 0 0)).below hb
    simpa using this
  have HR1 := hide hR1
  obtain ⟨⟨v0, v1, v2⟩, _⟩ := hV1.cells
  clear hb hV1 hR1
  go_wp2_with fail
  refine (permutes_any _ _ _ ps dl _ (HP.out.below HB.out) h6).mono ?_
  rintro e w2 ⟨⟨r, rfl, hr⟩, hb⟩
  obtain rfl : r = false := by
    cases r with
    | true => exact absurd (hr.1 rfl) HPO.out
    | false => rfl
  have HBa := hide (Below.on HB.out hb)
  obtain ⟨⟨r0, r1, r2⟩, rf0, rf1, rf2⟩ := (HR1.out.below hb).cells
  clear hb hr v0 v1 v2
  go_wp2
  refine bodyPost_ret (v := .tuple #[.agg #[.int .i64 0, .slice none 0 0, .slice none 0 0], .int .i64 6]) (by simp [results, Try.results55, go_sem, r0, r1, r2]) rfl ⟨rfl, ?_⟩
  exact ((HBa.out.setCell (p := ⟨w.heap.size + 1, 0, none⟩) (by simp) _).setCell (p := ⟨w.heap.size + 1, 1, none⟩) (by simp) _).setCell (p := ⟨w.heap.size + 1, 2, none⟩) (by simp) _

theorem turn_any (s : Int) (da : Option Addr) (dl dc : Nat) (ds : List Int) (sa : Option Addr) (sl sc : Nat) (ss : List Int) (a : Option Addr) (len cap : Nat) (ps : List Int) (w : World)
    (hd : Ints w da dl ds) (hs : Ints w sa sl ss) (hp : Ints w a len ps) :
    Calls Try.prog 55 #[.agg #[.int .i64 s, .slice da dl dc, .slice sa sl sc], .slice a len cap] w fun e w' => Gives e w' (okS (turnE s ds ss ps) s) (okL (turnE s ds ss ps) (taken ds ps)) (okL (turnE s ds ss ps) (taken ss ps)) (turnE s ds ss ps) ∧ Below w.heap.size w w' := by
  by_cases hW : wrongE s ds ss ≠ 0
  · have e : turnE s ds ss ps = wrongE s ds ss := by simp [turnE, hW]
    rw [e]
    refine (turn_wrong s da dl dc ds sa sl sc ss a len cap w hd hs hW).mono ?_
    rintro e w' ⟨rfl, hb⟩
    simp only [okS, okL, if_neg hW]
    exact ⟨gives_none _ _, hb⟩
  replace hW : wrongE s ds ss = 0 := by simpa using hW
  obtain ⟨w1, w2, _⟩ := wrongE_ok hW
  have h6 := (sizeE_ok w1).1
  have ld := hd.1
  have ls := hs.1
  by_cases hP : PermOk ps dl
  · have e : turnE s ds ss ps = 0 := by simp [turnE, hW, ld, (permB_iff ps dl).2 hP]
    rw [e]
    obtain rfl : sl = dl := by omega
    obtain rfl : len = sl := by rw [← hp.1]; exact hP.1
    refine (turn_ok s da len dc ds sa sc ss a cap ps w hd hs hp hW hP (by omega)).mono ?_
    rintro e w' ⟨⟨g1, g2, rfl, h1, h2⟩, hb⟩
    simp only [okS, okL]
    exact ⟨⟨_, _, _, _, _, _, rfl, h1, h2, Nat.le_refl _, Nat.le_refl _⟩, hb⟩
  · have e : turnE s ds ss ps = 6 := by
      have : permB ps dl = false := by
        cases c : permB ps dl with
        | true => exact absurd ((permB_iff ps dl).1 c) hP
        | false => rfl
      simp [turnE, hW, ld, this]
    rw [e]
    refine (turn_shape s da dl dc ds sa sl sc ss a len cap ps w hd hs hp hW hP (by omega)).mono ?_
    rintro e w' ⟨rfl, hb⟩
    exact ⟨gives_none _ _, hb⟩
end Go.Proofs.Yteoobeldmicjhaa.V
namespace Go.Proofs.Yteoobeldmicjhaa.V
open Go.RowKit

def risePre (xs : List Int) (n k : Nat) : Prop := ∀ i, i < k → 0 ≤ xs[i]?.getD 0 ∧ xs[i]?.getD 0 < n ∧ (0 < i → xs[i - 1]?.getD 0 < xs[i]?.getD 0)
def RiseOk (xs : List Int) (n : Nat) : Prop := risePre xs n xs.length
def riseB (xs : List Int) (n : Nat) : Bool := (List.range xs.length).all fun i => decide (0 ≤ xs[i]?.getD 0) && (decide (xs[i]?.getD 0 < n) && (decide (i = 0) || decide (xs[i - 1]?.getD 0 < xs[i]?.getD 0)))
theorem riseB_iff (xs : List Int) (n : Nat) : riseB xs n = true ↔ RiseOk xs n := by
  unfold riseB RiseOk risePre
  simp only [List.all_eq_true, List.mem_range, Bool.and_eq_true, Bool.or_eq_true, decide_eq_true_eq]
  constructor
  · intro h i hi
    obtain ⟨h1, h2, h3⟩ := h i hi
    exact ⟨h1, h2, fun h0 => h3.resolve_left (by omega)⟩
  · intro h i hi
    obtain ⟨h1, h2, h3⟩ := h i hi
    refine ⟨h1, h2, ?_⟩
    by_cases e : i = 0
    · exact .inl e
    · exact .inr (h3 (by omega))
theorem risePre_succ {xs : List Int} {n k : Nat} (h : risePre xs n k) (h0 : 0 ≤ xs[k]?.getD 0) (h1 : xs[k]?.getD 0 < n) (h2 : 0 < k → xs[k - 1]?.getD 0 < xs[k]?.getD 0) : risePre xs n (k + 1) := fun i hi => by
  by_cases e : i = k
  · subst e; exact ⟨h0, h1, h2⟩
  · exact h i (by omega)
theorem rise_ge {xs : List Int} {n k : Nat} (h : risePre xs n k) : ∀ i, i < k → (i : Int) ≤ xs[i]?.getD 0
  | 0, hi => by have := (h 0 hi).1; simpa using this
  | i + 1, hi => by
    have h1 := rise_ge h i (by omega)
    have h2 := (h (i + 1) hi).2.2 (by omega)
    simp at h2
    omega
theorem rise_len {xs : List Int} {n : Nat} (h : RiseOk xs n) : xs.length ≤ n := by
  by_cases e : xs.length = 0
  · omega
  · have h1 := rise_ge h (xs.length - 1) (by omega)
    have h2 := (h (xs.length - 1) (by omega)).2.1
    omega
theorem rise_lt {xs : List Int} {n : Nat} (h : RiseOk xs n) : ∀ i j, i < j → j < xs.length → xs[i]?.getD 0 < xs[j]?.getD 0 := by
  intro i j
  induction j with
  | zero => intro h0; omega
  | succ j ih =>
    intro hij hj
    have h1 := (h (j + 1) hj).2.2 (by omega)
    simp only [Nat.add_sub_cancel] at h1
    by_cases e : i = j
    · subst e; exact h1
    · have := ih (by omega) (by omega); omega

set_option maxHeartbeats 1000000 in
theorem rises_any (a : Option Addr) (len cap : Nat) (xs : List Int) (n : Nat) (w : World) (h : Ints w a len xs) (_h6 : n ≤ 6) :
    Calls Try.prog 64 #[.slice a len cap, .int .i64 n] w fun e w' => Tells e (RiseOk xs n) ∧ w' = w := by
  have hl := h.1
  have hm := h.2.1
  have H := hide h
  have HL := hide hl
  clear h hl
  go_enter Try.func64, Try.ntmps64
  go_wp2
  go_loop [5, 10] (fun v i => ∃ k : Nat, k ≤ len ∧ i = .int .i64 k ∧ v = .int .i64 (if k = 0 then -1 else xs[k - 1]?.getD 0) ∧ risePre xs n k) (fun _ i => len - (intOf i).toNat)
  case atStart => exact ⟨0, Nat.zero_le _, rfl, rfl, fun i hi => by omega⟩
  case round =>
    obtain ⟨k, hk, rfl, rfl, hp⟩ := hrel
    have HP := hide hp
    obtain ⟨p, hpe⟩ : ∃ p : Int, (if k = 0 then -1 else xs[k - 1]?.getD 0) = p := ⟨_, rfl⟩
    have hpm : -1 ≤ p := by
      rw [← hpe]
      by_cases e : k = 0
      · rw [if_pos e]; omega
      · rw [if_neg e]; have := (hp (k - 1) (by omega)).1; omega
    rw [hpe]
    have HPE := hide hpe
    clear hp hpe
    by_cases hlt : k < len
    · obtain ⟨b, off, rfl, hb, hc⟩ := H.out.at (by omega)
      have hck := hc k hlt
      clear hc
      by_cases q1 : xs[k]?.getD 0 ≤ p
      · go_wp2
        go_ret
        have hno : ¬ RiseOk xs n := fun hr => by
          have h1 := hr k (by rw [HL.out]; exact hlt)
          have h2 := HPE.out
          by_cases e : k = 0
          · rw [if_pos e] at h2; omega
          · rw [if_neg e] at h2; have := h1.2.2 (by omega); omega
        exact ⟨⟨false, rfl, by simp; exact hno⟩, rfl⟩
      by_cases q2 : (n : Int) ≤ xs[k]?.getD 0
      · go_wp2
        go_ret
        have hno : ¬ RiseOk xs n := fun hr => by have h1 := hr k (by rw [HL.out]; exact hlt); omega
        exact ⟨⟨false, rfl, by simp; exact hno⟩, rfl⟩
      go_wp2
      go_round
      case rel =>
        refine ⟨k + 1, by omega, by go_num, by simp, risePre_succ HP.out (by omega) (by omega) (fun h0 => ?_)⟩
        have h2 := HPE.out
        rw [if_neg (by omega)] at h2
        omega
      case measure => simp [intOf]; omega
    · go_wp2
      go_ret
      obtain rfl : k = len := by omega
      exact ⟨⟨true, rfl, by simp; unfold RiseOk; rw [HL.out]; exact HP.out⟩, rfl⟩

end Go.Proofs.Yteoobeldmicjhaa.V
namespace Go.Proofs.Yteoobeldmicjhaa.V
open Go.RowKit

/-- A block that holds an Array. -/
def ArrAt (w : World) (b : Nat) (c0 c1 : Value) : Prop := w.heap[b]? = some (.cells #[c0, c1] 25 (0, 0))
theorem ArrAt.lt {w : World} {b : Nat} {c0 c1 : Value} (h : ArrAt w b c0 c1) : b < w.heap.size := (Array.getElem?_eq_some_iff.1 h).1
theorem ArrAt.below {w w' : World} {b : Nat} {c0 c1 : Value} (h : ArrAt w b c0 c1) (hb : Below w.heap.size w w') : ArrAt w' b c0 c1 := (hb.block b h.lt).trans h
theorem ArrAt.alloc {w : World} {b : Nat} {c0 c1 : Value} (h : ArrAt w b c0 c1) (o : Obj) : ArrAt (w.alloc o) b c0 c1 := (Below.heap_alloc _ _ _ h.lt).trans h
theorem ArrAt.cells {w : World} {b : Nat} {c0 c1 : Value} (h : ArrAt w b c0 c1) : (w.cell? ⟨b, 0, none⟩ = some c0 ∧ w.cell? ⟨b, 1, none⟩ = some c1) ∧ (w.frozen? ⟨b, 0, none⟩ = false ∧ w.frozen? ⟨b, 1, none⟩ = false) := by
  unfold ArrAt at h
  refine ⟨⟨?_, ?_⟩, ?_, ?_⟩ <;> simp [World.cell?, World.frozen?, h]
theorem ArrAt.new (w : World) (c0 c1 : Value) : ArrAt (w.alloc (.cells #[c0, c1] 25)) w.heap.size c0 c1 := World.alloc_heap_new w _

/-- What is wrong with an array of these dimensions and so many numbers. -/
def arrE (ds : List Int) (n : Nat) : Int := if sizeE ds ≠ 0 then sizeE ds else if (n : Int) ≠ sizeN ds then 6 else 0

set_option maxHeartbeats 1000000 in
theorem awrong_any (da : Option Addr) (dl dc : Nat) (ds : List Int) (xa : Option Addr) (xl xc : Nat) (w : World) (hd : Ints w da dl ds) :
    Calls Try.prog 11 #[.agg #[.slice da dl dc, .slice xa xl xc]] w fun e w' => e = .returned (.int .i64 (arrE ds xl)) ∧ Below w.heap.size w w' := by
  have HD := hide hd
  clear hd
  have hb1 : Below w.heap.size w (w.alloc (.cells #[.slice da dl dc, .slice xa xl xc] 25)) := (Below.refl _ _).alloc (Nat.le_refl _) _
  have HB1 := hide hb1
  clear hb1
  by_cases c1 : sizeE ds = 0
  · have HE := hide c1
    by_cases c2 : (xl : Int) = sizeN ds
    · have e : arrE ds xl = 0 := by unfold arrE; rw [if_neg (by simp [c1]), if_neg (by simp [c2])]
      rw [e]
      have q : ((xl : Int) != sizeN ds) = false := by simp [c2]
      clear c1 c2 e
      go_enter Try.func11, Try.ntmps11
      go_wp2_with (go_at_call 15; refine (size_any _ _ _ ds _ (HD.out.below HB1.out)).mono ?_; rintro e w' ⟨rfl, hw'⟩; obtain rfl := hw'.symm; rw [HE.out])
      go_ret
      exact ⟨rfl, HB1.out⟩
    · have e : arrE ds xl = 6 := by unfold arrE; rw [if_neg (by simp [c1]), if_pos c2]
      rw [e]
      have q : ((xl : Int) != sizeN ds) = true := by simp [c2]
      clear c1 c2 e
      go_enter Try.func11, Try.ntmps11
      go_wp2_with (go_at_call 15; refine (size_any _ _ _ ds _ (HD.out.below HB1.out)).mono ?_; rintro e w' ⟨rfl, hw'⟩; obtain rfl := hw'.symm; rw [HE.out])
      go_ret
      exact ⟨rfl, HB1.out⟩
  · have e : arrE ds xl = sizeE ds := by unfold arrE; rw [if_pos c1]
    rw [e]
    have q : (sizeE ds != 0) = true := by simp [c1]
    clear c1 e
    go_enter Try.func11, Try.ntmps11
    go_wp2_with (go_at_call 15; refine (size_any _ _ _ ds _ (HD.out.below HB1.out)).mono ?_; rintro e w' ⟨rfl, hw'⟩; obtain rfl := hw'.symm)
    go_ret
    exact ⟨rfl, HB1.out⟩

/-- The sum of the products of the first k pairs, as it wraps round. -/
def innS (xs ys : List Int) : Nat → Int
  | 0 => 0
  | k + 1 => wrap64 (innS xs ys k + wrap64 (xs[k]?.getD 0 * ys[k]?.getD 0))

set_option maxHeartbeats 1000000 in
theorem inner_any (a : Option Addr) (len cap : Nat) (xs : List Int) (a' : Option Addr) (len' cap' : Nat) (ys : List Int) (w : World) (h : Ints w a len xs) (h' : Ints w a' len' ys) (hle : len ≤ len') :
    Calls Try.prog 47 #[.slice a len cap, .slice a' len' cap'] w fun e w' => e = .returned (.int .i64 (innS xs ys len)) ∧ w' = w := by
  have hm := h.2.1
  have hm' := h'.2.1
  have H := hide h
  have H' := hide h'
  clear h h'
  go_enter Try.func47, Try.ntmps47
  go_wp2
  go_loop [5, 10] (fun n i => ∃ k : Nat, k ≤ len ∧ i = .int .i64 k ∧ n = .int .i64 (innS xs ys k)) (fun _ i => len - (intOf i).toNat)
  case atStart => exact ⟨0, Nat.zero_le _, rfl, rfl⟩
  case round =>
    obtain ⟨k, hk, rfl, rfl⟩ := hrel
    by_cases hlt : k < len
    · obtain ⟨b, off, rfl, hb, hc⟩ := H.out.at (by omega)
      obtain ⟨b', off', rfl, hb', hc'⟩ := H'.out.at (by omega)
      have hck := hc k hlt
      have hck' := hc' k (by omega)
      clear hc hc'
      go_wp2
      go_round
      case rel => exact ⟨k + 1, by omega, by go_num, rfl⟩
      case measure => simp [intOf]; omega
    · go_wp2
      go_ret
      obtain rfl : k = len := by omega
      exact ⟨rfl, rfl⟩
end Go.Proofs.Yteoobeldmicjhaa.V
namespace Go.Proofs.Yteoobeldmicjhaa.V
open Go.RowKit

/-- All but block g is as it was. -/
def But (g : Nat) (W W' : World) : Prop := (∀ x, x ≠ g → W'.heap[x]? = W.heap[x]?) ∧ W'.heap.size = W.heap.size
theorem But.refl (g : Nat) (W : World) : But g W W := ⟨fun _ _ => rfl, rfl⟩
theorem But.set {g : Nat} {W W' : World} (h : But g W W') (i : Nat) (v : Value) : But g W (W'.setCell ⟨g, i, none⟩ v) := ⟨fun x hx => (Below.heap_setCell _ ⟨g, i, none⟩ _ x hx).trans (h.1 x hx), by rw [World.size_setCell]; exact h.2⟩
theorem But.drew {g : Nat} {W W' : World} (h : But g W W') : But g W W'.drew := h
theorem But.view {g C : Nat} {W W' : World} {c0 c1 c2 : Value} (h : But g W W') (hv : ViewAt W C c0 c1 c2) (hne : C ≠ g) : ViewAt W' C c0 c1 c2 := (h.1 C hne).trans hv
theorem But.ints {g n : Nat} {W W' : World} {a : Option Addr} {xs : List Int} (h : But g W W') (hi : Ints W a n xs) (hne : ∀ b o, a = some ⟨b, o, none⟩ → b ≠ g) : Ints W' a n xs := by
  obtain ⟨h1, h2, h3, h4⟩ := hi
  refine ⟨h1, h2, h3, ?_⟩
  rcases h4 with h4 | ⟨b, off, e, hc⟩
  · exact .inl h4
  · exact .inr ⟨b, off, e, fun j hj => (World.cell?_of_block (w := W) (h.1 b (hne b off e))).trans (hc j hj)⟩
end Go.Proofs.Yteoobeldmicjhaa.V
