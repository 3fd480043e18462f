/-
  Contracts: replay.allowed, adjointref8.Wrong, chart.through.
-/
import Derived.Test.YtbdbbnnkagkioaaRows
import Derived.Test.YtbdbbnnkagkioaaInts
import Derived.Test.YtbdbbnnkagkioaaRpMath
import Derived.WalkKit
import Derived.BigQuiet
import Derived.BigRegion
import Derived.Deep.QuietTactic
namespace Go.Proofs.Ytbdbbnnkagkioaa.V
open Go.RowKit
set_option linter.unusedVariables false

theorem below_on {w w1 w2 : World} (h : Below w.heap.size w w1) (k : Below w1.heap.size w1 w2) : Below w.heap.size w w2 := h.trans (k.mono h.size)
def okB (n s : Int) : Bool := decide (0 ≤ n) && decide (n ≤ 256) && decide (0 ≤ s) && decide (s ≤ 16)
/-- What is wrong with a number of steps and of slots. -/
def wrongN (n s : Int) : Int := if okB n s = false then 4 else if 2 ≤ n ∧ s = 0 then 9 else 0

set_option maxHeartbeats 400000 in
theorem allowed_any (n s : Int) (w : World) :
    Calls Try.prog 15 #[.int .i64 n, .int .i64 s] w fun e w' => e = .returned (.bool (okB n s)) ∧ w' = w := by
  go_enter Try.func15, Try.ntmps15
  go_wp2
  all_goals go_ret
  all_goals exact ⟨by congr 2; simp only [okB]; symm; simp; omega, rfl⟩

set_option maxHeartbeats 1000000 in
theorem through_any (cb cl cc k m s g1 l1 c1 g0 l0 c0 : Nat) (A B : Int) (w : World) (hs : 1 ≤ s) (hsl : s < cl) (hcl : cl ≤ 17) (hk : k < l1) (hl1 : l1 ≤ 257) (hkm : k ≤ m) (hm : m - k < l0) (hl0 : l0 ≤ 257) (hm2 : m ≤ 256)
    (hA0 : 0 ≤ A ∧ A ≤ 65536) (hB0 : 0 ≤ B ∧ B ≤ 65536)
    (h1 : w.cell? ⟨cb, s, none⟩ = some (.slice (some ⟨g1, 0, none⟩) l1 c1)) (h0 : w.cell? ⟨cb, s - 1, none⟩ = some (.slice (some ⟨g0, 0, none⟩) l0 c0))
    (hA : w.cell? ⟨g1, k * 2, none⟩ = some (.int .i64 A)) (hB : w.cell? ⟨g0, (m - k) * 2, none⟩ = some (.int .i64 B)) :
    Calls Try.prog 17 #[.slice (some ⟨cb, 0, none⟩) cl cc, .int .i64 k, .int .i64 m, .int .i64 s] w fun e w' => e = .returned (.agg #[.int .i64 (k + A + B), .int .i64 k]) ∧ Below w.heap.size w w' := by
  have b1 := lt_of_cell h1
  have b2 := lt_of_cell h0
  have b3 := lt_of_cell hA
  have b4 := lt_of_cell hB
  simp only at b1 b2 b3 b4
  go_enter Try.func17, Try.ntmps17
  go_wp2
  go_region
  go_wp2
  refine bodyPost_ret (v := .agg #[.int .i64 (k + A + B), .int .i64 k]) (by simp [results, Try.results17, go_sem]) rfl ⟨rfl, ((Below.refl _ _).alloc (Nat.le_refl _) _).drew⟩

/-- A way: what it costs, and how far it goes first. -/
def Two (w : World) (b : Nat) (x y : Int) : Prop := w.heap[b]? = some (.cells #[.int .i64 x, .int .i64 y] 46 (0, 0))
theorem Two.lt {w : World} {b : Nat} {x y : Int} (h : Two w b x y) : b < w.heap.size := (Array.getElem?_eq_some_iff.1 h).1
theorem Two.below {w w' : World} {b : Nat} {x y : Int} (h : Two w b x y) (hb : Below w.heap.size w w') : Two w' b x y := (hb.block b h.lt).trans h
theorem Two.alloc {w : World} {b : Nat} {x y : Int} (h : Two w b x y) (o : Obj) : Two (w.alloc o) b x y := (Below.heap_alloc _ _ _ h.lt).trans h
theorem Two.new (w : World) (x y : Int) : Two (w.alloc (.cells #[.int .i64 x, .int .i64 y] 46)) w.heap.size x y := World.alloc_heap_new w _
theorem Two.other {w : World} {b : Nat} {x y : Int} (h : Two w b x y) {p : Addr} (hne : b ≠ p.block) (u : Value) : Two (w.setCell p u) b x y := (Below.heap_setCell _ _ _ _ hne).trans h
theorem Two.cells {w : World} {b : Nat} {x y : Int} (h : Two w b x y) : w.cell? ⟨b, 0, none⟩ = some (.int .i64 x) ∧ w.cell? ⟨b, 1, none⟩ = some (.int .i64 y) ∧ w.frozen? ⟨b, 0, none⟩ = false ∧ w.frozen? ⟨b, 1, none⟩ = false := by
  unfold Two at h
  refine ⟨?_, ?_, ?_, ?_⟩ <;> simp [World.cell?, World.frozen?, h]
theorem Two.set {w : World} {b : Nat} {x y : Int} (h : Two w b x y) (u v : Int) : Two ((w.setCell ⟨b, 0, none⟩ (.int .i64 u)).setCell ⟨b, 1, none⟩ (.int .i64 v)) b u v := by
  unfold Two at h ⊢
  simp [World.setCell, Array.getElem?_modify, h]

/-- How far the best way goes first. -/
def Good (s m kf : Nat) : Prop := 1 ≤ kf ∧ kf < m ∧ (s = 1 → kf = m - 1) ∧ T s m = kf + T s kf + T (s - 1) (m - kf)
theorem good_one {m : Nat} (h : 2 ≤ m) : Good 1 m (m - 1) := by
  refine ⟨by omega, by omega, fun _ => rfl, ?_⟩
  rw [T_one h, T_zero (s := 1 - 1) (.inl rfl), Nat.add_zero]

set_option maxHeartbeats 2000000 in
theorem best_any (cb cl cc m s g1 l1 c1 g0 l0 c0 : Nat) (w : World) (hs : 1 ≤ s) (hsl : s < cl) (hcl : cl ≤ 17) (hm : 2 ≤ m) (hm1 : m < l1) (hl1 : l1 ≤ 257) (hm0 : m < l0) (hl0 : l0 ≤ 257)
    (h1 : w.cell? ⟨cb, s, none⟩ = some (.slice (some ⟨g1, 0, none⟩) l1 c1)) (h0 : w.cell? ⟨cb, s - 1, none⟩ = some (.slice (some ⟨g0, 0, none⟩) l0 c0))
    (hA : ∀ k, 1 ≤ k → k < m → w.cell? ⟨g1, k * 2, none⟩ = some (.int .i64 (T s k : Nat))) (hB : ∀ k, 1 ≤ k → k < m → w.cell? ⟨g0, k * 2, none⟩ = some (.int .i64 (T (s - 1) k : Nat))) :
    Calls Try.prog 16 #[.slice (some ⟨cb, 0, none⟩) cl cc, .int .i64 m, .int .i64 s] w fun e w' => (∃ kf : Nat, e = .returned (.agg #[.int .i64 (T s m : Nat), .int .i64 kf]) ∧ Good s m kf) ∧ Below w.heap.size w w' := by
  obtain ⟨g, hg⟩ : ∃ g : Nat → Nat, ∀ k, g k = k + T s k + T (s - 1) (m - k) := ⟨_, fun _ => rfl⟩
  have TH : ∀ (k : Nat) (wr : World), 1 ≤ k → k < m → Below w.heap.size w wr → Calls Try.prog 17 #[.slice (some ⟨cb, 0, none⟩) cl cc, .int .i64 k, .int .i64 m, .int .i64 s] wr fun e w' => e = .returned (.agg #[.int .i64 (g k : Nat), .int .i64 k]) ∧ Below wr.heap.size wr w' := by
    intro k wr hk1 hk2 hb
    have q1 := T_small s k (by omega)
    have q2 := T_small (s - 1) (m - k) (by omega)
    have := through_any cb cl cc k m s g1 l1 c1 g0 l0 c0 (T s k : Nat) (T (s - 1) (m - k) : Nat) wr hs hsl hcl (by omega) hl1 (by omega) (by omega) hl0 (by omega) ⟨by omega, by omega⟩ ⟨by omega, by omega⟩
      ((hb.cell (p := ⟨cb, s, none⟩) (lt_of_cell h1)).trans h1) ((hb.cell (p := ⟨cb, s - 1, none⟩) (lt_of_cell h0)).trans h0)
      ((hb.cell (p := ⟨g1, k * 2, none⟩) (lt_of_cell (hA k hk1 hk2))).trans (hA k hk1 hk2)) ((hb.cell (p := ⟨g0, (m - k) * 2, none⟩) (lt_of_cell (hB (m - k) (by omega) (by omega)))).trans (hB (m - k) (by omega) (by omega)))
    refine this.mono ?_
    rintro e w' ⟨rfl, hb'⟩
    refine ⟨?_, hb'⟩
    rw [hg]
    congr 3
  have GB : ∀ k, k < m → g k ≤ 200000 := by
    intro k hk
    have q1 := T_small s k (by omega)
    have q2 := T_small (s - 1) (m - k) (by omega)
    rw [hg]; omega
  have HGB := hide GB
  have HTH := hide TH
  have HG := hide hg
  have em : (m : Int) - 1 = ((m - 1 : Nat) : Int) := by omega
  have HEM := hide em
  clear TH hA hB h1 h0 em hg GB
  go_enter Try.func16, Try.ntmps16
  go_wp2_with (go_at_call 17; rw [HEM.out]; refine (HTH.out (m - 1) _ (by omega) (by omega) ((Below.refl _ _).alloc (Nat.le_refl _) _)).mono ?_; rintro e w1 ⟨rfl, hb⟩; have h6 : Two w1 w.heap.size 0 0 := (Two.new w 0 0).below hb; have HB := hide (below_on ((Below.refl _ w).alloc (Nat.le_refl _) _) hb); have hz := h6.lt; obtain ⟨k0, k1, f0, f1⟩ := h6.cells; have H6 := hide h6; clear h6 hb)
  · have hs1 : ((s : Int) == 1) = true := by assumption
    have e1 : s = 1 := by
      have : (s : Int) = 1 := by simpa using hs1
      omega
    subst e1
    have eg : g (m - 1) = T 1 m := by rw [HG.out, T_one hm, T_zero (s := 1 - 1) (.inl rfl), Nat.add_zero]
    rw [eg]
    refine bodyPost_ret (v := .agg #[.int .i64 (T 1 m : Nat), .int .i64 (m - 1 : Nat)]) (by simp [results, Try.results16, go_sem, k0, k1, hz]) rfl ⟨⟨m - 1, rfl, good_one hm⟩, ?_⟩
    exact ((HB.out.setCell (p := ⟨w.heap.size, 0, none⟩) (Nat.le_refl _) _).setCell (p := ⟨w.heap.size, 1, none⟩) (Nat.le_refl _) _).alloc (by simp; omega) _
  · have hs1 : ((s : Int) == 1) = false := by assumption
    have e1 : 2 ≤ s := by
      have : ¬ (s : Int) = 1 := by simpa using hs1
      omega
    obtain ⟨W, hW⟩ : ∃ W, W = w1.alloc (Obj.cells #[Value.int IntKind.i64 (g (m - 1) : Nat), Value.int IntKind.i64 ((m - 1 : Nat) : Int)] 46) := ⟨_, rfl⟩
    have h7 : Two W w1.heap.size (g (m - 1) : Nat) (m - 1 : Nat) := by rw [hW]; exact Two.new _ _ _
    have h6' : Two W w.heap.size 0 0 := by rw [hW]; exact H6.out.alloc _
    have HBW : Below w.heap.size w W := by rw [hW]; exact HB.out.alloc (by omega) _
    rw [← hW]
    have H7 := hide h7
    have H6' := hide h6'
    have HBW' := hide HBW
    obtain ⟨B7, hB7⟩ : ∃ B7, B7 = w1.heap.size := ⟨_, rfl⟩
    rw [← hB7] at hz H7
    have H67 : Hid (w.heap.size < B7) := hz
    rw [← hB7, hs1]
    clear h7 h6' HBW hW k0 k1 f0 f1 H6 HB hB7 hs1 hz
    go_loopw [8] (fun i wr => ∃ k kf : Nat, i = .int .i64 k ∧ 1 ≤ k ∧ k ≤ m - 1 ∧ Two wr B7 (g kf : Nat) kf ∧ Two wr w.heap.size 0 0 ∧ Below w.heap.size w wr ∧ 1 ≤ kf ∧ kf < m ∧ (g kf ≤ g (m - 1)) ∧ (∀ j, 1 ≤ j → j < k → g kf ≤ g j)) (fun i _ => m - (intOf i).toNat)
    case atStart => exact ⟨1, m - 1, rfl, by omega, by omega, H7.out, H6'.out, HBW'.out, by omega, by omega, Nat.le_refl _, fun j h1 h2 => by omega⟩
    case round =>
      obtain ⟨k, kf, rfl, r1, r2, r3, r4, r5, r6, r7, r8, r9⟩ := hrel
      have q1 := HGB.out kf r7
      have R5 := hide r5
      have R8 := hide r8
      have R9 := hide r9
      have R3 := hide r3
      have R4 := hide r4
      clear r5 r8 r9 r3 r4
      by_cases hk : k < m - 1
      · have q2 := HGB.out k (by omega)
        go_wp2_with (go_at_call 17; refine (HTH.out k _ (by omega) (by omega) R5.out).mono ?_; rintro e w2 ⟨rfl, hb⟩; have r3 := R3.out.below hb; have r4 := R4.out.below hb; have HB2 := hide (below_on R5.out hb); obtain ⟨k0, k1, f0, f1⟩ := r3.cells; have z3 := r3.lt; have S3 := hide r3; have S4 := hide r4; clear r3 r4 hb)
        · have hlt : g k < g kf := by assumption
          have S5 := (S3.out.set (g k : Nat) k).alloc (Obj.cells #[Value.int IntKind.i64 (g k : Nat), Value.int IntKind.i64 (k : Nat)] 46)
          have S6 := ((S4.out.other (p := ⟨B7, 0, none⟩) (by have := H67.out; simp; omega) (.int .i64 (g k : Nat))).other (p := ⟨B7, 1, none⟩) (by have := H67.out; simp; omega) (.int .i64 (k : Nat))).alloc (Obj.cells #[Value.int IntKind.i64 (g k : Nat), Value.int IntKind.i64 (k : Nat)] 46)
          have S7 := ((HB2.out.setCell (p := ⟨B7, 0, none⟩) (by have := H67.out; simp; omega) (.int .i64 (g k : Nat))).setCell (p := ⟨B7, 1, none⟩) (by have := H67.out; simp; omega) (.int .i64 (k : Nat))).alloc (by have := H67.out; simp; omega) (Obj.cells #[Value.int IntKind.i64 (g k : Nat), Value.int IntKind.i64 (k : Nat)] 46)
          have X1 : g k ≤ g (m - 1) := by have := R8.out; omega
          have X2 : ∀ j, 1 ≤ j → j < k + 1 → g k ≤ g j := by
            intro j j1 j2
            by_cases e : j = k
            · rw [e]; exact Nat.le_refl _
            · have := R9.out j j1 (by omega); omega
          go_round
          case rel => exact ⟨k + 1, k, by go_num, by omega, by omega, S5, S6, S7, by omega, by omega, X1, X2⟩
          case measure => simp [intOf]; omega
        · have hlt : ¬ g k < g kf := by assumption
          have S5 := S3.out.alloc (Obj.cells #[Value.int IntKind.i64 (g k : Nat), Value.int IntKind.i64 (k : Nat)] 46)
          have S6 := S4.out.alloc (Obj.cells #[Value.int IntKind.i64 (g k : Nat), Value.int IntKind.i64 (k : Nat)] 46)
          have S7 := HB2.out.alloc (by have := H67.out; omega) (Obj.cells #[Value.int IntKind.i64 (g k : Nat), Value.int IntKind.i64 (k : Nat)] 46)
          have X2 : ∀ j, 1 ≤ j → j < k + 1 → g kf ≤ g j := by
            intro j j1 j2
            by_cases e : j = k
            · rw [e]; omega
            · exact R9.out j j1 (by omega)
          have X1 := R8.out
          go_round
          case rel => exact ⟨k + 1, kf, by go_num, by omega, by omega, S5, S6, S7, by omega, by omega, X1, X2⟩
          case measure => simp [intOf]; omega
      · have ek : k = m - 1 := by omega
        obtain ⟨k0, k1, f0, f1⟩ := R3.out.cells
        obtain ⟨n0, n1, v0, v1⟩ := R4.out.cells
        go_wp2
        have eg : g kf = T s m := by
          refine T_is e1 hm ⟨kf, r6, r7, HG.out kf⟩ fun j j1 j2 => ?_
          rw [← HG.out j]
          by_cases e : j = m - 1
          · rw [e]; exact R8.out
          · exact R9.out j j1 (by omega)
        rw [eg]
        refine bodyPost_ret (v := .agg #[.int .i64 (T s m : Nat), .int .i64 (kf : Nat)]) (by simp [results, Try.results16, go_sem, n0, n1]) rfl ⟨⟨kf, rfl, r6, r7, fun e => by omega, ?_⟩, ?_⟩
        · rw [← eg, HG.out kf]
        · exact (R5.out.setCell (p := ⟨w.heap.size, 0, none⟩) (Nat.le_refl _) _).setCell (p := ⟨w.heap.size, 1, none⟩) (Nat.le_refl _) _
end Go.Proofs.Ytbdbbnnkagkioaa.V
