/-
  Contract: replay.Run of numbers, with plain.Replay's two functions.
-/
import Derived.Test.YtbdbbnnkagkioaaRpRunWalk
import Derived.BigRegion
namespace Go.Proofs.Ytbdbbnnkagkioaa.V
open Go.RowKit
set_option linter.unusedVariables false

theorem equalIn_func_nil {P : Program} (w : World) (d : Nat) (t : TypeId) (ps rs : Array TypeId) (va : Bool) (h : P.underlying t = some (.func ps rs va)) (f : Fn) (xs ys : Array Value) : (Op.equalIn (d + 1) t (.func f xs ys) .nilFunc).run P w = .ok false w := by
  simp [Op.equalIn, run_underlying h]
theorem equal_func_nil {P : Program} (w : World) (t : TypeId) (ps rs : Array TypeId) (va : Bool) (h : P.underlying t = some (.func ps rs va)) (f : Fn) (xs ys : Array Value) : (Op.equal t (.func f xs ys) .nilFunc).run P w = .ok false w := equalIn_func_nil w 9999 t ps rs va h f xs ys
theorem func_nil {P : Program} (w : World) (t : TypeId) (ps rs : Array TypeId) (va : Bool) (h : P.underlying t = some (.func ps rs va)) (f : Fn) (xs ys : Array Value) : (binOp BinOp.eql t (.func f xs ys) .nilFunc).run P w = .ok (.bool false) w := by
  simp only [binOp]
  simp [equal_func_nil w t ps rs va h f xs ys]
/-- Three new blocks. -/
theorem three (w : World) (o0 o1 o2 : Obj) :
    ((((w.alloc o0).alloc o1).alloc o2).drew.heap[w.heap.size]? = some o0 ∧ (((w.alloc o0).alloc o1).alloc o2).drew.heap[w.heap.size + 1]? = some o1 ∧ (((w.alloc o0).alloc o1).alloc o2).drew.heap[w.heap.size + 1 + 1]? = some o2) ∧ (∀ x, x < w.heap.size → (((w.alloc o0).alloc o1).alloc o2).drew.heap[x]? = w.heap[x]?) ∧ (((w.alloc o0).alloc o1).alloc o2).drew.heap.size = w.heap.size + 3 ∧ Below 0 w (((w.alloc o0).alloc o1).alloc o2).drew := by
  refine ⟨⟨?_, ?_, ?_⟩, ?_, ?_, ?_⟩
  · exact (Below.heap_alloc _ _ _ (by simp; omega)).trans ((Below.heap_alloc _ _ _ (by simp)).trans (World.alloc_heap_new _ _))
  · have := World.alloc_heap_new (w.alloc o0) o1
    rw [World.size_alloc] at this
    exact (Below.heap_alloc _ _ _ (by simp)).trans this
  · have := World.alloc_heap_new ((w.alloc o0).alloc o1) o2
    rw [World.size_alloc, World.size_alloc] at this
    exact this
  · intro x hx
    exact (Below.heap_alloc _ _ _ (by simp; omega)).trans ((Below.heap_alloc _ _ _ (by simp; omega)).trans (Below.heap_alloc _ _ _ hx))
  · show ((((w.alloc o0).alloc o1).alloc o2)).heap.size = _
    simp
  · exact ((((Below.refl _ _).alloc (Nat.zero_le _) _).alloc (Nat.zero_le _) _).alloc (Nat.zero_le _) _).drew
theorem row_of_block {w : World} {b S : Nat} (h : w.heap[b]? = some (.cells (madeCells #[.int .i64 0] S) 3)) : w.rowIs b 3 S (fun _ => .int .i64 0) :=
  ⟨_, h, size_madeCells _ _, fun i hi => by simp [madeCells, hi, Nat.mod_one]⟩

/-- What is there when a run begins. -/
theorem run_begun {w : World} {b : Bk} {n S : Nat} {start : Int}
    (h1 : w.heap[b.ab]? = some (.cells #[.func (.func 7) #[] #[.pointer (some ⟨b.rb, 0, none⟩), .pointer (some ⟨b.sb, 0, none⟩), .pointer (some ⟨b.nn, 0, none⟩)]] 32 (0, 0)))
    (h2 : w.heap[b.bb]? = some (.cells #[.func (.func 8) #[] #[.pointer (some ⟨b.rb, 0, none⟩), .pointer (some ⟨b.sb, 0, none⟩)]] 33 (0, 0)))
    (h3 : w.heap[b.nb]? = some (.cells #[.int .i64 start] 3 (0, 0))) (h4 : w.heap[b.kv]? = some (.cells #[.slice (some ⟨b.kb, 0, none⟩) S S] 22 (0, 0)))
    (h5 : w.rowIs b.kb 3 S (fun _ => .int .i64 0)) (h6 : w.heap[b.rb]? = some (.cells #[.int .i64 0, .slice none 0 0, .bool false] 24 (0, 0)))
    (h7 : w.heap[b.sb]? = some (.cells #[.int .i64 start] 3 (0, 0))) (h8 : w.heap[b.nn]? = some (.cells #[.int .i64 n] 3 (0, 0)))
    (dn : ∀ x ∈ [b.ab, b.bb, b.kv, b.kb, b.rb, b.sb, b.nn], x ≠ b.nb) (dk : ∀ x ∈ [b.ab, b.bb, b.nb, b.kv, b.rb, b.sb, b.nn], x ≠ b.kb) (dr : ∀ x ∈ [b.ab, b.bb, b.nb, b.kv, b.kb, b.sb, b.nn], x ≠ b.rb)
    (under : ∀ x ∈ [b.ab, b.bb, b.nb, b.kv, b.kb, b.rb, b.sb, b.nn], x < b.B) : RunAt w b n S start (.begun n S) (.slice none 0 0) := by
  refine ⟨h1, h2, by simpa [St.begun] using h3, h4, h5.congr fun i hi => by simp [St.begun, hi, valO], by simpa [St.begun] using h6, h7, h8, ?_, dn, dk, dr, under⟩
  have e : n - (St.begun n S).left = 0 := by simp [St.begun]
  rw [e]
  exact World.ownsRow_nil _ _ _ _

/-- What a run ends with. -/
def RunEnd (n S rb : Nat) (w w' : World) : Prop :=
  (∃ v' B, w.heap.size ≤ B ∧ w'.heap[rb]? = some (.cells #[.int .i64 (T S n : Nat), v', .bool false] 24 (0, 0)) ∧ w'.ownsRow B 3 1 v' n (told n n)) ∧ Below 0 w w' ∧ ∀ x, x < w.heap.size → x ≠ rb → w'.heap[x]? = w.heap[x]?

/-- The walk of a run that has just begun. -/
theorem run_walk (n S : Nat) (start : Int) (rb sb nn cb : Nat) (g : Nat → Nat) (w w1 WX : World) (kb nb kv : Nat) (hn : n ≤ 256) (hS : S ≤ 16) (h : ¬ (2 ≤ n ∧ S = 0)) (hs : -1099511627776 ≤ start ∧ start ≤ 1099511627776)
    (h6 : w.heap[rb]? = some (.cells #[.int .i64 0, .slice none 0 0, .bool false] 24 (0, 0)) ∧ w.heap[sb]? = some (.cells #[.int .i64 start] 3 (0, 0)) ∧ w.heap[nn]? = some (.cells #[.int .i64 n] 3 (0, 0))) (d1 : sb ≠ rb) (d2 : nn ≠ rb)
    (b1 : w1.heap[w.heap.size]? = some (.cells #[.func (.func 7) #[] #[.pointer (some ⟨rb, 0, none⟩), .pointer (some ⟨sb, 0, none⟩), .pointer (some ⟨nn, 0, none⟩)]] 32 (0, 0)))
    (b2 : w1.heap[w.heap.size + 1]? = some (.cells #[.func (.func 8) #[] #[.pointer (some ⟨rb, 0, none⟩), .pointer (some ⟨sb, 0, none⟩)]] 33 (0, 0)))
    (hc : ChartW w1 cb n S (S + 1) g) (hb : Below w.heap.size w w1) (hz : w.heap.size + 1 + 1 ≤ w1.heap.size)
    (x1 : ∀ x, x < w1.heap.size → WX.heap[x]? = w1.heap[x]?) (x2 : Below 0 w1 WX) (x3 : WX.heap.size = w1.heap.size + 3)
    (y1 : WX.heap[kb]? = some (.cells (madeCells #[.int .i64 0] S) 3)) (y2 : WX.heap[nb]? = some (.cells #[.int .i64 start] 3)) (y3 : WX.heap[kv]? = some (.cells #[.slice (some ⟨kb, 0, none⟩) S S] 22))
    (e : (w1.heap.size ≤ kb ∧ w1.heap.size ≤ nb ∧ w1.heap.size ≤ kv) ∧ (kb < w1.heap.size + 3 ∧ nb < w1.heap.size + 3 ∧ kv < w1.heap.size + 3) ∧ kb ≠ nb ∧ kb ≠ kv ∧ nb ≠ kv) :
    Calls Try.prog 13 #[.slice (some ⟨cb, 0, none⟩) (S + 1) (S + 1), .int .i64 n, .int .i64 S, .func (.func 14) #[] #[.pointer (some ⟨w.heap.size, 0, none⟩), .pointer (some ⟨nb, 0, none⟩), .pointer (some ⟨kv, 0, none⟩), .pointer (some ⟨w.heap.size + 1, 0, none⟩)]] WX fun e w' => e = .returned (.tuple #[]) ∧ RunEnd n S rb w w' := by
  obtain ⟨h6, h7, h8⟩ := h6
  have z6 := lt_of_block h6
  have z7 := lt_of_block h7
  have z8 := lt_of_block h8
  obtain ⟨⟨e1, e2, e3⟩, ⟨e4, e5, e6⟩, e7, e8, e9⟩ := e
  have up {k : Nat} {o : Obj} (hk : w.heap[k]? = some o) : WX.heap[k]? = some o := (x1 k (by have := lt_of_block hk; omega)).trans ((hb.block k (lt_of_block hk)).trans hk)
  have hR : RunAt WX ⟨w.heap.size, w.heap.size + 1, nb, kv, kb, rb, sb, nn, w1.heap.size + 3⟩ n S start (.begun n S) (.slice none 0 0) := by
    refine run_begun ((x1 _ (by simp only; omega)).trans b1) ((x1 _ (by simp only; omega)).trans b2) y2 y3 (row_of_block y1) (up h6) (up h7) (up h8) ?_ ?_ ?_ ?_
    all_goals
      intro x hx
      simp only [List.mem_cons, List.not_mem_nil, or_false] at hx
      rcases hx with rfl | rfl | rfl | rfl | rfl | rfl | rfl | rfl <;> (simp only; omega)
  have hCS : ChartS WX ⟨w.heap.size, w.heap.size + 1, nb, kv, kb, rb, sb, nn, w1.heap.size + 3⟩ cb n S g := by
    have zc := hc.1.lt
    have hrb : w1.heap[rb]? = some (.cells #[.int .i64 0, .slice none 0 0, .bool false] 24 (0, 0)) := (hb.block rb z6).trans h6
    have ncb : cb ≠ rb := by
      intro q
      obtain ⟨c, hcc, _⟩ := hc.1
      rw [q, hrb] at hcc
      cases hcc
    refine ⟨hc.of (x1 _ zc) (fun i hi => x1 _ (hc.2 i hi).1.lt), ⟨by simp only; omega, by simp only; omega, by simp only; omega, ncb⟩, fun i hi => ?_⟩
    have zi := (hc.2 i hi).1.lt
    have ngi : g i ≠ rb := by
      intro q
      obtain ⟨F, ⟨c, hcc, _⟩, _⟩ := (hc.2 i hi).1
      rw [q, hrb] at hcc
      cases hcc
    exact ⟨by simp only; omega, by simp only; omega, by simp only; omega, ngi⟩
  have hT := T_small S n hn
  refine (walkR_any _ n S start cb g hn hS hs S n _ _ WX hR (St.Ok.begun n S) (by simp [St.begun]) (Nat.le_refl _) (by omega) hCS (by simp only; omega) (by simp [St.begun]; omega)).mono ?_
  rintro e w' ⟨rfl, ⟨st', v', q1, q2, q3, q4, _⟩, q5⟩
  have hl0 : st'.left = 0 := by rw [q3]; rfl
  have hc0 : st'.cost = T S n := by rw [q4]; simp [St.begun]
  refine ⟨rfl, ⟨v', w1.heap.size + 3, by omega, by have := q1.seen; rw [hc0] at this; exact this, by have := q1.told; rw [hl0] at this; exact this⟩, ?_, ?_⟩
  · exact (hb.mono (Nat.zero_le _)).trans (x2.trans q5.1)
  · intro x hx hne
    rw [q5.2 x (by simp only; omega) (by simp only; omega) (by simp only; omega) hne, x1 x (by omega), hb.block x hx]

set_option maxHeartbeats 2000000 in
theorem Run_ok (n S : Nat) (start : Int) (rb sb nn : Nat) (w : World) (hn : n ≤ 256) (hS : S ≤ 16) (h : ¬ (2 ≤ n ∧ S = 0)) (hs : -1099511627776 ≤ start ∧ start ≤ 1099511627776)
    (h6 : w.heap[rb]? = some (.cells #[.int .i64 0, .slice none 0 0, .bool false] 24 (0, 0))) (h7 : w.heap[sb]? = some (.cells #[.int .i64 start] 3 (0, 0))) (h8 : w.heap[nn]? = some (.cells #[.int .i64 n] 3 (0, 0))) (d1 : sb ≠ rb) (d2 : nn ≠ rb) :
    Calls Try.prog 6 #[.int .i64 n, .int .i64 S, .int .i64 start, .func (.func 7) #[] #[.pointer (some ⟨rb, 0, none⟩), .pointer (some ⟨sb, 0, none⟩), .pointer (some ⟨nn, 0, none⟩)], .func (.func 8) #[] #[.pointer (some ⟨rb, 0, none⟩), .pointer (some ⟨sb, 0, none⟩)]] w fun e w' => e = .returned (.int .i64 0) ∧ RunEnd n S rb w w' := by
  have z6 := lt_of_block h6
  have z7 := lt_of_block h7
  have z8 := lt_of_block h8
  obtain ⟨A1, hA1⟩ : ∃ A : Obj, A = .cells #[.func (.func 7) #[] #[.pointer (some ⟨rb, 0, none⟩), .pointer (some ⟨sb, 0, none⟩), .pointer (some ⟨nn, 0, none⟩)]] 32 := ⟨_, rfl⟩
  obtain ⟨A2, hA2⟩ : ∃ A : Obj, A = .cells #[.func (.func 8) #[] #[.pointer (some ⟨rb, 0, none⟩), .pointer (some ⟨sb, 0, none⟩)]] 33 := ⟨_, rfl⟩
  have hb0 : Below w.heap.size w ((w.alloc A1).alloc A2) := ((Below.refl _ _).alloc (Nat.le_refl _) _).alloc (by simp) _
  have a1 : ((w.alloc A1).alloc A2).heap[w.heap.size]? = some A1 := (Below.heap_alloc _ _ _ (by simp)).trans (World.alloc_heap_new _ _)
  have a2 : ((w.alloc A1).alloc A2).heap[w.heap.size + 1]? = some A2 := by have := World.alloc_heap_new (w.alloc A1) A2; simpa using this
  have hmk := run_make_row' (P := Try.prog) 22 3 (.int .i64 0) 8 Try.underlying22 infoI rfl .i64 .i64 S (by omega) (by omega)
  have hf1 := fun w => func_nil (P := Try.prog) w _ _ _ _ Try.underlying32 (.func 7) #[] #[.pointer (some ⟨rb, 0, none⟩), .pointer (some ⟨sb, 0, none⟩), .pointer (some ⟨nn, 0, none⟩)]
  have hf2 := fun w => func_nil (P := Try.prog) w _ _ _ _ Try.underlying33 (.func 8) #[] #[.pointer (some ⟨rb, 0, none⟩), .pointer (some ⟨sb, 0, none⟩)]
  have HH := hide (And.intro h6 (And.intro h7 h8))
  have HA1 := hide a1
  have HA2 := hide a2
  have HB0 := hide hb0
  clear h6 h7 h8 a1 a2 hb0
  go_enter Try.func6, Try.ntmps6
  go_wp2_with fail
  rw [← hA1, ← hA2]
  refine (charted_any n S _ hn hS h).mono ?_
  rintro e w1 ⟨⟨cb, g, rfl, hc⟩, hb⟩
  have hz := hb.size
  simp only [World.size_alloc] at hz
  have b1 : w1.heap[w.heap.size]? = some A1 := (hb.block _ (by simp; omega)).trans HA1.out
  have b2 : w1.heap[w.heap.size + 1]? = some A2 := (hb.block _ (by simp)).trans HA2.out
  rw [hA1] at b1
  rw [hA2] at b2
  obtain ⟨k1, f1⟩ := cell_of b1
  obtain ⟨k2, f2⟩ := cell_of b2
  have B1 := hide b1
  have B2 := hide b2
  have HC := hide hc
  have HB1 := hide (HB0.out.trans (hb.mono (by simp; omega)))
  clear b1 b2 hc hb HB0 HA1 HA2 hA1 hA2
  go_wp2_with fail
  go_region
  all_goals go_wp2_with fail
  · obtain ⟨⟨t0, t1, t2⟩, t3, t4, t5⟩ := three w1 (.cells (madeCells #[.int .i64 0] S) 3) (.cells #[.int .i64 start] 3) (.cells #[.slice (some ⟨w1.heap.size, 0, none⟩) S S] 22)
    refine (run_walk n S start rb sb nn cb g w w1 _ (w1.heap.size) (w1.heap.size + 1) (w1.heap.size + 1 + 1) hn hS h hs HH.out d1 d2 B1.out B2.out HC.out HB1.out hz t3 t5 t4 t0 t1 t2 (by omega)).mono ?_
    rintro e w2 ⟨rfl, q⟩
    have Q := hide q
    clear q t0 t1 t2 t3 t4 t5
    go_wp2_with fail
    go_ret
    exact ⟨rfl, Q.out⟩
  · obtain ⟨⟨t0, t1, t2⟩, t3, t4, t5⟩ := three w1 (.cells (madeCells #[.int .i64 0] S) 3) (.cells #[.slice (some ⟨w1.heap.size, 0, none⟩) S S] 22) (.cells #[.int .i64 start] 3)
    refine (run_walk n S start rb sb nn cb g w w1 _ (w1.heap.size) (w1.heap.size + 1 + 1) (w1.heap.size + 1) hn hS h hs HH.out d1 d2 B1.out B2.out HC.out HB1.out hz t3 t5 t4 t0 t2 t1 (by omega)).mono ?_
    rintro e w2 ⟨rfl, q⟩
    have Q := hide q
    clear q t0 t1 t2 t3 t4 t5
    go_wp2_with fail
    go_ret
    exact ⟨rfl, Q.out⟩
  · obtain ⟨⟨t0, t1, t2⟩, t3, t4, t5⟩ := three w1 (.cells #[.int .i64 start] 3) (.cells (madeCells #[.int .i64 0] S) 3) (.cells #[.slice (some ⟨w1.heap.size + 1, 0, none⟩) S S] 22)
    refine (run_walk n S start rb sb nn cb g w w1 _ (w1.heap.size + 1) (w1.heap.size) (w1.heap.size + 1 + 1) hn hS h hs HH.out d1 d2 B1.out B2.out HC.out HB1.out hz t3 t5 t4 t1 t0 t2 (by omega)).mono ?_
    rintro e w2 ⟨rfl, q⟩
    have Q := hide q
    clear q t0 t1 t2 t3 t4 t5
    go_wp2_with fail
    go_ret
    exact ⟨rfl, Q.out⟩
  · obtain ⟨⟨t0, t1, t2⟩, t3, t4, t5⟩ := three w1 (.cells #[.int .i64 start] 3) (.cells #[.slice (some ⟨w1.heap.size + 1 + 1, 0, none⟩) S S] 22) (.cells (madeCells #[.int .i64 0] S) 3)
    refine (run_walk n S start rb sb nn cb g w w1 _ (w1.heap.size + 1 + 1) (w1.heap.size) (w1.heap.size + 1) hn hS h hs HH.out d1 d2 B1.out B2.out HC.out HB1.out hz t3 t5 t4 t2 t0 t1 (by omega)).mono ?_
    rintro e w2 ⟨rfl, q⟩
    have Q := hide q
    clear q t0 t1 t2 t3 t4 t5
    go_wp2_with fail
    go_ret
    exact ⟨rfl, Q.out⟩
  · obtain ⟨⟨t0, t1, t2⟩, t3, t4, t5⟩ := three w1 (.cells #[.slice (some ⟨w1.heap.size + 1, 0, none⟩) S S] 22) (.cells (madeCells #[.int .i64 0] S) 3) (.cells #[.int .i64 start] 3)
    refine (run_walk n S start rb sb nn cb g w w1 _ (w1.heap.size + 1) (w1.heap.size + 1 + 1) (w1.heap.size) hn hS h hs HH.out d1 d2 B1.out B2.out HC.out HB1.out hz t3 t5 t4 t1 t2 t0 (by omega)).mono ?_
    rintro e w2 ⟨rfl, q⟩
    have Q := hide q
    clear q t0 t1 t2 t3 t4 t5
    go_wp2_with fail
    go_ret
    exact ⟨rfl, Q.out⟩
  · obtain ⟨⟨t0, t1, t2⟩, t3, t4, t5⟩ := three w1 (.cells #[.slice (some ⟨w1.heap.size + 1 + 1, 0, none⟩) S S] 22) (.cells #[.int .i64 start] 3) (.cells (madeCells #[.int .i64 0] S) 3)
    refine (run_walk n S start rb sb nn cb g w w1 _ (w1.heap.size + 1 + 1) (w1.heap.size + 1) (w1.heap.size) hn hS h hs HH.out d1 d2 B1.out B2.out HC.out HB1.out hz t3 t5 t4 t2 t1 t0 (by omega)).mono ?_
    rintro e w2 ⟨rfl, q⟩
    have Q := hide q
    clear q t0 t1 t2 t3 t4 t5
    go_wp2_with fail
    go_ret
    exact ⟨rfl, Q.out⟩

set_option maxHeartbeats 1000000 in
theorem Run_bad (n s start : Int) (F1 F2 : Fn) (x1 y1 x2 y2 : Array Value) (w : World) (c : wrongN n s ≠ 0) :
    Calls Try.prog 6 #[.int .i64 n, .int .i64 s, .int .i64 start, .func F1 x1 y1, .func F2 x2 y2] w fun e w' => e = .returned (.int .i64 (wrongN n s)) ∧ Below w.heap.size w w' := by
  have c1 : (wrongN n s != 0) = true := by simpa using c
  go_enter Try.func6, Try.ntmps6
  go_wp2_with (go_at_call 10; refine (charted_bad n s _ c).mono ?_; rintro e w' ⟨rfl, rfl⟩)
  go_ret
  exact ⟨rfl, ((Below.refl _ _).alloc (Nat.le_refl _) _).alloc (by simp) _⟩

theorem rec_cells {w : World} {b : Nat} {x y z : Value} {t : TypeId} (h : w.heap[b]? = some (.cells #[x, y, z] t (0, 0))) : (w.cell? ⟨b, 0, none⟩ = some x ∧ w.cell? ⟨b, 1, none⟩ = some y ∧ w.cell? ⟨b, 2, none⟩ = some z) ∧ w.frozen? ⟨b, 0, none⟩ = false ∧ w.frozen? ⟨b, 1, none⟩ = false ∧ w.frozen? ⟨b, 2, none⟩ = false := by
  refine ⟨⟨?_, ?_, ?_⟩, ?_, ?_, ?_⟩ <;> simp [World.cell?, World.frozen?, h]
/-- Four new blocks. -/
theorem four (w : World) (o0 o1 o2 o3 : Obj) :
    (((((w.alloc o0).alloc o1).alloc o2).alloc o3).heap[w.heap.size]? = some o0 ∧ ((((w.alloc o0).alloc o1).alloc o2).alloc o3).heap[w.heap.size + 1]? = some o1 ∧ ((((w.alloc o0).alloc o1).alloc o2).alloc o3).heap[w.heap.size + 1 + 1]? = some o2 ∧ ((((w.alloc o0).alloc o1).alloc o2).alloc o3).heap[w.heap.size + 1 + 1 + 1]? = some o3) ∧ ((((w.alloc o0).alloc o1).alloc o2).alloc o3).heap.size = w.heap.size + 4 ∧ Below w.heap.size w ((((w.alloc o0).alloc o1).alloc o2).alloc o3) := by
  obtain ⟨⟨t0, t1, t2⟩, t3, t4, t5⟩ := three w o0 o1 o2
  have t4' : (((w.alloc o0).alloc o1).alloc o2).heap.size = w.heap.size + 3 := t4
  refine ⟨⟨(Below.heap_alloc _ _ _ (by rw [t4']; omega)).trans t0, (Below.heap_alloc _ _ _ (by rw [t4']; omega)).trans t1, (Below.heap_alloc _ _ _ (by rw [t4']; omega)).trans t2, ?_⟩, ?_, ?_⟩
  · have := World.alloc_heap_new (((w.alloc o0).alloc o1).alloc o2) o3
    rw [t4'] at this
    exact this
  · rw [World.size_alloc, t4']
  · exact ((((Below.refl _ _).alloc (Nat.le_refl _) _).alloc (by simp) _).alloc (by simp; omega) _).alloc (by simp; omega) _

set_option maxHeartbeats 2000000 in
theorem Replay_ok (n S : Nat) (start : Int) (w : World) (hn : n ≤ 256) (hS : S ≤ 16) (h : ¬ (2 ≤ n ∧ S = 0)) (hs : -1099511627776 ≤ start ∧ start ≤ 1099511627776) :
    Calls Try.prog 4 #[.int .i64 n, .int .i64 S, .int .i64 start] w fun e w' => (∃ v' B, e = .returned (.tuple #[.agg #[.int .i64 (T S n : Nat), v', .bool false], .int .i64 0]) ∧ w'.ownsRow B 3 1 v' n (told n n)) ∧ Below w.heap.size w w' := by
  obtain ⟨⟨t0, t1, t2, t3⟩, t4, t5⟩ := four w (.cells #[.int .i64 n] 3) (.cells #[.int .i64 start] 3) (.cells #[.int .i64 0, .slice none 0 0, .bool false] 24) (.cells #[.int .i64 0, .slice none 0 0, .bool false] 24)
  have RU := Run_ok n S start (w.heap.size + 1 + 1 + 1) (w.heap.size + 1) w.heap.size _ hn hS h hs t3 t1 t0 (by omega) (by omega)
  have HRU := hide RU
  have T2 := hide t2
  have T5 := hide t5
  have T4 := hide t4
  clear RU t0 t1 t2 t3 t4 t5
  go_enter Try.func4, Try.ntmps4
  go_wp2_with fail
  refine HRU.out.mono ?_
  rintro e w2 ⟨rfl, ⟨v', B, q0, q1, q2⟩, q3, q4⟩
  rw [T4.out] at q0
  have q5 : w2.heap[w.heap.size + 1 + 1]? = some (.cells #[.int .i64 0, .slice none 0 0, .bool false] 24 (0, 0)) := (q4 _ (by rw [T4.out]; omega) (by omega)).trans T2.out
  obtain ⟨⟨a0, a1, a2⟩, _⟩ := rec_cells q1
  obtain ⟨⟨c0, c1, c2⟩, g0, g1, g2⟩ := rec_cells q5
  obtain ⟨X, c, rfl⟩ : ∃ X c, v' = .slice X n c := by
    rcases q2.2 with ⟨e1, e2⟩ | ⟨g, cap, cur, e1, _⟩
    · exact ⟨none, 0, by rw [e1, e2]⟩
    · exact ⟨_, cap, e1⟩
  obtain ⟨R, hR⟩ : ∃ R, R = w.heap.size + 1 + 1 := ⟨_, rfl⟩
  rw [← hR] at c0 c1 c2 g0 g1 g2
  have zR : R < w2.heap.size := lt_of_cell c0
  have hb : Below w.heap.size w w2 := by
    refine ⟨q3.os.trans T5.out.os, q3.tape.trans T5.out.tape, q3.output.trans T5.out.output, Nat.le_trans T5.out.size q3.size, fun x hx => ?_⟩
    exact (q4 x (by rw [T4.out]; omega) (by omega)).trans (T5.out.block x hx)
  have Y : Below w.heap.size w (((w2.setCell ⟨R, 0, none⟩ (.int .i64 (T S n : Nat))).setCell ⟨R, 1, none⟩ (.slice X n c)).setCell ⟨R, 2, none⟩ (.bool false)) := ((hb.setCell (p := ⟨R, 0, none⟩) (by simp only; omega) _).setCell (p := ⟨R, 1, none⟩) (by simp only; omega) _).setCell (p := ⟨R, 2, none⟩) (by simp only; omega) _
  have Z : (((w2.setCell ⟨R, 0, none⟩ (.int .i64 (T S n : Nat))).setCell ⟨R, 1, none⟩ (.slice X n c)).setCell ⟨R, 2, none⟩ (.bool false)).ownsRow B 3 1 (.slice X n c) n (told n n) := ownsRow_setCell_below (ownsRow_setCell_below (ownsRow_setCell_below q2 (a := ⟨R, 0, none⟩) (by simp only; omega) _) (a := ⟨R, 1, none⟩) (by simp only; omega) _) (a := ⟨R, 2, none⟩) (by simp only; omega) _
  have YY := hide Y
  have ZZ := hide Z
  have hne : ¬ w.heap.size + 1 + 1 + 1 = R := by omega
  obtain ⟨rb, hrb⟩ : ∃ rb, rb = w.heap.size + 1 + 1 + 1 := ⟨_, rfl⟩
  rw [← hrb] at a0 a1 a2 hne
  rw [← hrb, ← hR]
  clear Y Z q1 q2 q3 q4 q5 hb hR HRU T2 T4 T5 hrb
  go_wp2_with fail
  exact bodyPost_ret (v := .tuple #[.agg #[.int .i64 (T S n : Nat), .slice X n c, .bool false], .int .i64 0]) (by simp [results, Try.results4, go_sem, c0, c1, c2]) rfl ⟨⟨_, B, rfl, ZZ.out⟩, YY.out⟩

set_option maxHeartbeats 2000000 in
theorem Replay_bad (n s start : Int) (w : World) (c : wrongN n s ≠ 0) :
    Calls Try.prog 4 #[.int .i64 n, .int .i64 s, .int .i64 start] w fun e w' => e = .returned (.tuple #[.agg #[.int .i64 0, .slice none 0 0, .bool false], .int .i64 (wrongN n s)]) ∧ Below w.heap.size w w' := by
  obtain ⟨⟨t0, t1, t2, t3⟩, t4, t5⟩ := four w (.cells #[.int .i64 n] 3) (.cells #[.int .i64 start] 3) (.cells #[.int .i64 0, .slice none 0 0, .bool false] 24) (.cells #[.int .i64 0, .slice none 0 0, .bool false] 24)
  have T2 := hide t2
  have T3 := hide t3
  have T5 := hide t5
  have T4 := hide t4
  clear t0 t1 t2 t3 t4 t5
  go_enter Try.func4, Try.ntmps4
  go_wp2_with fail
  refine (Run_bad n s start _ _ _ _ _ _ _ c).mono ?_
  rintro e w2 ⟨rfl, q3⟩
  have q1 : w2.heap[w.heap.size + 1 + 1 + 1]? = some (.cells #[.int .i64 0, .slice none 0 0, .bool false] 24 (0, 0)) := (q3.block _ (by rw [T4.out]; omega)).trans T3.out
  have q5 : w2.heap[w.heap.size + 1 + 1]? = some (.cells #[.int .i64 0, .slice none 0 0, .bool false] 24 (0, 0)) := (q3.block _ (by rw [T4.out]; omega)).trans T2.out
  obtain ⟨⟨a0, a1, a2⟩, _⟩ := rec_cells q1
  obtain ⟨⟨c0, c1, c2⟩, g0, g1, g2⟩ := rec_cells q5
  obtain ⟨R, hR⟩ : ∃ R, R = w.heap.size + 1 + 1 := ⟨_, rfl⟩
  rw [← hR] at c0 c1 c2 g0 g1 g2
  have zR : R < w2.heap.size := lt_of_cell c0
  have hb : Below w.heap.size w w2 := below_on T5.out q3
  have Y : Below w.heap.size w (((w2.setCell ⟨R, 0, none⟩ (.int .i64 0)).setCell ⟨R, 1, none⟩ (.slice none 0 0)).setCell ⟨R, 2, none⟩ (.bool false)) := ((hb.setCell (p := ⟨R, 0, none⟩) (by simp only; omega) _).setCell (p := ⟨R, 1, none⟩) (by simp only; omega) _).setCell (p := ⟨R, 2, none⟩) (by simp only; omega) _
  have YY := hide Y
  have hne : ¬ w.heap.size + 1 + 1 + 1 = R := by omega
  obtain ⟨rb, hrb⟩ : ∃ rb, rb = w.heap.size + 1 + 1 + 1 := ⟨_, rfl⟩
  rw [← hrb] at a0 a1 a2 hne
  rw [← hrb, ← hR]
  clear Y q1 q3 q5 hb hR T2 T3 T4 T5 hrb
  go_wp2_with fail
  exact bodyPost_ret (v := .tuple #[.agg #[.int .i64 0, .slice none 0 0, .bool false], .int .i64 (wrongN n s)]) (by simp [results, Try.results4, go_sem, c0, c1, c2]) rfl ⟨rfl, YY.out⟩
end Go.Proofs.Ytbdbbnnkagkioaa.V
