/-
  A run in memory; contracts: plain.Replay's two functions, what Run tells its moves to.
-/
import Derived.Test.YtbdbbnnkagkioaaRpApp
import Derived.Test.YtbdbbnnkagkioaaRpPlayMath
namespace Go.Proofs.Ytbdbbnnkagkioaa.V
open Go.RowKit
set_option linter.unusedVariables false

theorem cell_newI (w : World) (x : Int) (t : TypeId) : (w.alloc (.cells #[.int .i64 x] t)).cell? ⟨w.heap.size, 0, none⟩ = some (.int .i64 x) := by
  unfold World.cell?
  rw [World.alloc_heap_new w (.cells #[.int .i64 x] t)]
  rfl
/-- Where a run's parts lie. -/
structure Bk where
  (ab bb nb kv kb rb sb nn B : Nat)
def valO (start : Int) : Option Nat → Int
  | none => 0
  | some a => start + a
/-- What has been told. -/
def told (n k : Nat) : List Value := (List.range k).map fun (i : Nat) => .int .i64 ((n : Int) - 1 - (i : Int))
theorem told_succ (n k : Nat) : told n (k + 1) = told n k ++ [.int .i64 ((n : Int) - 1 - (k : Int))] := by simp [told, List.range_succ]
structure RunAt (w : World) (b : Bk) (n S : Nat) (start : Int) (st : St) (v : Value) : Prop where
  ahead : w.heap[b.ab]? = some (.cells #[.func (.func 7) #[] #[.pointer (some ⟨b.rb, 0, none⟩), .pointer (some ⟨b.sb, 0, none⟩), .pointer (some ⟨b.nn, 0, none⟩)]] 32 (0, 0))
  back : w.heap[b.bb]? = some (.cells #[.func (.func 8) #[] #[.pointer (some ⟨b.rb, 0, none⟩), .pointer (some ⟨b.sb, 0, none⟩)]] 33 (0, 0))
  now : w.heap[b.nb]? = some (.cells #[.int .i64 (start + st.now)] 3 (0, 0))
  kept : w.heap[b.kv]? = some (.cells #[.slice (some ⟨b.kb, 0, none⟩) S S] 22 (0, 0))
  row : w.rowIs b.kb 3 S (fun i => .int .i64 (valO start (st.kept[i]?.getD none)))
  seen : w.heap[b.rb]? = some (.cells #[.int .i64 st.cost, v, .bool false] 24 (0, 0))
  first : w.heap[b.sb]? = some (.cells #[.int .i64 start] 3 (0, 0))
  steps : w.heap[b.nn]? = some (.cells #[.int .i64 n] 3 (0, 0))
  told : w.ownsRow b.B 3 1 v (n - st.left) (V.told n (n - st.left))
  dn : ∀ x ∈ [b.ab, b.bb, b.kv, b.kb, b.rb, b.sb, b.nn], x ≠ b.nb
  dk : ∀ x ∈ [b.ab, b.bb, b.nb, b.kv, b.rb, b.sb, b.nn], x ≠ b.kb
  dr : ∀ x ∈ [b.ab, b.bb, b.nb, b.kv, b.kb, b.sb, b.nn], x ≠ b.rb
  under : ∀ x ∈ [b.ab, b.bb, b.nb, b.kv, b.kb, b.rb, b.sb, b.nn], x < b.B
/-- What a run leaves alone. -/
def Sv (b : Bk) (w w' : World) : Prop := Below 0 w w' ∧ ∀ x, x < b.B → x ≠ b.nb → x ≠ b.kb → x ≠ b.rb → w'.heap[x]? = w.heap[x]?
theorem Sv.refl (b : Bk) (w : World) : Sv b w w := ⟨Below.refl _ _, fun _ _ _ _ _ => rfl⟩
theorem Sv.trans {b : Bk} {w w1 w2 : World} (h : Sv b w w1) (k : Sv b w1 w2) : Sv b w w2 := ⟨h.1.trans k.1, fun x h1 h2 h3 h4 => (k.2 x h1 h2 h3 h4).trans (h.2 x h1 h2 h3 h4)⟩
theorem cell_of {w : World} {b : Nat} {v : Value} {t : TypeId} (h : w.heap[b]? = some (.cells #[v] t (0, 0))) : w.cell? ⟨b, 0, none⟩ = some v ∧ w.frozen? ⟨b, 0, none⟩ = false := by
  constructor <;> simp [World.cell?, World.frozen?, h]
theorem lt_of_block {w : World} {b : Nat} {o : Obj} (h : w.heap[b]? = some o) : b < w.heap.size := (Array.getElem?_eq_some_iff.1 h).1

section
variable {w : World} {b : Bk} {n S : Nat} {start : Int} {st : St} {v : Value}
theorem RunAt.alloc (h : RunAt w b n S start st v) (o : Obj) : RunAt (w.alloc o) b n S start st v :=
  have hb {k : Nat} {x : Obj} (hk : w.heap[k]? = some x) : (w.alloc o).heap[k]? = some x := (Below.heap_alloc _ _ _ (lt_of_block hk)).trans hk
  ⟨hb h.ahead, hb h.back, hb h.now, hb h.kept, h.row.alloc o, hb h.seen, hb h.first, hb h.steps, h.told.alloc o, h.dn, h.dk, h.dr, h.under⟩
theorem RunAt.size (h : RunAt w b n S start st v) (x : Nat) (hx : x ∈ [b.ab, b.bb, b.nb, b.kv, b.kb, b.rb, b.sb, b.nn]) : x < w.heap.size := by
  simp only [List.mem_cons, List.not_mem_nil, or_false] at hx
  rcases hx with rfl | rfl | rfl | rfl | rfl | rfl | rfl | rfl
  · exact lt_of_block h.ahead
  · exact lt_of_block h.back
  · exact lt_of_block h.now
  · exact lt_of_block h.kept
  · exact h.row.lt
  · exact lt_of_block h.seen
  · exact lt_of_block h.first
  · exact lt_of_block h.steps
theorem RunAt.setNow (h : RunAt w b n S start st v) (x : Nat) : RunAt (w.setCell ⟨b.nb, 0, none⟩ (.int .i64 (start + x))) b n S start { st with now := x } v := by
  have ho {k : Nat} {y : Obj} (hk : w.heap[k]? = some y) (hne : k ≠ b.nb) : (w.setCell ⟨b.nb, 0, none⟩ (.int .i64 (start + x))).heap[k]? = some y := (Below.heap_setCell _ _ _ _ hne).trans hk
  have hnow := h.now
  refine ⟨ho h.ahead (h.dn _ (by simp)), ho h.back (h.dn _ (by simp)), ?_, ho h.kept (h.dn _ (by simp)), h.row.setOther (a := ⟨b.nb, 0, none⟩) (h.dn _ (by simp)) _, ho h.seen (h.dn _ (by simp)), ho h.first (h.dn _ (by simp)), ho h.steps (h.dn _ (by simp)), ownsRow_setCell_below h.told (a := ⟨b.nb, 0, none⟩) (h.under _ (by simp)) _, h.dn, h.dk, h.dr, h.under⟩
  simp [World.setCell, Array.getElem?_modify, hnow]
theorem Sv.setNow (h : RunAt w b n S start st v) (u : Value) : Sv b w (w.setCell ⟨b.nb, 0, none⟩ u) :=
  ⟨(Below.refl _ _).setCell (p := ⟨b.nb, 0, none⟩) (Nat.zero_le _) _, fun x _ h2 _ _ => Below.heap_setCell _ _ _ _ h2⟩
theorem RunAt.setKept (h : RunAt w b n S start st v) (hl : st.kept.length = S) (i a : Nat) (hi : i < S) : RunAt (w.setCell ⟨b.kb, i, none⟩ (.int .i64 (start + a))) b n S start { st with kept := st.kept.set i (some a) } v := by
  have ho {k : Nat} {y : Obj} (hk : w.heap[k]? = some y) (hne : k ≠ b.kb) : (w.setCell ⟨b.kb, i, none⟩ (.int .i64 (start + a))).heap[k]? = some y := (Below.heap_setCell _ _ _ _ hne).trans hk
  refine ⟨ho h.ahead (h.dk _ (by simp)), ho h.back (h.dk _ (by simp)), ho h.now (h.dk _ (by simp)), ho h.kept (h.dk _ (by simp)), ?_, ho h.seen (h.dk _ (by simp)), ho h.first (h.dk _ (by simp)), ho h.steps (h.dk _ (by simp)), ownsRow_setCell_below h.told (a := ⟨b.kb, i, none⟩) (h.under _ (by simp)) _, h.dn, h.dk, h.dr, h.under⟩
  refine (h.row.set i (.int .i64 (start + a))).congr fun j hj => ?_
  by_cases e : j = i
  · subst e; simp [hl, hi, valO]
  · simp only [e, if_false]
    rw [List.getElem?_set_ne (fun h => e h.symm)]
theorem Sv.setKept (i : Nat) (u : Value) : Sv b w (w.setCell ⟨b.kb, i, none⟩ u) :=
  ⟨(Below.refl _ _).setCell (p := ⟨b.kb, i, none⟩) (Nat.zero_le _) _, fun x _ _ h3 _ => Below.heap_setCell _ _ _ _ h3⟩
theorem Sv.alloc (hB : b.B ≤ w.heap.size) (o : Obj) : Sv b w (w.alloc o) := ⟨(Below.refl _ _).alloc (Nat.zero_le _) _, fun x h1 _ _ _ => Below.heap_alloc _ _ _ (by omega)⟩
end

set_option maxHeartbeats 1000000 in
/-- One step ahead, counted. -/
theorem ahead1_any (b : Bk) (n S : Nat) (start : Int) (st : St) (v : Value) (w : World) (h : RunAt w b n S start st v) (hn : n ≤ 256) (hs : -1099511627776 ≤ start ∧ start ≤ 1099511627776) (hnow : st.now < n) (hc : st.cost ≤ 1000000) :
    Calls Try.prog 7 #[.int .i64 (start + st.now), .pointer (some ⟨b.rb, 0, none⟩), .pointer (some ⟨b.sb, 0, none⟩), .pointer (some ⟨b.nn, 0, none⟩)] w fun e w' => e = .returned (.int .i64 (start + (st.now + 1 : Nat))) ∧ RunAt w' b n S start { st with cost := st.cost + 1 } v ∧ Sv b w w' := by
  obtain ⟨k1, _⟩ := cell_of h.first
  obtain ⟨k2, _⟩ := cell_of h.steps
  have hr := h.seen
  have k3 : w.cell? ⟨b.rb, 0, none⟩ = some (.int .i64 st.cost) := by simp [World.cell?, hr]
  have k4 : w.cell? ⟨b.rb, 2, none⟩ = some (.bool false) := by simp [World.cell?, hr]
  have f3 : w.frozen? ⟨b.rb, 0, none⟩ = false := by simp [World.frozen?, hr]
  have f4 : w.frozen? ⟨b.rb, 2, none⟩ = false := by simp [World.frozen?, hr]
  have n1 : b.sb ≠ b.rb := h.dr _ (by simp)
  have n2 : b.nn ≠ b.rb := h.dr _ (by simp)
  have X : RunAt ((w.setCell ⟨b.rb, 0, none⟩ (.int .i64 ((st.cost : Int) + 1))).setCell ⟨b.rb, 2, none⟩ (.bool false)) b n S start { st with cost := st.cost + 1 } v := by
    have ho {k : Nat} {y : Obj} (hk : w.heap[k]? = some y) (hne : k ≠ b.rb) : ((w.setCell ⟨b.rb, 0, none⟩ (.int .i64 ((st.cost : Int) + 1))).setCell ⟨b.rb, 2, none⟩ (.bool false)).heap[k]? = some y := ((Below.heap_setCell _ _ _ _ hne).trans (Below.heap_setCell _ _ _ _ hne)).trans hk
    refine ⟨ho h.ahead (h.dr _ (by simp)), ho h.back (h.dr _ (by simp)), ho h.now (h.dr _ (by simp)), ho h.kept (h.dr _ (by simp)), (h.row.setOther (a := ⟨b.rb, 0, none⟩) (h.dr _ (by simp)) _).setOther (a := ⟨b.rb, 2, none⟩) (h.dr _ (by simp)) _, ?_, ho h.first (h.dr _ (by simp)), ho h.steps (h.dr _ (by simp)), ownsRow_setCell_below (ownsRow_setCell_below h.told (a := ⟨b.rb, 0, none⟩) (h.under _ (by simp)) _) (a := ⟨b.rb, 2, none⟩) (h.under _ (by simp)) _, h.dn, h.dk, h.dr, h.under⟩
    simp [World.setCell, Array.getElem?_modify, hr]
  have Y : Sv b w ((w.setCell ⟨b.rb, 0, none⟩ (.int .i64 ((st.cost : Int) + 1))).setCell ⟨b.rb, 2, none⟩ (.bool false)) :=
    ⟨((Below.refl _ _).setCell (p := ⟨b.rb, 0, none⟩) (Nat.zero_le _) _).setCell (p := ⟨b.rb, 2, none⟩) (Nat.zero_le _) _, fun x _ _ _ h4 => (Below.heap_setCell _ _ _ _ h4).trans (Below.heap_setCell _ _ _ _ h4)⟩
  have XX := hide X
  have YY := hide Y
  have c1 : ¬ (start + (st.now : Int)) < start := by omega
  have c2 : ¬ (start + (n : Int)) ≤ start + (st.now : Int) := by omega
  clear X Y hr h
  go_enter Try.func7, Try.ntmps7
  go_wp2
  go_ret
  exact ⟨ret_int (by omega), XX.out, YY.out⟩

theorem RunAt.tell {w w1 : World} {b : Bk} {n S : Nat} {start : Int} {st : St} {v v1 : Value} (h : RunAt w b n S start st v) (hb : ∀ x, x < b.B → w1.heap[x]? = w.heap[x]?) (ho1 : w1.ownsRow b.B 3 1 v1 (n - (st.left - 1)) (V.told n (n - (st.left - 1)))) :
    RunAt (w1.setCell ⟨b.rb, 1, none⟩ v1) b n S start { st with left := st.left - 1 } v1 := by
  have hr := (hb _ (h.under _ (by simp))).trans h.seen
  have ho {k : Nat} {y : Obj} (hk : w.heap[k]? = some y) (hne : k ≠ b.rb) (hu : k < b.B) : (w1.setCell ⟨b.rb, 1, none⟩ v1).heap[k]? = some y := (Below.heap_setCell _ _ _ _ hne).trans ((hb k hu).trans hk)
  refine ⟨ho h.ahead (h.dr _ (by simp)) (h.under _ (by simp)), ho h.back (h.dr _ (by simp)) (h.under _ (by simp)), ho h.now (h.dr _ (by simp)) (h.under _ (by simp)), ho h.kept (h.dr _ (by simp)) (h.under _ (by simp)), (h.row.of_block (hb _ (h.under _ (by simp)))).setOther (a := ⟨b.rb, 1, none⟩) (h.dr _ (by simp)) _, ?_, ho h.first (h.dr _ (by simp)) (h.under _ (by simp)), ho h.steps (h.dr _ (by simp)) (h.under _ (by simp)), ownsRow_setCell_below ho1 (a := ⟨b.rb, 1, none⟩) (h.under _ (by simp)) _, h.dn, h.dk, h.dr, h.under⟩
  simp [World.setCell, Array.getElem?_modify, hr]

set_option maxHeartbeats 1000000 in
/-- A state is told. -/
theorem back1_any (b : Bk) (n S : Nat) (start : Int) (st : St) (v : Value) (w : World) (h : RunAt w b n S start st v) (hn : n ≤ 256) (hs : -1099511627776 ≤ start ∧ start ≤ 1099511627776) (hl : st.now + 1 = st.left) (hl2 : st.left ≤ n) (hB : b.B ≤ w.heap.size) :
    Calls Try.prog 8 #[.int .i64 (start + st.now), .pointer (some ⟨b.rb, 0, none⟩), .pointer (some ⟨b.sb, 0, none⟩)] w fun e w' => e = .returned (.tuple #[]) ∧ (∃ v', RunAt w' b n S start { st with left := st.left - 1 } v') ∧ Sv b w w' := by
  obtain ⟨k1, _⟩ := cell_of h.first
  have hr := h.seen
  have k3 : w.cell? ⟨b.rb, 1, none⟩ = some v := by simp [World.cell?, hr]
  have z := lt_of_block hr
  have z2 := lt_of_block h.first
  have es : start + (st.now : Int) - start = (st.now : Int) := by omega
  have G : ∀ v1 w1, (w.alloc (.cells #[.int .i64 (st.now : Nat)] 3)).grownBy w1 v.ownBlock → w1.ownsRow b.B 3 1 v1 (n - st.left + 1) (V.told n (n - st.left) ++ [.int .i64 (st.now : Nat)]) → (w1.cell? ⟨b.rb, 1, none⟩ = some v ∧ w1.frozen? ⟨b.rb, 1, none⟩ = false) ∧ RunAt (w1.setCell ⟨b.rb, 1, none⟩ v1) b n S start { st with left := st.left - 1 } v1 ∧ Sv b w (w1.setCell ⟨b.rb, 1, none⟩ v1) := by
    intro v1 w1 hg ho
    have hb : ∀ x, x < b.B → w1.heap[x]? = w.heap[x]? := fun x hx => (hg.block x (by simp; omega) (fun e => by have := (h.told.lt x e.symm).1; omega)).trans (Below.heap_alloc _ _ _ (by omega))
    have hr1 := (hb _ (h.under _ (by simp))).trans hr
    refine ⟨⟨by simp [World.cell?, hr1], by simp [World.frozen?, hr1]⟩, h.tell hb ?_, ?_, fun x h1 _ _ h4 => (Below.heap_setCell _ _ _ _ h4).trans (hb x h1)⟩
    · have e : n - (st.left - 1) = n - st.left + 1 := by omega
      rw [e, told_succ]
      have e2 : (n : Int) - 1 - ((n - st.left : Nat) : Int) = (st.now : Int) := by omega
      rw [e2]
      exact ho
    · exact (((Below.refl 0 w).alloc (Nat.zero_le _) _).grown hg (Nat.zero_le _) (fun _ _ => Nat.zero_le _)).setCell (p := ⟨b.rb, 1, none⟩) (Nat.zero_le _) _
  have GG := hide G
  have O := hide (h.told.alloc (.cells #[.int .i64 (st.now : Nat)] 3))
  have C0 := hide (cell_newI w (st.now : Nat) 3)
  clear G h hr
  go_enter Try.func8, Try.ntmps8
  go_wp2_with (at_builtin; refine append_one (by rfl) (.tmp 5) (.tmp 9) (by rfl) b.B v _ _ (by rfl) O.out w.heap.size 1 (st.now : Nat) (by rfl) C0.out (by omega) (by simp; omega) ?_; intro v1 w1 hown1 hg1; obtain ⟨⟨q0, q1⟩, q2, q3⟩ := GG.out v1 w1 hg1 hown1; have Q2 := hide q2; have Q3 := hide q3; obtain ⟨g1, cap1, rfl, _⟩ := own_at hown1 (by omega); clear hown1 hg1 q2 q3)
  exact bodyPost_end (v := .tuple #[]) (by simp [results, Try.results8, go_sem]) rfl ⟨rfl, ⟨_, Q2.out⟩, Q3.out⟩
end Go.Proofs.Ytbdbbnnkagkioaa.V
