/-
  The reader: its place in memory; next, is, may, must, wrong.
-/
import Derived.Test.YtadhlnlcdljamaaGreatDoorTxName
import Derived.Deep.RegionHeld3
namespace Go.Proofs.YtadhlnlcdljamaaGreatDoor.V
set_option maxRecDepth 20000
open Go.RowKit

/-- The reader lies at R, its tokens at G, and it has come to i. -/
structure RdAt (X : Tks) (R G c : Nat) (w : World) (i : Nat) : Prop where
  lt : G < w.heap.size
  ne : G ≠ R
  len : X.ts.length ≤ 65536
  le : i ≤ X.ts.length
  cap : X.ts.length + 1 ≤ c
  two : TwoAt 36 w R (.slice (some ⟨G, 0, none⟩) (X.ts.length + 1) c) (.int .i64 (i : Int))
  toks : ∀ j, j ≤ X.ts.length → w.cell? ⟨G, j * 2, none⟩ = some (.string (X.tx j)) ∧ w.cell? ⟨G, j * 2 + 1, none⟩ = some (.int .i64 (X.ps j : Int))
theorem RdAt.grown {X : Tks} {R G c : Nat} {w w' : World} {i : Nat} {row : Option Nat} (h : RdAt X R G c w i) (hg : w.grownBy w' row) (h1 : some R ≠ row) (h2 : some G ≠ row) : RdAt X R G c w' i :=
  ⟨Nat.lt_of_lt_of_le h.lt hg.size, h.ne, h.len, h.le, h.cap, h.two.grown hg h1, fun j hj => ⟨hg.cell (h.toks j hj).1 h2, hg.cell (h.toks j hj).2 h2⟩⟩
theorem RdAt.below {X : Tks} {R G c : Nat} {w w' : World} {i : Nat} (h : RdAt X R G c w i) (hb : Below w.heap.size w w') : RdAt X R G c w' i := h.grown (hb.by none) (by simp) (by simp)
theorem RdAt.alloc {X : Tks} {R G c : Nat} {w : World} {i : Nat} (h : RdAt X R G c w i) (o : Obj) : RdAt X R G c (w.alloc o) i := h.grown (World.grownBy_alloc w o none) (by simp) (by simp)
theorem RdAt.ltR {X : Tks} {R G c : Nat} {w : World} {i : Nat} (h : RdAt X R G c w i) : R < w.heap.size := h.two.lt

set_option maxRecDepth 100000 in
set_option maxHeartbeats 2000000 in
theorem tNext {X : Tks} {R G c : Nat} {w : World} {i : Nat} (h : RdAt X R G c w i) : Calls Tryz.prog 64 #[.pointer (some ⟨R, 0, none⟩)] w fun e w' => e = .returned (.agg #[.string (X.tx i), .int .i64 (X.ps i : Int)]) ∧ Below w.heap.size w w' := by
  have h' := h.alloc (.cells #[.string ⟨#[]⟩, .int .i64 0] 34)
  obtain ⟨⟨r0, r1⟩, fr0, fr1⟩ := h'.two.cells
  obtain ⟨t0, t1⟩ := h'.toks i h.le
  have hl := h.le
  have hm := h.len
  have hc := h.cap
  have i1 : (0 : Int) ≤ (i : Int) := Int.natCast_nonneg _
  have i2 : (i : Int) < ((X.ts.length + 1 : Nat) : Int) := by omega
  obtain ⟨n, hn⟩ : ∃ n, n = X.ts.length + 1 := ⟨_, rfl⟩
  rw [← hn] at r0 i2
  have HN := hide hn
  obtain ⟨tx, htx⟩ : ∃ tx, tx = X.tx i := ⟨_, rfl⟩
  obtain ⟨p, hp⟩ : ∃ p, p = X.ps i := ⟨_, rfl⟩
  rw [← htx] at t0 ⊢
  rw [← hp] at t1 ⊢
  clear h h' hn hp htx hl hc hm
  go_enter Tryz.func64, Tryz.ntmps64
  go_wp2
  go_region
  have HB := hide (((Below.refl _ w).alloc (Nat.le_refl _) (.cells #[.string tx, .int .i64 (p : Int)] 34)).drew)
  have u0 : (w.alloc (.cells #[.string tx, .int .i64 (p : Int)] 34)).drew.cell? ⟨w.heap.size, 0, none⟩ = some (.string tx) := (TwoAt.new 34 w _ _).cells.1.1
  have u1 : (w.alloc (.cells #[.string tx, .int .i64 (p : Int)] 34)).drew.cell? ⟨w.heap.size, 1, none⟩ = some (.int .i64 (p : Int)) := (TwoAt.new 34 w _ _).cells.1.2
  obtain ⟨w3, hw3⟩ : ∃ w3, w3 = (w.alloc (.cells #[.string tx, .int .i64 (p : Int)] 34)).drew := ⟨_, rfl⟩
  rw [← hw3] at HB u0 u1 ⊢
  clear hw3
  go_wp2
  exact bodyPost_ret (v := .agg #[.string tx, .int .i64 (p : Int)]) (by simp [results, Tryz.results64, go_sem, u0, u1]) rfl ⟨rfl, HB.out⟩

theorem field_text (a b : Value) (w : World) : (Instr.field 34 (.agg #[a, b]) 0).run Tryz.prog w = .ok a w := by kernel_rfl
theorem field_at (a b : Value) (w : World) : (Instr.field 34 (.agg #[a, b]) 1).run Tryz.prog w = .ok b w := by kernel_rfl
set_option maxHeartbeats 1000000 in
theorem tIs {X : Tks} {R G c : Nat} {w : World} {i : Nat} (h : RdAt X R G c w i) (t : ByteArray) : Calls Tryz.prog 63 #[.pointer (some ⟨R, 0, none⟩), .string t] w fun e w' => e = .returned (.bool ((X.tx i).toList == t.toList)) ∧ Below w.heap.size w w' := by
  have HN := hide (tNext h)
  have hf0 := field_text
  have hf1 := field_at
  clear h
  go_enter Tryz.func63, Tryz.ntmps63
  go_wp2_with (go_at_call 64; refine HN.out.mono ?_; rintro e w1 ⟨rfl, hb⟩; have HB := hide hb; clear hb)
  go_ret
  exact ⟨rfl, HB.out⟩

theorem RdAt.put {X : Tks} {R G c : Nat} {w : World} {i : Nat} (h : RdAt X R G c w i) (j : Nat) (hj : j ≤ X.ts.length) : RdAt X R G c (w.setCell ⟨R, 1, none⟩ (.int .i64 (j : Int))) j := by
  have hg : w.grownBy (w.setCell ⟨R, 1, none⟩ (.int .i64 (j : Int))) (some R) := ⟨rfl, rfl, rfl, by simp [World.setCell], fun k _ hne => by
    have : k ≠ R := fun e => hne (by rw [e])
    rw [Below.heap_setCell _ _ _ _ this]⟩
  refine ⟨Nat.lt_of_lt_of_le h.lt hg.size, h.ne, h.len, hj, h.cap, ?_, fun k hk => ⟨hg.cell (h.toks k hk).1 (by simpa using h.ne), hg.cell (h.toks k hk).2 (by simpa using h.ne)⟩⟩
  have h2 := h.two
  unfold TwoAt at *
  simp [World.setCell, Array.getElem?_modify, h2]
theorem set_out (w : World) (R o : Nat) (v : Value) : w.grownBy (w.setCell ⟨R, o, none⟩ v) (some R) := ⟨rfl, rfl, rfl, by simp [World.setCell], fun k _ hne => by
    have : k ≠ R := fun e => hne (by rw [e])
    rw [Below.heap_setCell _ _ _ _ this]⟩

/-- What holds where the reader has come on, or has not. -/
def MayP (X : Tks) (R G c : Nat) (t : ByteArray) (w : World) (i : Nat) (e : Ending) (w' : World) : Prop :=
  e = .returned (.bool ((X.tx i).toList == t.toList)) ∧ w.grownBy w' (some R) ∧ RdAt X R G c w' (if ((X.tx i).toList == t.toList) = true then i + 1 else i)
set_option maxHeartbeats 1000000 in
theorem tMay {X : Tks} {R G c : Nat} {w : World} {i : Nat} (h : RdAt X R G c w i) (t : ByteArray) (ht : t.toList ≠ []) : Calls Tryz.prog 51 #[.pointer (some ⟨R, 0, none⟩), .string t] w (MayP X R G c t w i) := by
  unfold MayP
  have HI := hide (tIs h t)
  have HR := hide h
  have hlt : ((X.tx i).toList == t.toList) = true → i < X.ts.length := fun e => Tks.lt_of e ht
  have hm := h.len
  clear h
  cases hb : ((X.tx i).toList == t.toList) with
  | true =>
    rw [hb] at HI
    have hl := hlt hb
    rw [if_pos rfl]
    clear hlt hb
    go_enter Tryz.func51, Tryz.ntmps51
    go_wp2_with (go_at_call 63; refine HI.out.mono ?_; rintro e w1 ⟨rfl, hb⟩; have HB := hide hb; have HR1 := hide (HR.out.below hb); obtain ⟨⟨r0, r1⟩, fr0, fr1⟩ := (HR.out.below hb).two.cells; clear hb)
    go_ret
    exact ⟨rfl, (HB.out.by _).then' (set_out _ _ _ _), by have := HR1.out.put (i + 1) (by omega); simpa using this⟩
  | false =>
    rw [hb] at HI
    rw [if_neg (by simp)]
    clear hlt hb
    go_enter Tryz.func51, Tryz.ntmps51
    go_wp2_with (go_at_call 63; refine HI.out.mono ?_; rintro e w1 ⟨rfl, hb⟩; have HB := hide hb; have HR1 := hide (HR.out.below hb); clear hb)
    go_ret
    exact ⟨rfl, HB.out.by _, HR1.out⟩

theorem tMay_yes {X : Tks} {R G c : Nat} {w : World} {i : Nat} (h : RdAt X R G c w i) (t : ByteArray) (l : List UInt8) (hl : t.toList = l) (hne : l ≠ []) (hb : ((X.tx i).toList == l) = true) :
    Calls Tryz.prog 51 #[.pointer (some ⟨R, 0, none⟩), .string t] w fun e w' => e = .returned (.bool true) ∧ w.grownBy w' (some R) ∧ RdAt X R G c w' (i + 1) := by
  subst hl
  refine (tMay h t hne).mono ?_
  rintro e w' ⟨h1, h2, h3⟩
  rw [if_pos hb] at h3
  rw [hb] at h1
  exact ⟨h1, h2, h3⟩
theorem tMay_no {X : Tks} {R G c : Nat} {w : World} {i : Nat} (h : RdAt X R G c w i) (t : ByteArray) (l : List UInt8) (hl : t.toList = l) (hne : l ≠ []) (hb : ((X.tx i).toList == l) = false) :
    Calls Tryz.prog 51 #[.pointer (some ⟨R, 0, none⟩), .string t] w fun e w' => e = .returned (.bool false) ∧ w.grownBy w' (some R) ∧ RdAt X R G c w' i := by
  subst hl
  refine (tMay h t hne).mono ?_
  rintro e w' ⟨h1, h2, h3⟩
  rw [if_neg (by rw [hb]; simp)] at h3
  rw [hb] at h1
  exact ⟨h1, h2, h3⟩
set_option maxHeartbeats 1000000 in
theorem tBad {X : Tks} {R G c : Nat} {w : World} {i : Nat} (h : RdAt X R G c w i) (T : Int) : Calls Tryz.prog 52 #[.pointer (some ⟨R, 0, none⟩), .int .i64 T] w fun e w' => e = thrown T (X.ps i) ∧ Below w.heap.size w w' := by
  unfold thrown faultV
  have HN := hide (tNext h)
  have hf0 := field_text
  have hf1 := field_at
  clear h
  go_enter Tryz.func52, Tryz.ntmps52
  go_wp2_with (go_at_call 64; refine HN.out.mono ?_; rintro e w1 ⟨rfl, hb⟩; have HB := hide hb; clear hb)
  exact ⟨rfl, rfl, HB.out⟩

/-- How a part of the text is read: a fault is thrown, or it is there, and the reader has come on. -/
def Parsed {α : Type} (X : Tks) (R G c : Nat) (rep : World → α → Value → Prop) (r : Res α) (w : World) (e : Ending) (w' : World) : Prop :=
  w.grownBy w' (some R) ∧ match r with
  | .bad T k => e = thrown T k
  | .ok a j => RdAt X R G c w' j ∧ ∃ v, e = .returned v ∧ rep w' a v
def repU (_ : World) (_ : Unit) (v : Value) : Prop := v = .tuple #[]
set_option maxHeartbeats 1000000 in
theorem tMust {X : Tks} {R G c : Nat} {w : World} {i : Nat} (h : RdAt X R G c w i) (t : ByteArray) (l : List UInt8) (hl : t.toList = l) (ht' : l ≠ []) : Calls Tryz.prog 38 #[.pointer (some ⟨R, 0, none⟩), .string t] w (Parsed X R G c repU (mustS X l i) w) := by
  subst hl
  have ht := ht'
  unfold Parsed mustS
  have HM := hide (tMay h t ht)
  have HR := hide h
  clear h
  cases hb : ((X.tx i).toList == t.toList) with
  | true =>
    rw [if_pos rfl]
    go_enter Tryz.func38, Tryz.ntmps38
    go_wp2_with (go_at_call 51; refine HM.out.mono ?_; rintro e w1 ⟨he, hg, hr⟩; rw [hb] at he; rw [if_pos hb] at hr; subst he; have HG := hide hg; have HR1 := hide hr; clear hg hr)
    go_end0
    exact ⟨HG.out, HR1.out, _, rfl, rfl⟩
  | false =>
    rw [if_neg (by simp)]
    unfold thrown faultV
    go_enter Tryz.func38, Tryz.ntmps38
    go_wp2_with (first
      | (go_at_call 51; refine HM.out.mono ?_; rintro e w1 ⟨he, hg, hr⟩; rw [hb] at he; rw [if_neg (by rw [hb]; simp)] at hr; subst he; have HG := hide hg; have HR1 := hide hr; clear hg hr)
      | (go_at_call 52; refine (tBad HR1.out 7).mono ?_; unfold thrown faultV; rintro e w2 ⟨rfl, hb2⟩; have HB2 := hide hb2; clear hb2))
    exact ⟨rfl, HG.out.then' (HB2.out.by _), rfl⟩
end Go.Proofs.YtadhlnlcdljamaaGreatDoor.V
