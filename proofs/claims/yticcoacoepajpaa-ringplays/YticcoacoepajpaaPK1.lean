/-
  What a slice of ints holds; what stays of it behind a call that makes memory. Teams: how notes go round. No program here. A map from numbers to lists.
-/
import Derived.WalkKit
import Derived.RangeFuncBox
import Derived.OpenShut
import Derived.Test.YticcoacoepajpaaPPlain
import Derived.MapKept
import Derived.Test.YticcoacoepajpaaRows
namespace Go.Proofs.Yticcoacoepajpaa.V
open Go.RowKit

theorem hide {p : Prop} (h : p) : Hid p := h
theorem ret_int {k : IntKind} {a b : Int} (h : a = b) : Ending.returned (.int k a) = .returned (.int k b) := by rw [h]

/-- The slice value of begin a and length len holds the numbers xs. -/
def Ints (w : World) (a : Option Addr) (len : Nat) (xs : List Int) : Prop :=
  xs.length = len ∧ len ≤ 9223372036854775807 ∧ (∀ x ∈ xs, -9223372036854775808 ≤ x ∧ x ≤ 9223372036854775807) ∧
    (len = 0 ∨ ∃ b off, a = some ⟨b, off, none⟩ ∧ ∀ j, j < len → w.cell? ⟨b, off + j, none⟩ = some (.int .i64 (xs[j]?.getD 0)))

theorem lt_of_cell {w : World} {p : Addr} {v : Value} (h : w.cell? p = some v) : p.block < w.heap.size := by
  by_cases hl : p.block < w.heap.size
  · exact hl
  · have e : w.heap[p.block]? = none := by simp; omega
    simp [World.cell?, e] at h

theorem Ints.below {w w' : World} {a : Option Addr} {len : Nat} {xs : List Int} (h : Ints w a len xs) (hb : Below w.heap.size w w') : Ints w' a len xs := by
  obtain ⟨h1, h2, h3, h4⟩ := h
  refine ⟨h1, h2, h3, ?_⟩
  rcases h4 with h4 | ⟨b, off, ha, hc⟩
  · exact .inl h4
  · by_cases h0 : len = 0
    · exact .inl h0
    · exact .inr ⟨b, off, ha, fun j hj => (hb.cell (p := ⟨b, off + j, none⟩) (lt_of_cell (hc j hj))).trans (hc j hj)⟩

theorem Ints.at {w : World} {a : Option Addr} {len : Nat} {xs : List Int} (h : Ints w a len xs) (h0 : 0 < len) :
    ∃ b off, a = some ⟨b, off, none⟩ ∧ b < w.heap.size ∧ ∀ j, j < len → w.cell? ⟨b, off + j, none⟩ = some (.int .i64 (xs[j]?.getD 0)) := by
  rcases h.2.2.2 with h4 | ⟨b, off, ha, hc⟩
  · omega
  · exact ⟨b, off, ha, lt_of_cell (hc 0 h0), hc⟩

theorem ints_of_row {w : World} {a : Option Addr} {len cap : Nat} {zs : List Int}
    (h : (a = none ∧ len = 0 ∧ cap = 0 ∧ zs = []) ∨ ∃ x, a = some x ∧ len ≤ cap ∧ cap ≤ maxLen ∧ zs.length = cap ∧ (∀ i, i < zs.length → w.cell? (x.add i) = some (.int .i64 (zs.getD i 0))) ∧ ∀ n ∈ zs, (Lit.int .i64 n).wf = true) :
    Ints w a len (zs.take len) := by
  rcases h with ⟨rfl, rfl, rfl, rfl⟩ | ⟨x, rfl, h1, h2, h3, h4, h5⟩
  · exact ⟨rfl, by omega, by simp, .inl rfl⟩
  · unfold maxLen at h2
    refine ⟨by simp; omega, by omega, fun y hy => bounds_i64 (h5 y (List.mem_of_mem_take hy)), ?_⟩
    by_cases h0 : len = 0
    · exact .inl h0
    · obtain ⟨b, off, rfl, hc⟩ := ints_at h4 (by omega)
      refine .inr ⟨b, off, rfl, fun j hj => ?_⟩
      rw [hc j (by omega)]
      simp [List.getElem?_take_of_lt hj]
end Go.Proofs.Yticcoacoepajpaa.V
namespace Go.Proofs.Yticcoacoepajpaa.V
open Go.RowKit
set_option linter.unusedVariables false
set_option linter.unusedSimpArgs false

/-- A number modulo how many there are. -/
def modI (x : Int) (n : Nat) : Nat := (x % (n : Int)).toNat
theorem modI_cast {n : Nat} (hn : 0 < n) (x : Int) : ((modI x n : Nat) : Int) = x % (n : Int) := by
  have := Int.emod_nonneg x (show (n : Int) ≠ 0 by omega)
  unfold modI; omega
theorem modI_lt {n : Nat} (hn : 0 < n) (x : Int) : modI x n < n := by
  have h1 := Int.emod_lt_of_pos x (show (0 : Int) < (n : Int) by omega)
  have h2 := modI_cast hn x
  omega
theorem tmod_bd {n : Nat} (hn : 0 < n) (x : Int) : -(n : Int) < x.tmod (n : Int) ∧ x.tmod (n : Int) < (n : Int) := by
  have h0 := Int.emod_nonneg x (show (n : Int) ≠ 0 by omega)
  have h1 := Int.emod_lt_of_pos x (show (0 : Int) < (n : Int) by omega)
  rw [Int.tmod_eq_emod]
  split
  · simp; omega
  · have e : ((n : Int).natAbs : Int) = (n : Int) := by omega
    rename_i h
    have : x % (n : Int) ≠ 0 := fun h2 => h (.inr (Int.dvd_of_emod_eq_zero h2))
    omega
theorem tmod_mod {n : Nat} (hn : 0 < n) (x : Int) : (x.tmod (n : Int) + (n : Int)).tmod (n : Int) = ((modI x n : Nat) : Int) := by
  rw [modI_cast hn]
  have hn' : (0 : Int) < (n : Int) := by omega
  have h1 : 0 ≤ x.tmod (n : Int) + (n : Int) := by
    have := (tmod_bd hn x).1
    omega
  rw [Int.tmod_eq_emod_of_nonneg h1, Int.add_emod_right]
  rw [Int.tmod_eq_emod]
  split
  · simp
  · have e : ((n : Int).natAbs : Int) = (n : Int) := by omega
    rw [e, Int.sub_emod_right]
    exact Int.emod_emod_of_dvd x (Int.dvd_refl _)
/-- A note. -/
structure Nt where
  fr : Int
  to : Int
  st : Int
  data : List Int
/-- A member's state. -/
structure St where
  own : List (List Int)
  parts : List (List Int)
  sent : Nat
  taken : Nat
  early : List (Nat × List Int)

/-- How many notes each one sends. -/
def notN (d n : Nat) : Nat := if d = 1 then 2 * (n - 1) else n - 1
def toN (d n me t : Nat) : Nat := if d = 4 then modI ((me : Int) + t + 1) n else modI ((me : Int) + 1) n
def fromN (d n me t : Nat) : Nat := if d = 4 then modI ((me : Int) - t - 1) n else modI ((me : Int) - 1) n
/-- Which piece is in note t. -/
def sendN (d n me t : Nat) : Nat :=
  if d = 3 then modI ((me : Int) - t) n
  else if d = 4 then modI ((me : Int) + t + 1) n
  else if d = 1 ∧ n - 1 ≤ t then modI ((me : Int) - ((t : Int) - ((n : Int) - 1))) n
  else modI ((me : Int) - t - 1) n
def takeN (d n me t : Nat) : Nat := if d = 4 then fromN d n me t else sendN d n (fromN d n me t) t
theorem toN_lt {d n me t : Nat} (hn : 0 < n) : toN d n me t < n := by unfold toN; split <;> exact modI_lt hn _
theorem fromN_lt {d n me t : Nat} (hn : 0 < n) : fromN d n me t < n := by unfold fromN; split <;> exact modI_lt hn _
theorem sendN_lt {d n me t : Nat} (hn : 0 < n) : sendN d n me t < n := by 
  unfold sendN
  split
  · exact modI_lt hn _
  · split
    · exact modI_lt hn _
    · split <;> exact modI_lt hn _
theorem takeN_lt {d n me t : Nat} (hn : 0 < n) : takeN d n me t < n := by
  unfold takeN
  split
  · exact fromN_lt hn
  · exact sendN_lt hn

/-- Words are added. -/
def addW (a b : List Int) : List Int := (List.range b.length).map fun i => wrap64 (a[i]?.getD 0 + b[i]?.getD 0)
theorem addW_len (a b : List Int) : (addW a b).length = b.length := by simp [addW]
/-- Is what comes with note t added? -/
def sumsB (d n t : Nat) : Bool := decide (d = 2 ∨ d = 1 ∧ t < n - 1)
def lookL (k : Nat) : List (Nat × List Int) → Option (List Int)
  | [] => none
  | x :: l => if x.1 = k then some x.2 else lookL k l
def prt (P : List (List Int)) (k : Nat) : List Int := P[k]?.getD []
/-- The words of the next note that is due are used. -/
def useM (d n me : Nat) (s : St) (xs : List Int) : St :=
  { s with parts := s.parts.set (takeN d n me s.taken) (if sumsB d n s.taken = true then addW (prt s.parts (takeN d n me s.taken)) xs else xs), taken := s.taken + 1 }
/-- Notes that were taken are used, up to the first one that is missing. -/
def drainM (d n me : Nat) : Nat → St → St
  | 0, s => s
  | f + 1, s => match lookL s.taken s.early with
    | none => s
    | some xs => drainM d n me f (useM d n me s xs)
def drainA (d n me : Nat) (s : St) : St := drainM d n me (notN d n - s.taken) s
/-- May a note be taken? -/
def fitsM (d n me : Nat) (s : St) (x : Nt) : Bool :=
  decide (x.to = (me : Int)) && (decide ((s.taken : Int) ≤ x.st) && (decide (x.st < (notN d n : Int)) && (decide (x.fr = ((fromN d n me x.st.toNat : Nat) : Int)) && ((lookL x.st.toNat s.early).isNone &&
    (if d = 3 then decide (x.data.length ≤ 65536) else decide (x.data.length = (prt s.parts (takeN d n me x.st.toNat)).length))))))
def takeM (d n me : Nat) (s : St) (x : Nt) : St :=
  if fitsM d n me s x = true then drainA d n me { s with early := s.early ++ [(x.st.toNat, x.data)] } else s
def takeE (d n me : Nat) (s : St) (x : Nt) : Int := if fitsM d n me s x = true then 0 else 13
/-- Can the next note be sent? -/
def canM (d n : Nat) (s : St) : Bool := !(decide (s.sent = notN d n) || (decide (d ≠ 4) && decide (s.taken < s.sent)))
def noteM (d n me : Nat) (s : St) : Nt := ⟨me, toN d n me s.sent, s.sent, prt (if d = 4 then s.own else s.parts) (sendN d n me s.sent)⟩
def nextM (d n : Nat) (s : St) : St := if canM d n s = true then { s with sent := s.sent + 1 } else s
def resE (d n : Nat) (s : St) : Int := if s.taken < notN d n then 13 else 0
def resL (d n me : Nat) (s : St) : List Int := if s.taken < notN d n then [] else if d = 2 then prt s.parts me else s.parts.flatten
/-- Piece p of words. -/
def pieceL (xs : List Int) (p n : Nat) : List Int := (xs.take ((p + 1) * xs.length / n)).drop (p * xs.length / n)
def begM (d n me : Nat) (xs : List Int) : St :=
  let P := (List.range n).map fun p => if d = 3 then (if p = me then xs else []) else pieceL xs p n
  ⟨P, P, 0, 0, []⟩
/-- What is wrong with a member. -/
def wrongM (d m me : Int) (l : Nat) : Int :=
  if d < 1 ∨ 4 < d then 1 else if m < 1 ∨ 16 < m ∨ me < 0 ∨ m ≤ me then 4 else if 65536 < l then 5 else if d = 4 ∧ (l : Int).tmod m ≠ 0 then 6 else 0
end Go.Proofs.Yticcoacoepajpaa.V
namespace Go.Proofs.Yticcoacoepajpaa.V
open Go Go.RowKit
set_option linter.unusedVariables false
set_option linter.unusedSimpArgs false

/-- The entry of a number, and where it stands. -/
def fndM (k : Int) : List (Int × Value) → Nat → Option (Nat × Value)
  | [], _ => none
  | e :: M, i => if k = e.1 then some (i, e.2) else fndM k M (i + 1)
def lkM (k : Int) : List (Int × Value) → Option Value
  | [] => none
  | e :: M => if k = e.1 then some e.2 else lkM k M
def ptM (k : Int) (v : Value) : List (Int × Value) → List (Int × Value)
  | [] => [(k, v)]
  | e :: M => if k = e.1 then (k, v) :: M else e :: ptM k v M
def dlM (k : Int) : List (Int × Value) → List (Int × Value)
  | [] => []
  | e :: M => if k = e.1 then M else e :: dlM k M
def EntsI (l : List MapEntry) (M : List (Int × Value)) : Prop := l.map (fun e => (e.key, e.val)) = M.map (fun e => (Value.int .i64 e.1, e.2))
theorem run_fndM (k : Int) : ∀ (M : List (Int × Value)) (l : List MapEntry) (i : Nat), EntsI l M → Instr.findNow (.int .i64) (.int .i64 k) l i = some (fndM k M i)
  | [], l, i, h => by
    have : l = [] := by simpa [EntsI] using h
    subst this
    simp [Instr.findNow, fndM]
  | e :: M, l, i, h => by
    cases l with
    | nil => simp [EntsI] at h
    | cons x l =>
      simp only [EntsI, List.map_cons, List.cons.injEq, Prod.mk.injEq] at h
      obtain ⟨⟨h1, h2⟩, h3⟩ := h
      unfold Instr.findNow fndM
      rw [h1, show Instr.sameNow (.int .i64) (.int .i64 k) (.int .i64 e.1) = some (k == e.1) from by simp [Instr.sameNow]]
      by_cases hk : k = e.1
      · simp [hk, h2]
      · have ih := run_fndM k M l (i + 1) h3
        have hb : (k == e.1) = false := by simpa using hk
        rw [hb, if_neg hk]
        exact ih
theorem fnd_lk (k : Int) : ∀ (M : List (Int × Value)) (i : Nat), (fndM k M i).map (·.2) = lkM k M
  | [], _ => rfl
  | e :: M, i => by
    unfold fndM lkM
    by_cases h : k = e.1
    · simp [h]
    · rw [if_neg h, if_neg h]; exact fnd_lk k M _
theorem fnd_at (k : Int) (v : Value) : ∀ (M : List (Int × Value)) (i : Nat), (∀ j x, fndM k M i = some (j, x) → i ≤ j ∧ j - i < M.length ∧ (M[j - i]?.map (·.1)) = some k ∧ ptM k v M = M.set (j - i) (k, v) ∧ dlM k M = M.eraseIdx (j - i)) ∧ (fndM k M i = none → ptM k v M = M ++ [(k, v)] ∧ dlM k M = M)
  | [], i => ⟨fun j x h => by simp [fndM] at h, fun _ => ⟨rfl, rfl⟩⟩
  | y :: M, i => by
    obtain ⟨h1, h2⟩ := fnd_at k v M (i + 1)
    unfold fndM ptM dlM
    by_cases hk : k = y.1
    · rw [if_pos hk, if_pos hk, if_pos hk]
      refine ⟨fun j x h => ?_, fun h => by cases h⟩
      cases h
      refine ⟨Nat.le_refl _, by simp, by simp [hk], by simp, by simp⟩
    · rw [if_neg hk, if_neg hk, if_neg hk]
      refine ⟨fun j x h => ?_, fun h => ⟨by rw [(h2 h).1]; rfl, by rw [(h2 h).2]⟩⟩
      obtain ⟨g1, g2, g3, g4, g5⟩ := h1 j x h
      have e1 : j - i = (j - (i + 1)) + 1 := by omega
      rw [e1]
      refine ⟨by omega, by simp; omega, by simpa using g3, by rw [g4]; rfl, by rw [g5]; rfl⟩
theorem lk_pt (k' k : Int) (v : Value) : ∀ M : List (Int × Value), lkM k' (ptM k v M) = if k' = k then some v else lkM k' M
  | [] => by simp [ptM, lkM]
  | x :: M => by
    unfold ptM
    by_cases h : k = x.1
    · rw [if_pos h]
      conv => lhs; unfold lkM
      conv => rhs; unfold lkM
      by_cases hk : k' = k
      · simp [hk]
      · rw [if_neg hk, if_neg hk, if_neg (fun h' => hk (h'.trans h.symm))]
    · rw [if_neg h]
      conv => lhs; unfold lkM
      conv => rhs; unfold lkM
      rw [lk_pt k' k v M]
      by_cases hk : k' = k
      · rw [if_pos hk, if_pos hk, if_neg (fun h' => h (hk.symm.trans h'))]
      · rw [if_neg hk, if_neg hk]
def Once (M : List (Int × Value)) : Prop := (M.map (·.1)).Nodup
theorem lk_none_of (k : Int) : ∀ M : List (Int × Value), k ∉ M.map (·.1) → lkM k M = none
  | [], _ => rfl
  | x :: M, h => by
    simp only [List.map_cons, List.mem_cons, not_or] at h
    unfold lkM
    rw [if_neg h.1]
    exact lk_none_of k M h.2
theorem lk_dl (k' k : Int) : ∀ M : List (Int × Value), Once M → lkM k' (dlM k M) = if k' = k then none else lkM k' M
  | [], _ => by simp [dlM, lkM]
  | x :: M, ho => by
    unfold Once at ho
    simp only [List.map_cons, List.nodup_cons] at ho
    unfold dlM
    by_cases h : k = x.1
    · rw [if_pos h]
      conv => rhs; unfold lkM
      by_cases hk : k' = k
      · rw [if_pos hk, hk, h]
        exact lk_none_of _ _ ho.1
      · rw [if_neg hk, if_neg (fun h' => hk (h'.trans h.symm))]
    · rw [if_neg h]
      conv => lhs; unfold lkM
      conv => rhs; unfold lkM
      rw [lk_dl k' k M ho.2]
      by_cases hk : k' = k
      · rw [if_pos hk, if_pos hk, if_neg (fun h' => h (hk.symm.trans h'))]
      · rw [if_neg hk, if_neg hk]
theorem dl_sub (k : Int) : ∀ M : List (Int × Value), (dlM k M).Sublist M
  | [] => by simp [dlM]
  | x :: M => by
    unfold dlM
    by_cases h : k = x.1
    · rw [if_pos h]; exact List.sublist_cons_self _ _
    · rw [if_neg h]; exact (dl_sub k M).cons_cons _
theorem once_dl {k : Int} {M : List (Int × Value)} (h : Once M) : Once (dlM k M) := by
  unfold Once at h ⊢
  exact ((dl_sub k M).map _).nodup h
theorem pt_keys (k : Int) (v : Value) : ∀ M : List (Int × Value), ∀ x, x ∈ (ptM k v M).map (·.1) → x = k ∨ x ∈ M.map (·.1)
  | [], x, h => by simp [ptM] at h; exact .inl h
  | y :: M, x, h => by
    unfold ptM at h
    by_cases hk : k = y.1
    · rw [if_pos hk] at h
      simp only [List.map_cons, List.mem_cons] at h ⊢
      rcases h with h | h
      · exact .inl h
      · exact .inr (.inr h)
    · rw [if_neg hk] at h
      simp only [List.map_cons, List.mem_cons] at h ⊢
      rcases h with h | h
      · exact .inr (.inl h)
      · rcases pt_keys k v M x h with h | h
        · exact .inl h
        · exact .inr (.inr h)
theorem once_pt {k : Int} {v : Value} : ∀ {M : List (Int × Value)}, Once M → Once (ptM k v M)
  | [], _ => by simp [Once, ptM]
  | y :: M, ho => by
    unfold Once at ho ⊢
    simp only [List.map_cons, List.nodup_cons] at ho
    unfold ptM
    by_cases hk : k = y.1
    · rw [if_pos hk]
      simp only [List.map_cons, List.nodup_cons]
      exact ⟨hk ▸ ho.1, ho.2⟩
    · rw [if_neg hk]
      simp only [List.map_cons, List.nodup_cons]
      refine ⟨fun h => ?_, once_pt (k := k) (v := v) ho.2⟩
      rcases pt_keys k v M _ h with h | h
      · exact hk h.symm
      · exact ho.1 h
theorem map_erase {α β : Type} (f : α → β) : ∀ (l : List α) (j : Nat), (l.eraseIdx j).map f = (l.map f).eraseIdx j
  | [], j => by simp
  | x :: l, 0 => by simp
  | x :: l, j + 1 => by simp [map_erase f l j]
/-- The map's block. -/
def MpAt (W : World) (b : Nat) (M : List (Int × Value)) : Prop := (∃ es clock, W.heap[b]? = some (.map es clock) ∧ EntsI es.toList M) ∧ Once M
theorem MpAt.lt {W : World} {b : Nat} {M : List (Int × Value)} (h : MpAt W b M) : b < W.heap.size := by
  obtain ⟨⟨es, c, h1, _⟩, _⟩ := h
  exact (Array.getElem?_eq_some_iff.1 h1).1
theorem MpAt.keep {W V : World} {b : Nat} {M : List (Int × Value)} (h : MpAt W b M) (hb : V.heap[b]? = W.heap[b]?) : MpAt V b M := by
  obtain ⟨⟨es, c, h1, h2⟩, h3⟩ := h
  exact ⟨⟨es, c, hb.trans h1, h2⟩, h3⟩
theorem MpAt.ne {W : World} {b : Nat} {M : List (Int × Value)} (h : MpAt W b M) {g : Nat} {cur : Array Value} {e : TypeId} {f : Nat × Nat} (hg : W.heap[g]? = some (.cells cur e f)) : g ≠ b := by
  obtain ⟨⟨es, c, h1, _⟩, _⟩ := h
  intro he
  rw [he, h1] at hg
  cases hg
theorem MpAt.new (w : World) : MpAt (w.alloc (.map #[] 0)) w.heap.size [] := ⟨⟨#[], 0, World.alloc_heap_new _ _, by simp [EntsI]⟩, by simp [Once]⟩
theorem run_lkM {W : World} {b : Nat} {M : List (Int × Value)} (h : MpAt W b M) (k : Int) : (Instr.lookup 82 (.map (some b)) (.int .i64 k) true).run Try.prog W = .ok (.tuple #[(lkM k M).getD (.slice none 0 0), .bool (lkM k M).isSome]) W := by
  obtain ⟨⟨es, clock, hb, he⟩, _⟩ := h
  have hz : (zeroValue 24).run Try.prog W = .ok (.slice none 0 0) W := by simp [Try.zeroValue24]
  have hf := MapKept.run_findKey (P := Try.prog) (w := W) Try.underlying3 (run_fndM k M es.toList 0 he)
  have hk : ∀ e, (Instr.checkKey e 10000 3 (.int .i64 k)).run Try.prog W = .ok () W := fun e => MapKept.run_checkKey Try.underlying3 (by simp [MapKept.IsKey]) e 9999
  have hl := fnd_lk k M 0
  unfold Instr.lookup
  simp only [Sem.run_bind, run_underlying Try.underlying82, Result.andThen_ok, MapKept.run_getObj_map hb, Sem.run_pure, hk, hf]
  rw [← hl]
  cases fndM k M 0 with
  | none => simp [hz]
  | some p => simp
/-- One block is another one. -/
def mapW (W : World) (b : Nat) (o : Obj) : World := { W with heap := W.heap.setIfInBounds b o }
theorem run_ptM {W : World} {b : Nat} {M : List (Int × Value)} (h : MpAt W b M) (k : Int) (v : Value) : ∃ o : Obj, (∀ q : Nat, (Instr.mapUpdate 82 (.map (some b)) (.int .i64 k) v).run Try.prog { W with drawn := q } = .ok () (mapW { W with drawn := q } b o)) ∧ MpAt (mapW W b o) b (ptM k v M) := by
  obtain ⟨⟨es, clock, hb, he⟩, hon⟩ := h
  have hlt := (Array.getElem?_eq_some_iff.1 hb).1
  have hf := fun q : Nat => MapKept.run_findKey (P := Try.prog) (w := { W with drawn := q }) Try.underlying3 (run_fndM k M es.toList 0 he)
  have hk : ∀ (q : Nat) e, (Instr.checkKey e 10000 3 (.int .i64 k)).run Try.prog { W with drawn := q } = .ok () { W with drawn := q } := fun q e => MapKept.run_checkKey Try.underlying3 (by simp [MapKept.IsKey]) e 9999
  have hst : ∀ q : Nat, (Instr.keyThatStays (.int .i64 k) (.int .i64 k)).run Try.prog { W with drawn := q } = .ok (.int .i64 k) { W with drawn := q } := fun q => MapKept.run_keyThatStays (d := .int .i64) (by simp [MapKept.IsKey])
  obtain ⟨p1, p2⟩ := fnd_at k v M 0
  have hlen : es.toList.length = M.length := by have := congrArg List.length he; simpa using this
  cases hfe : fndM k M 0 with
  | none =>
    rw [hfe] at hf
    refine ⟨.map (es.push { key := .int .i64 k, val := v, born := clock }) (clock + 1), ?_, ⟨es.push { key := .int .i64 k, val := v, born := clock }, clock + 1, ?_, ?_⟩, once_pt hon⟩
    · intro q
      have hb' : ({ W with drawn := q } : World).heap[b]? = some (.map es clock) := hb
      unfold Instr.mapUpdate mapW
      simp only [Sem.run_bind, run_underlying Try.underlying82, Result.andThen_ok, MapKept.run_getObj_map hb', hk, hf, MapKept.run_setObj_map _ hb']
    · simp [mapW, hlt]
    · rw [(p2 hfe).1]
      unfold EntsI at he ⊢
      simp [he]
  | some q =>
    obtain ⟨j, x⟩ := q
    obtain ⟨_, g2, g3, g4, _⟩ := p1 j x hfe
    rw [Nat.sub_zero] at g2 g3 g4
    rw [hfe] at hf
    have h0 : es.size = M.length := by simpa using hlen
    have hj : j < es.size := by omega
    have hkey : es[j].key = .int .i64 k := by
      have h1 := congrArg (fun l => (l[j]?).map (·.1)) he
      simp only [List.getElem?_map] at h1
      have h2 : es.toList[j]? = some es[j] := by simp [hj]
      rw [h2] at h1
      have h3 : M[j]? = some (M[j]'g2) := by simp [g2]
      rw [h3] at h1 g3
      simp at h1 g3
      rw [h1, g3]
    refine ⟨.map (es.modify j fun y => { y with key := .int .i64 k, val := v }) clock, ?_, ⟨es.modify j fun y => { y with key := .int .i64 k, val := v }, clock, ?_, ?_⟩, once_pt hon⟩
    · intro q
      have hb' : ({ W with drawn := q } : World).heap[b]? = some (.map es clock) := hb
      unfold Instr.mapUpdate mapW
      have hold : ((es[j]?).map (·.key)).getD (.int .i64 k) = .int .i64 k := by simp [hj, hkey]
      simp only [Sem.run_bind, run_underlying Try.underlying82, Result.andThen_ok, MapKept.run_getObj_map hb', hk, hf, hold, hst, MapKept.run_setObj_map _ hb']
    · simp [mapW, hlt]
    · rw [g4]
      unfold EntsI at he ⊢
      rw [List.map_set, ← he, Array.toList_modify]
      apply List.ext_getElem?
      intro i
      simp only [List.getElem?_map, List.getElem?_modify, List.getElem?_set]
      by_cases e1 : j = i
      · subst e1
        simp [hj]
      · simp [e1]
theorem run_dlM {W : World} {b : Nat} {M : List (Int × Value)} (h : MpAt W b M) (k : Int) (ty : TypeId) : ∃ o : Obj, (∀ q : Nat, (Builtin.delete_ #[82, 3] ty #[.map (some b), .int .i64 k]).run Try.prog { W with drawn := q } = .ok (.tuple #[]) (mapW { W with drawn := q } b o)) ∧ MpAt (mapW W b o) b (dlM k M) := by
  obtain ⟨⟨es, clock, hb, he⟩, hon⟩ := h
  have hlt := (Array.getElem?_eq_some_iff.1 hb).1
  have hf := fun q : Nat => MapKept.run_findKey (P := Try.prog) (w := { W with drawn := q }) Try.underlying3 (run_fndM k M es.toList 0 he)
  have hk : ∀ (q : Nat) e, (Instr.checkKey e 10000 3 (.int .i64 k)).run Try.prog { W with drawn := q } = .ok () { W with drawn := q } := fun q e => MapKept.run_checkKey Try.underlying3 (by simp [MapKept.IsKey]) e 9999
  obtain ⟨p1, p2⟩ := fnd_at k (.bool true) M 0
  have hlen : es.toList.length = M.length := by have := congrArg List.length he; simpa using this
  cases hfe : fndM k M 0 with
  | none =>
    rw [hfe] at hf
    refine ⟨.map es clock, ?_, ⟨es, clock, by simp [mapW, hlt], ?_⟩, once_dl hon⟩
    · intro q
      have hb' : ({ W with drawn := q } : World).heap[b]? = some (.map es clock) := hb
      unfold Builtin.delete_ mapW
      simp only [List.getElem?_toArray, Sem.run_bind, run_underlying Try.underlying82, Result.andThen_ok, MapKept.run_getObj_map hb', hk, hf, MapKept.run_setObj_map _ hb', Sem.run_pure, List.getElem?_cons_zero, List.getElem?_cons_succ]
    · rw [(p2 hfe).2]; exact he
  | some q =>
    obtain ⟨j, x⟩ := q
    obtain ⟨_, g2, g3, _, g5⟩ := p1 j x hfe
    rw [Nat.sub_zero] at g2 g3 g5
    rw [hfe] at hf
    refine ⟨.map (es.eraseIdxIfInBounds j) clock, ?_, ⟨es.eraseIdxIfInBounds j, clock, by simp [mapW, hlt], ?_⟩, once_dl hon⟩
    · intro q
      have hb' : ({ W with drawn := q } : World).heap[b]? = some (.map es clock) := hb
      unfold Builtin.delete_ mapW
      simp only [List.getElem?_toArray, Sem.run_bind, run_underlying Try.underlying82, Result.andThen_ok, MapKept.run_getObj_map hb', hk, hf, MapKept.run_setObj_map _ hb', Sem.run_pure, List.getElem?_cons_zero, List.getElem?_cons_succ]
    · rw [g5]
      have h0 : es.size = M.length := by simpa using hlen
      have hj : j < es.size := by omega
      unfold EntsI at he ⊢
      rw [Array.eraseIdxIfInBounds, dif_pos hj, Array.toList_eraseIdx, map_erase, he, map_erase]
theorem keep_set {W : World} {b : Nat} {o : Obj} {g : Nat} (h : g ≠ b) : (W.heap.setIfInBounds b o)[g]? = W.heap[g]? := by simp [Ne.symm h]
end Go.Proofs.Yticcoacoepajpaa.V
