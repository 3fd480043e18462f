/-
  Contract: ring.kindOf. A member of a team in memory. Notes that were taken are used: the mathematics.
-/
import Derived.Test.YticcoacoepajpaaPK1
import Derived.Laws.EntriesVeiled
import Derived.Test.YticcoacoepajpaaPK3
namespace Go.Proofs.Yticcoacoepajpaa.V
open Go Go.RowKit
set_option linter.unusedVariables false
set_option linter.unusedSimpArgs false

def fv (n : Nat) : Value := .func (.func n) #[] #[]
def begF (d : Nat) : Nat := if d = 4 then 57 else if d = 3 then 56 else 55
def fitF (d : Nat) : Nat := if d = 3 then 50 else 49
def plcF (d : Nat) : Nat := if d = 4 then 52 else 51
def resF (d : Nat) : Nat := if d = 2 then 54 else 53
def rdN (d : Nat) : Nat := if d = 1 then 2 else 1
/-- The functions of round r. -/
def farF (d r : Nat) : Nat := if d = 4 then 47 else 42
def pceF (d r : Nat) : Nat := if d = 4 then 48 else if d = 3 ∨ r = 1 then 45 else 43
def useF (d r : Nat) : Nat := if d = 4 ∨ d = 3 ∨ r = 1 then 46 else 44
def rndL (d r : Nat) : List Value := [fv (farF d r), fv (pceF d r), fv (useF d r)]
def rndsL (d : Nat) : List Value := if d = 1 then rndL d 0 ++ rndL d 1 else rndL d 0
/-- A kind's words. -/
def kindL (d ra : Nat) : List Value := [.bool (decide (d = 4)), .bool (decide (d ≠ 4)), fv (begF d), .slice (some ⟨ra, 0, none⟩) (rdN d) (rdN d), fv (fitF d), fv (plcF d), fv (resF d)]
/-- The rounds of a kind in memory. -/
def RdAt (W : World) (d ra : Nat) : Prop := ∃ cur, W.heap[ra]? = some (.cells cur 88 (0, 0)) ∧ cur.toList = rndsL d

theorem World.alloc_heap_new' (w : World) (o : Obj) {g : Nat} (h : w.heap.size = g) : (w.alloc o).heap[g]? = some o := by subst h; exact World.alloc_heap_new w o
set_option maxHeartbeats 2000000 in
theorem kindOf_1 (w : World) :
    Calls Try.prog 30 #[.int .i64 1] w fun e w' => (∃ ra, e = .returned (.tuple #[.agg (kindL 1 ra).toArray, .bool true]) ∧ w.heap.size ≤ ra ∧ RdAt w' 1 ra) ∧ Below w.heap.size w w' := by
  go_enter Try.func30, Try.ntmps30
  go_wp2
  refine bodyPost_ret (v := .tuple #[.agg (kindL 1 (w.heap.size + 1 + 1 + 1 + 1)).toArray, .bool true]) (by simp [results, Try.results30, go_sem, kindL, fv, begF, fitF, plcF, resF, rdN]) rfl ⟨⟨_, rfl, by omega, ?_⟩, ?_⟩
  · exact ⟨_, (World.alloc_heap_new' _ _ (by simp)), by simp [rndsL, rndL, farF, pceF, useF, fv]⟩
  · exact (((((bl_new _).alloc (by simp) _).alloc (by simp; omega) _).alloc (by simp; omega) _).alloc (by simp; omega) _)
set_option maxHeartbeats 2000000 in
theorem kindOf_2 (w : World) :
    Calls Try.prog 30 #[.int .i64 2] w fun e w' => (∃ ra, e = .returned (.tuple #[.agg (kindL 2 ra).toArray, .bool true]) ∧ w.heap.size ≤ ra ∧ RdAt w' 2 ra) ∧ Below w.heap.size w w' := by
  go_enter Try.func30, Try.ntmps30
  go_wp2
  refine bodyPost_ret (v := .tuple #[.agg (kindL 2 (w.heap.size + 1 + 1 + 1 + 1)).toArray, .bool true]) (by simp [results, Try.results30, go_sem, kindL, fv, begF, fitF, plcF, resF, rdN]) rfl ⟨⟨_, rfl, by omega, ?_⟩, ?_⟩
  · exact ⟨_, (World.alloc_heap_new' _ _ (by simp)), by simp [rndsL, rndL, farF, pceF, useF, fv]⟩
  · exact (((((bl_new _).alloc (by simp) _).alloc (by simp; omega) _).alloc (by simp; omega) _).alloc (by simp; omega) _)
set_option maxHeartbeats 2000000 in
theorem kindOf_3 (w : World) :
    Calls Try.prog 30 #[.int .i64 3] w fun e w' => (∃ ra, e = .returned (.tuple #[.agg (kindL 3 ra).toArray, .bool true]) ∧ w.heap.size ≤ ra ∧ RdAt w' 3 ra) ∧ Below w.heap.size w w' := by
  go_enter Try.func30, Try.ntmps30
  go_wp2
  refine bodyPost_ret (v := .tuple #[.agg (kindL 3 (w.heap.size + 1 + 1 + 1 + 1)).toArray, .bool true]) (by simp [results, Try.results30, go_sem, kindL, fv, begF, fitF, plcF, resF, rdN]) rfl ⟨⟨_, rfl, by omega, ?_⟩, ?_⟩
  · exact ⟨_, (World.alloc_heap_new' _ _ (by simp)), by simp [rndsL, rndL, farF, pceF, useF, fv]⟩
  · exact (((((bl_new _).alloc (by simp) _).alloc (by simp; omega) _).alloc (by simp; omega) _).alloc (by simp; omega) _)
set_option maxHeartbeats 2000000 in
theorem kindOf_4 (w : World) :
    Calls Try.prog 30 #[.int .i64 4] w fun e w' => (∃ ra, e = .returned (.tuple #[.agg (kindL 4 ra).toArray, .bool true]) ∧ w.heap.size ≤ ra ∧ RdAt w' 4 ra) ∧ Below w.heap.size w w' := by
  go_enter Try.func30, Try.ntmps30
  go_wp2
  refine bodyPost_ret (v := .tuple #[.agg (kindL 4 (w.heap.size + 1 + 1 + 1 + 1)).toArray, .bool true]) (by simp [results, Try.results30, go_sem, kindL, fv, begF, fitF, plcF, resF, rdN]) rfl ⟨⟨_, rfl, by omega, ?_⟩, ?_⟩
  · exact ⟨_, (World.alloc_heap_new' _ _ (by simp)), by simp [rndsL, rndL, farF, pceF, useF, fv]⟩
  · exact (((((bl_new _).alloc (by simp) _).alloc (by simp; omega) _).alloc (by simp; omega) _).alloc (by simp; omega) _)
theorem kindOf_any (d : Nat) (w : World) (h1 : 1 ≤ d) (h4 : d ≤ 4) :
    Calls Try.prog 30 #[.int .i64 (d : Int)] w fun e w' => (∃ ra, e = .returned (.tuple #[.agg (kindL d ra).toArray, .bool true]) ∧ w.heap.size ≤ ra ∧ RdAt w' d ra) ∧ Below w.heap.size w w' := by
  have : d = 1 ∨ d = 2 ∨ d = 3 ∨ d = 4 := by omega
  rcases this with rfl | rfl | rfl | rfl
  · exact kindOf_1 w
  · exact kindOf_2 w
  · exact kindOf_3 w
  · exact kindOf_4 w
end Go.Proofs.Yticcoacoepajpaa.V
namespace Go.Proofs.Yticcoacoepajpaa.V
open Go Go.RowKit
set_option linter.unusedVariables false
set_option linter.unusedSimpArgs false

/-- A list's words. -/
structure Sl where
  a : Option Addr
  n : Nat
  c : Nat
def Sl.v (s : Sl) : Value := .slice s.a s.n s.c
def slZ : Sl := ⟨none, 0, 0⟩
/-- Does a list lie in a block? -/
def Sl.On (s : Sl) (b : Nat) : Prop := 0 < s.n ∧ ∃ off, s.a = some ⟨b, off, none⟩
/-- A list of words, in a block of words. -/
structure Num (W : World) (s : Sl) (xs : List Int) : Prop where
  ints : Ints W s.a s.n xs
  cap : s.n ≤ s.c
  blk : ∀ b, s.On b → ∃ cur, W.heap[b]? = some (.cells cur 2 (0, 0))
theorem Num.len {W : World} {s : Sl} {xs : List Int} (h : Num W s xs) : xs.length = s.n := h.ints.1
theorem Num.nil (W : World) : Num W slZ [] := ⟨⟨rfl, by simp [slZ], by simp, .inl rfl⟩, Nat.le_refl _, fun b h => by obtain ⟨h, _⟩ := h; simp [slZ] at h⟩
theorem Num.at {W : World} {s : Sl} {xs : List Int} (h : Num W s xs) (h0 : 0 < s.n) : ∃ b off, s.a = some ⟨b, off, none⟩ ∧ b < W.heap.size ∧ ∀ j, j < s.n → W.cell? ⟨b, off + j, none⟩ = some (.int .i64 (xs[j]?.getD 0)) := h.ints.at h0
theorem Num.lt {W : World} {s : Sl} {xs : List Int} (h : Num W s xs) {b : Nat} (hb : s.On b) : b < W.heap.size := by
  obtain ⟨cur, hc⟩ := h.blk b hb
  exact (Array.getElem?_eq_some_iff.1 hc).1
theorem ints_keep {W V : World} {a : Option Addr} {n : Nat} {xs : List Int} (h : Ints W a n xs) (hb : ∀ b off, a = some ⟨b, off, none⟩ → 0 < n → V.heap[b]? = W.heap[b]?) : Ints V a n xs := by
  obtain ⟨h1, h2, h3, h4⟩ := h
  refine ⟨h1, h2, h3, ?_⟩
  by_cases h0 : n = 0
  · exact .inl h0
  · rcases h4 with h4 | ⟨b, off, e, hc⟩
    · exact .inl h4
    · exact .inr ⟨b, off, e, fun j hj => (World.cell?_of_block (hb b off e (by omega))).trans (hc j hj)⟩
theorem Num.keep {W V : World} {s : Sl} {xs : List Int} (h : Num W s xs) (hb : ∀ b, s.On b → V.heap[b]? = W.heap[b]?) : Num V s xs :=
  ⟨ints_keep h.ints (fun b off e h0 => hb b ⟨h0, off, e⟩), h.cap, fun b hO => by
    obtain ⟨cur, hc⟩ := h.blk b hO
    exact ⟨cur, (hb b hO).trans hc⟩⟩
theorem Num.below {W V : World} {s : Sl} {xs : List Int} (h : Num W s xs) (hb : Below W.heap.size W V) : Num V s xs := h.keep fun b hO => hb.block b (h.lt hO)
/-- Lists that have no word in common. -/
def Ap (s t : Sl) : Prop := ∀ b o p, 0 < s.n → 0 < t.n → s.a = some ⟨b, o, none⟩ → t.a = some ⟨b, p, none⟩ → o + s.n ≤ p ∨ p + t.n ≤ o
theorem Ap.symm {s t : Sl} (h : Ap s t) : Ap t s := fun b o p h1 h2 e1 e2 => (h b p o h2 h1 e2 e1).symm
theorem Ap.of_on {s t : Sl} (h : ∀ b, s.On b → t.On b → False) : Ap s t := fun b o p h1 h2 e1 e2 => (h b ⟨h1, o, e1⟩ ⟨h2, p, e2⟩).elim
theorem Ap.nil (t : Sl) : Ap slZ t := fun b o p h1 => by simp [slZ] at h1
/-- Lists in a row of their own. -/
def LsAt (W : World) (h n : Nat) (S : Nat → Sl) : Prop := ∃ cur, W.heap[h]? = some (.cells cur 24 (0, 0)) ∧ cur.size = n ∧ ∀ k, k < n → cur[k]? = some (S k).v
theorem LsAt.lt {W : World} {h n : Nat} {S : Nat → Sl} (H : LsAt W h n S) : h < W.heap.size := by
  obtain ⟨cur, hc, _⟩ := H
  exact (Array.getElem?_eq_some_iff.1 hc).1
theorem LsAt.keep {W V : World} {h n : Nat} {S : Nat → Sl} (H : LsAt W h n S) (hb : V.heap[h]? = W.heap[h]?) : LsAt V h n S := by
  obtain ⟨cur, hc, h2⟩ := H
  exact ⟨cur, hb.trans hc, h2⟩
theorem LsAt.cell {W : World} {h n : Nat} {S : Nat → Sl} (H : LsAt W h n S) {k : Nat} (hk : k < n) : W.cell? ⟨h, k, none⟩ = some (.slice (S k).a (S k).n (S k).c) := by
  obtain ⟨cur, hc, _, h2⟩ := H
  simp only [World.cell?, hc]
  exact h2 k hk
theorem LsAt.frozen {W : World} {h n : Nat} {S : Nat → Sl} (H : LsAt W h n S) (k : Nat) : W.frozen? ⟨h, k, none⟩ = false := by
  obtain ⟨cur, hc, _⟩ := H
  simp [World.frozen?, hc]
def upS (S : Nat → Sl) (k : Nat) (s : Sl) : Nat → Sl := fun i => if i = k then s else S i
theorem LsAt.set {W : World} {h n : Nat} {S : Nat → Sl} (H : LsAt W h n S) {k : Nat} (hk : k < n) (s : Sl) : LsAt (W.setCell ⟨h, k, none⟩ s.v) h n (upS S k s) := by
  obtain ⟨cur, hc, h1, h2⟩ := H
  refine ⟨cur.setIfInBounds k s.v, ?_, by simp [h1], fun i hi => ?_⟩
  · simp [World.setCell, Array.getElem?_modify, hc]
  · rw [Array.getElem?_setIfInBounds]
    unfold upS
    by_cases e : k = i
    · subst e
      rw [if_pos rfl, if_pos (by omega), if_pos rfl]
    · rw [if_neg e, if_neg (Ne.symm e)]
      exact h2 i hi
theorem LsAt.ne {W : World} {h n : Nat} {S : Nat → Sl} (H : LsAt W h n S) {s : Sl} {xs : List Int} (hs : Num W s xs) {b : Nat} (hb : s.On b) : b ≠ h := by
  obtain ⟨cur, hc, _⟩ := H
  obtain ⟨cur', hc'⟩ := hs.blk b hb
  intro e
  rw [e, hc] at hc'
  simp at hc'

/-- What a member's words lead to. -/
structure Gh where
  ra : Nat
  eb : Nat
  hs : Nat
  hh : Nat
  Ss : Nat → Sl
  Sh : Nat → Sl
  M : List (Int × Value)
def mbL (d n me : Nat) (s : St) (G : Gh) : List Value := kindL d G.ra ++ [.int .i64 n, .int .i64 me, .int .i64 s.sent, .int .i64 s.taken, .map (some G.eb), .slice (some ⟨G.hs, 0, none⟩) n n, .slice (some ⟨G.hh, 0, none⟩) n n]
/-- Of which pieces is known what the member has? -/
def Known (d n me taken k : Nat) : Prop := d ≠ 4 ∨ k = me ∨ ∃ t, t < taken ∧ k = fromN d n me t
structure MbAt (W : World) (F : Nat → Prop) (g d n me : Nat) (s : St) (G : Gh) : Prop where
  blk : W.heap[g]? = some (.cells (mbL d n me s G).toArray 84 (0, 0))
  rd : RdAt W d G.ra
  map : MpAt W G.eb G.M
  rowS : LsAt W G.hs n G.Ss
  rowH : LsAt W G.hh n G.Sh
  same : d ≠ 4 → G.hs = G.hh ∧ G.Ss = G.Sh
  other : d = 4 → G.hs ≠ G.hh
  fg : F g
  fra : F G.ra
  feb : F G.eb
  fhs : F G.hs
  fhh : F G.hh
  snd : ∀ k, k < n → Num W (G.Ss k) (prt (if d = 4 then s.own else s.parts) k) ∧ ∀ b, (G.Ss k).On b → F b
  has : ∀ k, k < n → (Known d n me s.taken k → Num W (G.Sh k) (prt s.parts k)) ∧ ∀ b, (G.Sh k).On b → F b ∧ b < W.heap.size
  apt : ∀ j k, j < n → k < n → j ≠ k → Ap (G.Sh j) (G.Sh k)
  mem : ∀ (t : Nat) (xs : List Int), s.taken ≤ t → (lookL t s.early = some xs ↔ ∃ x : Sl, lkM (t : Int) G.M = some x.v ∧ Num W x xs)
  mon : ∀ (t : Int) (v : Value), lkM t G.M = some v → ∃ (x : Sl) (xs : List Int), v = x.v ∧ Num W x xs ∧ (∀ b, x.On b → F b) ∧ (∀ k, k < n → Ap x (G.Sh k)) ∧ (s.taken : Int) ≤ t ∧ t < notN d n
  map2 : ∀ (t t' : Int) (x y : Sl), t ≠ t' → lkM t G.M = some x.v → lkM t' G.M = some y.v → Ap x y
/-- What is right of a member's state, whatever lies in memory. -/
structure StOk (d n me : Nat) (s : St) : Prop where
  d1 : 1 ≤ d
  d4 : d ≤ 4
  n1 : 1 ≤ n
  n16 : n ≤ 16
  mel : me < n
  lo : s.own.length = n
  lp : s.parts.length = n
  sent : s.sent ≤ notN d n
  taken : s.taken ≤ notN d n
  early : ∀ t xs, lookL t s.early = some xs → t < notN d n
  small : ∀ k, (prt s.parts k).length ≤ 65536 ∧ (prt s.own k).length ≤ 65536
  esmall : ∀ t xs, lookL t s.early = some xs → xs.length ≤ 65536
  even : d = 4 → ∀ k j, k < n → j < n → (prt s.parts k).length = (prt s.own j).length
  fit : d ≠ 3 → ∀ t xs, s.taken ≤ t → lookL t s.early = some xs → xs.length = (prt s.parts (takeN d n me t)).length
theorem notN_le {d n : Nat} (h : n ≤ 16) : notN d n ≤ 30 := by unfold notN; split <;> omega
theorem mb_cells {W : World} {F : Nat → Prop} {g d n me : Nat} {s : St} {G : Gh} (h : MbAt W F g d n me s G) :
    (W.cell? ⟨g, 0, none⟩ = some (.bool (decide (d = 4))) ∧ W.cell? ⟨g, 1, none⟩ = some (.bool (decide (d ≠ 4))) ∧ W.cell? ⟨g, 2, none⟩ = some (fv (begF d)) ∧ W.cell? ⟨g, 3, none⟩ = some (.slice (some ⟨G.ra, 0, none⟩) (rdN d) (rdN d)) ∧ W.cell? ⟨g, 4, none⟩ = some (fv (fitF d)) ∧ W.cell? ⟨g, 5, none⟩ = some (fv (plcF d)) ∧ W.cell? ⟨g, 6, none⟩ = some (fv (resF d))) ∧
    (W.cell? ⟨g, 7, none⟩ = some (.int .i64 n) ∧ W.cell? ⟨g, 8, none⟩ = some (.int .i64 me) ∧ W.cell? ⟨g, 9, none⟩ = some (.int .i64 s.sent) ∧ W.cell? ⟨g, 10, none⟩ = some (.int .i64 s.taken) ∧ W.cell? ⟨g, 11, none⟩ = some (.map (some G.eb)) ∧ W.cell? ⟨g, 12, none⟩ = some (.slice (some ⟨G.hs, 0, none⟩) n n) ∧ W.cell? ⟨g, 13, none⟩ = some (.slice (some ⟨G.hh, 0, none⟩) n n)) ∧ g < W.heap.size ∧ ∀ k, W.frozen? ⟨g, k, none⟩ = false := by
  have hb := h.blk
  refine ⟨⟨?_, ?_, ?_, ?_, ?_, ?_, ?_⟩, ⟨?_, ?_, ?_, ?_, ?_, ?_, ?_⟩, (Array.getElem?_eq_some_iff.1 hb).1, fun k => by simp [World.frozen?, hb]⟩ <;> (simp only [World.cell?, hb]; rfl)
theorem rd_cells {W : World} {d ra r : Nat} (h : RdAt W d ra) (hr : r < rdN d) : W.cell? ⟨ra, r * 3, none⟩ = some (fv (farF d r)) ∧ W.cell? ⟨ra, r * 3 + 1, none⟩ = some (fv (pceF d r)) ∧ W.cell? ⟨ra, r * 3 + 2, none⟩ = some (fv (useF d r)) ∧ ra < W.heap.size := by
  obtain ⟨cur, hb, hc⟩ := h
  have hr' : r = 0 ∨ (r = 1 ∧ d = 1) := by unfold rdN at hr; split at hr <;> omega
  refine ⟨?_, ?_, ?_, (Array.getElem?_eq_some_iff.1 hb).1⟩ <;>
  · simp only [World.cell?, hb]
    rw [← Array.getElem?_toList, hc]
    unfold rndsL
    rcases hr' with rfl | ⟨rfl, rfl⟩
    · by_cases hd : d = 1
      · rw [if_pos hd]; rfl
      · rw [if_neg hd]; rfl
    · rfl
theorem MbAt.keep {W V : World} {F : Nat → Prop} {g d n me : Nat} {s : St} {G : Gh} (h : MbAt W F g d n me s G) (hs : W.heap.size ≤ V.heap.size) (hb : ∀ b, F b → b < W.heap.size → V.heap[b]? = W.heap[b]?) : MbAt V F g d n me s G := by
  have hk : ∀ {x : Sl} {xs : List Int}, Num W x xs → (∀ b, x.On b → F b) → Num V x xs := fun hx hf => hx.keep fun b hO => hb b (hf b hO) (hx.lt hO)
  have hlt : g < W.heap.size := (Array.getElem?_eq_some_iff.1 h.blk).1
  have hrl : G.ra < W.heap.size := by obtain ⟨cur, h1, _⟩ := h.rd; exact (Array.getElem?_eq_some_iff.1 h1).1
  refine ⟨(hb g h.fg hlt).trans h.blk, ?_, h.map.keep (hb _ h.feb h.map.lt), h.rowS.keep (hb _ h.fhs h.rowS.lt), h.rowH.keep (hb _ h.fhh h.rowH.lt), h.same, h.other, h.fg, h.fra, h.feb, h.fhs, h.fhh, ?_, ?_, h.apt, ?_, ?_, h.map2⟩
  · obtain ⟨cur, h1, h2⟩ := h.rd
    exact ⟨cur, (hb _ h.fra hrl).trans h1, h2⟩
  · exact fun k hk' => ⟨hk (h.snd k hk').1 (h.snd k hk').2, (h.snd k hk').2⟩
  · exact fun k hk' => ⟨fun hK => hk ((h.has k hk').1 hK) (fun b hO => ((h.has k hk').2 b hO).1), fun b hO => ⟨((h.has k hk').2 b hO).1, Nat.lt_of_lt_of_le ((h.has k hk').2 b hO).2 hs⟩⟩
  · intro t xs ht
    rw [h.mem t xs ht]
    refine ⟨fun ⟨x, h1, h2⟩ => ⟨x, h1, ?_⟩, fun ⟨x, h1, h2⟩ => ⟨x, h1, ?_⟩⟩
    · obtain ⟨y, ys, e, h3, h4, _⟩ := h.mon t _ h1
      obtain rfl : x = y := by cases x; cases y; simp only [Sl.v, Value.slice.injEq] at e; obtain ⟨rfl, rfl, rfl⟩ := e; rfl
      exact hk h2 h4
    · obtain ⟨y, ys, e, h3, h4, _⟩ := h.mon t _ h1
      obtain rfl : x = y := by cases x; cases y; simp only [Sl.v, Value.slice.injEq] at e; obtain ⟨rfl, rfl, rfl⟩ := e; rfl
      refine ⟨⟨h2.ints.1, h2.ints.2.1, h2.ints.2.2.1, ?_⟩, h2.cap, h3.blk⟩
      rcases h2.ints.2.2.2 with e | ⟨b, off, e, hc⟩
      · exact .inl e
      · by_cases h0 : x.n = 0
        · exact .inl h0
        · have hO : x.On b := ⟨by omega, off, e⟩
          exact .inr ⟨b, off, e, fun j hj => (World.cell?_of_block (w := V) (hb b (h4 b hO) (h3.lt hO)).symm).trans (hc j hj)⟩
  · intro t v hv
    obtain ⟨x, xs, e, h1, h2, h3⟩ := h.mon t v hv
    exact ⟨x, xs, e, hk h1 h2, h2, h3⟩
theorem MbAt.mono {W : World} {F F' : Nat → Prop} {g d n me : Nat} {s : St} {G : Gh} (h : MbAt W F g d n me s G) (hF : ∀ b, F b → F' b) : MbAt W F' g d n me s G :=
  ⟨h.blk, h.rd, h.map, h.rowS, h.rowH, h.same, h.other, hF _ h.fg, hF _ h.fra, hF _ h.feb, hF _ h.fhs, hF _ h.fhh, fun k hk => ⟨(h.snd k hk).1, fun b hO => hF b ((h.snd k hk).2 b hO)⟩, fun k hk => ⟨(h.has k hk).1, fun b hO => ⟨hF b ((h.has k hk).2 b hO).1, ((h.has k hk).2 b hO).2⟩⟩, h.apt, h.mem, fun t v hv => by
    obtain ⟨x, xs, e, h1, h2, h3⟩ := h.mon t v hv
    exact ⟨x, xs, e, h1, fun b hO => hF b (h2 b hO), h3⟩, h.map2⟩
theorem MbAt.below {W V : World} {F : Nat → Prop} {g d n me : Nat} {s : St} {G : Gh} (h : MbAt W F g d n me s G) (hb : Below W.heap.size W V) : MbAt V F g d n me s G := h.keep hb.size fun b _ hl => hb.block b hl
end Go.Proofs.Yticcoacoepajpaa.V
namespace Go.Proofs.Yticcoacoepajpaa.V
open Go Go.RowKit
set_option linter.unusedVariables false
set_option linter.unusedSimpArgs false

theorem drainA_none (d n me : Nat) (s : St) (h : lookL s.taken s.early = none) : drainA d n me s = s := by
  unfold drainA
  cases notN d n - s.taken with
  | zero => rfl
  | succ f => unfold drainM; rw [h]
theorem drainA_some (d n me : Nat) (s : St) (xs : List Int) (h : lookL s.taken s.early = some xs) (ht : s.taken < notN d n) : drainA d n me s = drainA d n me (useM d n me s xs) := by
  unfold drainA
  have e : notN d n - s.taken = (notN d n - (s.taken + 1)) + 1 := by omega
  rw [e]
  conv => lhs; unfold drainM
  rw [h]
  rfl
theorem set_len (P : List (List Int)) (k : Nat) (ys : List Int) : (P.set k ys).length = P.length := by simp
theorem prt_set' (P : List (List Int)) (p : Nat) (ys : List Int) (hl : ys.length = (prt P p).length) (k : Nat) : (prt (P.set p ys) k).length = (prt P k).length := by
  unfold prt
  rw [List.getElem?_set]
  by_cases e : p = k
  · subst e
    rw [if_pos rfl]
    by_cases h : p < P.length
    · rw [if_pos h]; exact hl
    · rw [if_neg h]; simp [h]
  · rw [if_neg e]
theorem use_len {d n me : Nat} {s : St} {xs : List Int} (ys : List Int) (hx : xs.length = ys.length) : (if sumsB d n s.taken = true then addW (prt s.parts (takeN d n me s.taken)) xs else xs).length = ys.length := by
  split
  · rw [addW_len]; exact hx
  · exact hx
theorem StOk.use {d n me : Nat} {s : St} (h : StOk d n me s) (xs : List Int) (hx : lookL s.taken s.early = some xs) : StOk d n me (useM d n me s xs) := by
  have ht := h.early _ _ hx
  have hn := h.n1
  have h6 := h.esmall _ _ hx
  have len3 : (if sumsB d n s.taken = true then addW (prt s.parts (takeN d n me s.taken)) xs else xs).length = xs.length := use_len xs rfl
  have small : ∀ k, (prt (s.parts.set (takeN d n me s.taken) (if sumsB d n s.taken = true then addW (prt s.parts (takeN d n me s.taken)) xs else xs)) k).length ≤ 65536 := fun k => by
    unfold prt
    rw [List.getElem?_set]
    by_cases e : takeN d n me s.taken = k
    · rw [if_pos e]
      by_cases h' : takeN d n me s.taken < s.parts.length
      · rw [if_pos h']
        show (if sumsB d n s.taken = true then addW (prt s.parts (takeN d n me s.taken)) xs else xs).length ≤ 65536
        omega
      · rw [if_neg h']; simp
    · rw [if_neg e]; exact (h.small k).1
  refine ⟨h.d1, h.d4, h.n1, h.n16, h.mel, h.lo, by show (s.parts.set _ _).length = n; rw [set_len]; exact h.lp, h.sent, ht, h.early, fun k => ⟨small k, (h.small k).2⟩, h.esmall, fun hd k j hk hj => ?_, fun hd t ys hty hl => ?_⟩
  · have hf := h.fit (by omega) s.taken xs (Nat.le_refl _) hx
    show (prt (s.parts.set _ _) k).length = _
    rw [prt_set' _ _ _ (len3.trans hf)]
    exact h.even hd k j hk hj
  · have hf := h.fit hd s.taken xs (Nat.le_refl _) hx
    have := h.fit hd t ys (by have : s.taken + 1 ≤ t := hty; omega) hl
    show ys.length = (prt (s.parts.set _ _) (takeN d n me t)).length
    rw [prt_set' _ _ _ (len3.trans hf)]
    exact this
/-- A note that fits is kept. -/
theorem lookL_snoc (t k : Nat) (ys : List Int) : ∀ l, lookL t (l ++ [(k, ys)]) = match lookL t l with | some z => some z | none => if k = t then some ys else none
  | [] => by simp [lookL]
  | x :: l => by
    show lookL t (x :: (l ++ [(k, ys)])) = _
    unfold lookL
    by_cases h : x.1 = t
    · rw [if_pos h, if_pos h]
    · rw [if_neg h, if_neg h]; exact lookL_snoc t k ys l
theorem StOk.kept {d n me : Nat} {s : St} (h : StOk d n me s) (x : Nt) (hf : fitsM d n me s x = true) : StOk d n me { s with early := s.early ++ [(x.st.toNat, x.data)] } := by
  unfold fitsM at hf
  simp only [Bool.and_eq_true, decide_eq_true_eq] at hf
  obtain ⟨h1, h2, h3, h4, h5, h6⟩ := hf
  have h65 : x.data.length ≤ 65536 := by
    by_cases hd : d = 3
    · rw [if_pos hd] at h6; simpa using h6
    · rw [if_neg hd] at h6
      have := (h.small (takeN d n me x.st.toNat)).1
      have h7 : x.data.length = (prt s.parts (takeN d n me x.st.toNat)).length := by simpa using h6
      omega
  have hl : ∀ t xs, lookL t (s.early ++ [(x.st.toNat, x.data)]) = some xs → lookL t s.early = some xs ∨ (t = x.st.toNat ∧ xs = x.data) := fun t xs hx => by
    rw [lookL_snoc] at hx
    cases hq : lookL t s.early with
    | some z => rw [hq] at hx; simp only at hx; exact .inl hx
    | none =>
      rw [hq] at hx
      simp only at hx
      by_cases e : x.st.toNat = t
      · rw [if_pos e] at hx; cases hx; exact .inr ⟨e.symm, rfl⟩
      · rw [if_neg e] at hx; cases hx
  refine ⟨h.d1, h.d4, h.n1, h.n16, h.mel, h.lo, h.lp, h.sent, h.taken, fun t xs hx => ?_, h.small, fun t xs hx => ?_, h.even, fun hd t xs ht hx => ?_⟩
  · rcases hl t xs hx with h' | ⟨rfl, rfl⟩
    · exact h.early t xs h'
    · have := notN_le (d := d) h.n16
      omega
  · rcases hl t xs hx with h' | ⟨rfl, rfl⟩
    · exact h.esmall t xs h'
    · exact h65
  · rcases hl t xs hx with h' | ⟨rfl, rfl⟩
    · exact h.fit hd t xs ht h'
    · rw [if_neg hd] at h6
      simpa using h6
theorem drain_ok {d n me : Nat} : ∀ (f : Nat) (s : St), StOk d n me s → StOk d n me (drainM d n me f s)
  | 0, s, h => h
  | f + 1, s, h => by
    unfold drainM
    cases hl : lookL s.taken s.early with
    | none => exact h
    | some xs => exact drain_ok f _ (h.use xs hl)
theorem StOk.take {d n me : Nat} {s : St} (h : StOk d n me s) (x : Nt) : StOk d n me (takeM d n me s x) := by
  unfold takeM
  split
  · rename_i hf
    exact drain_ok _ _ (h.kept x hf)
  · exact h
theorem StOk.next {d n me : Nat} {s : St} (h : StOk d n me s) : StOk d n me (nextM d n s) := by
  unfold nextM
  split
  · rename_i hc
    unfold canM at hc
    simp only [Bool.not_eq_true', Bool.or_eq_false_iff, decide_eq_false_iff_not] at hc
    have := h.sent
    exact ⟨h.d1, h.d4, h.n1, h.n16, h.mel, h.lo, h.lp, (by show s.sent + 1 ≤ notN d n; omega), h.taken, h.early, h.small, h.esmall, h.even, h.fit⟩
  · exact h
end Go.Proofs.Yticcoacoepajpaa.V
