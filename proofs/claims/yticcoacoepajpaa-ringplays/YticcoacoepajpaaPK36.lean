/-
  The document's Play: all that it has in memory.
-/
import Derived.Test.YticcoacoepajpaaPK35
import Derived.Test.YticcoacoepajpaaPK22
namespace Go.Proofs.Yticcoacoepajpaa.V
open Go Go.RowKit
set_option linter.unusedVariables false
set_option linter.unusedSimpArgs false

/-- Notes that were kept have steps of their own. -/
def ErOk (s : St) : Prop := (s.early.map (·.1)).Nodup ∧ ∀ p ∈ s.early, p.1 < 30
theorem nodup_len : ∀ (n : Nat) (l : List Nat), l.Nodup → (∀ x ∈ l, x < n) → l.length ≤ n
  | 0, l, _, h => by
    cases l with
    | nil => simp
    | cons x l => have := h x (by simp); omega
  | n + 1, l, hn, h => by
    have h1 := nodup_len n (l.erase n) (hn.erase n) (fun x hx => by
      have h2 := (List.Nodup.mem_erase_iff hn).1 hx
      have := h x h2.2
      have := h2.1
      omega)
    have h3 := List.length_erase (a := n) (l := l)
    split at h3 <;> omega
theorem ErOk.len {s : St} (h : ErOk s) : s.early.length ≤ 30 := by
  have := nodup_len 30 (s.early.map (·.1)) h.1 (fun x hx => by
    obtain ⟨p, hp, rfl⟩ := List.mem_map.1 hx
    exact h.2 p hp)
  simpa using this
theorem drain_early (d n me : Nat) : ∀ (f : Nat) (s : St), (drainM d n me f s).early = s.early
  | 0, s => rfl
  | f + 1, s => by
    unfold drainM
    cases lookL s.taken s.early with
    | none => rfl
    | some xs => exact drain_early d n me f _
theorem look_not {t : Nat} : ∀ {l : List (Nat × List Int)}, lookL t l = none → ∀ p ∈ l, p.1 ≠ t
  | [], _, p, hp => by simp at hp
  | x :: l, h, p, hp => by
    unfold lookL at h
    split at h
    · cases h
    · rename_i hne
      rcases List.mem_cons.1 hp with rfl | hp
      · exact hne
      · exact look_not h p hp
theorem ErOk.take {d n me : Nat} {s : St} (h : ErOk s) (hn : n ≤ 16) (x : Nt) : ErOk (takeM d n me s x) := by
  unfold takeM
  split
  · rename_i hf
    unfold drainA
    unfold ErOk
    rw [drain_early]
    unfold fitsM at hf
    simp only [Bool.and_eq_true, decide_eq_true_eq] at hf
    obtain ⟨h1, h2, h3, h4, h5, h6⟩ := hf
    have hnb : notN d n ≤ 30 := notN_le hn
    have hlk : lookL x.st.toNat s.early = none := by simpa using h5
    refine ⟨?_, fun p hp => ?_⟩
    · rw [List.map_append, List.nodup_append]
      refine ⟨h.1, by simp, fun a ha b hb => ?_⟩
      have hb' : b = x.st.toNat := by simpa using hb
      obtain ⟨p, hp, rfl⟩ := List.mem_map.1 ha
      rw [hb']
      exact look_not hlk p hp
    · rcases List.mem_append.1 hp with hp | hp
      · exact h.2 p hp
      · have : p = (x.st.toNat, x.data) := by simpa using hp
        rw [this]
        show x.st.toNat < 30
        omega
  · exact h
theorem ErOk.next {d n : Nat} {s : St} (h : ErOk s) : ErOk (nextM d n s) := by
  unfold nextM
  split
  · exact h
  · exact h
theorem ErOk.beg (d n me : Nat) (xs : List Int) : ErOk (begM d n me xs) := ⟨by simp [begM], fun p hp => by simp [begM] at hp⟩
/-- A member's five words. -/
def rsL (q : Rs) (s : St) : List Value := [.slice q.o.a q.o.n q.o.c, .slice q.p.a q.p.n q.p.c, .int .i64 (s.sent : Int), .int .i64 (s.taken : Int), .slice q.e.a q.e.n q.e.c]
/-- All that a play has in memory. -/
structure PyI (B d n : Nat) (S : Nat → Prop) (tb : Nat) (Q : Nat → Rs) (ss : Nat → St) (v13 v14 : Value) (ps : List (Nt × Sl)) (qs : List (Sn × Sl × Sl)) (wr : World) : Prop where
  low : LowS S wr.heap.size
  tm : 0 < n → ∃ cur, wr.heap[tb]? = some (.cells cur 60 (0, 0)) ∧ ∀ i j, i < n → j < 5 → cur[i * 5 + j]? = (rsL (Q i) (ss i))[j]?
  ntb : 0 < n → ¬ S tb
  st : ∀ i, i < n → Stt S wr fun V => RsA V (Q i) n (ss i)
  top : ∀ i, i < n → Tops S (Q i)
  ok : ∀ i, i < n → StOk d n i (ss i)
  er : ∀ i, i < n → ErOk (ss i)
  way : RowC wr B 39 4 v14 ps.length (wyC ps)
  nwy : ∀ b, v14.ownBlock = some b → ¬ S b
  wys : ∀ p ∈ ps, (Stt S wr fun V => Ints V p.2.a p.2.n p.1.data) ∧ p.2.n ≤ p.2.c ∧ ∃ i, i < n ∧ p.1.to = (i : Int)
  out : RowC wr B 41 7 v13 qs.length (seC qs)
  nou : ∀ b, v13.ownBlock = some b → ¬ S b
  ous : ∀ q ∈ qs, ((Stt S wr fun V => Ints V q.2.1.a q.2.1.n q.1.nt.data) ∧ q.2.1.n ≤ q.2.1.c) ∧ ((Stt S wr fun V => Ints V q.2.2.a q.2.2.n q.1.data) ∧ q.2.2.n ≤ q.2.2.c)
  base : B ≤ wr.heap.size
theorem PyI.keep {B d n : Nat} {S S' : Nat → Prop} {tb : Nat} {Q : Nat → Rs} {ss : Nat → St} {v13 v14 : Value} {ps : List (Nt × Sl)} {qs : List (Sn × Sl × Sl)} {wr V : World} (h : PyI B d n S tb Q ss v13 v14 ps qs wr) (hs : wr.heap.size ≤ V.heap.size) (ha : Agr S wr V) (hS : ∀ b, S b → S' b) (hlow : LowS S' V.heap.size) (hnew : ∀ b, S' b → S b ∨ wr.heap.size ≤ b) (htb : 0 < n → V.heap[tb]? = wr.heap[tb]?)
    (hwy : ∀ b, v14.ownBlock = some b → V.heap[b]? = wr.heap[b]?) (hou : ∀ b, v13.ownBlock = some b → V.heap[b]? = wr.heap[b]?) : PyI B d n S' tb Q ss v13 v14 ps qs V := by
  have hst : ∀ {P : World → Prop}, Stt S wr P → Stt S' V P := fun hp => (hp.agr ha).mono hS
  refine ⟨hlow, fun h0 => ?_, fun h0 hb => ?_, fun i hi => hst (h.st i hi), fun i hi => (h.top i hi).mono hS, h.ok, h.er, h.way.keep hwy, fun b e hb => ?_, fun p hp => ⟨hst (h.wys p hp).1, (h.wys p hp).2⟩, h.out.keep hou, fun b e hb => ?_, fun q hq => ⟨⟨hst (h.ous q hq).1.1, (h.ous q hq).1.2⟩, ⟨hst (h.ous q hq).2.1, (h.ous q hq).2.2⟩⟩, Nat.le_trans h.base hs⟩
  · obtain ⟨cur, h1, h2⟩ := h.tm h0
    exact ⟨cur, (htb h0).trans h1, h2⟩
  · obtain ⟨cur, h1, _⟩ := h.tm h0
    have hl := (Array.getElem?_eq_some_iff.1 h1).1
    rcases hnew tb hb with h3 | h3
    · exact h.ntb h0 h3
    · omega
  · rcases hnew b hb with h3 | h3
    · exact h.nwy b e h3
    · have := (h.way.lt b e).2.1
      omega
  · rcases hnew b hb with h3 | h3
    · exact h.nou b e h3
    · have := (h.out.lt b e).2.1
      omega
theorem PyI.grow {B d n : Nat} {S : Nat → Prop} {tb : Nat} {Q : Nat → Rs} {ss : Nat → St} {v13 v14 : Value} {ps : List (Nt × Sl)} {qs : List (Sn × Sl × Sl)} {wr V : World} (h : PyI B d n S tb Q ss v13 v14 ps qs wr) (hb : Below wr.heap.size wr V) : PyI B d n S tb Q ss v13 v14 ps qs V :=
  h.keep hb.size (agr_below h.low hb) (fun b h => h) (fun b hS => Nat.lt_of_lt_of_le (h.low b hS) hb.size) (fun b h => .inl h) (fun h0 => by
    obtain ⟨cur, h1, _⟩ := h.tm h0
    exact hb.block tb (Array.getElem?_eq_some_iff.1 h1).1) (fun b e => hb.block b (h.way.lt b e).2.1) (fun b e => hb.block b (h.out.lt b e).2.1)
/-- What a call has made is settled. -/
theorem PyI.call {B d n : Nat} {S : Nat → Prop} {tb : Nat} {Q : Nat → Rs} {ss : Nat → St} {v13 v14 : Value} {ps : List (Nt × Sl)} {qs : List (Sn × Sl × Sl)} {wr V : World} (h : PyI B d n S tb Q ss v13 v14 ps qs wr) (hb : Below wr.heap.size wr V) : PyI B d n (NwS S wr.heap.size V.heap.size) tb Q ss v13 v14 ps qs V :=
  h.keep hb.size (agr_below h.low hb) (fun b h => .inl h) (h.low.new hb.size) (fun b h => h.imp id fun h => h.1) (fun h0 => by
    obtain ⟨cur, h1, _⟩ := h.tm h0
    exact hb.block tb (Array.getElem?_eq_some_iff.1 h1).1) (fun b e => hb.block b (h.way.lt b e).2.1) (fun b e => hb.block b (h.out.lt b e).2.1)
theorem PyI.seen {B d n : Nat} {S : Nat → Prop} {tb : Nat} {Q : Nat → Rs} {ss : Nat → St} {v13 v14 u : Value} {ps : List (Nt × Sl)} {qs : List (Sn × Sl × Sl)} {wr V : World} (h : PyI B d n S tb Q ss v13 v14 ps qs wr) (q : Sn × Sl × Sl) (hr : RowC V B 41 7 u (qs.length + 1) (seC qs ++ snC q)) (hg : wr.grownBy V v13.ownBlock) (ho : u.ownBlock = v13.ownBlock ∨ ∃ g', u.ownBlock = some g' ∧ wr.heap.size ≤ g')
    (h1 : (Stt S wr fun V => Ints V q.2.1.a q.2.1.n q.1.nt.data) ∧ q.2.1.n ≤ q.2.1.c) (h2 : (Stt S wr fun V => Ints V q.2.2.a q.2.2.n q.1.data) ∧ q.2.2.n ≤ q.2.2.c) : PyI B d n S tb Q ss u v14 ps (qs ++ [q]) V := by
  have hne : ∀ b, S b → some b ≠ v13.ownBlock := fun b hb e => h.nou b e.symm hb
  have ha : Agr S wr V := fun b hb => hg.block b (h.low b hb) (hne b hb)
  have hty : ∀ b, v13.ownBlock = some b → ∃ cur, wr.heap[b]? = some (.cells cur 41 (0, 0)) := fun b e => (h.out.lt b e).2.2
  have htb : 0 < n → V.heap[tb]? = wr.heap[tb]? := fun h0 => by
    obtain ⟨cur, k1, _⟩ := h.tm h0
    refine hg.block tb (Array.getElem?_eq_some_iff.1 k1).1 (fun e => ?_)
    obtain ⟨cur', k2⟩ := hty tb e.symm
    rw [k1] at k2
    simp at k2
  have hwy : ∀ b, v14.ownBlock = some b → V.heap[b]? = wr.heap[b]? := fun b e => by
    obtain ⟨_, hl, cur, k1⟩ := h.way.lt b e
    refine hg.block b hl (fun e2 => ?_)
    obtain ⟨cur', k2⟩ := hty b e2.symm
    rw [k1] at k2
    simp at k2
  have hst : ∀ {P : World → Prop}, Stt S wr P → Stt S V P := fun hp => hp.agr ha
  refine ⟨fun b hb => Nat.lt_of_lt_of_le (h.low b hb) hg.size, fun h0 => ?_, h.ntb, fun i hi => hst (h.st i hi), h.top, h.ok, h.er, h.way.keep hwy, h.nwy, fun p hp => ⟨hst (h.wys p hp).1, (h.wys p hp).2⟩, ?_, fun b hb hSb => ?_, fun q' hq' => ?_, Nat.le_trans h.base hg.size⟩
  · obtain ⟨cur, k1, k2⟩ := h.tm h0
    exact ⟨cur, (htb h0).trans k1, k2⟩
  · have e : seC (qs ++ [q]) = seC qs ++ snC q := by simp [seC]
    rw [e, List.length_append]
    exact hr
  · rcases ho with e | ⟨g', e, hl⟩
    · rw [e] at hb
      exact h.nou b hb hSb
    · rw [e] at hb
      cases hb
      have := h.low _ hSb
      omega
  · rcases List.mem_append.1 hq' with h' | h'
    · exact ⟨⟨hst (h.ous q' h').1.1, (h.ous q' h').1.2⟩, ⟨hst (h.ous q' h').2.1, (h.ous q' h').2.2⟩⟩
    · have : q' = q := by simpa using h'
      subst this
      exact ⟨⟨hst h1.1, h1.2⟩, ⟨hst h2.1, h2.2⟩⟩
/-- The notes on their way lie in another row, or in the same one, grown. -/
theorem PyI.wayTo {B d n : Nat} {S : Nat → Prop} {tb : Nat} {Q : Nat → Rs} {ss : Nat → St} {v13 v14 u : Value} {ps ps' : List (Nt × Sl)} {qs : List (Sn × Sl × Sl)} {wr V : World} (h : PyI B d n S tb Q ss v13 v14 ps qs wr) (hr : RowC V B 39 4 u ps'.length (wyC ps')) (hg : wr.grownBy V v14.ownBlock) (ho : ∀ b, u.ownBlock = some b → v14.ownBlock = some b ∨ wr.heap.size ≤ b)
    (hp : ∀ p ∈ ps', (Stt S wr fun V => Ints V p.2.a p.2.n p.1.data) ∧ p.2.n ≤ p.2.c ∧ ∃ i, i < n ∧ p.1.to = (i : Int)) : PyI B d n S tb Q ss v13 u ps' qs V := by
  have ha : Agr S wr V := fun b hb => hg.block b (h.low b hb) (fun e => h.nwy b e.symm hb)
  have hty : ∀ b, v14.ownBlock = some b → ∃ cur, wr.heap[b]? = some (.cells cur 39 (0, 0)) := fun b e => (h.way.lt b e).2.2
  have htb : 0 < n → V.heap[tb]? = wr.heap[tb]? := fun h0 => by
    obtain ⟨cur, k1, _⟩ := h.tm h0
    refine hg.block tb (Array.getElem?_eq_some_iff.1 k1).1 (fun e => ?_)
    obtain ⟨cur', k2⟩ := hty tb e.symm
    rw [k1] at k2
    simp at k2
  have hou : ∀ b, v13.ownBlock = some b → V.heap[b]? = wr.heap[b]? := fun b e => by
    obtain ⟨_, hl, cur, k1⟩ := h.out.lt b e
    refine hg.block b hl (fun e2 => ?_)
    obtain ⟨cur', k2⟩ := hty b e2.symm
    rw [k1] at k2
    simp at k2
  have hst : ∀ {P : World → Prop}, Stt S wr P → Stt S V P := fun hp => hp.agr ha
  refine ⟨fun b hb => Nat.lt_of_lt_of_le (h.low b hb) hg.size, fun h0 => ?_, h.ntb, fun i hi => hst (h.st i hi), h.top, h.ok, h.er, hr, fun b hb hSb => ?_, fun p hpp => ⟨hst (hp p hpp).1, (hp p hpp).2⟩, h.out.keep hou, h.nou, fun q' h' => ⟨⟨hst (h.ous q' h').1.1, (h.ous q' h').1.2⟩, ⟨hst (h.ous q' h').2.1, (h.ous q' h').2.2⟩⟩, Nat.le_trans h.base hg.size⟩
  · obtain ⟨cur, k1, k2⟩ := h.tm h0
    exact ⟨cur, (htb h0).trans k1, k2⟩
  · rcases ho b hb with e | hl
    · exact h.nwy b e hSb
    · have := h.low _ hSb
      omega
/-- Five words of a row are stored. -/
def sto5 (w : World) (t o : Nat) (a b c d e : Value) : World := ((((w.setCell ⟨t, o, none⟩ a).setCell ⟨t, o + 1, none⟩ b).setCell ⟨t, o + 2, none⟩ c).setCell ⟨t, o + 3, none⟩ d).setCell ⟨t, o + 4, none⟩ e
theorem sto5_other {w : World} {t o : Nat} {a b c d e : Value} {B : Nat} (hB : B ≠ t) : (sto5 w t o a b c d e).heap[B]? = w.heap[B]? := by
  unfold sto5
  rw [Below.heap_setCell _ _ _ _ hB, Below.heap_setCell _ _ _ _ hB, Below.heap_setCell _ _ _ _ hB, Below.heap_setCell _ _ _ _ hB, Below.heap_setCell _ _ _ _ hB]
theorem sto5_size {w : World} {t o : Nat} {a b c d e : Value} : (sto5 w t o a b c d e).heap.size = w.heap.size := by simp [sto5, World.setCell]
theorem sto5_heap {w : World} {t o : Nat} {a b c d e : Value} {cur : Array Value} {ty : TypeId} {f : Nat × Nat} (h : w.heap[t]? = some (.cells cur ty f)) : (sto5 w t o a b c d e).heap[t]? = some (.cells (((((cur.setIfInBounds o a).setIfInBounds (o + 1) b).setIfInBounds (o + 2) c).setIfInBounds (o + 3) d).setIfInBounds (o + 4) e) ty f) := by
  simp [sto5, World.setCell, Array.getElem?_modify, h]
theorem sto5_below {N : Nat} {W w : World} {t o : Nat} {a b c d e : Value} (h : Below N W w) (hC : N ≤ t) : Below N W (sto5 w t o a b c d e) := by
  have h1 : Below N W (((((w.setCell ⟨t, o, none⟩ a).setCell ⟨t, o + 1, none⟩ b).setCell ⟨t, o + 2, none⟩ c).setCell ⟨t, o + 3, none⟩ d).setCell ⟨t, o + 4, none⟩ e) := ((((h.setCell hC a).setCell hC b).setCell hC c).setCell hC d).setCell hC e
  unfold sto5
  exact h1
/-- A member is another one now. -/
theorem PyI.member {B d n : Nat} {S : Nat → Prop} {tb : Nat} {Q : Nat → Rs} {ss : Nat → St} {v13 v14 : Value} {ps : List (Nt × Sl)} {qs : List (Sn × Sl × Sl)} {wr : World} (h : PyI B d n S tb Q ss v13 v14 ps qs wr) {i : Nat} (hi : i < n) (q : Rs) (s : St) (hst : Stt S wr fun V => RsA V q n s) (htop : Tops S q) (hok : StOk d n i s) (her : ErOk s) :
    PyI B d n S tb (updN Q i q) (updN ss i s) v13 v14 ps qs (sto5 wr tb (i * 5) (.slice q.o.a q.o.n q.o.c) (.slice q.p.a q.p.n q.p.c) (.int .i64 (s.sent : Int)) (.int .i64 (s.taken : Int)) (.slice q.e.a q.e.n q.e.c)) := by
  obtain ⟨cur, k1, k2⟩ := h.tm (by omega)
  have hnt := h.ntb (by omega)
  have hne : ∀ b, S b → b ≠ tb := fun b hb e => hnt (e ▸ hb)
  have hcs : ∀ a, a < n → ∀ j, j < 5 → a * 5 + j < cur.size := fun a ha j hj => by
    have h1 := k2 a j ha hj
    have h2 : ∃ u, (rsL (Q a) (ss a))[j]? = some u := ⟨(rsL (Q a) (ss a))[j]'(by simpa [rsL] using hj), List.getElem?_eq_getElem _⟩
    obtain ⟨u, hu⟩ := h2
    rw [hu] at h1
    exact (Array.getElem?_eq_some_iff.1 h1).1
  obtain ⟨U, hU⟩ : ∃ U, U = sto5 wr tb (i * 5) (.slice q.o.a q.o.n q.o.c) (.slice q.p.a q.p.n q.p.c) (.int .i64 (s.sent : Int)) (.int .i64 (s.taken : Int)) (.slice q.e.a q.e.n q.e.c) := ⟨_, rfl⟩
  rw [← hU]
  have hoth : ∀ b, b ≠ tb → U.heap[b]? = wr.heap[b]? := fun b hb => by rw [hU]; exact sto5_other hb
  have hsz : U.heap.size = wr.heap.size := by rw [hU]; exact sto5_size
  have htbU : U.heap[tb]? = some (.cells (((((cur.setIfInBounds (i * 5) (.slice q.o.a q.o.n q.o.c)).setIfInBounds (i * 5 + 1) (.slice q.p.a q.p.n q.p.c)).setIfInBounds (i * 5 + 2) (.int .i64 (s.sent : Int))).setIfInBounds (i * 5 + 3) (.int .i64 (s.taken : Int))).setIfInBounds (i * 5 + 4) (.slice q.e.a q.e.n q.e.c)) 60 (0, 0)) := by rw [hU]; exact sto5_heap k1
  have ha : Agr S wr U := fun b hb => hoth b (hne b hb)
  have hs : ∀ {P : World → Prop}, Stt S wr P → Stt S U P := fun hp => hp.agr ha
  have hwy : ∀ b, v14.ownBlock = some b → U.heap[b]? = wr.heap[b]? := fun b e => hoth b (fun e2 => by
    obtain ⟨_, _, cur', k3⟩ := h.way.lt b e
    rw [e2, k1] at k3
    simp at k3)
  have hou : ∀ b, v13.ownBlock = some b → U.heap[b]? = wr.heap[b]? := fun b e => hoth b (fun e2 => by
    obtain ⟨_, _, cur', k3⟩ := h.out.lt b e
    rw [e2, k1] at k3
    simp at k3)
  refine ⟨fun b hb => by rw [hsz]; exact h.low b hb, fun h0 => ⟨_, htbU, fun a j ha' hj => ?_⟩, h.ntb, fun a ha' => ?_, fun a ha' => ?_, fun a ha' => ?_, fun a ha' => ?_, h.way.keep hwy, h.nwy, fun p hp => ⟨hs (h.wys p hp).1, (h.wys p hp).2⟩, h.out.keep hou, h.nou, fun q' h' => ⟨⟨hs (h.ous q' h').1.1, (h.ous q' h').1.2⟩, ⟨hs (h.ous q' h').2.1, (h.ous q' h').2.2⟩⟩, by rw [hsz]; exact h.base⟩
  · by_cases e : a = i
    · subst e
      rw [updN_same, updN_same]
      have hj5 : j = 0 ∨ j = 1 ∨ j = 2 ∨ j = 3 ∨ j = 4 := by omega
      have z0 := hcs a ha' 0 (by omega)
      have z1 := hcs a ha' 1 (by omega)
      have z2 := hcs a ha' 2 (by omega)
      have z3 := hcs a ha' 3 (by omega)
      have z4 := hcs a ha' 4 (by omega)
      rcases hj5 with rfl | rfl | rfl | rfl | rfl <;> simp [Array.getElem?_setIfInBounds, rsL] <;> omega
    · rw [updN_other _ _ e, updN_other _ _ e]
      rw [← k2 a j ha' hj]
      have g0 : ¬ (i * 5 = a * 5 + j) := by omega
      have g1 : ¬ (i * 5 + 1 = a * 5 + j) := by omega
      have g2 : ¬ (i * 5 + 2 = a * 5 + j) := by omega
      have g3 : ¬ (i * 5 + 3 = a * 5 + j) := by omega
      have g4 : ¬ (i * 5 + 4 = a * 5 + j) := by omega
      rw [Array.getElem?_setIfInBounds_ne g4, Array.getElem?_setIfInBounds_ne g3, Array.getElem?_setIfInBounds_ne g2, Array.getElem?_setIfInBounds_ne g1, Array.getElem?_setIfInBounds_ne g0]
  · by_cases e : a = i
    · subst e
      rw [updN_same, updN_same]
      exact hs hst
    · rw [updN_other _ _ e, updN_other _ _ e]
      exact hs (h.st a ha')
  · by_cases e : a = i
    · subst e
      rw [updN_same]
      exact htop
    · rw [updN_other _ _ e]
      exact h.top a ha'
  · by_cases e : a = i
    · subst e
      rw [updN_same]
      exact hok
    · rw [updN_other _ _ e]
      exact h.ok a ha'
  · by_cases e : a = i
    · subst e
      rw [updN_same]
      exact her
    · rw [updN_other _ _ e]
      exact h.er a ha'
end Go.Proofs.Yticcoacoepajpaa.V
