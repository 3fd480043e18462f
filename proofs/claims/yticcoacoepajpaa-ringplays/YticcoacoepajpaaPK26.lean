/-
  A team is made. A team's play: a note comes. The laws of chapter 14: what is alike, the steps of a play to its end. Contracts: the document's numbers of members and notes. Contract: plain.Member.
-/
import Derived.Test.YticcoacoepajpaaPK21
import Derived.Test.YticcoacoepajpaaPK22
import Derived.Test.YticcoacoepajpaaPK25
import Derived.Test.YticcoacoepajpaaPK11
import Derived.Test.YticcoacoepajpaaPK23
namespace Go.Proofs.Yticcoacoepajpaa.V
open Go Go.RowKit
set_option linter.unusedVariables false
set_option linter.unusedSimpArgs false

theorem info_ptr : (Try.prog.info? 48).map (fun i => (i.zero, i.size, i.bytes)) = some (some (.pointer none), 1, 8) := by kernel_rfl
theorem own_kp {W V : World} {B e size n : Nat} {v : Value} {xs : List Value} (h : W.ownsRow B e size v n xs) (hb : ∀ g, v.ownBlock = some g → V.heap[g]? = W.heap[g]?) : V.ownsRow B e size v n xs := by
  refine ⟨h.1, ?_⟩
  rcases h.2 with e | ⟨g, cap, cur, e1, e2, e3, e4⟩
  · exact .inl e
  · subst e1
    exact .inr ⟨g, cap, cur, rfl, e2, (hb g rfl).trans e3, e4⟩
theorem grown_after {W V U : World} {r : Option Nat} (hb : Below W.heap.size W V) (hg : V.grownBy U r) : W.grownBy U r :=
  ⟨hg.os.trans hb.os, hg.tape.trans hb.tape, hg.output.trans hb.output, Nat.le_trans hb.size hg.size, fun b h1 h2 => (hg.block b (Nat.lt_of_lt_of_le h1 hb.size) h2).trans (hb.block b h1)⟩
theorem info_seen : (Try.prog.info? 41).map (fun i => (i.zero, i.size, i.bytes)) = some (some (.agg #[.bool false, .int .i64 0, .int .i64 0, .int .i64 0, .slice none 0 0, .int .i64 0, .slice none 0 0]), 7, 88) := by kernel_rfl
theorem info_note : (Try.prog.info? 39).map (fun i => (i.zero, i.size, i.bytes)) = some (some (.agg #[.int .i64 0, .int .i64 0, .int .i64 0, .slice none 0 0]), 4, 48) := by kernel_rfl
/-- The first k members. -/
structure T1 (W : World) (B d n k : Nat) (xss : List (List Int)) (v : Value) (gs : Nat → Nat) (Fs : Nat → Nat → Prop) (Gs : Nat → Gh) : Prop where
  row : W.ownsRow B 48 1 v k ((List.range k).map fun i => pm (gs i))
  mb : ∀ i, i < k → MbAt W (Fs i) (gs i) d n i (begM d n i (xss[i]?.getD [])) (Gs i)
  ok : ∀ i, i < k → StOk d n i (begM d n i (xss[i]?.getD []))
  lo : ∀ i b, i < k → Fs i b → B ≤ b ∧ b < W.heap.size
  dis : ∀ i j b, i < k → j < k → i ≠ j → Fs i b → ¬ Fs j b
  fre : ∀ b i, v.ownBlock = some b → i < k → ¬ Fs i b
theorem T1.start (W : World) (B d n : Nat) (xss : List (List Int)) : T1 W B d n 0 xss (.slice none 0 0) (fun _ => 0) (fun _ _ => False) (fun _ => ⟨0, 0, 0, 0, fun _ => slZ, fun _ => slZ, []⟩) :=
  ⟨⟨rfl, .inl ⟨rfl, rfl⟩⟩, fun i h => by omega, fun i h => by omega, fun i b h => by omega, fun i j b h => by omega, fun b i _ h => by omega⟩
/-- Two appended: a member is made, and put into the row. -/
theorem T1.more {W V U : World} {B d n k : Nat} {xss : List (List Int)} {v u : Value} {gs : Nat → Nat} {Fs : Nat → Nat → Prop} {Gs : Nat → Gh} (h : T1 W B d n k xss v gs Fs Gs) (hB : B ≤ W.heap.size) {g : Nat} {G : Gh} (hb : Below W.heap.size W V) (hm : MbAt V (fun b => W.heap.size ≤ b ∧ b < V.heap.size) g d n k (begM d n k (xss[k]?.getD [])) G) (hok : StOk d n k (begM d n k (xss[k]?.getD [])))
    (hr : U.ownsRow B 48 1 u (k + 1) (((List.range k).map fun i => pm (gs i)) ++ [pm g])) (hg : V.grownBy U v.ownBlock) (ho : u.ownBlock = v.ownBlock ∨ ∃ g', u.ownBlock = some g' ∧ V.heap.size ≤ g') :
    T1 U B d n (k + 1) xss u (updN gs k g) (updN Fs k (fun b => W.heap.size ≤ b ∧ b < V.heap.size)) (updN Gs k G) := by
  have hvl : ∀ b, v.ownBlock = some b → b < W.heap.size := fun b e => (h.row.lt b e).2
  refine ⟨?_, fun i hi => ?_, fun i hi => ?_, fun i b hi hf => ?_, fun i j b hi hj hne hf => ?_, fun b i e hi => ?_⟩
  · have e : ((List.range (k + 1)).map fun i => pm (updN gs k g i)) = ((List.range k).map fun i => pm (gs i)) ++ [pm g] := by
      rw [List.range_succ, List.map_append]
      congr 1
      · apply List.map_congr_left
        intro i hi
        rw [updN_other _ _ (by have := List.mem_range.1 hi; omega)]
      · simp [updN]
    rw [e]
    exact hr
  · by_cases e : i = k
    · subst e
      rw [updN_same, updN_same, updN_same]
      exact hm.keep hg.size fun b hb' hl => hg.block b hl (fun e' => by have := hvl b e'.symm; omega)
    · rw [updN_other _ _ e, updN_other _ _ e, updN_other _ _ e]
      exact ((h.mb i (by omega)).below hb).keep hg.size fun b hb' hl => hg.block b hl (fun e' => h.fre b i e'.symm (by omega) hb')
  · by_cases e : i = k
    · subst e; exact hok
    · exact h.ok i (by omega)
  · by_cases e : i = k
    · subst e
      rw [updN_same] at hf
      have := hg.size
      omega
    · rw [updN_other _ _ e] at hf
      have := h.lo i b (by omega) hf
      have := hg.size
      have := hb.size
      omega
  · by_cases e : i = k
    · subst e
      rw [updN_same] at hf
      rw [updN_other _ _ (Ne.symm hne)]
      intro hf'
      have := (h.lo j b (by omega) hf').2
      omega
    · rw [updN_other _ _ e] at hf
      by_cases e' : j = k
      · subst e'
        rw [updN_same]
        intro hf'
        have := (h.lo i b (by omega) hf).2
        omega
      · rw [updN_other _ _ e']
        exact h.dis i j b (by omega) (by omega) hne hf
  · have hbb : v.ownBlock = some b ∨ V.heap.size ≤ b := by
      rcases ho with e1 | ⟨g', e1, hl⟩
      · exact .inl (e1.symm.trans e)
      · rw [e1] at e; cases e; exact .inr hl
    by_cases e1 : i = k
    · subst e1
      rw [updN_same]
      intro hf
      rcases hbb with h' | h'
      · have := hvl b h'; omega
      · omega
    · rw [updN_other _ _ e1]
      intro hf
      rcases hbb with h' | h'
      · exact h.fre b i h' (by omega) hf
      · have := (h.lo i b (by omega) hf).2
        have := hb.size
        omega
/-- What the switch leaves. -/
def SwAns (W wr : World) (tb d n : Nat) (P : Pl) (p : Stp) (v13 : Value) (l : Nat) (qs : List (Sn × Sl × Sl)) (v14 : Value) (wc : World) : Prop :=
  ∃ (WA : Option Addr) (wc2 : Nat) (pq : List (Nt × Sl)) (gs : Nat → Nat) (Fs : Nat → Nat → Prop) (Gs : Nat → Gh) (q : Sn × Sl × Sl), v14 = .slice WA pq.length wc2 ∧ Tv wc W.heap.size tb d n (stepM d n P p).1.ss v13 v14 pq qs gs Fs Gs ∧ pq.map (·.1) = (stepM d n P p).1.ws ∧ q.1 = (stepM d n P p).2 ∧ wc.heap[wr.heap.size + 1]? = some (.cells (snC q).toArray 41 (0, 0)) ∧ (Num wc q.2.1 q.1.nt.data ∧ ∀ b, q.2.1.On b → Fre wc n Fs b) ∧ (Num wc q.2.2 q.1.data ∧ ∀ b, q.2.2.On b → Fre wc n Fs b) ∧ pq.length ≤ l + 1 ∧ Below W.heap.size W wc
theorem team_row {W : World} {B d n : Nat} {xss : List (List Int)} {v : Value} {gs : Nat → Nat} {Fs : Nat → Nat → Prop} {Gs : Nat → Gh} (h : T1 W B d n n xss v gs Fs Gs) (hn : 1 ≤ n) : ∃ tb tc, v = .slice (some ⟨tb, 0, none⟩) n tc ∧ (∀ i, i < n → W.cell? ⟨tb, i, none⟩ = some (pm (gs i))) ∧ (∀ i, i < n → ¬ Fs i tb) ∧ ∃ cur f, W.heap[tb]? = some (.cells cur 48 f) := by
  have hr : RowC W B 48 1 v n ((List.range n).map fun i => pm (gs i)) := .inl h.row
  rcases hr.parts with ⟨_, e⟩ | ⟨g, cap, cur, e1, h2, h3, h4, h5, h6⟩
  · omega
  · refine ⟨g, cap, e1, fun i hi => hr.cell e1 (by simp [hi]), fun i hi => h.fre g i (by rw [e1]; rfl) hi, cur, _, h3⟩
theorem tv_start {W : World} {B d n : Nat} {xss : List (List Int)} {gs : Nat → Nat} {Fs : Nat → Nat → Prop} {Gs : Nat → Gh} {tb tc : Nat} (h : T1 W B d n n xss (.slice (some ⟨tb, 0, none⟩) n tc) gs Fs Gs) (h1 : ∀ i, i < n → W.cell? ⟨tb, i, none⟩ = some (pm (gs i))) (h2 : ∀ i, i < n → ¬ Fs i tb) (h3 : ∃ cur f, W.heap[tb]? = some (.cells cur 48 f)) : Tv W B tb d n (fun i => begM d n i (xss[i]?.getD [])) (.slice none 0 0) (.slice none 0 0) [] [] gs Fs Gs := by
  have hB : B ≤ W.heap.size := by
    obtain ⟨cur, f, hc⟩ := h3
    have h4 := (h.row.lt tb rfl)
    omega
  exact ⟨⟨h.mb, h.ok, h1, h2, h.lo, h.dis⟩, ⟨.inl ⟨rfl, .inl ⟨rfl, rfl⟩⟩, fun p hp => by simp at hp, fun b hb => by simp [Value.ownBlock] at hb⟩, ⟨.inl ⟨rfl, .inl ⟨rfl, rfl⟩⟩, fun p hp => by simp at hp, fun b hb => by simp [Value.ownBlock] at hb⟩, fun _ => h3, fun p hp => by simp at hp, hB⟩
theorem sw_quiet {W wr U : World} {tb d n : Nat} {P : Pl} {p : Stp} {v13 : Value} {WA : Option Addr} {wc : Nat} {pq : List (Nt × Sl)} {qs : List (Sn × Sl × Sl)} {gs : Nat → Nat} {Fs : Nat → Nat → Prop} {Gs : Nat → Gh} (h : Tv wr W.heap.size tb d n P.ss v13 (.slice WA pq.length wc) pq qs gs Fs Gs) (hpq : pq.map (·.1) = P.ws) (hb : Below wr.heap.size wr U) (hW : Below W.heap.size W wr) (q : Sn × Sl × Sl) (est : stepM d n P p = (P, q.1)) (hsn : U.heap[wr.heap.size + 1]? = some (.cells (snC q).toArray 41 (0, 0)))
    (hy : Num U q.2.1 q.1.nt.data) (hyl : ∀ b, q.2.1.On b → wr.heap.size ≤ b) (hz : Num U q.2.2 q.1.data) (hzl : ∀ b, q.2.2.On b → wr.heap.size ≤ b) : SwAns W wr tb d n P p v13 pq.length qs (.slice WA pq.length wc) U :=
  ⟨WA, wc, pq, gs, Fs, Gs, q, rfl, by rw [est]; exact h.below hb, by rw [est]; exact hpq, by rw [est], hsn, ⟨hy, fun b hO => fre_new h.tm (hyl b hO) (hy.lt hO)⟩, ⟨hz, fun b hO => fre_new h.tm (hzl b hO) (hz.lt hO)⟩, Nat.le_succ _, hW.trans (hb.mono hW.size)⟩
theorem slZ_on {b : Nat} (h : slZ.On b) : False := by
  obtain ⟨h9, _⟩ := h
  simp [slZ] at h9
/-- A note and whether there is one are stored. -/
def setN (w : World) (C : Nat) (a b c d e : Value) : World := ((((w.setCell ⟨C, 1, none⟩ a).setCell ⟨C, 2, none⟩ b).setCell ⟨C, 3, none⟩ c).setCell ⟨C, 4, none⟩ d).setCell ⟨C, 0, none⟩ e
theorem setN_heap {w : World} {C : Nat} {ty : TypeId} {f : Nat × Nat} {x0 x1 x2 x3 x4 x5 x6 a b c d e : Value} (h : w.heap[C]? = some (.cells #[x0, x1, x2, x3, x4, x5, x6] ty f)) : (setN w C a b c d e).heap[C]? = some (.cells #[e, a, b, c, d, x5, x6] ty f) := by
  simp [setN, World.setCell, Array.getElem?_modify, h]
theorem setN_other {w : World} {C : Nat} {a b c d e : Value} {B : Nat} (hB : B ≠ C) : (setN w C a b c d e).heap[B]? = w.heap[B]? := by
  unfold setN
  rw [Below.heap_setCell _ _ _ _ hB, Below.heap_setCell _ _ _ _ hB, Below.heap_setCell _ _ _ _ hB, Below.heap_setCell _ _ _ _ hB, Below.heap_setCell _ _ _ _ hB]
theorem setN_size {w : World} {C : Nat} {a b c d e : Value} : (setN w C a b c d e).heap.size = w.heap.size := by simp [setN, World.setCell]
theorem setN_below {w : World} {C : Nat} {a b c d e : Value} : Below C w (setN w C a b c d e) := (((((Below.refl C w).setCell (Nat.le_refl _) _).setCell (Nat.le_refl _) _).setCell (Nat.le_refl _) _).setCell (Nat.le_refl _) _).setCell (Nat.le_refl _) _
theorem sw_next {W wr V w1 : World} {tb d n i : Nat} {P : Pl} {v13 v14 : Value} {pq : List (Nt × Sl)} {qs : List (Sn × Sl × Sl)} {gs : Nat → Nat} {Fs : Nat → Nat → Prop} {Gs : Nat → Gh} (h : Tv wr W.heap.size tb d n P.ss v13 v14 pq qs gs Fs Gs) (hi : i < n) (hW : Below W.heap.size W wr) (hV : Below wr.heap.size wr V) (hz : Wr (Fs i) V w1) (hm : MbAt w1 (Fs i) (gs i) d n i (nextM d n (P.ss i)) (Gs i)) (a b c e f : Value) :
    Tv (setN w1 (wr.heap.size + 1) a b c e f) W.heap.size tb d n (updN P.ss i (nextM d n (P.ss i))) v13 v14 pq qs gs (updN Fs i (Fs i)) (updN Gs i (Gs i)) ∧ Below W.heap.size W (setN w1 (wr.heap.size + 1) a b c e f) := by
  have hwz : Wr (Fs i) wr w1 := (Wr.of_below hV).trans hz
  have lo : ∀ b, Fs i b → b < wr.heap.size := fun b hf => (h.tm.lo i b hi hf).2
  have hsb : Below (wr.heap.size + 1) w1 (setN w1 (wr.heap.size + 1) a b c e f) := setN_below
  have hw : Wr (Fs i) wr (setN w1 (wr.heap.size + 1) a b c e f) := ⟨hsb.os.trans hwz.os, hsb.tape.trans hwz.tape, hsb.output.trans hwz.output, by rw [setN_size]; exact hwz.size, fun b hb hf => by
    rw [setN_other (by omega)]
    exact hwz.block b hb hf⟩
  refine ⟨h.step hi (hm.keep (by rw [setN_size]; exact Nat.le_refl _) fun b hf hl => setN_other (by have := lo b hf; omega)) (h.tm.ok i hi).next (fun b hf => .inl hf) hw, ⟨hw.os.trans hW.os, hw.tape.trans hW.tape, hw.output.trans hW.output, Nat.le_trans hW.size hw.size, fun b hb => (hw.block b (Nat.lt_of_lt_of_le hb hW.size) (fun hf => by have := (h.tm.lo i b hi hf).1; omega)).trans (hW.block b hb)⟩⟩
theorem sw_note {W wr U V V' : World} {tb d n : Nat} {P : Pl} {p : Stp} {ss' : Nat → St} {v13 : Value} {WA : Option Addr} {wc g8 cap8 : Nat} {pq : List (Nt × Sl)} {qs : List (Sn × Sl × Sl)} {gs : Nat → Nat} {Fs : Nat → Nat → Prop} {Gs : Nat → Gh} (h : Tv U W.heap.size tb d n ss' v13 (.slice WA pq.length wc) pq qs gs Fs Gs) (hpq : pq.map (·.1) = P.ws) (hW : Below W.heap.size W U) (hb : Below U.heap.size U V) (x : Nt) (y2 y : Sl) (hn : Num V y2 x.data) (hl : ∀ b, y2.On b → U.heap.size ≤ b) (hto : (∃ i', i' < n ∧ x.to = ((i' : Nat) : Int)) ∧ x.data.length ≤ 65536)
    (hr : RowC V' W.heap.size 39 4 (.slice (some ⟨g8, 0, none⟩) (pq.length + 1) cap8) (pq.length + 1) (wyC pq ++ ntC (x, y2))) (hg : V.grownBy V' (Value.slice WA pq.length wc).ownBlock) (ho : (Value.slice (some ⟨g8, 0, none⟩) (pq.length + 1) cap8).ownBlock = (Value.slice WA pq.length wc).ownBlock ∨ ∃ g', (Value.slice (some ⟨g8, 0, none⟩) (pq.length + 1) cap8).ownBlock = some g' ∧ V.heap.size ≤ g')
    (hsn : U.heap[wr.heap.size + 1]? = some (.cells #[.bool true, .int .i64 x.fr, .int .i64 x.to, .int .i64 x.st, .slice y.a y.n y.c, .int .i64 0, .slice none 0 0] 41 (0, 0))) (hy : Num U y x.data) (hyf : ∀ b, y.On b → Fre U n Fs b) (est : stepM d n P p = (⟨ss', P.ws ++ [x]⟩, ⟨true, x, 0, []⟩)) : SwAns W wr tb d n P p v13 pq.length qs (.slice (some ⟨g8, 0, none⟩) (pq.length + 1) cap8) V' := by
  have hV := h.below hb
  have hk : Kp V V' n Fs Fs 39 := kp_grown hV.wy.row hg
  have ht := hV.note (x, y2) hr hg ho ⟨hn, fun b hO => fre_new h.tm (hl b hO) (hn.lt hO)⟩ hto
  have hyk := Num.kp hk (by decide) (hy.below hb) (fun b hO => (hyf b hO).below hb)
  have hsV := (hb.block _ (Array.getElem?_eq_some_iff.1 hsn).1).trans hsn
  refine ⟨some ⟨g8, 0, none⟩, cap8, pq ++ [(x, y2)], gs, Fs, Gs, (⟨true, x, 0, []⟩, y, slZ), by simp, ?_, ?_, by rw [est], ?_, hyk, ⟨Num.nil _, fun b hO => (slZ_on hO).elim⟩, by simp, ?_⟩
  · rw [est]; exact ht
  · rw [est, List.map_append, hpq]; rfl
  · refine (hg.block _ (Array.getElem?_eq_some_iff.1 hsV).1 (fun e => ?_)).trans hsV
    obtain ⟨_, _, cur', hc'⟩ := hV.wy.row.lt _ e.symm
    rw [hsV] at hc'
    simp at hc'
  · exact (hW.trans (hb.mono hW.size)).grown hg (Nat.le_trans hW.size hb.size) (fun j' e => (hV.wy.row.lt j' e).1)
theorem set56_heap {w : World} {C : Nat} {ty : TypeId} {f : Nat × Nat} {x0 x1 x2 x3 x4 x5 x6 a b : Value} (h : w.heap[C]? = some (.cells #[x0, x1, x2, x3, x4, x5, x6] ty f)) : ((w.setCell ⟨C, 6, none⟩ a).setCell ⟨C, 5, none⟩ b).heap[C]? = some (.cells #[x0, x1, x2, x3, x4, b, a] ty f) := by
  simp [World.setCell, Array.getElem?_modify, h]
def fOwnR (B : Nat) (x : Nt) : Fact := ⟨fun u W => ∃ y : Sl, u = .agg #[.int .i64 x.fr, .int .i64 x.to, .int .i64 x.st, .slice y.a y.n y.c] ∧ Num W y x.data ∧ ∀ b, y.On b → B ≤ b ∧ b < W.heap.size, false⟩
theorem fOwnR_good (B : Nat) (x : Nt) (F : Nat → Prop) (hF : ∀ b, B ≤ b → ¬ F b) : (fOwnR B x).GoodR (fun a b => Wr F a b) false := ⟨fun _ _ _ ⟨y, h1, h2, h3⟩ hb => ⟨y, h1, h2.below hb, fun b hO => ⟨(h3 b hO).1, Nat.lt_of_lt_of_le (h3 b hO).2 hb.size⟩⟩, fun _ _ _ _ ⟨y, h1, h2, h3⟩ hw => ⟨y, h1, h2.keep fun b hO => hw.block b (h3 b hO).2 (hF b (h3 b hO).1), fun b hO => ⟨(h3 b hO).1, Nat.lt_of_lt_of_le (h3 b hO).2 hw.size⟩⟩, fun h => by cases h⟩
def fTk (B : Nat) (F : Nat → Prop) (g d n me : Nat) (s : St) (x : Nt) : Fact := ⟨fun u W => u = .int .i64 (takeE d n me s x) ∧ ∃ F' G', MbAt W F' g d n me (takeM d n me s x) G' ∧ ∀ b, F' b → F b ∨ (B ≤ b ∧ b < W.heap.size), false⟩
theorem fTk_good (B : Nat) (F : Nat → Prop) (g d n me : Nat) (s : St) (x : Nt) (R : World → World → Prop) : (fTk B F g d n me s x).GoodR R true := ⟨fun _ _ _ ⟨h1, F', G', h2, h3⟩ hb => ⟨h1, F', G', h2.below hb, fun b hf => (h3 b hf).imp id fun h => ⟨h.1, Nat.lt_of_lt_of_le h.2 hb.size⟩⟩, (fun h => by cases h), (fun h => by cases h)⟩
theorem rg_is_good (c : Value) (R : World → World → Prop) (b : Bool) : (fIs c).GoodR R b := ⟨fun _ _ _ h _ => h, fun _ _ _ _ h _ => h, fun h => by cases h⟩
theorem set5_heap {w : World} {C : Nat} {ty : TypeId} {f : Nat × Nat} {x0 x1 x2 x3 x4 x5 x6 b : Value} (h : w.heap[C]? = some (.cells #[x0, x1, x2, x3, x4, x5, x6] ty f)) : (w.setCell ⟨C, 5, none⟩ b).heap[C]? = some (.cells #[x0, x1, x2, x3, x4, b, x6] ty f) := by
  simp [World.setCell, Array.getElem?_modify, h]
theorem sw_take {W wr V wz : World} {tb d n i : Nat} {P : Pl} {p : Stp} {v13 : Value} {WA : Option Addr} {wc : Nat} {pq : List (Nt × Sl)} {qs : List (Sn × Sl × Sl)} {gs : Nat → Nat} {Fs : Nat → Nat → Prop} {Gs : Nat → Gh} {F' : Nat → Prop} {G' : Gh} {x : Nt} (h : Tv wr W.heap.size tb d n P.ss v13 (.slice WA pq.length wc) pq qs gs Fs Gs) (hpq : pq.map (·.1) = P.ws) (hi : i < n) (hW : Below W.heap.size W wr) (hV : Below wr.heap.size wr V) (hsz : V.heap.size = wr.heap.size + 2) (hz : Wr (Fs i) V wz)
    (hm : MbAt wz F' (gs i) d n i (takeM d n i (P.ss i) x) G') (hok : StOk d n i (takeM d n i (P.ss i) x)) (hF : ∀ b, F' b → Fs i b ∨ (V.heap.size ≤ b ∧ b < wz.heap.size)) (hsn : wz.heap[wr.heap.size + 1]? = some (.cells #[.bool false, .int .i64 0, .int .i64 0, .int .i64 0, .slice none 0 0, .int .i64 0, .slice none 0 0] 41 (0, 0)))
    (est : stepM d n P p = (⟨updN P.ss i (takeM d n i (P.ss i) x), P.ws⟩, ⟨false, ntZ, takeE d n i (P.ss i) x, []⟩)) : SwAns W wr tb d n P p v13 pq.length qs (.slice WA pq.length wc) (wz.setCell ⟨wr.heap.size + 1, 5, none⟩ (.int .i64 (takeE d n i (P.ss i) x))) := by
  have hwz : Wr (Fs i) wr wz := (Wr.of_below hV).trans hz
  have lo : ∀ b, Fs i b → b < wr.heap.size := fun b hf => (h.tm.lo i b hi hf).2
  have us : (wz.setCell ⟨wr.heap.size + 1, 5, none⟩ (.int .i64 (takeE d n i (P.ss i) x))).heap.size = wz.heap.size := by simp [World.setCell]
  have hw : Wr (Fs i) wr (wz.setCell ⟨wr.heap.size + 1, 5, none⟩ (.int .i64 (takeE d n i (P.ss i) x))) := ⟨hwz.os, hwz.tape, hwz.output, by rw [us]; exact hwz.size, fun b hb hf => by
    rw [Below.heap_setCell _ _ _ _ (by simp only; omega)]
    exact hwz.block b hb hf⟩
  have hm' : MbAt (wz.setCell ⟨wr.heap.size + 1, 5, none⟩ (.int .i64 (takeE d n i (P.ss i) x))) F' (gs i) d n i (takeM d n i (P.ss i) x) G' := hm.keep (by rw [us]; exact Nat.le_refl _) fun b hf hl => Below.heap_setCell _ _ _ _ (by
    rcases hF b hf with h1 | h1
    · have := lo b h1; simp only; omega
    · simp only; omega)
  have hF' : ∀ b, F' b → Fs i b ∨ (wr.heap.size ≤ b ∧ b < (wz.setCell ⟨wr.heap.size + 1, 5, none⟩ (.int .i64 (takeE d n i (P.ss i) x))).heap.size) := fun b hf => (hF b hf).imp id fun h1 => ⟨by omega, by rw [us]; exact h1.2⟩
  refine ⟨WA, wc, pq, gs, updN Fs i F', updN Gs i G', (⟨false, ntZ, takeE d n i (P.ss i) x, []⟩, slZ, slZ), rfl, ?_, by rw [est]; exact hpq, by rw [est], set5_heap hsn, ⟨Num.nil _, fun b hO => (slZ_on hO).elim⟩, ⟨Num.nil _, fun b hO => (slZ_on hO).elim⟩, Nat.le_succ _, ⟨hw.os.trans hW.os, hw.tape.trans hW.tape, hw.output.trans hW.output, Nat.le_trans hW.size hw.size, fun b hb => (hw.block b (Nat.lt_of_lt_of_le hb hW.size) (fun hf => by have := (h.tm.lo i b hi hf).1; omega)).trans (hW.block b hb)⟩⟩
  rw [est]
  exact h.step hi hm' hok hF' hw
end Go.Proofs.Yticcoacoepajpaa.V
namespace Go.Proofs.Yticcoacoepajpaa.V
open Go Go.RowKit
set_option linter.unusedVariables false
set_option linter.unusedSimpArgs false

/-- A cell of what is seen is written. -/
theorem Tv.setC {T V : World} {B tb d n : Nat} {ss : Nat → St} {v13 v14 : Value} {ps : List (Nt × Sl)} {qs : List (Sn × Sl × Sl)} {gs : Nat → Nat} {Fs : Nat → Nat → Prop} {Gs : Nat → Gh} (h : Tv T B tb d n ss v13 v14 ps qs gs Fs Gs) {C : Nat} {cur : Array Value} {f : Nat × Nat} (hc : T.heap[C]? = some (.cells cur 41 f)) (hf : ∀ i, i < n → ¬ Fs i C) (ho : v13.ownBlock ≠ some C) (hsz : V.heap.size = T.heap.size) (hb : ∀ b, b ≠ C → V.heap[b]? = T.heap[b]?) : Tv V B tb d n ss v13 v14 ps qs gs Fs Gs := by
  have fre : ∀ b, Fre T n Fs b → Fre V n Fs b := fun b h' => ⟨by rw [hsz]; exact h'.1, h'.2⟩
  have num : ∀ (y : Sl) (ys : List Int), Num T y ys → Num V y ys := fun y ys hy => hy.keep fun b hO => hb b (fun e => by
    obtain ⟨cur', hc'⟩ := hy.blk b hO
    rw [e, hc] at hc'
    simp at hc')
  have htb : 0 < n → tb ≠ C := fun h0 e => by
    obtain ⟨cur', f', hc'⟩ := h.tbk h0
    rw [e, hc] at hc'
    simp at hc'
  refine ⟨⟨fun i hi => (h.tm.mb i hi).keep (by rw [hsz]; exact Nat.le_refl _) fun b hb' hl => hb b (fun e => hf i hi (e ▸ hb')), h.tm.ok, fun i hi => (World.cell?_of_block (hb tb (htb (by omega)))).trans (h.tm.row i hi), h.tm.tbf, fun i b hi hf' => by rw [hsz]; exact h.tm.lo i b hi hf', h.tm.dis⟩,
    ⟨h.wy.row.keep fun g hg => hb g (fun e => by
      obtain ⟨_, _, cur', hc'⟩ := h.wy.row.lt g hg
      rw [e, hc] at hc'
      simp at hc'), fun p hp => ⟨num _ _ (h.wy.num p hp).1, fun b hO => fre b ((h.wy.num p hp).2 b hO)⟩, fun b hb' => fre b (h.wy.fre b hb')⟩,
    ⟨h.ou.row.keep fun g hg => hb g (fun e => ho (by rw [hg, e])), fun q hq => ⟨⟨num _ _ (h.ou.num q hq).1.1, fun b hO => fre b ((h.ou.num q hq).1.2 b hO)⟩, ⟨num _ _ (h.ou.num q hq).2.1, fun b hO => fre b ((h.ou.num q hq).2.2 b hO)⟩⟩, fun b hb' => fre b (h.ou.fre b hb')⟩,
    fun h0 => ?_, h.tos, by rw [hsz]; exact h.low⟩
  obtain ⟨cur', f', hc'⟩ := h.tbk h0
  exact ⟨cur', f', (hb tb (htb h0)).trans hc'⟩
theorem map_erase' {α β : Type} (f : α → β) (l : List α) (k : Nat) : (l.eraseIdx k).map f = (l.map f).eraseIdx k := by rw [List.eraseIdx_eq_take_drop_succ, List.eraseIdx_eq_take_drop_succ, List.map_append, List.map_take, List.map_drop]
theorem append_gone {w : World} {ops : Array Oper} {rest : List Oper} {o : Oper} {a : Act} {Q : Exit → Act → World → Prop} (hgd : o.guard = none) (s x : Operand) (t : TypeId) (ho : o.op = .call { callee := .builtin .append, args := #[s, x], argTypes := #[t, t] })
    (B : Nat) (e : TypeId) (i : TypeInfo) (z : Value) (size bytes : Nat) (ht : Try.prog.underlying t = some (.slice e)) (hi : Try.prog.info? e = some i) (hz : i.zero = some z) (hsize : i.size = size) (hby : i.bytes = bytes) (hzs : z.cells.size = size) (hsz : 0 < size)
    {g n cap k : Nat} {xs : List Value} (hs : a.eval s = .slice (some ⟨g, 0, none⟩) k k) (h : RowC w B e size (.slice (some ⟨g, 0, none⟩) n cap) n xs) (hk : k < n) (hbytes : n * bytes ≤ 140737488355328) (hbase : B ≤ w.heap.size) (A : Option Addr) (c : Nat) (hx : a.eval x = .slice A (n - (k + 1)) c) (hA : k + 1 < n → A = some ⟨g, (k + 1) * size, none⟩) (hA0 : ∃ ad, A = some ad)
    (hQ : ∀ v' w', RowC w' B e size v' (n - 1) (xs.take (k * size) ++ xs.drop ((k + 1) * size)) → w.grownBy w' none → (v'.ownBlock = (Value.slice (some ⟨g, 0, none⟩) n cap).ownBlock ∨ ∃ g', v'.ownBlock = some g' ∧ w.heap.size ≤ g') → wpList Try.prog ops Q rest (a.put o.dst v') w') : wpList Try.prog ops Q (o :: rest) a w := by
  refine wpList_plain hgd fun K hK => ?_
  obtain ⟨v', w', hr, h2, h3, h4⟩ := run_gone (ty := o.type) ht hi hz hsize hby hzs hsz h hk hbytes hbase A hA hA0 c
  unfold Oper.wp execOp
  simp only [ho, resolve, invoke, builtin, Sem.run_bind, Sem.run_pure, Result.andThen_ok, List.map_toArray, List.map_cons, List.map_nil, hs, hx, hr]
  exact hK _ _ (hQ v' w' h2 h3 h4)
theorem sw_come {W wr V4 wz : World} {tb d n i l : Nat} {P : Pl} {p : Stp} {v13 : Value} {WA : Option Addr} {wc : Nat} {pq : List (Nt × Sl)} {qs : List (Sn × Sl × Sl)} {gs : Nat → Nat} {Fs : Nat → Nat → Prop} {Gs : Nat → Gh} {F' : Nat → Prop} {G' : Gh} {x : Nt} {x5 : Value} {ws' : List Nt} (h : Tv V4 W.heap.size tb d n P.ss v13 (.slice WA pq.length wc) pq qs gs Fs Gs) (hpq : pq.map (·.1) = ws') (hi : i < n) (hW : Below W.heap.size W V4) (hz : Wr (Fs i) V4 wz)
    (hm : MbAt wz F' (gs i) d n i (takeM d n i (P.ss i) x) G') (hok : StOk d n i (takeM d n i (P.ss i) x)) (hF : ∀ b, F' b → Fs i b ∨ (V4.heap.size ≤ b ∧ b < wz.heap.size)) (hsn : wz.heap[wr.heap.size + 1]? = some (.cells #[.bool false, .int .i64 0, .int .i64 0, .int .i64 0, .slice none 0 0, x5, .slice none 0 0] 41 (0, 0))) (hC : Fre V4 n Fs (wr.heap.size + 1)) (ho : v13.ownBlock ≠ some (wr.heap.size + 1)) (hCW : W.heap.size ≤ wr.heap.size + 1) (hl : pq.length ≤ l + 1)
    (est : stepM d n P p = (⟨updN P.ss i (takeM d n i (P.ss i) x), ws'⟩, ⟨false, ntZ, takeE d n i (P.ss i) x, []⟩)) : SwAns W wr tb d n P p v13 l qs (.slice WA pq.length wc) (wz.setCell ⟨wr.heap.size + 1, 5, none⟩ (.int .i64 (takeE d n i (P.ss i) x))) := by
  have us : (wz.setCell ⟨wr.heap.size + 1, 5, none⟩ (.int .i64 (takeE d n i (P.ss i) x))).heap.size = wz.heap.size := by simp [World.setCell]
  have hne : ∀ b, b ≠ wr.heap.size + 1 → (wz.setCell ⟨wr.heap.size + 1, 5, none⟩ (.int .i64 (takeE d n i (P.ss i) x))).heap[b]? = wz.heap[b]? := fun b hb => Below.heap_setCell _ _ _ _ hb
  have ht := h.step hi hm hok hF hz
  have hCz := (hC.step hi hF hz).1
  refine ⟨WA, wc, pq, gs, updN Fs i F', updN Gs i G', (⟨false, ntZ, takeE d n i (P.ss i) x, []⟩, slZ, slZ), rfl, ?_, by rw [est]; exact hpq, by rw [est], set5_heap hsn, ⟨Num.nil _, fun b hO => (slZ_on hO).elim⟩, ⟨Num.nil _, fun b hO => (slZ_on hO).elim⟩, hl, ⟨hz.os.trans hW.os, hz.tape.trans hW.tape, hz.output.trans hW.output, by rw [us]; exact Nat.le_trans hW.size hz.size, fun b hb => ?_⟩⟩
  · rw [est]
    exact ht.setC hsn hCz.2 ho us hne
  · rw [hne b (by omega)]
    exact (hz.block b (Nat.lt_of_lt_of_le hb hW.size) (fun hf => by have := (h.tm.lo i b hi hf).1; omega)).trans (hW.block b hb)
end Go.Proofs.Yticcoacoepajpaa.V
namespace Go.Proofs.Yticcoacoepajpaa.V
open Go Go.RowKit
set_option linter.unusedVariables false
set_option linter.unusedSimpArgs false

theorem rNotes_any (d : Int) (n : Nat) (w : World) (hn : 1 ≤ n) (hn2 : n ≤ 16) : Calls Try.prog 27 #[.int .i64 d, .int .i64 (n : Int)] w fun e w' => e = .returned (.int .i64 ((notN d.toNat n : Nat) : Int)) ∧ w' = w := by
  go_enter Try.func27, Try.ntmps27
  by_cases h1 : d = 1
  · subst h1
    have e : ((notN (1 : Int).toNat n : Nat) : Int) = 2 * ((n : Int) - 1) := by unfold notN; simp; omega
    rw [e]
    have q1 : wrap64 ((n : Int) - 1) = (n : Int) - 1 := by unfold wrap64; omega
    have q2 : wrap64 (2 * ((n : Int) - 1)) = 2 * ((n : Int) - 1) := by unfold wrap64; omega
    go_wp2_with fail
    go_ret
    exact ⟨by first | rfl | go_num, rfl⟩
  · have e : ((notN d.toNat n : Nat) : Int) = (n : Int) - 1 := by unfold notN; rw [if_neg (by omega)]; omega
    rw [e]
    have q1 : wrap64 ((n : Int) - 1) = (n : Int) - 1 := by unfold wrap64; omega
    go_wp2_with fail
    go_ret
    exact ⟨by first | rfl | go_num, rfl⟩
end Go.Proofs.Yticcoacoepajpaa.V
namespace Go.Proofs.Yticcoacoepajpaa.V
open Go Go.RowKit
set_option linter.unusedVariables false
set_option linter.unusedSimpArgs false

theorem rMod_any (x : Int) (n : Nat) (w : World) (hn : 1 ≤ n) (hn2 : n ≤ 9223372036854775807) (hx : -4611686018427387904 ≤ x ∧ x ≤ 4611686018427387904) (hn3 : n ≤ 4611686018427387904) : Calls Try.prog 23 #[.int .i64 x, .int .i64 (n : Int)] w fun e w' => e = .returned (.int .i64 ((modI x n : Nat) : Int)) ∧ w' = w := by
  have HM := hide (tmod_mod (n := n) hn x)
  have hb9 := tmod_bd (n := n) hn x
  have q0 : ¬ ((n : Int) = 0) := by omega
  have q1 : ((n : Int) == 0) = false := by simp; omega
  have q2 : ¬ (n = 0) := by omega
  have q3 : wrap64 (x.tmod (n : Int)) = x.tmod (n : Int) := by unfold wrap64; omega
  have q4 : wrap64 (x.tmod (n : Int) + (n : Int)) = x.tmod (n : Int) + (n : Int) := by unfold wrap64; omega
  have hb8 := tmod_bd (n := n) hn (x.tmod (n : Int) + (n : Int))
  have q5 : wrap64 ((x.tmod (n : Int) + (n : Int)).tmod (n : Int)) = (x.tmod (n : Int) + (n : Int)).tmod (n : Int) := by unfold wrap64; omega
  clear hb9 hb8
  go_enter Try.func23, Try.ntmps23
  go_wp2_with fail
  go_ret
  exact ⟨by rw [HM.out]; rfl, rfl⟩
theorem rTo_any (d n me t : Nat) (w : World) (hn : 1 ≤ n) (hn2 : n ≤ 16) (hme : me < n) (ht : t ≤ 100) : Calls Try.prog 38 #[.int .i64 (d : Int), .int .i64 (n : Int), .int .i64 (me : Int), .int .i64 (t : Int)] w fun e w' => e = .returned (.int .i64 ((toN d n me t : Nat) : Int)) ∧ w' = w := by
  have h1 := rMod_any ((me : Int) + t + 1) n w hn (by omega) (by omega) (by omega)
  have h2 := rMod_any ((me : Int) + 1) n w hn (by omega) (by omega) (by omega)
  have H1 := hide h1
  have H2 := hide h2
  clear h1 h2
  go_enter Try.func38, Try.ntmps38
  by_cases h4 : d = 4
  · subst h4
    have e : toN 4 n me t = modI ((me : Int) + t + 1) n := by unfold toN; rw [if_pos rfl]
    rw [e]
    go_wp2_with (go_at_call 23; refine H1.out.mono ?_; rintro e w1 ⟨rfl, rfl⟩)
    go_ret
    exact ⟨rfl, rfl⟩
  · have e : toN d n me t = modI ((me : Int) + 1) n := by unfold toN; rw [if_neg h4]
    have h4' : ¬ ((d : Int) = 4) := by omega
    rw [e]
    go_wp2_with (go_at_call 23; refine H2.out.mono ?_; rintro e w1 ⟨rfl, rfl⟩)
    go_ret
    exact ⟨rfl, rfl⟩
theorem rFrom_any (d n me t : Nat) (w : World) (hn : 1 ≤ n) (hn2 : n ≤ 16) (hme : me < n) (ht : t ≤ 100) : Calls Try.prog 60 #[.int .i64 (d : Int), .int .i64 (n : Int), .int .i64 (me : Int), .int .i64 (t : Int)] w fun e w' => e = .returned (.int .i64 ((fromN d n me t : Nat) : Int)) ∧ w' = w := by
  have h1 := rMod_any ((me : Int) - t - 1) n w hn (by omega) (by omega) (by omega)
  have h2 := rMod_any ((me : Int) - 1) n w hn (by omega) (by omega) (by omega)
  have H1 := hide h1
  have H2 := hide h2
  clear h1 h2
  go_enter Try.func60, Try.ntmps60
  by_cases h4 : d = 4
  · subst h4
    have e : fromN 4 n me t = modI ((me : Int) - t - 1) n := by unfold fromN; rw [if_pos rfl]
    rw [e]
    go_wp2_with (go_at_call 23; refine H1.out.mono ?_; rintro e w1 ⟨rfl, rfl⟩)
    go_ret
    exact ⟨rfl, rfl⟩
  · have e : fromN d n me t = modI ((me : Int) - 1) n := by unfold fromN; rw [if_neg h4]
    have h4' : ¬ ((d : Int) = 4) := by omega
    rw [e]
    go_wp2_with (go_at_call 23; refine H2.out.mono ?_; rintro e w1 ⟨rfl, rfl⟩)
    go_ret
    exact ⟨rfl, rfl⟩
set_option maxHeartbeats 2000000 in
theorem rSends_any (d n me t : Nat) (w : World) (hn : 1 ≤ n) (hn2 : n ≤ 16) (hme : me < n) (ht : t ≤ 100) : Calls Try.prog 39 #[.int .i64 (d : Int), .int .i64 (n : Int), .int .i64 (me : Int), .int .i64 (t : Int)] w fun e w' => e = .returned (.int .i64 ((sendN d n me t : Nat) : Int)) ∧ w' = w := by
  have h1 := rMod_any ((me : Int) - t) n w hn (by omega) (by omega) (by omega)
  have h2 := rMod_any ((me : Int) + t + 1) n w hn (by omega) (by omega) (by omega)
  have h3 := rMod_any ((me : Int) - ((t : Int) - ((n : Int) - 1))) n w hn (by omega) (by omega) (by omega)
  have h5 := rMod_any ((me : Int) - t - 1) n w hn (by omega) (by omega) (by omega)
  have H1 := hide h1
  have H2 := hide h2
  have H3 := hide h3
  have H5 := hide h5
  clear h1 h2 h3 h5
  go_enter Try.func39, Try.ntmps39
  by_cases d3 : d = 3
  · subst d3
    have e : sendN 3 n me t = modI ((me : Int) - t) n := by unfold sendN; rw [if_pos rfl]
    rw [e]
    go_wp2_with (go_at_call 23; refine H1.out.mono ?_; rintro e w1 ⟨rfl, rfl⟩)
    go_ret
    exact ⟨rfl, rfl⟩
  have d3' : ¬ ((d : Int) = 3) := by omega
  by_cases d4 : d = 4
  · subst d4
    have e : sendN 4 n me t = modI ((me : Int) + t + 1) n := by unfold sendN; rw [if_neg (by omega), if_pos rfl]
    rw [e]
    go_wp2_with (go_at_call 23; refine H2.out.mono ?_; rintro e w1 ⟨rfl, rfl⟩)
    go_ret
    exact ⟨rfl, rfl⟩
  have d4' : ¬ ((d : Int) = 4) := by omega
  by_cases d1 : d = 1 ∧ n - 1 ≤ t
  · obtain ⟨d1, ht1⟩ := d1
    subst d1
    have e : sendN 1 n me t = modI ((me : Int) - ((t : Int) - ((n : Int) - 1))) n := by unfold sendN; rw [if_neg (by omega), if_neg (by omega), if_pos ⟨rfl, ht1⟩]
    have ht2 : (n : Int) - 1 ≤ (t : Int) := by omega
    rw [e]
    go_wp2_with (go_at_call 23; refine H3.out.mono ?_; rintro e w1 ⟨rfl, rfl⟩)
    go_ret
    exact ⟨rfl, rfl⟩
  · have e : sendN d n me t = modI ((me : Int) - t - 1) n := by unfold sendN; rw [if_neg d3, if_neg d4, if_neg d1]
    rw [e]
    by_cases d1' : d = 1
    · subst d1'
      have ht2 : ¬ (n : Int) - 1 ≤ (t : Int) := by omega
      go_wp2_with (go_at_call 23; refine H5.out.mono ?_; rintro e w1 ⟨rfl, rfl⟩)
      go_ret
      exact ⟨rfl, rfl⟩
    · have d1'' : ¬ ((d : Int) = 1) := by omega
      go_wp2_with (go_at_call 23; refine H5.out.mono ?_; rintro e w1 ⟨rfl, rfl⟩)
      go_ret
      exact ⟨rfl, rfl⟩
theorem rTakes_any (d n me t : Nat) (w : World) (hn : 1 ≤ n) (hn2 : n ≤ 16) (hme : me < n) (ht : t ≤ 100) : Calls Try.prog 41 #[.int .i64 (d : Int), .int .i64 (n : Int), .int .i64 (me : Int), .int .i64 (t : Int)] w fun e w' => e = .returned (.int .i64 ((takeN d n me t : Nat) : Int)) ∧ w' = w := by
  have H1 := hide (rFrom_any d n me t w hn hn2 hme ht)
  have H2 := hide (rSends_any d n (fromN d n me t) t w hn hn2 (fromN_lt hn) ht)
  go_enter Try.func41, Try.ntmps41
  by_cases h4 : d = 4
  · subst h4
    have e : takeN 4 n me t = fromN 4 n me t := by unfold takeN; rw [if_pos rfl]
    rw [e]
    go_wp2_with (go_at_call 60; refine H1.out.mono ?_; rintro e w1 ⟨rfl, rfl⟩)
    go_ret
    exact ⟨rfl, rfl⟩
  · have e : takeN d n me t = sendN d n (fromN d n me t) t := by unfold takeN; rw [if_neg h4]
    have h4' : ¬ ((d : Int) = 4) := by omega
    rw [e]
    go_wp2_with (first
      | (go_at_call 60; refine H1.out.mono ?_; rintro e w1 ⟨rfl, rfl⟩)
      | (go_at_call 39; refine H2.out.mono ?_; rintro e w1 ⟨rfl, rfl⟩))
    go_ret
    exact ⟨rfl, rfl⟩
end Go.Proofs.Yticcoacoepajpaa.V
namespace Go.Proofs.Yticcoacoepajpaa.V
open Go Go.RowKit
set_option linter.unusedVariables false
set_option linter.unusedSimpArgs false

theorem member_any (d m me : Int) (y : Sl) (xs : List Int) (W : World) (hy : Ints W y.a y.n xs) : Calls Try.prog 9 #[.int .i64 d, .int .i64 m, .int .i64 me, .slice y.a y.n y.c] W fun e w' => e = .returned (.int .i64 (wrongM d m me xs.length)) ∧ Below W.heap.size W w' := by
  have hnew := new_any d m me y xs W hy
  have HN := hide hnew
  obtain ⟨ya, yn, yc⟩ := y
  simp only at HN ⊢
  clear hnew hy
  go_enter Try.func9, Try.ntmps9
  by_cases hw : wrongM d m me xs.length = 0
  · have H2 := hide (HN.out.mono fun e w' h => (⟨h.2.1 hw, h.2.2⟩ : (∃ (dN nN meN : Nat) (g : Nat) (G : Gh), d = (dN : Int) ∧ m = (nN : Int) ∧ me = (meN : Int) ∧ StOk dN nN meN (begM dN nN meN xs) ∧ e = .returned (.tuple #[pm g, .int .i64 0]) ∧ MbAt w' (fun b => W.heap.size ≤ b ∧ b < w'.heap.size) g dN nN meN (begM dN nN meN xs) G) ∧ Below W.heap.size W w'))
    have HW := hide hw
    clear hw
    go_wp2_with (go_at_call 16; refine H2.out.mono ?_; rintro e w1 ⟨⟨dN, nN, kN, g, G, _, _, _, _, rfl, _⟩, hb1⟩; have HB1 := hide hb1; clear hb1; unfold pm)
    go_ret
    exact ⟨by rw [HW.out]; rfl, HB1.out⟩
  · have H2 := hide (HN.out.mono fun e w' h => (⟨h.1 hw, h.2.2⟩ : e = .returned (.tuple #[.pointer none, .int .i64 (wrongM d m me xs.length)]) ∧ Below W.heap.size W w'))
    clear hw
    go_wp2_with (go_at_call 16; refine H2.out.mono ?_; rintro e w1 ⟨rfl, hb1⟩; have HB1 := hide hb1; clear hb1)
    go_ret
    exact ⟨rfl, HB1.out⟩
end Go.Proofs.Yticcoacoepajpaa.V
