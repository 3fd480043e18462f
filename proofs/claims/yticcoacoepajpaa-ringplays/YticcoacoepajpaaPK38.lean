/-
  The document's Play: a team is made; what was seen. What the program's team has seen, as a value. Contract: plain.Team, whatever is handed in.
-/
import Derived.Test.YticcoacoepajpaaPK36
import Derived.Test.YticcoacoepajpaaPK24
import Derived.Test.YticcoacoepajpaaPK37
import Derived.Test.YticcoacoepajpaaPK28
import Derived.Test.YticcoacoepajpaaPK31
import Derived.Test.YticcoacoepajpaaPK30
namespace Go.Proofs.Yticcoacoepajpaa.V
open Go Go.RowKit
set_option linter.unusedVariables false
set_option linter.unusedSimpArgs false

theorem info_start : (Try.prog.info? 60).map (fun i => (i.zero, i.size, i.bytes)) = some (some (.agg #[.slice none 0 0, .slice none 0 0, .int .i64 0, .int .i64 0, .slice none 0 0]), 5, 88) := by kernel_rfl
/-- The members' words, as they are begun. -/
def tmL (d n k : Nat) (xss : List (List Int)) (Q : Nat → Rs) : List Value := (List.range k).flatMap fun i => rsL (Q i) (begM d n i (xss[i]?.getD []))
theorem tmL_more (d n k : Nat) (xss : List (List Int)) (Q : Nat → Rs) (q : Rs) : tmL d n (k + 1) xss (updN Q k q) = tmL d n k xss Q ++ rsL q (begM d n k (xss[k]?.getD [])) := by
  unfold tmL
  rw [List.range_succ, List.flatMap_append]
  have h1 : (List.range k).flatMap (fun i => rsL (updN Q k q i) (begM d n i (xss[i]?.getD []))) = (List.range k).flatMap fun i => rsL (Q i) (begM d n i (xss[i]?.getD [])) := by
    rw [List.flatMap_def, List.flatMap_def]
    congr 1
    apply List.map_congr_left
    intro i hi
    have : i < k := List.mem_range.1 hi
    rw [updN_other _ _ (by omega)]
  rw [h1]
  simp [updN_same]
/-- While a team is made. -/
structure TmB (W : World) (d n k : Nat) (xss : List (List Int)) (v : Value) (S : Nat → Prop) (Q : Nat → Rs) (wr : World) : Prop where
  low : LowS S wr.heap.size
  old : ∀ b, b < W.heap.size → S b
  row : wr.ownsRow W.heap.size 60 5 v k (tmL d n k xss Q)
  nrow : ∀ b, v.ownBlock = some b → ¬ S b
  st : ∀ i, i < k → Stt S wr fun V => RsA V (Q i) n (begM d n i (xss[i]?.getD []))
  top : ∀ i, i < k → Tops S (Q i)
  ok : ∀ i, i < k → StOk d n i (begM d n i (xss[i]?.getD []))
  bel : Below W.heap.size W wr
theorem TmB.start (W : World) (d n : Nat) (xss : List (List Int)) (Q : Nat → Rs) : TmB W d n 0 xss (.slice none 0 0) (fun b => b < W.heap.size) Q W :=
  ⟨fun b h => h, fun b h => h, ⟨rfl, .inl ⟨rfl, rfl⟩⟩, fun b e => by simp [Value.ownBlock] at e, fun i hi => by omega, fun i hi => by omega, fun i hi => by omega, Below.refl _ _⟩
theorem TmB.more {W : World} {d n k : Nat} {xss : List (List Int)} {v v' : Value} {S : Nat → Prop} {Q : Nat → Rs} {wr w1 w2 : World} (h : TmB W d n k xss v S Q wr) (hb : Below wr.heap.size wr w1) (q : Rs) (hst : Stt (fun b => wr.heap.size ≤ b ∧ b < w1.heap.size) w1 fun V => RsA V q n (begM d n k (xss[k]?.getD []))) (htop : Tops (fun b => wr.heap.size ≤ b ∧ b < w1.heap.size) q) (hok : StOk d n k (begM d n k (xss[k]?.getD [])))
    (hown : w2.ownsRow W.heap.size 60 5 v' (k + 1) (tmL d n k xss Q ++ rsL q (begM d n k (xss[k]?.getD [])))) (hg : w1.grownBy w2 v.ownBlock) (ho : v'.ownBlock = v.ownBlock ∨ ∃ g, v'.ownBlock = some g ∧ w1.heap.size ≤ g) :
    TmB W d n (k + 1) xss v' (NwS S wr.heap.size w1.heap.size) (updN Q k q) w2 := by
  have hvl : ∀ b, v.ownBlock = some b → W.heap.size ≤ b ∧ b < wr.heap.size := fun b e => h.row.lt b e
  have hna : ∀ b, NwS S wr.heap.size w1.heap.size b → b < w1.heap.size ∧ v.ownBlock ≠ some b := fun b hb' => by
    rcases hb' with h1 | h1
    · exact ⟨Nat.lt_of_lt_of_le (h.low b h1) hb.size, fun e => h.nrow b e h1⟩
    · exact ⟨h1.2, fun e => by have := (hvl b e).2; omega⟩
  have hag : Agr (NwS S wr.heap.size w1.heap.size) w1 w2 := fun b hb' => hg.block b (hna b hb').1 (fun e => (hna b hb').2 e.symm)
  refine ⟨fun b hb' => Nat.lt_of_lt_of_le (hna b hb').1 hg.size, fun b hb' => .inl (h.old b hb'), ?_, fun b e hS => ?_, fun i hi => ?_, fun i hi => ?_, fun i hi => ?_, ?_⟩
  · rw [tmL_more]
    exact hown
  · rcases ho with e2 | ⟨g, e2, hl⟩
    · rw [e2] at e
      exact (hna b hS).2 e
    · rw [e2] at e
      cases e
      have := (hna _ hS).1
      omega
  · by_cases e : i = k
    · subst e
      rw [updN_same]
      exact (hst.mono fun b h => .inr h).agr hag
    · rw [updN_other _ _ e]
      exact (((h.st i (by omega)).agr (agr_below h.low hb)).mono fun b h => .inl h).agr hag
  · by_cases e : i = k
    · subst e
      rw [updN_same]
      exact htop.mono fun b h => .inr h
    · rw [updN_other _ _ e]
      exact (h.top i (by omega)).mono fun b h => .inl h
  · by_cases e : i = k
    · subst e
      exact hok
    · exact h.ok i (by omega)
  · exact (h.bel.trans (hb.mono h.bel.size)).grown hg (Nat.le_trans h.bel.size hb.size) (fun j e => (hvl j e).1)
/-- The play begins. -/
theorem TmB.play {W : World} {d n : Nat} {xss : List (List Int)} {v : Value} {S : Nat → Prop} {Q : Nat → Rs} {wr : World} (h : TmB W d n n xss v S Q wr) : ∃ tb A tc, v = .slice A n tc ∧ (0 < n → A = some ⟨tb, 0, none⟩) ∧ n ≤ tc ∧ PyI W.heap.size d n S tb Q (begP d n xss).ss (.slice none 0 0) (.slice none 0 0) [] [] wr := by
  have hrow : ∀ B e size, RowC wr B e size (.slice none 0 0) 0 [] := fun B e size => .inl ⟨by simp, .inl ⟨rfl, rfl⟩⟩
  have main : ∀ tb, (0 < n → ∃ cur, wr.heap[tb]? = some (.cells cur 60 (0, 0)) ∧ ∀ i j, i < n → j < 5 → cur[i * 5 + j]? = (rsL (Q i) (begM d n i (xss[i]?.getD [])))[j]?) → (0 < n → ¬ S tb) → PyI W.heap.size d n S tb Q (begP d n xss).ss (.slice none 0 0) (.slice none 0 0) [] [] wr := fun tb h1 h2 => ⟨h.low, h1, h2, h.st, h.top, h.ok, fun i _ => ErOk.beg _ _ _ _, hrow _ _ _, fun b e => by simp [Value.ownBlock] at e, fun p hp => by simp at hp, hrow _ _ _, fun b e => by simp [Value.ownBlock] at e, fun p hp => by simp at hp, h.bel.size⟩
  rcases h.row.2 with ⟨e1, e2⟩ | ⟨g, cap, cur, e1, h2, h3, h4, h5, h6, h7⟩
  · exact ⟨0, none, 0, by rw [e1, e2], fun h0 => by omega, by omega, main 0 (fun h0 => by omega) (fun h0 => by omega)⟩
  · refine ⟨g, _, cap, e1, fun _ => rfl, h4, main g (fun _ => ⟨cur, h3, fun i j hi hj => ?_⟩) (fun _ => h.nrow g (by rw [e1]; rfl))⟩
    have h8 := flat_get (fun i => rsL (Q i) (begM d n i (xss[i]?.getD []))) 5 (fun _ => rfl) (List.range n) i j hj
    rw [show (List.range n).flatMap (fun i => rsL (Q i) (begM d n i (xss[i]?.getD []))) = tmL d n n xss Q from rfl, ← h7, List.getElem?_take_of_lt (by omega), Array.getElem?_toList] at h8
    rw [h8]
    simp [hi]
theorem beg_right {d : Int} {n k l : Nat} {xs : List Int} (hl : xs.length = l) (h : wrongM d (n : Int) (k : Int) l = 0) (hk : k < n) : ∃ dN : Nat, d = (dN : Int) ∧ 1 ≤ n ∧ n ≤ 16 ∧ l ≤ 65536 ∧ StOk dN n k (begM dN n k xs) := by
  unfold wrongM at h
  by_cases h1 : d < 1 ∨ 4 < d
  · rw [if_pos h1] at h; omega
  · rw [if_neg h1] at h
    by_cases h2 : (n : Int) < 1 ∨ 16 < (n : Int) ∨ (k : Int) < 0 ∨ (n : Int) ≤ (k : Int)
    · rw [if_pos h2] at h; omega
    · rw [if_neg h2] at h
      by_cases h3 : 65536 < l
      · rw [if_pos h3] at h; omega
      · rw [if_neg h3] at h
        refine ⟨d.toNat, by omega, by omega, by omega, by omega, StOk.beg (by omega) (by omega) (by omega) (by omega) hk (by omega) (fun hd => ?_)⟩
        by_cases h4 : d = 4 ∧ (l : Int).tmod (n : Int) ≠ 0
        · rw [if_pos h4] at h; omega
        · have h5 : (l : Int).tmod (n : Int) = 0 := by
            by_cases h6 : (l : Int).tmod (n : Int) = 0
            · exact h6
            · exact (h4 ⟨by omega, h6⟩).elim
          rw [Int.tmod_eq_emod_of_nonneg (by omega)] at h5
          rw [hl]
          omega
/-- What was seen, as a value. -/
theorem PyI.told {B d n : Nat} {S : Nat → Prop} {tb : Nat} {Q : Nat → Rs} {ss : Nat → St} {v13 v14 : Value} {ps : List (Nt × Sl)} {qs : List (Sn × Sl × Sl)} {wr : World} (h : PyI B d n S tb Q ss v13 v14 ps qs wr) (hm : qs.length ≤ 9223372036854775807) : ∃ a c, v13 = .slice a qs.length c ∧ SeA wr a qs.length (qs.map (·.1)) := by
  rcases h.out.parts with ⟨e1, e2⟩ | ⟨g, cap, cur, e1, h2, h3, h4, h5, h6⟩
  · exact ⟨none, 0, by rw [e1, e2], by rw [List.length_map], by omega, .inl e2⟩
  · refine ⟨_, _, e1, by rw [List.length_map], hm, .inr ⟨g, 0, rfl, fun k q hk => ?_⟩⟩
    rw [List.getElem?_map] at hk
    cases hq : qs[k]? with
    | none => rw [hq] at hk; cases hk
    | some p =>
      rw [hq] at hk
      have e : p.1 = q := by simpa using hk
      subst e
      have key : ∀ i u, i < 7 → (snC p)[i]? = some u → wr.cell? ⟨g, 0 + k * 7 + i, none⟩ = some u := fun i u hi hu => by
        rw [Nat.zero_add]
        refine h.out.cell e1 ?_
        unfold seC
        rw [flat_get snC 7 snC_len qs k i hi, hq]
        exact hu
      have ho := h.ous p (List.mem_of_getElem? hq)
      obtain ⟨⟨b, ⟨f, t, z, dd⟩, er, x⟩, ⟨ya, yn, yc⟩, ⟨za, zn, zc⟩⟩ := p
      have k0 := key 0 _ (by decide) rfl
      rw [Nat.add_zero] at k0
      exact ⟨ya, yn, yc, za, zn, zc, k0, key 1 _ (by decide) rfl, key 2 _ (by decide) rfl, key 3 _ (by decide) rfl, key 4 _ (by decide) rfl, key 5 _ (by decide) rfl, key 6 _ (by decide) rfl, ⟨ho.1.1.now, ho.1.2⟩, ⟨ho.2.1.now, ho.2.2⟩⟩
/-- A box of the round is written. -/
theorem PyI.setx {B d n : Nat} {S S' : Nat → Prop} {tb : Nat} {Q Q' : Nat → Rs} {ss ss' : Nat → St} {v13 v14 v14' : Value} {ps ps' : List (Nt × Sl)} {qs : List (Sn × Sl × Sl)} {w0 wz : World} (h : PyI B d n S' tb Q' ss' v13 v14' ps' qs wz) (h0 : PyI B d n S tb Q ss v13 v14 ps qs w0) {a : Addr} (ha : w0.heap.size ≤ a.block) (hw : v14'.ownBlock ≠ some a.block) (hx : ¬ S' a.block) (v : Value) : PyI B d n S' tb Q' ss' v13 v14' ps' qs (wz.setCell a v) := by
  have hsz : (wz.setCell a v).heap.size = wz.heap.size := by simp [World.setCell]
  refine h.keep (by rw [hsz]; exact Nat.le_refl _) (fun b hb => Below.heap_setCell _ _ _ _ (fun e => hx (e ▸ hb))) (fun b h => h) (fun b hb => by rw [hsz]; exact h.low b hb) (fun b h => .inl h) (fun h1 => Below.heap_setCell _ _ _ _ ?_) (fun b e => Below.heap_setCell _ _ _ _ (fun e2 => hw (by rw [e, e2]))) (fun b e => Below.heap_setCell _ _ _ _ ?_)
  · obtain ⟨cur, k1, _⟩ := h0.tm h1
    have := (Array.getElem?_eq_some_iff.1 k1).1
    omega
  · have := (h0.out.lt b e).2.1
    omega
/-- Facts of answers that are settled. -/
def fRs (N : Nat) (S : Nat → Prop) (xs : List Int) (er : Int) : Fact := ⟨fun u W => ∃ y : Sl, u = .tuple #[.slice y.a y.n y.c, .int .i64 er] ∧ (Stt (NwS S N W.heap.size) W fun V => Ints V y.a y.n xs) ∧ y.n ≤ y.c, false⟩
theorem stt_on {N : Nat} {S : Nat → Prop} {W W' : World} {P : World → Prop} (hS : LowS S N) (hN : N ≤ W.heap.size) (h : Stt (NwS S N W.heap.size) W P) (hb : Below W.heap.size W W') : Stt (NwS S N W'.heap.size) W' P := (h.agr fun b hbb => hb.block b (by
  rcases hbb with h1 | h1
  · have := hS b h1
    omega
  · exact h1.2)).mono (nws_mono hb.size)
def fLow (N : Nat) (f : Fact) : Fact := ⟨fun u W => N ≤ W.heap.size ∧ f.p u W, false⟩
theorem fRs_good {N : Nat} {S : Nat → Prop} (hS : LowS S N) (xs : List Int) (er : Int) : (fLow N (fRs N S xs er)).Good := ⟨fun _ _ _ ⟨hN, y, h1, h2, h3⟩ hb => ⟨Nat.le_trans hN hb.size, y, h1, stt_on hS hN h2 hb, h3⟩, fun h => by cases h⟩
def fRy (N : Nat) (S : Nat → Prop) (xs : List Int) : Fact := ⟨fun u W => ∃ y : Sl, u = .slice y.a y.n y.c ∧ (Stt (NwS S N W.heap.size) W fun V => Ints V y.a y.n xs) ∧ y.n ≤ y.c, false⟩
theorem fRy_good {N : Nat} {S : Nat → Prop} (hS : LowS S N) (xs : List Int) : (fLow N (fRy N S xs)).Good := ⟨fun _ _ _ ⟨hN, y, h1, h2, h3⟩ hb => ⟨Nat.le_trans hN hb.size, y, h1, stt_on hS hN h2 hb, h3⟩, fun h => by cases h⟩
/-- The answer of the document's Play. -/
def PlayAns (W : World) (d : Int) (xss : List (List Int)) (sc : List Stp) (e : Ending) (w' : World) : Prop :=
  (teamE d xss ≠ 0 → e = .returned (.tuple #[.slice none 0 0, .int .i64 (teamE d xss)])) ∧
  (teamE d xss = 0 → ∃ a len c, e = .returned (.tuple #[.slice a len c, .int .i64 0]) ∧ SeA w' a len (playM d.toNat xss.length (begP d.toNat xss.length xss) sc).2) ∧ Below W.heap.size W w'
/-- While it is played. -/
def PlO (W : World) (d n tb : Nat) (xss : List (List Int)) (sc : List Stp) (k : Nat) (v13 v14 : Value) (wr : World) : Prop := ∃ (S : Nat → Prop) (Q : Nat → Rs) (ps : List (Nt × Sl)) (qs : List (Sn × Sl × Sl)), PyI W.heap.size d n S tb Q (playM d n (begP d n xss) (sc.take k)).1.ss v13 v14 ps qs wr ∧ ps.map (·.1) = (playM d n (begP d n xss) (sc.take k)).1.ws ∧ qs.map (·.1) = (playM d n (begP d n xss) (sc.take k)).2 ∧ (∀ b, b < W.heap.size → S b) ∧ Below W.heap.size W wr
end Go.Proofs.Yticcoacoepajpaa.V
namespace Go.Proofs.Yticcoacoepajpaa.V
open Go Go.RowKit
set_option linter.unusedVariables false
set_option linter.unusedSimpArgs false

theorem OutAt.seen {W : World} {B n : Nat} {Fs : Nat → Nat → Prop} {g cap l : Nat} {qs : List (Sn × Sl × Sl)} (hl : qs.length = l) (hm : l ≤ 9223372036854775807) (h : OutAt W B n Fs (.slice (some ⟨g, 0, none⟩) l cap) qs) : SeA W (some ⟨g, 0, none⟩) l (qs.map (·.1)) := by
  refine ⟨by rw [List.length_map, hl], hm, .inr ⟨g, 0, rfl, fun k q hk => ?_⟩⟩
  rw [List.getElem?_map] at hk
  cases hq : qs[k]? with
  | none => rw [hq] at hk; cases hk
  | some p =>
    rw [hq] at hk
    have e : p.1 = q := by simpa using hk
    subst e
    have key := h.cells hl hq
    have hn := h.num p (List.mem_of_getElem? hq)
    obtain ⟨⟨b, ⟨f, t, z, dd⟩, er, x⟩, ⟨ya, yn, yc⟩, ⟨za, zn, zc⟩⟩ := p
    simp only [Nat.zero_add] at hn ⊢
    have k0 := key 0 _ (by decide) rfl
    rw [Nat.add_zero] at k0
    exact ⟨ya, yn, yc, za, zn, zc, k0, key 1 _ (by decide) rfl, key 2 _ (by decide) rfl, key 3 _ (by decide) rfl, key 4 _ (by decide) rfl, key 5 _ (by decide) rfl, key 6 _ (by decide) rfl, ⟨hn.1.1.ints, hn.1.1.cap⟩, ⟨hn.2.1.ints, hn.2.1.cap⟩⟩
end Go.Proofs.Yticcoacoepajpaa.V
namespace Go.Proofs.Yticcoacoepajpaa.V
open Go Go.RowKit
set_option linter.unusedVariables false
set_option linter.unusedSimpArgs false

def zeX : List Value := [.bool false, .int .i64 0, .int .i64 0, .int .i64 0, .slice none 0 0, .int .i64 0, .slice none 0 0]
def zeS : Sn := ⟨false, ntZ, 0, []⟩
def zeC (j : Nat) : List Value := seC (List.replicate j (zeS, slZ, slZ))
theorem zeC_succ (j : Nat) : zeC (j + 1) = zeC j ++ zeX := by
  unfold zeC
  rw [List.replicate_succ', seC, List.flatMap_append]
  rfl
theorem zeX_one : ∀ u ∈ zeX, u.oneCell' = true := by
  intro u hu
  unfold zeX at hu
  simp only [List.mem_cons, List.not_mem_nil, or_false] at hu
  rcases hu with rfl | rfl | rfl | rfl | rfl | rfl | rfl <;> rfl
theorem step_zero (d : Nat) (P : Pl) (p : Stp) (h : P.ws = []) : stepM d 0 P p = (P, zeS) := by
  have h1 : inN 0 p.mem = false := by unfold inN; simp
  unfold stepM
  simp [h, h1, zeS]
theorem play_zero (d : Nat) : ∀ (l : List Stp) (P : Pl), P.ws = [] → (playM d 0 P l).2 = List.replicate l.length zeS
  | [], P, _ => rfl
  | p :: l, P, h => by
    unfold playM
    rw [step_zero d P p h]
    simp only [List.length_cons, List.replicate_succ]
    rw [play_zero d l P h]
theorem seen_zero {W : World} {B m : Nat} {a : Option Addr} {c : Nat} (hm : m ≤ 9223372036854775807) (h : RowC W B 41 7 (.slice a m c) m (zeC m)) : SeA W a m (List.replicate m zeS) := by
  rcases h.parts with ⟨e1, e2⟩ | ⟨g, cap, cur, e1, h2, h3, h4, h5, h6⟩
  · exact ⟨by simp, hm, .inl e2⟩
  · cases e1
    refine ⟨by simp, hm, .inr ⟨g, 0, rfl, fun k q hk => ?_⟩⟩
    have hkm : k < m := by have := (List.getElem?_eq_some_iff.1 hk).1; simpa using this
    have e : q = zeS := by simpa [hkm] using hk.symm
    subst e
    have key : ∀ i u, i < 7 → (snC (zeS, slZ, slZ))[i]? = some u → W.cell? ⟨g, 0 + k * 7 + i, none⟩ = some u := fun i u hi hu => by
      rw [Nat.zero_add]
      refine h.cell rfl ?_
      unfold zeC seC
      rw [flat_get snC 7 snC_len _ k i hi]
      simp only [List.getElem?_replicate, hkm, if_true]
      exact hu
    have k0 := key 0 _ (by decide) rfl
    rw [Nat.add_zero] at k0
    exact ⟨none, 0, 0, none, 0, 0, k0, key 1 _ (by decide) rfl, key 2 _ (by decide) rfl, key 3 _ (by decide) rfl, key 4 _ (by decide) rfl, key 5 _ (by decide) rfl, key 6 _ (by decide) rfl, ⟨(Num.nil W).ints, Nat.le_refl _⟩, ⟨(Num.nil W).ints, Nat.le_refl _⟩⟩
set_option maxRecDepth 20000 in
set_option maxHeartbeats 20000000 in
theorem team_zero (d : Int) (da : Option Addr) (dcap : Nat) (sa : Option Addr) (scap : Nat) (sc : List Stp) (W : World) (hs : sc = [] ∨ ∃ sb soff, sa = some ⟨sb, soff, none⟩ ∧ ScA W W.heap.size sb soff sc) (hsz : sc.length * 72 ≤ 140737488355328) :
    Calls Try.prog 6 #[.int .i64 d, .slice da 0 dcap, .slice sa sc.length scap] W fun e w' => PlayAns W d [] sc e w' := by
  have HS := hide hs
  obtain ⟨m, hmm⟩ : ∃ m, m = sc.length := ⟨_, rfl⟩
  rw [← hmm] at hsz ⊢
  have HM := hide hmm
  obtain ⟨i7, h7, h7z, h7s, h7b⟩ := info_parts info_seen
  clear hs hmm
  go_enter Try.func6, Try.ntmps6
  go_wp2_with fail
  go_loopw [8, 23] (fun v i wr => v = .slice none 0 0 ∧ i = .int .i64 0 ∧ wr = W) (fun _ _ _ => 0)
  case atStart => exact ⟨rfl, rfl, rfl⟩
  case round =>
    obtain ⟨rfl, rfl, hwr⟩ := hrel
    obtain rfl := hwr.symm
    go_wp2_with fail
    go_loopw [13, 14, 47] (fun v13 v14 i wr => ∃ j : Nat, j ≤ m ∧ i = .int .i64 j ∧ v14 = .slice none 0 0 ∧ RowC wr W.heap.size 41 7 v13 j (zeC j) ∧ Below W.heap.size W wr) (fun _ _ i _ => m - (intOf i).toNat)
    case atStart => exact ⟨0, Nat.zero_le _, by first | rfl | trivial, rfl, .inl ⟨rfl, .inl ⟨rfl, rfl⟩⟩, Below.refl _ _⟩
    case round =>
      obtain ⟨w0, rfl⟩ : ∃ w, w = wr := ⟨_, rfl⟩
      obtain ⟨j, hj, rfl, rfl, hrw, hb⟩ := hrel
      have HRW0 := hide hrw
      have HB := hide hb
      clear hrw hb
      by_cases hlt : j < m
      · have hjz : (j : Int) < (m : Int) := by omega
        have hjl : j < sc.length := by have := HM.out; omega
        obtain ⟨⟨act, mem, num, ⟨fr, tt, st, data⟩⟩, hp⟩ : ∃ p, sc[j]? = some p := ⟨sc[j], by simp [hjl]⟩
        rcases HS.out with e0 | ⟨sb, soff, rfl, hsc⟩
        · rw [e0] at hjl; simp at hjl
        obtain ⟨X, xm, xc, j0, j1, j2, j3, j4, j5, j6, _⟩ := (hsc.below HB.out) j _ hp
        simp only at j0 j1 j2 j3 j4 j5 j6
        have sz := lt_of_cell j0
        clear hp hjl
        go_upto_region 16 with fail
        obtain ⟨V, hV⟩ : ∃ V, V = (w0.alloc (.cells #[.int .i64 act, .int .i64 mem, .int .i64 num, .int .i64 fr, .int .i64 tt, .int .i64 st, .slice X xm xc] 45)).alloc (.cells #[.bool false, .int .i64 0, .int .i64 0, .int .i64 0, .slice none 0 0, .int .i64 0, .slice none 0 0] 41) := ⟨_, rfl⟩
        rw [← hV]
        obtain ⟨sbx, hsbx⟩ : ∃ b, b = w0.heap.size := ⟨_, rfl⟩
        obtain ⟨xb, hxb⟩ : ∃ b, b = w0.heap.size + 1 := ⟨_, rfl⟩
        rw [← hxb, ← hsbx]
        have hb0V : Below w0.heap.size w0 V := by rw [hV]; exact (bl_new _).alloc (by simp) _
        have hSB : V.heap[sbx]? = some (.cells #[.int .i64 act, .int .i64 mem, .int .i64 num, .int .i64 fr, .int .i64 tt, .int .i64 st, .slice X xm xc] 45 (0, 0)) := by rw [hV, hsbx]; exact ((bl_new (w := w0.alloc _) _).block _ (by simp)).trans (World.alloc_heap_new _ _)
        have hXB : V.heap[xb]? = some (.cells #[.bool false, .int .i64 0, .int .i64 0, .int .i64 0, .slice none 0 0, .int .i64 0, .slice none 0 0] 41 (0, 0)) := by rw [hV, hxb]; exact World.alloc_heap_new' _ _ (by simp)
        have HRW := hide (HRW0.out.keep fun b e => hb0V.block b (HRW0.out.lt b e).2.1)
        have HBV := hide (HB.out.trans (hb0V.mono HB.out.size))
        have HXB := hide hXB
        have s0 : V.cell? ⟨sbx, 0, none⟩ = some (.int .i64 act) := by simp only [World.cell?, hSB]; rfl
        have s1 : V.cell? ⟨sbx, 1, none⟩ = some (.int .i64 mem) := by simp only [World.cell?, hSB]; rfl
        have s2 : V.cell? ⟨sbx, 2, none⟩ = some (.int .i64 num) := by simp only [World.cell?, hSB]; rfl
        have s3 : V.cell? ⟨sbx, 3, none⟩ = some (.int .i64 fr) := by simp only [World.cell?, hSB]; rfl
        have s4 : V.cell? ⟨sbx, 4, none⟩ = some (.int .i64 tt) := by simp only [World.cell?, hSB]; rfl
        have s5 : V.cell? ⟨sbx, 5, none⟩ = some (.int .i64 st) := by simp only [World.cell?, hSB]; rfl
        have s6 : V.cell? ⟨sbx, 6, none⟩ = some (.slice X xm xc) := by simp only [World.cell?, hSB]; rfl
        have sbz := (Array.getElem?_eq_some_iff.1 hSB).1
        clear hV hsbx hxb hb0V hSB hXB j0 j1 j2 j3 j4 j5 j6 sz
        go_cut [13, 14, 16, 17, 18, 47] (fun v13 v14 v16 v17 v18 v47 wx => v13 = u13 ∧ v14 = .slice none 0 0 ∧ v16 = .pointer (some ⟨sbx, 0, none⟩) ∧ v17 = .pointer (some ⟨xb, 0, none⟩) ∧ v18 = .bool false ∧ v47 = .int .i64 (j : Int) ∧ wx = V)
        case first =>
          by_cases hn0 : 0 ≤ mem
          · have hn1 : ¬ mem < 0 := by omega
            go_wp2_with fail
            go_meet
            case rel => exact ⟨rfl, rfl, rfl, rfl, rfl, rfl, rfl⟩
          · go_wp2_with fail
            go_meet
            case rel => exact ⟨rfl, rfl, rfl, rfl, rfl, rfl, rfl⟩
        case rest =>
          obtain ⟨rfl, rfl, rfl, rfl, rfl, rfl, hwc⟩ := hcut
          obtain rfl := hwc.symm
          by_cases e1 : act = 1
          · subst e1
            have t0 : V.cell? ⟨xb, 0, none⟩ = some (.bool false) := by simp only [World.cell?, HXB.out]; rfl
            have t1 : V.cell? ⟨xb, 1, none⟩ = some (.int .i64 0) := by simp only [World.cell?, HXB.out]; rfl
            have t2 : V.cell? ⟨xb, 2, none⟩ = some (.int .i64 0) := by simp only [World.cell?, HXB.out]; rfl
            have t3 : V.cell? ⟨xb, 3, none⟩ = some (.int .i64 0) := by simp only [World.cell?, HXB.out]; rfl
            have t4 : V.cell? ⟨xb, 4, none⟩ = some (.slice none 0 0) := by simp only [World.cell?, HXB.out]; rfl
            have t5 : V.cell? ⟨xb, 5, none⟩ = some (.int .i64 0) := by simp only [World.cell?, HXB.out]; rfl
            have t6 : V.cell? ⟨xb, 6, none⟩ = some (.slice none 0 0) := by simp only [World.cell?, HXB.out]; rfl
            have tz := (Array.getElem?_eq_some_iff.1 HXB.out).1
            go_upto_region 37 with (at_builtin; refine stp ?_)
            unfold Stp1
            refine append_w (by rfl) (.tmp 189) (.tmp 191) 25 (by rfl) W.heap.size 41 i7 _ 7 88 Try.underlying25 h7 h7z h7s h7b rfl (by decide) _ j (zeC j) (by rfl) (HRW.out.keep fun b e => (bl_new _).block b (HRW.out.lt b e).2.1) ⟨V.heap.size, 0, none⟩ 1 1 zeX (by rfl) (by decide) (fun q u hq => by rw [add_pl, Nat.zero_add]; exact box_cell _ _ _ q u (by simpa [zeX] using hq)) zeX_one (by omega) (by unfold maxLen; omega) (by omega) (Nat.le_trans HBV.out.size (bl_new _).size) ?_
            intro v9 w9 hr9 hg9 ho9
            have HFIN := hide hr9
            have HB9 : Hid (Below W.heap.size W w9) := (HBV.out.trans ((bl_new _).mono HBV.out.size)).grown hg9 (Nat.le_trans HBV.out.size (bl_new _).size) (fun b e => (HRW.out.lt b e).1)
            clear hr9 hg9 ho9
            go_wp2_with fail
            go_roundw
            case rel => exact ⟨j + 1, by omega, by first | rfl | go_num, rfl, by rw [zeC_succ]; exact HFIN.out, HB9.out⟩
            case measure => simp [intOf]; omega
          by_cases e2 : act = 2
          · subst e2
            have t0 : V.cell? ⟨xb, 0, none⟩ = some (.bool false) := by simp only [World.cell?, HXB.out]; rfl
            have t1 : V.cell? ⟨xb, 1, none⟩ = some (.int .i64 0) := by simp only [World.cell?, HXB.out]; rfl
            have t2 : V.cell? ⟨xb, 2, none⟩ = some (.int .i64 0) := by simp only [World.cell?, HXB.out]; rfl
            have t3 : V.cell? ⟨xb, 3, none⟩ = some (.int .i64 0) := by simp only [World.cell?, HXB.out]; rfl
            have t4 : V.cell? ⟨xb, 4, none⟩ = some (.slice none 0 0) := by simp only [World.cell?, HXB.out]; rfl
            have t5 : V.cell? ⟨xb, 5, none⟩ = some (.int .i64 0) := by simp only [World.cell?, HXB.out]; rfl
            have t6 : V.cell? ⟨xb, 6, none⟩ = some (.slice none 0 0) := by simp only [World.cell?, HXB.out]; rfl
            have tz := (Array.getElem?_eq_some_iff.1 HXB.out).1
            go_upto_region 37 with (at_builtin; refine stp ?_)
            unfold Stp1
            refine append_w (by rfl) (.tmp 189) (.tmp 191) 25 (by rfl) W.heap.size 41 i7 _ 7 88 Try.underlying25 h7 h7z h7s h7b rfl (by decide) _ j (zeC j) (by rfl) (HRW.out.keep fun b e => (bl_new _).block b (HRW.out.lt b e).2.1) ⟨V.heap.size, 0, none⟩ 1 1 zeX (by rfl) (by decide) (fun q u hq => by rw [add_pl, Nat.zero_add]; exact box_cell _ _ _ q u (by simpa [zeX] using hq)) zeX_one (by omega) (by unfold maxLen; omega) (by omega) (Nat.le_trans HBV.out.size (bl_new _).size) ?_
            intro v9 w9 hr9 hg9 ho9
            have HFIN := hide hr9
            have HB9 : Hid (Below W.heap.size W w9) := (HBV.out.trans ((bl_new _).mono HBV.out.size)).grown hg9 (Nat.le_trans HBV.out.size (bl_new _).size) (fun b e => (HRW.out.lt b e).1)
            clear hr9 hg9 ho9
            go_wp2_with fail
            go_roundw
            case rel => exact ⟨j + 1, by omega, by first | rfl | go_num, rfl, by rw [zeC_succ]; exact HFIN.out, HB9.out⟩
            case measure => simp [intOf]; omega
          by_cases e3 : act = 3
          · subst e3
            have t0 : V.cell? ⟨xb, 0, none⟩ = some (.bool false) := by simp only [World.cell?, HXB.out]; rfl
            have t1 : V.cell? ⟨xb, 1, none⟩ = some (.int .i64 0) := by simp only [World.cell?, HXB.out]; rfl
            have t2 : V.cell? ⟨xb, 2, none⟩ = some (.int .i64 0) := by simp only [World.cell?, HXB.out]; rfl
            have t3 : V.cell? ⟨xb, 3, none⟩ = some (.int .i64 0) := by simp only [World.cell?, HXB.out]; rfl
            have t4 : V.cell? ⟨xb, 4, none⟩ = some (.slice none 0 0) := by simp only [World.cell?, HXB.out]; rfl
            have t5 : V.cell? ⟨xb, 5, none⟩ = some (.int .i64 0) := by simp only [World.cell?, HXB.out]; rfl
            have t6 : V.cell? ⟨xb, 6, none⟩ = some (.slice none 0 0) := by simp only [World.cell?, HXB.out]; rfl
            have tz := (Array.getElem?_eq_some_iff.1 HXB.out).1
            go_upto_region 37 with (at_builtin; refine stp ?_)
            unfold Stp1
            refine append_w (by rfl) (.tmp 189) (.tmp 191) 25 (by rfl) W.heap.size 41 i7 _ 7 88 Try.underlying25 h7 h7z h7s h7b rfl (by decide) _ j (zeC j) (by rfl) (HRW.out.keep fun b e => (bl_new _).block b (HRW.out.lt b e).2.1) ⟨V.heap.size, 0, none⟩ 1 1 zeX (by rfl) (by decide) (fun q u hq => by rw [add_pl, Nat.zero_add]; exact box_cell _ _ _ q u (by simpa [zeX] using hq)) zeX_one (by omega) (by unfold maxLen; omega) (by omega) (Nat.le_trans HBV.out.size (bl_new _).size) ?_
            intro v9 w9 hr9 hg9 ho9
            have HFIN := hide hr9
            have HB9 : Hid (Below W.heap.size W w9) := (HBV.out.trans ((bl_new _).mono HBV.out.size)).grown hg9 (Nat.le_trans HBV.out.size (bl_new _).size) (fun b e => (HRW.out.lt b e).1)
            clear hr9 hg9 ho9
            go_wp2_with fail
            go_roundw
            case rel => exact ⟨j + 1, by omega, by first | rfl | go_num, rfl, by rw [zeC_succ]; exact HFIN.out, HB9.out⟩
            case measure => simp [intOf]; omega
          by_cases e4 : act = 4
          · subst e4
            have t0 : V.cell? ⟨xb, 0, none⟩ = some (.bool false) := by simp only [World.cell?, HXB.out]; rfl
            have t1 : V.cell? ⟨xb, 1, none⟩ = some (.int .i64 0) := by simp only [World.cell?, HXB.out]; rfl
            have t2 : V.cell? ⟨xb, 2, none⟩ = some (.int .i64 0) := by simp only [World.cell?, HXB.out]; rfl
            have t3 : V.cell? ⟨xb, 3, none⟩ = some (.int .i64 0) := by simp only [World.cell?, HXB.out]; rfl
            have t4 : V.cell? ⟨xb, 4, none⟩ = some (.slice none 0 0) := by simp only [World.cell?, HXB.out]; rfl
            have t5 : V.cell? ⟨xb, 5, none⟩ = some (.int .i64 0) := by simp only [World.cell?, HXB.out]; rfl
            have t6 : V.cell? ⟨xb, 6, none⟩ = some (.slice none 0 0) := by simp only [World.cell?, HXB.out]; rfl
            have tz := (Array.getElem?_eq_some_iff.1 HXB.out).1
            go_upto_region 37 with (at_builtin; refine stp ?_)
            unfold Stp1
            refine append_w (by rfl) (.tmp 189) (.tmp 191) 25 (by rfl) W.heap.size 41 i7 _ 7 88 Try.underlying25 h7 h7z h7s h7b rfl (by decide) _ j (zeC j) (by rfl) (HRW.out.keep fun b e => (bl_new _).block b (HRW.out.lt b e).2.1) ⟨V.heap.size, 0, none⟩ 1 1 zeX (by rfl) (by decide) (fun q u hq => by rw [add_pl, Nat.zero_add]; exact box_cell _ _ _ q u (by simpa [zeX] using hq)) zeX_one (by omega) (by unfold maxLen; omega) (by omega) (Nat.le_trans HBV.out.size (bl_new _).size) ?_
            intro v9 w9 hr9 hg9 ho9
            have HFIN := hide hr9
            have HB9 : Hid (Below W.heap.size W w9) := (HBV.out.trans ((bl_new _).mono HBV.out.size)).grown hg9 (Nat.le_trans HBV.out.size (bl_new _).size) (fun b e => (HRW.out.lt b e).1)
            clear hr9 hg9 ho9
            go_wp2_with fail
            go_roundw
            case rel => exact ⟨j + 1, by omega, by first | rfl | go_num, rfl, by rw [zeC_succ]; exact HFIN.out, HB9.out⟩
            case measure => simp [intOf]; omega
          by_cases e5 : act = 5
          · subst e5
            have t0 : V.cell? ⟨xb, 0, none⟩ = some (.bool false) := by simp only [World.cell?, HXB.out]; rfl
            have t1 : V.cell? ⟨xb, 1, none⟩ = some (.int .i64 0) := by simp only [World.cell?, HXB.out]; rfl
            have t2 : V.cell? ⟨xb, 2, none⟩ = some (.int .i64 0) := by simp only [World.cell?, HXB.out]; rfl
            have t3 : V.cell? ⟨xb, 3, none⟩ = some (.int .i64 0) := by simp only [World.cell?, HXB.out]; rfl
            have t4 : V.cell? ⟨xb, 4, none⟩ = some (.slice none 0 0) := by simp only [World.cell?, HXB.out]; rfl
            have t5 : V.cell? ⟨xb, 5, none⟩ = some (.int .i64 0) := by simp only [World.cell?, HXB.out]; rfl
            have t6 : V.cell? ⟨xb, 6, none⟩ = some (.slice none 0 0) := by simp only [World.cell?, HXB.out]; rfl
            have tz := (Array.getElem?_eq_some_iff.1 HXB.out).1
            go_upto_region 37 with (at_builtin; refine stp ?_)
            unfold Stp1
            refine append_w (by rfl) (.tmp 189) (.tmp 191) 25 (by rfl) W.heap.size 41 i7 _ 7 88 Try.underlying25 h7 h7z h7s h7b rfl (by decide) _ j (zeC j) (by rfl) (HRW.out.keep fun b e => (bl_new _).block b (HRW.out.lt b e).2.1) ⟨V.heap.size, 0, none⟩ 1 1 zeX (by rfl) (by decide) (fun q u hq => by rw [add_pl, Nat.zero_add]; exact box_cell _ _ _ q u (by simpa [zeX] using hq)) zeX_one (by omega) (by unfold maxLen; omega) (by omega) (Nat.le_trans HBV.out.size (bl_new _).size) ?_
            intro v9 w9 hr9 hg9 ho9
            have HFIN := hide hr9
            have HB9 : Hid (Below W.heap.size W w9) := (HBV.out.trans ((bl_new _).mono HBV.out.size)).grown hg9 (Nat.le_trans HBV.out.size (bl_new _).size) (fun b e => (HRW.out.lt b e).1)
            clear hr9 hg9 ho9
            go_wp2_with fail
            go_roundw
            case rel => exact ⟨j + 1, by omega, by first | rfl | go_num, rfl, by rw [zeC_succ]; exact HFIN.out, HB9.out⟩
            case measure => simp [intOf]; omega
          have t0 : V.cell? ⟨xb, 0, none⟩ = some (.bool false) := by simp only [World.cell?, HXB.out]; rfl
          have t1 : V.cell? ⟨xb, 1, none⟩ = some (.int .i64 0) := by simp only [World.cell?, HXB.out]; rfl
          have t2 : V.cell? ⟨xb, 2, none⟩ = some (.int .i64 0) := by simp only [World.cell?, HXB.out]; rfl
          have t3 : V.cell? ⟨xb, 3, none⟩ = some (.int .i64 0) := by simp only [World.cell?, HXB.out]; rfl
          have t4 : V.cell? ⟨xb, 4, none⟩ = some (.slice none 0 0) := by simp only [World.cell?, HXB.out]; rfl
          have t5 : V.cell? ⟨xb, 5, none⟩ = some (.int .i64 0) := by simp only [World.cell?, HXB.out]; rfl
          have t6 : V.cell? ⟨xb, 6, none⟩ = some (.slice none 0 0) := by simp only [World.cell?, HXB.out]; rfl
          have tz := (Array.getElem?_eq_some_iff.1 HXB.out).1
          go_upto_region 37 with (at_builtin; refine stp ?_)
          unfold Stp1
          refine append_w (by rfl) (.tmp 189) (.tmp 191) 25 (by rfl) W.heap.size 41 i7 _ 7 88 Try.underlying25 h7 h7z h7s h7b rfl (by decide) _ j (zeC j) (by rfl) (HRW.out.keep fun b e => (bl_new _).block b (HRW.out.lt b e).2.1) ⟨V.heap.size, 0, none⟩ 1 1 zeX (by rfl) (by decide) (fun q u hq => by rw [add_pl, Nat.zero_add]; exact box_cell _ _ _ q u (by simpa [zeX] using hq)) zeX_one (by omega) (by unfold maxLen; omega) (by omega) (Nat.le_trans HBV.out.size (bl_new _).size) ?_
          intro v9 w9 hr9 hg9 ho9
          have HFIN := hide hr9
          have HB9 : Hid (Below W.heap.size W w9) := (HBV.out.trans ((bl_new _).mono HBV.out.size)).grown hg9 (Nat.le_trans HBV.out.size (bl_new _).size) (fun b e => (HRW.out.lt b e).1)
          clear hr9 hg9 ho9
          go_wp2_with fail
          go_roundw
          case rel => exact ⟨j + 1, by omega, by first | rfl | go_num, rfl, by rw [zeC_succ]; exact HFIN.out, HB9.out⟩
          case measure => simp [intOf]; omega
      · obtain rfl : m = j := by omega
        obtain ⟨a9, c9, rfl⟩ : ∃ a c, u13 = .slice a m c := by
          rcases HRW0.out.parts with ⟨e, e0⟩ | ⟨g, cap, cur, e, _⟩
          · exact ⟨none, 0, by rw [e, e0]⟩
          · exact ⟨_, _, e⟩
        go_wp2_with fail
        go_ret2
        refine ⟨fun h9 => (h9 rfl).elim, fun _ => ⟨a9, _, c9, rfl, ?_⟩, HB.out⟩
        have hz := play_zero d.toNat sc (begP d.toNat 0 []) rfl
        rw [← HM.out] at hz
        show SeA w0 a9 m (playM d.toNat 0 (begP d.toNat 0 []) sc).2
        rw [hz]
        exact seen_zero (by omega) HRW0.out
theorem team_all (d : Int) (da : Option Addr) (dcap : Nat) (xss : List (List Int)) (sa : Option Addr) (scap : Nat) (sc : List Stp) (W : World) (hd : LsA W da xss.length xss) (hn : xss.length ≤ 140737488355328) (hs : sc = [] ∨ ∃ sb soff, sa = some ⟨sb, soff, none⟩ ∧ ScA W W.heap.size sb soff sc) (hsz : sc.length * 72 ≤ 140737488355328) :
    Calls Try.prog 6 #[.int .i64 d, .slice da xss.length dcap, .slice sa sc.length scap] W fun e w' => PlayAns W d xss sc e w' := by
  by_cases h0 : xss.length = 0
  · obtain rfl := List.length_eq_zero_iff.1 h0
    exact team_zero d da dcap sa scap sc W hs hsz
  · obtain ⟨db, doff, rfl, hat⟩ := hd.at (by omega)
    refine (team_gen d db doff dcap xss sa scap sc W (fun i hi => ?_) hn hs (by omega) hsz).mono ?_
    · obtain ⟨X, m, c, h1, h2, h3⟩ := hat i hi
      exact ⟨X, m, c, h1, h2, h3⟩
    · rintro e w' ⟨h1, h2, h3⟩
      refine ⟨h1, fun h => ?_, h3⟩
      obtain ⟨v, qs, Fs, e1, e2, e3⟩ := h2 h
      have hl : qs.length = sc.length := by
        have := congrArg List.length e3
        rw [List.length_map, play_len] at this
        exact this
      rcases e2.row.parts with ⟨k1, k2⟩ | ⟨g, cap, cur, k1, _⟩
      · refine ⟨none, 0, 0, by rw [e1, k1], ?_⟩
        rw [← e3]
        exact ⟨by rw [List.length_map]; exact k2, by omega, .inl rfl⟩
      · refine ⟨some ⟨g, 0, none⟩, qs.length, cap, by rw [e1, k1], ?_⟩
        rw [← e3]
        rw [k1] at e2
        exact OutAt.seen rfl (by omega) e2
end Go.Proofs.Yticcoacoepajpaa.V
