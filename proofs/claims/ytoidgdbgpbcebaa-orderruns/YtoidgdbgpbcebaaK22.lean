/-
  A range over an iterator that tells lists of numbers, each in memory of its own, in a known order. Contracts: points.through and its closure: the points, in order. Contracts: points.fresh (a description of points in memory of its own), points.All. A range over an iterator that tells lists, where each list is put into a variable of its own, in memory. A range over an iterator that tells known values in a known order.
-/
import Derived.Test.YtoidgdbgpbcebaaInOrder
import Derived.Test.YtoidgdbgpbcebaaK7
import Derived.Deep.RegionWith
namespace Go.Proofs.Ytoidgdbgpbcebaa.V
open Go Go.RowKit
set_option linter.unusedVariables false

/-- A list of numbers in a block of its own, from B on. -/
def Told (B gx len : Nat) (x : List Int) (W : World) : Prop := B ≤ gx ∧ W.rowIs gx 3 len (fun j => .int .i64 (x[j]?.getD 0)) ∧ x.length = len ∧ len ≤ 4 ∧ ∀ y ∈ x, 0 ≤ y ∧ y ≤ 4096
theorem Told.ints {B gx len : Nat} {x : List Int} {W : World} (h : Told B gx len x W) : Ints W (some ⟨gx, 0, none⟩) len x := by
  obtain ⟨h1, h2, h3, h4, h5⟩ := h
  refine ⟨h3, by omega, fun y hy => by have := h5 y hy; omega, ?_⟩
  by_cases h0 : len = 0
  · exact .inl h0
  · exact .inr ⟨gx, 0, rfl, fun j hj => by rw [Nat.zero_add]; exact h2.cell hj⟩
theorem Told.lt {B gx len : Nat} {x : List Int} {W : World} (h : Told B gx len x W) : gx < W.heap.size := h.2.1.lt
theorem Told.of_block {B gx len : Nat} {x : List Int} {W W' : World} (h : Told B gx len x W) (e : W'.heap[gx]? = W.heap[gx]?) : Told B gx len x W' := ⟨h.1, h.2.1.of_block e, h.2.2⟩
theorem Told.below {B gx len : Nat} {x : List Int} {W W' : World} (h : Told B gx len x W) (hb : Below W.heap.size W W') : Told B gx len x W' := h.of_block (hb.block _ h.lt)
theorem Told.mono {B B' gx len : Nat} {x : List Int} {W : World} (h : Told B gx len x W) (hB : B' ≤ B) : Told B' gx len x W := ⟨Nat.le_trans hB h.1, h.2⟩

/-- The iterator tells the lists of L, one behind the other. -/
def TellsIn (F : Fence) (n : Nat) (P : Program) (g : Nat) (lb : Array Value) (L : List (List Int)) (len : Nat) (Kp : World → World → Prop) (w : World) : Prop :=
  ∀ (l : Nat) (J : List (List Int) → World → Prop) (Jx : Unit → World → Prop) (W : World), Below w.heap.size w W → AbidesFrom W.heap.size J → AbidesFrom W.heap.size Jx →
    (∀ pre x post gx W1, L = pre ++ x :: post → J pre W1 → Told W.heap.size gx len x W1 → YieldAt F (n - 1) P l #[.slice (some ⟨gx, 0, none⟩) len len] W1 fun e W' => (e = .returned (.bool true) ∧ J (pre ++ [x]) W' ∧ Kp W1 W') ∨ (e = .returned (.bool false) ∧ Jx () W')) →
    J [] W → CallsIn F n P g (#[.func (.yield l) #[] #[]] ++ lb) W fun e W' => (∃ v, e = .returned v) ∧ (J L W' ∨ Jx () W')

variable {F : Fence} {n : Nat} {P : Program}

theorem rangeFunc_tells {g : Operand} {ps : Array Tmp} {assign body : Code} {Q : Exit → Act → World → Prop} {a : Act} {w : World}
    (hro : F.round = none) (h1 : 1 ≤ n) {gf : Nat} {lb : Array Value} (hg : a.eval g = .func (.func gf) #[] lb) (hFg : F.fn gf) (eg : ∀ args w, (callFunc gf args).run P w = .ok (.enter gf args) w)
    {L : List (List Int)} {len : Nat} {Kp : World → World → Prop} {w0 : World} (hseq : TellsIn F (n - 1) P gf lb L len Kp w0)
    (hKt : ∀ {A B C : World}, Kp A B → Kp B C → Kp A C) (hKb : ∀ (W : World) (l : Nat) (o o' : Obj), w.heap.size ≤ l → W.heap[l]? = some o → o.isCells = false → o.isWalk = false → Kp W (W.putObj l o'))
    (hb0 : Below w0.heap.size w0 w) (hps : ps.size = 1)
    (I : List (List Int) → World → Prop) (Ix : Code → World → Prop) (hI : OwnFrom w.heap.size I) (hIx : OwnFrom w.heap.size Ix) (h0 : I [] w) (a₁ : Nat → Act)
    (hassign : ∀ (l gx : Nat) (W : World) (K : Act → World → Prop), K (a₁ gx) W →
      assign.wpIn (F.inRound l) (n - 1 - 1) P (Exit.then K (fun _ _ _ => False)) { tmps := (ps.zip #[.slice (some ⟨gx, 0, none⟩) len len]).foldl (fun t (p, v) => t.setIfInBounds p v) a.tmps, defers := [] } W)
    (hbody : ∀ (l : Nat) (pre : List (List Int)) (x : List Int) (post : List (List Int)) (gx : Nat) (W : World), L = pre ++ x :: post → I pre W → Told w.heap.size gx len x W → body.wpIn (F.inRound l) (n - 1 - 1) P (leftBy w.heap.size Kp (I (pre ++ [x])) Ix W) (a₁ gx) W)
    (hdone : ∀ (D : Nat) (W : World), w.heap.size ≤ D → I L W → W.heap[D]? = some (.deferred (some [])) → Q .normal { a with defers := { target := .collected D, args := #[] } :: a.defers } W)
    (hstop : ∀ (D : Nat) (c : Code) (W : World), w.heap.size ≤ D → Ix c W → W.heap[D]? = some (.deferred (some [])) → c.wpIn F n P Q { a with defers := { target := .collected D, args := #[] } :: a.defers } W) :
    (Code.rangeFunc g ps assign body).wpIn F n P Q a w := by
  refine wpIn_rangeFunc fun fn hfn => ?_
  rw [hro]
  -- the world that the iterator begins in
  generalize hW1 : (w.alloc (.deferred (some []))).alloc (.loop (recOf w fn a ps assign body .ready none)) = W1
  have hB1 : Books w W1 (recOf w fn a ps assign body .ready none) := by
    rw [← hW1]
    refine ⟨?_, (Below.heap_alloc _ _ _ (by simp)).trans (World.alloc_heap_new w _)⟩
    have := World.alloc_heap_new (w.alloc (.deferred (some []))) (.loop (recOf w fn a ps assign body .ready none))
    rwa [World.size_alloc] at this
  have hs1 : W1.heap.size = w.heap.size + 2 := by rw [← hW1]; simp
  have hI1 : I [] W1 := by rw [← hW1]; exact hI.alloc _ (hI.alloc _ h0)
  have hbel : Below w0.heap.size w0 W1 := by
    rw [← hW1]
    have := hb0.size
    exact (hb0.alloc this _).alloc (by simp; omega) _
  -- what the law's own blocks do to the caller's words
  have hown : ∀ {β : Type} {X : β → World → Prop}, OwnFrom w.heap.size X → AbidesFrom W1.heap.size X := fun hX s A B row hs hgr hr =>
    hX s A B row hs hgr (fun r e => by
      obtain ⟨h1, o, ho, hw⟩ := hr r e
      exact ⟨by omega, o, ho, Obj.not_cells_of_walk hw⟩)
  have hput : ∀ {β : Type} {X : β → World → Prop} {s : β} {W : World} {r r' : Loop}, OwnFrom w.heap.size X → X s W → Books w W r → X s (W.putObj (w.heap.size + 1) (.loop r')) := fun hX hs hb => hX.putObj _ hs (by omega) hb.1 rfl
  have hkp : ∀ {W : World} {r r' : Loop}, Books w W r → Kp W (W.putObj (w.heap.size + 1) (.loop r')) := fun hb => hKb _ _ _ _ (by omega) hb.1 rfl rfl
  refine ⟨w.heap.size + 1, [{ target := .collected w.heap.size, args := #[] }], W1, { target := .fn (.func gf) lb, args := #[.func (.yield (w.heap.size + 1)) #[] #[]] }, W1, gf, #[.func (.yield (w.heap.size + 1)) #[] #[]] ++ lb, W1, ?_, ?_, ?_, ?_, fun _ => h1, ?_⟩
  · rw [← hW1]; exact run_enterLoop_outer _ _ _ _ _
  · simp only [resolve, hg]; simp [go_sem]
  · intro f' hf'
    simp [Target.leads] at hf'
    exact hf' ▸ hFg
  · simp [invoke, go_sem, eg]
  refine (hseq (w.heap.size + 1) (fun t W => I t W ∧ Books w W (recOf w fn a ps assign body .ready none)) (fun _ W => ∃ c, Ix c W ∧ Books w W (recOf w fn a ps assign body .done (some c))) W1 hbel ?_ ?_ ?_ ⟨hI1, hB1⟩).mono ?_
  · exact fun s A B row hs hgr hr => ⟨hown hI s A B row hs.1 hgr hr, hs.2.grown hgr (fun x e => (hr x e).2)⟩
  · rintro s A B row ⟨c, hc, hb⟩ hgr hr
    exact ⟨c, hown hIx c A B row hc hgr hr, hb.grown hgr (fun x e => (hr x e).2)⟩
  · rintro pre x post gx W hL ⟨hi, hb⟩ htold
    refine ⟨fn, _, assign, body, run_yield hb.1 (by simp [recOf, hps]), roundIn_of_wpIn hfn (hassign _ gx W _ ?_)⟩
    refine ⟨_, run_beginRound hb.1 rfl, ?_⟩
    have hb2 := hb.put { recOf w fn a ps assign body .ready none with state := .busy }
    have hne : gx ≠ w.heap.size + 1 := by have := htold.1; omega
    refine wpIn_mono (hbody _ pre x post gx _ hL (hput hI hi hb) ((htold.of_block (World.putObj_heap_other hne)).mono (by omega))) ?_
    -- the round's end: the record is put again
    have hend : ∀ (j : Option Code) (W3 : World), KeepsFrom w.heap.size (W.putObj (w.heap.size + 1) (.loop { recOf w fn a ps assign body .ready none with state := .busy })) W3 →
        (Instr.endRound (w.heap.size + 1) j).run P W3 = .ok (.bool j.isNone) (W3.putObj (w.heap.size + 1) (.loop (recOf w fn a ps assign body (if j.isNone then .ready else .done) j))) ∧
        Books w W3 { recOf w fn a ps assign body .ready none with state := .busy } := fun j W3 hk =>
      ⟨run_endRound j (hb2.from hk).1, hb2.from hk⟩
    intro e a3 W3 hp
    cases e with
    | normal =>
      obtain ⟨hk, hp2, hi3⟩ := hp
      obtain ⟨hr, hb3⟩ := hend none W3 hk
      exact ⟨_, _, hr, .inl ⟨rfl, ⟨hput hI hi3 hb3, hb3.put _⟩, hKt (hKt (hkp hb) hp2) (hkp hb3)⟩⟩
    | ret =>
      obtain ⟨hr, hb3⟩ := hend (some .ret) W3 hp.1
      exact ⟨_, _, hr, .inr ⟨rfl, _, hput hIx hp.2 hb3, hb3.put _⟩⟩
    | exit id =>
      obtain ⟨hr, hb3⟩ := hend (some (.exit id)) W3 hp.1
      exact ⟨_, _, hr, .inr ⟨rfl, _, hput hIx hp.2 hb3, hb3.put _⟩⟩
    | goto x =>
      obtain ⟨hr, hb3⟩ := hend (some (.goto x)) W3 hp.1
      exact ⟨_, _, hr, .inr ⟨rfl, _, hput hIx hp.2 hb3, hb3.put _⟩⟩
    | panic ch => exact hp.elim
    | outgrown => exact hp.elim
  · rintro e W2 ⟨⟨v, rfl⟩, ⟨hi, hb⟩ | ⟨c, hi, hb⟩⟩
    · exact ⟨none, _, run_endLoop hb.1 (by simp [recOf]), hdone _ _ (Nat.le_refl _) (hput hI hi hb) (hb.put _).2⟩
    · exact ⟨some c, _, run_endLoop hb.1 (by simp [recOf]), hstop _ c _ (Nat.le_refl _) (hput hIx hi hb) (hb.put _).2⟩
end Go.Proofs.Ytoidgdbgpbcebaa.V
namespace Go.Proofs.Ytoidgdbgpbcebaa.V
open Go.RowKit Go.Shelf
attribute [local go_sem] Oper.semAt_some
set_option linter.unusedVariables false

theorem pt_equalIn {P : Program} (w : World) (d : Nat) (t : TypeId) (ps rs : Array TypeId) (va : Bool) (h : P.underlying t = some (.func ps rs va)) (f : Fn) (xs ys : Array Value) : (Op.equalIn (d + 1) t (.func f xs ys) .nilFunc).run P w = .ok false w := by
  simp [Op.equalIn, run_underlying h]
theorem pt_equal {P : Program} (w : World) (t : TypeId) (ps rs : Array TypeId) (va : Bool) (h : P.underlying t = some (.func ps rs va)) (f : Fn) (xs ys : Array Value) : (Op.equal t (.func f xs ys) .nilFunc).run P w = .ok false w := pt_equalIn w 9999 t ps rs va h f xs ys
theorem pt_func_nil {P : Program} (w : World) (t : TypeId) (ps rs : Array TypeId) (va : Bool) (h : P.underlying t = some (.func ps rs va)) (f : Fn) (xs ys : Array Value) : (binOp BinOp.eql t (.func f xs ys) .nilFunc).run P w = .ok (.bool false) w := by
  simp only [binOp]
  simp [pt_equal w t ps rs va h f xs ys]
theorem pt_grown_below {w w' : World} (h : Below w.heap.size w w') : w.grownBy w' none := ⟨h.os, h.tape, h.output, h.size, fun k hk _ => h.block k hk⟩
theorem abides_below {β : Type} {B : Nat} {J : β → World → Prop} (hJ : AbidesFrom B J) {s : β} {W W' : World} (h : J s W) (hb : Below W.heap.size W W') : J s W' := hJ s W W' none h (pt_grown_below hb) (fun r e => by cases e)

/-- All that the closure reads. -/
structure PtGood (W : World) (Bs : Nat) (ba : Option Addr) (bl bc : Nat) (box : List Int) (ra : Option Addr) (rl rc : Nat) (rs : List (List Int × Int)) : Prop where
  here : PtAt W Bs ba bl bc ra rl rc
  box : Ints W ba bl box
  rows : Rws W ra rl rs
theorem PtGood.below {W W' : World} {Bs : Nat} {ba : Option Addr} {bl bc : Nat} {box : List Int} {ra : Option Addr} {rl rc : Nat} {rs : List (List Int × Int)} (h : PtGood W Bs ba bl bc box ra rl rc rs) (hb : Below W.heap.size W W') : PtGood W' Bs ba bl bc box ra rl rc rs := ⟨h.here.below hb, h.box.below hb, h.rows.below hb⟩
theorem fits_of {box : List Int} {rs : List (List Int × Int)} (ho : PtOk box rs) {p : Nat} (hp : p < (prod box).toNat) : Fits rs (indexV box p) := by
  obtain ⟨h1, h2⟩ := index_bd ho hp
  exact ⟨by rw [h2]; exact ho.rank, h1, fun r hr => by rw [h2]; exact ho.rows r hr⟩

set_option maxRecDepth 100000 in
set_option maxHeartbeats 4000000 in
theorem through1_tells (n : Nat) (hn : 1 ≤ n) (Bs : Nat) (ba : Option Addr) (bl bc : Nat) (box : List Int) (ra : Option Addr) (rl rc : Nat) (rs : List (List Int × Int)) (ho : PtOk box rs) (Kp : World → World → Prop)
    (Good : World → Prop) (hGP : ∀ A, Good A → PtGood A Bs ba bl bc box ra rl rc rs) (hGB : ∀ A B, Good A → Below A.heap.size A B → Good B)
    (hKs : ∀ A B, Kp A B → A.heap.size ≤ B.heap.size) (hKG : ∀ A B, Kp A B → Good A → Good B) (w : World) (hG : Good w) :
    TellsIn FW n Try.prog 91 #[.pointer (some ⟨Bs, 0, none⟩)] (pts box rs) bl Kp w := by
  intro l J Jx W hW hJ hJx hY h0
  have hro : FW.round = none := rfl
  have hg1 := hGB _ _ hG hW
  have hG1 := hGP _ hg1
  obtain ⟨c0, c1⟩ := hG1.here.cells
  have zB := hG1.here.lt
  have hf := fun w => pt_func_nil (P := Try.prog) w _ _ _ _ Try.underlying124 (.yield l) #[] #[]
  obtain ⟨N, hN⟩ : ∃ N : Nat, prod box = (N : Int) := ⟨(prod box).toNat, by have := ho.size.2.2.2; omega⟩
  have hNs : N ≤ 4096 := by have := ho.size.1; omega
  have HNN : Hid ((prod box).toNat = N) := by rw [Hid, hN]; simp
  have HSN : Hid (sizeN box = (N : Int)) := by rw [Hid, ho.size.2.2.1, hN]
  have HO := hide ho
  have HG1 := hide hG1
  have Hg1 := hide hg1
  have HGP := hide hGP
  have HGB := hide hGB
  have HY := hide hY
  have HJ := hide hJ
  have H0 := hide h0
  have HKG := hide hKG
  have HKS := hide hKs
  clear hG hG1 hg1 ho hY hJ hJx h0 hKG hKs hN hGP hGB
  refine callsIn_of_wp Try.func91 rfl trivial ?_ hro
  simp only [Try.ntmps91, List.size_toArray, List.length_cons, List.length_nil, Nat.reduceAdd, Nat.reduceSub, Array.replicate_succ, Array.replicate_zero, List.push_toArray, List.append_toArray, List.nil_append, List.cons_append]
  gi_wp2_with (refine ⟨trivial, ?_⟩; gi_at_call 92; refine (callsIn_wide.2 (size_any _ _ _ box _ HG1.out.box)).mono ?_; rintro e w' ⟨rfl, hw'⟩; obtain rfl := hw'.symm; rw [HSN.out])
  gi_loopw [17] (fun i wr => ∃ k : Nat, k ≤ N ∧ i = .int .i64 k ∧ J (upto box rs k) wr ∧ Good wr ∧ W.heap.size ≤ wr.heap.size) (fun i _ => N - (intOf i).toNat)
  case atStart => exact ⟨0, Nat.zero_le _, rfl, H0.out, Hg1.out, Nat.le_refl _⟩
  case round =>
    obtain ⟨k, hk, rfl, hJs, hgr, hsz⟩ := hrel
    have hGr := HGP.out _ hgr
    have Hgr := hide hgr
    clear hgr
    have HJS := hide hJs
    have HGR := hide hGr
    have HSZ := hide hsz
    clear hJs hsz c0 c1
    by_cases hlt : k < N
    · obtain ⟨p0, p1⟩ := hGr.here.cells
      clear hGr
      gi_wp2_with fail
      refine ⟨trivial, (callsIn_wide.2 (callsIn_wide.1 (index_row ba bl bc box (k : Int) wr HGR.out.box HO.out.size.2.1 (by omega) (by rw [HSN.out]; omega)))).mono ?_⟩
      rintro e w2 ⟨⟨g, rfl, q1, q2, q3⟩, q4⟩
      have Hg2 := hide (HGB.out _ _ Hgr.out q4)
      have G2 := HGR.out.below q4
      obtain ⟨p0, p1⟩ := G2.here.cells
      have hkN : k < (prod box).toNat := by rw [HNN.out]; exact hlt
      have hbd := index_bd HO.out hkN
      have T2 : Told W.heap.size g bl (indexV box k) w2 := ⟨by have := HSZ.out; omega, q3.congr (fun j hj => by rw [indexV_getD box k j (by rw [HGR.out.box.1]; exact hj)]), by rw [hbd.2, HGR.out.box.1], by have := HO.out.rank; have := HGR.out.box.1; omega, hbd.1⟩
      have J2 := abides_below HJ.out HJS.out q4
      have A2 := above_any ra rl rc rs (some ⟨g, 0, none⟩) bl bl (indexV box k) w2 G2.rows T2.ints (fits_of HO.out hkN)
      have HG2 := hide G2
      have HT2 := hide T2
      have HJ2 := hide J2
      have HA2 := hide A2
      have HSZ2 : Hid (W.heap.size ≤ w2.heap.size) := Nat.le_trans HSZ.out q4.size
      have HKN := hide hkN
      clear q1 q2 q3 q4 G2 T2 J2 A2 hkN hbd
      cases ha : aboveB rs (indexV box k) with
      | false =>
        have HAB := hide ha
        clear ha
        gi_wp2_with (refine ⟨trivial, ?_⟩; gi_at_call 94; refine (callsIn_wide.2 HA2.out).mono ?_; rintro e w3 ⟨rfl, hb⟩; rw [HAB.out]; have HB3 := hide hb; clear hb)
        refine ⟨(fun f e => by cases e), ?_⟩
        gi_wp2
        go_roundw
        case rel => exact ⟨k + 1, by omega, by go_num, by rw [upto_succ, if_neg (by rw [HAB.out]; simp), List.append_nil]; exact abides_below HJ.out HJ2.out HB3.out, HGB.out _ _ Hg2.out HB3.out, Nat.le_trans HSZ2.out HB3.out.size⟩
        case measure => simp [intOf]; omega
      | true =>
        have HAB := hide ha
        clear ha
        gi_wp2_with (refine ⟨trivial, ?_⟩; gi_at_call 94; refine (callsIn_wide.2 HA2.out).mono ?_; rintro e w3 ⟨rfl, hb⟩; rw [HAB.out]; have HB3 := hide hb; obtain ⟨post, hpost⟩ := upto_here HKN.out HAB.out; obtain ⟨fn, tmps, assign, body, hy, hR⟩ := HY.out (upto box rs k) (indexV box k) post g w3 hpost (abides_below HJ.out HJ2.out hb) (HT2.out.below hb); have HR := hide hR; clear hb hR hpost)
        refine HR.out.mono ?_
        rintro e w4 (⟨rfl, j4, k4⟩ | ⟨rfl, jx4⟩)
        · have HJ4 := hide j4
          have HK4 := hide k4
          clear HR hy j4 k4
          gi_wp2
          go_roundw
          case rel => exact ⟨k + 1, by omega, by go_num, by rw [upto_succ, if_pos HAB.out]; exact HJ4.out, HKG.out _ _ HK4.out (HGB.out _ _ Hg2.out HB3.out), Nat.le_trans (Nat.le_trans HSZ2.out HB3.out.size) (HKS.out _ _ HK4.out)⟩
          case measure => simp [intOf]; omega
        · have HJ4 := hide jx4
          clear HR hy jx4
          gi_wp2
          refine bodyPost_ret (results_none rfl _ _ _) rfl ?_
          exact ⟨⟨_, rfl⟩, .inr HJ4.out⟩
    · obtain rfl : k = N := by omega
      gi_wp2
      go_end0
      refine ⟨⟨_, rfl⟩, .inl ?_⟩
      have := HJS.out
      rw [← HNN.out] at this
      exact this

set_option maxHeartbeats 1000000 in
theorem ptThrough_any (ba : Option Addr) (bl bc : Nat) (ra : Option Addr) (rl rc : Nat) (w : World) :
    Calls Try.prog 68 #[.agg #[.slice ba bl bc, .slice ra rl rc]] w fun e w' => e = .returned (.func (.func 91) #[] #[.pointer (some ⟨w.heap.size, 0, none⟩)]) ∧ w' = w.alloc (.cells #[.slice ba bl bc, .slice ra rl rc] 64) := by
  go_enter Try.func68, Try.ntmps68
  go_wp2
  go_ret
  exact ⟨rfl, rfl⟩
end Go.Proofs.Ytoidgdbgpbcebaa.V
namespace Go.Proofs.Ytoidgdbgpbcebaa.V
open Go.RowKit
set_option linter.unusedVariables false

/-- A row of the call's own: its Coef lies in a block of its own. -/
def RowNew (w : World) (g l : Nat) (cs : List Int) (N : Nat) : Prop := RowI w g l cs ∧ N ≤ g
set_option maxHeartbeats 4000000 in
theorem fresh1_any (a : Option Addr) (l c : Nat) (cs : List Int) (K : Int) (w : World) (h : Ints w a l cs) (h6 : l ≤ 4) :
    Calls Try.prog 73 #[.agg #[.slice a l c, .int .i64 K]] w fun e w' => (∃ g : Nat, e = .returned (.agg #[.slice (some ⟨g, 0, none⟩) l l, .int .i64 K]) ∧ RowI w' g l cs ∧ w.heap.size + 2 ≤ g) ∧ Below w.heap.size w w' := by
  have B1 : Below w.heap.size w ((w.alloc (.cells #[.slice a l c, .int .i64 K] 66)).alloc (.cells #[.slice none 0 0, .int .i64 0] 66)) := bl_on (bl_new _) (bl_new _)
  have HB := hide B1
  have H := hide (h.below B1)
  have b1 : ((w.alloc (.cells #[.slice a l c, .int .i64 K] 66)).alloc (.cells #[.slice none 0 0, .int .i64 0] 66)).heap[w.heap.size]? = some (.cells #[.slice a l c, .int .i64 K] 66 (0, 0)) := (Below.heap_alloc _ _ _ (by simp)).trans (World.alloc_heap_new _ _)
  have b2 : ((w.alloc (.cells #[.slice a l c, .int .i64 K] 66)).alloc (.cells #[.slice none 0 0, .int .i64 0] 66)).heap[w.heap.size + 1]? = some (.cells #[.slice none 0 0, .int .i64 0] 66 (0, 0)) := by have := World.alloc_heap_new (w.alloc (.cells #[.slice a l c, .int .i64 K] 66)) (.cells #[.slice none 0 0, .int .i64 0] 66); simpa using this
  obtain ⟨W1, hW1⟩ : ∃ W1, W1 = (w.alloc (.cells #[.slice a l c, .int .i64 K] 66)).alloc (.cells #[.slice none 0 0, .int .i64 0] 66) := ⟨_, rfl⟩
  rw [← hW1] at HB H b1 b2
  have hz : W1.heap.size = w.heap.size + 2 := by rw [hW1]; simp
  have HC := hide (fun W (hb : Below W1.heap.size W1 W) => fresh_any a l c cs W (H.out.below hb) (by omega))
  have HW1 := hide hW1
  have k1 : W1.cell? ⟨w.heap.size, 0, none⟩ = some (.slice a l c) := by simp [World.cell?, b1]
  have k2 : W1.cell? ⟨w.heap.size, 1, none⟩ = some (.int .i64 K) := by simp [World.cell?, b1]
  have k3 : W1.cell? ⟨w.heap.size + 1, 0, none⟩ = some (.slice none 0 0) := by simp [World.cell?, b2]
  have k4 : W1.cell? ⟨w.heap.size + 1, 1, none⟩ = some (.int .i64 0) := by simp [World.cell?, b2]
  have k5 : W1.frozen? ⟨w.heap.size + 1, 0, none⟩ = false := by simp [World.frozen?, b2]
  have k6 : W1.frozen? ⟨w.heap.size + 1, 1, none⟩ = false := by simp [World.frozen?, b2]
  have HBL2 := hide b2
  have HK := hide (And.intro (And.intro k1 k2) (And.intro (And.intro k3 k4) (And.intro k5 k6)))
  clear h B1 b1 b2 hW1 k1 k2 k3 k4 k5 k6
  go_enter Try.func73, Try.ntmps73
  go_wp2_with fail
  rw [← HW1.out]
  obtain ⟨⟨k1, k2⟩, ⟨k3, k4⟩, k5, k6⟩ := HK.out
  have hlt : w.heap.size + 1 < W1.heap.size := by omega
  go_region_with (go_at_call 38; refine (HC.out _ (Below.refl _ _).drew).mono ?_; rintro e w2 ⟨⟨g, rfl, r, hg⟩, hb⟩; have hb' := (Below.refl W1.heap.size W1).drew.trans hb; have HR := hide r; have HBb := hide hb'; have hg' : W1.heap.size ≤ g := hg; have j1 := (hb'.cell (p := ⟨w.heap.size, 0, none⟩) (by simp only; omega)).trans k1; have j2 := (hb'.cell (p := ⟨w.heap.size, 1, none⟩) (by simp only; omega)).trans k2; have j3 := (hb'.cell (p := ⟨w.heap.size + 1, 0, none⟩) (by simp only; omega)).trans k3; have j4 := (hb'.cell (p := ⟨w.heap.size + 1, 1, none⟩) (by simp only; omega)).trans k4; have j5 := (hb'.frozen (p := ⟨w.heap.size + 1, 0, none⟩) (by simp only; omega)).trans k5; have j6 := (hb'.frozen (p := ⟨w.heap.size + 1, 1, none⟩) (by simp only; omega)).trans k6; have hsz := hb'.size; clear hb hb' r hg)
  all_goals go_wp2_with fail
  all_goals
    have bb : ((w2.setCell ⟨w.heap.size + 1, 0, none⟩ (.slice (some ⟨g, 0, none⟩) l l)).setCell ⟨w.heap.size + 1, 1, none⟩ (.int .i64 K)).heap[w.heap.size + 1]? = some (.cells #[.slice (some ⟨g, 0, none⟩) l l, .int .i64 K] 66 (0, 0)) := by
      have e : w2.heap[w.heap.size + 1]? = some (.cells #[.slice none 0 0, .int .i64 0] 66 (0, 0)) := (HBb.out.block _ (by omega)).trans HBL2.out
      simp [World.setCell, Array.getElem?_modify, e]
    have y1 : ((w2.setCell ⟨w.heap.size + 1, 0, none⟩ (.slice (some ⟨g, 0, none⟩) l l)).setCell ⟨w.heap.size + 1, 1, none⟩ (.int .i64 K)).cell? ⟨w.heap.size + 1, 0, none⟩ = some (.slice (some ⟨g, 0, none⟩) l l) := by simp only [World.cell?, bb]; rfl
    have y2 : ((w2.setCell ⟨w.heap.size + 1, 0, none⟩ (.slice (some ⟨g, 0, none⟩) l l)).setCell ⟨w.heap.size + 1, 1, none⟩ (.int .i64 K)).cell? ⟨w.heap.size + 1, 1, none⟩ = some (.int .i64 K) := by simp only [World.cell?, bb]; rfl
    refine bodyPost_ret (v := .agg #[.slice (some ⟨g, 0, none⟩) l l, .int .i64 K]) (by simp [results, Try.results73, go_sem, y1, y2]) rfl ⟨⟨g, rfl, ?_, by omega⟩, ?_⟩
    · exact (HR.out.setOther (a := ⟨w.heap.size + 1, 0, none⟩) (by simp only; omega) _).setOther (a := ⟨w.heap.size + 1, 1, none⟩) (by simp only; omega) _
    · exact ((bl_on HB.out HBb.out).setCell (p := ⟨w.heap.size + 1, 0, none⟩) (by simp only; omega) _).setCell (p := ⟨w.heap.size + 1, 1, none⟩) (by simp only; omega) _

theorem info_row : (Try.prog.info? 66).map (fun i => (i.zero, i.size, i.bytes)) = some (some (.agg #[.slice none 0 0, .int .i64 0]), 2, 32) := by kernel_rfl
/-- The rows that have been copied: the first k of them. -/
def RowsTo (w : World) (R rl N : Nat) (rs : List (List Int × Int)) (k : Nat) : Prop := ∃ f, w.rowIs R 66 (rl * 2) f ∧ ∀ j, j < k → ∃ g l, f (j * 2) = .slice (some ⟨g, 0, none⟩) l l ∧ f (j * 2 + 1) = .int .i64 (rs[j]?.getD ([], 0)).2 ∧ RowI w g l (rs[j]?.getD ([], 0)).1 ∧ (rs[j]?.getD ([], 0)).1.length = l ∧ g ≠ R ∧ N ≤ g
theorem RowsTo.lt {w : World} {R rl N k : Nat} {rs : List (List Int × Int)} (h : RowsTo w R rl N rs k) : R < w.heap.size := by
  obtain ⟨f, h1, _⟩ := h
  exact h1.lt
theorem RowsTo.below {w w' : World} {R rl N k : Nat} {rs : List (List Int × Int)} (h : RowsTo w R rl N rs k) (hb : Below w.heap.size w w') : RowsTo w' R rl N rs k := by
  obtain ⟨f, h1, h2⟩ := h
  refine ⟨f, h1.of_block (hb.block _ h1.lt), fun j hj => ?_⟩
  obtain ⟨g, l, e1, e2, e3, e4⟩ := h2 j hj
  exact ⟨g, l, e1, e2, e3.below hb, e4⟩
theorem RowsTo.snoc {w : World} {R rl N k g l : Nat} {rs : List (List Int × Int)} (h : RowsTo w R rl N rs k) (hr : RowI w g l (rs[k]?.getD ([], 0)).1) (hl : (rs[k]?.getD ([], 0)).1.length = l) (hg : g ≠ R) (hN : N ≤ g) :
    RowsTo ((w.setCell ⟨R, k * 2, none⟩ (.slice (some ⟨g, 0, none⟩) l l)).setCell ⟨R, k * 2 + 1, none⟩ (.int .i64 (rs[k]?.getD ([], 0)).2)) R rl N rs (k + 1) := by
  obtain ⟨f, h1, h2⟩ := h
  refine ⟨_, (h1.set (k * 2) _).set (k * 2 + 1) _, fun j hj => ?_⟩
  have keep : ∀ {g' l' : Nat} {xs : List Int}, RowI w g' l' xs → g' ≠ R → RowI ((w.setCell ⟨R, k * 2, none⟩ (.slice (some ⟨g, 0, none⟩) l l)).setCell ⟨R, k * 2 + 1, none⟩ (.int .i64 (rs[k]?.getD ([], 0)).2)) g' l' xs := fun hh hne => (hh.setOther (a := ⟨R, k * 2, none⟩) hne _).setOther (a := ⟨R, k * 2 + 1, none⟩) hne _
  by_cases e : j = k
  · subst e
    refine ⟨g, l, ?_, ?_, keep hr hg, hl, hg, hN⟩
    · simp
    · simp
  · obtain ⟨g', l', e1, e2, e3, e4, e5, e6⟩ := h2 j (by omega)
    refine ⟨g', l', ?_, ?_, keep e3 e5, e4, e5, e6⟩
    · rw [if_neg (by omega), if_neg (by omega)]; exact e1
    · rw [if_neg (by omega), if_neg (by omega)]; exact e2
theorem rws_of_to {w : World} {R rl N : Nat} {rs : List (List Int × Int)} (h : RowsTo w R rl N rs rl) (hl : rs.length = rl) (hm : rl ≤ 8) (hb : ∀ r ∈ rs, (-1048576 ≤ r.2 ∧ r.2 ≤ 1048576) ∧ r.1.length ≤ 4 ∧ ∀ c ∈ r.1, -1048576 ≤ c ∧ c ≤ 1048576) : Rws w (some ⟨R, 0, none⟩) rl rs := by
  obtain ⟨f, h1, h2⟩ := h
  refine ⟨hl, by omega, .inr ⟨R, 0, rfl, fun j hj => ?_⟩⟩
  obtain ⟨g, l, e1, e2, e3, e4, _⟩ := h2 j hj
  have hj' : j < rs.length := by omega
  have hr := hb _ (mem_getR rs j hj')
  have c1 := h1.cell (i := j * 2) (by omega)
  have c2 := h1.cell (i := j * 2 + 1) (by omega)
  rw [e1] at c1
  rw [e2] at c2
  refine ⟨some ⟨g, 0, none⟩, l, l, by rw [Nat.zero_add]; exact c1, by rw [Nat.zero_add]; exact c2, ?_, ⟨Nat.le_refl _, fun e => by cases e⟩, by omega⟩
  exact ints_of_rowI e3 e4 (by omega) (fun x hx => by have := hr.2.2 x hx; omega)

set_option maxHeartbeats 4000000 in
theorem each_any (ra : Option Addr) (rl rc : Nat) (rs : List (List Int × Int)) (w : World) (hr : Rws w ra rl rs) (hm : rl ≤ 8) (hb4 : ∀ r ∈ rs, r.1.length ≤ 4) :
    Calls Try.prog 95 #[.slice ra rl rc, .func (.func 73) #[] #[]] w fun e w' => (∃ R : Nat, e = .returned (.slice (some ⟨R, 0, none⟩) rl rl) ∧ RowsTo w' R rl w.heap.size rs rl ∧ w.heap.size ≤ R) ∧ Below w.heap.size w w' := by
  have HR := hide hr
  have HL := hide hr.1
  have HB4 := hide hb4
  obtain ⟨i0, hi, hz0, hz1, hz2⟩ := info_parts info_row
  have hmk : ∀ W : World, (Instr.makeSlice 62 (.int .i64 (rl : Int)) (.int .i64 (rl : Int))).run Try.prog W = .ok (.slice (some ⟨W.heap.size, 0, none⟩) rl rl) (W.alloc (.cells (madeCells #[.slice none 0 0, .int .i64 0] (rl * 2)) 66)) := fun W => by
    have := run_make (P := Try.prog) W 62 66 i0 (.agg #[.slice none 0 0, .int .i64 0]) Try.underlying62 hi hz0 .i64 .i64 rl rl (by omega) (by omega) (by rw [hz2]; omega) (by omega)
    simpa [hz1, Value.cells] using this
  have hrow : RowsTo (w.alloc (.cells (madeCells #[.slice none 0 0, .int .i64 0] (rl * 2)) 66)) w.heap.size rl w.heap.size rs 0 := ⟨fun i => (#[Value.slice none 0 0, .int .i64 0])[i % 2]!, ⟨_, World.alloc_heap_new _ _, size_madeCells _ _, fun i hi => by simp [madeCells, hi]⟩, fun j hj => by omega⟩
  have HROW := hide hrow
  have HB0 : Hid (Below w.heap.size w (w.alloc (.cells (madeCells #[.slice none 0 0, .int .i64 0] (rl * 2)) 66))) := bl_new _
  clear hr hb4 hi hz0 hz1 hz2 hrow
  go_enter Try.func95, Try.ntmps95
  go_wp2_with fail
  clear hmk
  go_loopw [13] (fun i wr => ∃ k : Nat, k ≤ rl ∧ i = .int .i64 k ∧ RowsTo wr w.heap.size rl w.heap.size rs k ∧ Below w.heap.size w wr) (fun i _ => rl - (intOf i).toNat)
  case atStart => exact ⟨0, Nat.zero_le _, rfl, HROW.out, HB0.out⟩
  case round =>
    obtain ⟨k, hk, rfl, hT, hB⟩ := hrel
    have HT := hide hT
    have HB := hide hB
    clear HROW HB0
    by_cases hlt : k < rl
    · have hkl : k < rs.length := by rw [HL.out]; exact hlt
      obtain ⟨b, off, rfl, hat⟩ := (HR.out.below HB.out).at (by omega)
      obtain ⟨a, l, c, c1, c2, c3, c4, c5⟩ := hat k hlt
      have z1 := lt_of_cell c1
      have z2 := lt_of_cell c2
      simp only at z1 z2
      have h4 := HB4.out _ (mem_getR rs k hkl)
      have S := fun (W : World) (g : Nat) (h : RowsTo W w.heap.size rl w.heap.size rs k) => h.snoc (g := g) (l := l)
      obtain ⟨q, hq⟩ : ∃ q, q = rs[k]?.getD ([], 0) := ⟨_, rfl⟩
      rw [← hq] at c2 c3 h4
      simp only [← hq] at S
      obtain ⟨cs, K⟩ := q
      simp only at c2 c3 h4 S
      have HS := hide S
      have hll : cs.length = l := c3.1
      have B2 : Below wr.heap.size wr (wr.alloc (.cells #[.slice a l c, .int .i64 K] 66)) := bl_new _
      have HC := hide (fresh1_any a l c cs K (wr.alloc (.cells #[.slice a l c, .int .i64 K] 66)) (c3.below B2) (by omega))
      have HB2 := hide B2
      have hRl := hT.lt
      have HLL := hide hll
      clear hat c3 c4 c5 hq B2 S hT hB hll h4 hkl
      go_wp2_with fail
      refine HC.out.mono ?_
      rintro e w2 ⟨⟨g, rfl, hr2, hg2⟩, hb2⟩
      have T2 := HT.out.below (bl_on HB2.out hb2)
      obtain ⟨f, r1, r2⟩ := T2
      have d1 := r1.cell (i := k * 2) (by omega)
      have d2 := r1.cell (i := k * 2 + 1) (by omega)
      have d3 := r1.frozen (k * 2)
      have d4 := r1.frozen (k * 2 + 1)
      have z3 := r1.lt
      have hsz := HB.out.size
      rw [World.size_alloc] at hg2
      have HT2 := hide (HS.out w2 g ⟨f, r1, r2⟩ hr2 HLL.out (by omega) (by omega))
      have HBb := hide (bl_on HB.out (bl_on HB2.out hb2))
      clear hb2 hr2 r1 r2
      go_wp2_with fail
      go_roundw
      case rel => exact ⟨k + 1, by omega, by go_num, HT2.out, (HBb.out.setCell (p := ⟨w.heap.size, k * 2, none⟩) (Nat.le_refl _) _).setCell (p := ⟨w.heap.size, k * 2 + 1, none⟩) (Nat.le_refl _) _⟩
      case measure => simp [intOf]; omega
    · obtain rfl : k = rl := by omega
      clear hT hB
      go_wp2_with fail
      go_ret
      exact ⟨⟨w.heap.size, rfl, HT.out, Nat.le_refl _⟩, HB.out⟩
end Go.Proofs.Ytoidgdbgpbcebaa.V
namespace Go.Proofs.Ytoidgdbgpbcebaa.V
open Go Go.RowKit
set_option linter.unusedVariables false
variable {F : Fence} {n : Nat} {P : Program}

theorem rangeFunc_tellsA {g : Operand} {ps : Array Tmp} {assign body : Code} {Q : Exit → Act → World → Prop} {a : Act} {w : World}
    (hro : F.round = none) (h1 : 1 ≤ n) {gf : Nat} {lb : Array Value} (hg : a.eval g = .func (.func gf) #[] lb) (hFg : F.fn gf) (eg : ∀ args w, (callFunc gf args).run P w = .ok (.enter gf args) w)
    {L : List (List Int)} {len : Nat} {Kp : World → World → Prop} {w0 : World} (hseq : TellsIn F (n - 1) P gf lb L len Kp w0)
    (hKt : ∀ {A B C : World}, Kp A B → Kp B C → Kp A C) (hKb : ∀ (W : World) (l : Nat) (o o' : Obj), w.heap.size ≤ l → W.heap[l]? = some o → o.isCells = false → o.isWalk = false → Kp W (W.putObj l o'))
    (hb0 : Below w0.heap.size w0 w) (hps : ps.size = 1)
    (I : List (List Int) → World → Prop) (Ix : Code → World → Prop) (hI : OwnFrom w.heap.size I) (hIx : OwnFrom w.heap.size Ix) (h0 : I [] w) (bt : TypeId) (hKa : ∀ (W : World) (o : Obj), Kp W (W.alloc o)) (a₁ : Nat → Nat → Act)
    (hassign : ∀ (l gx X : Nat) (W : World) (K : Act → World → Prop), X = W.heap.size → K (a₁ gx X) (W.alloc (.cells #[.slice (some ⟨gx, 0, none⟩) len len] bt)) →
      assign.wpIn (F.inRound l) (n - 1 - 1) P (Exit.then K (fun _ _ _ => False)) { tmps := (ps.zip #[.slice (some ⟨gx, 0, none⟩) len len]).foldl (fun t (p, v) => t.setIfInBounds p v) a.tmps, defers := [] } W)
    (hbody : ∀ (l : Nat) (pre : List (List Int)) (x : List Int) (post : List (List Int)) (gx X : Nat) (W : World), L = pre ++ x :: post → I pre W → Told w.heap.size gx len x W → w.heap.size ≤ X → W.heap[X]? = some (.cells #[.slice (some ⟨gx, 0, none⟩) len len] bt (0, 0)) → body.wpIn (F.inRound l) (n - 1 - 1) P (leftBy w.heap.size Kp (I (pre ++ [x])) Ix W) (a₁ gx X) W)
    (hdone : ∀ (D : Nat) (W : World), w.heap.size ≤ D → I L W → W.heap[D]? = some (.deferred (some [])) → Q .normal { a with defers := { target := .collected D, args := #[] } :: a.defers } W)
    (hstop : ∀ (D : Nat) (c : Code) (W : World), w.heap.size ≤ D → Ix c W → W.heap[D]? = some (.deferred (some [])) → c.wpIn F n P Q { a with defers := { target := .collected D, args := #[] } :: a.defers } W) :
    (Code.rangeFunc g ps assign body).wpIn F n P Q a w := by
  refine wpIn_rangeFunc fun fn hfn => ?_
  rw [hro]
  -- the world that the iterator begins in
  generalize hW1 : (w.alloc (.deferred (some []))).alloc (.loop (recOf w fn a ps assign body .ready none)) = W1
  have hB1 : Books w W1 (recOf w fn a ps assign body .ready none) := by
    rw [← hW1]
    refine ⟨?_, (Below.heap_alloc _ _ _ (by simp)).trans (World.alloc_heap_new w _)⟩
    have := World.alloc_heap_new (w.alloc (.deferred (some []))) (.loop (recOf w fn a ps assign body .ready none))
    rwa [World.size_alloc] at this
  have hs1 : W1.heap.size = w.heap.size + 2 := by rw [← hW1]; simp
  have hI1 : I [] W1 := by rw [← hW1]; exact hI.alloc _ (hI.alloc _ h0)
  have hbel : Below w0.heap.size w0 W1 := by
    rw [← hW1]
    have := hb0.size
    exact (hb0.alloc this _).alloc (by simp; omega) _
  -- what the law's own blocks do to the caller's words
  have hown : ∀ {β : Type} {X : β → World → Prop}, OwnFrom w.heap.size X → AbidesFrom W1.heap.size X := fun hX s A B row hs hgr hr =>
    hX s A B row hs hgr (fun r e => by
      obtain ⟨h1, o, ho, hw⟩ := hr r e
      exact ⟨by omega, o, ho, Obj.not_cells_of_walk hw⟩)
  have hput : ∀ {β : Type} {X : β → World → Prop} {s : β} {W : World} {r r' : Loop}, OwnFrom w.heap.size X → X s W → Books w W r → X s (W.putObj (w.heap.size + 1) (.loop r')) := fun hX hs hb => hX.putObj _ hs (by omega) hb.1 rfl
  have hkp : ∀ {W : World} {r r' : Loop}, Books w W r → Kp W (W.putObj (w.heap.size + 1) (.loop r')) := fun hb => hKb _ _ _ _ (by omega) hb.1 rfl rfl
  refine ⟨w.heap.size + 1, [{ target := .collected w.heap.size, args := #[] }], W1, { target := .fn (.func gf) lb, args := #[.func (.yield (w.heap.size + 1)) #[] #[]] }, W1, gf, #[.func (.yield (w.heap.size + 1)) #[] #[]] ++ lb, W1, ?_, ?_, ?_, ?_, fun _ => h1, ?_⟩
  · rw [← hW1]; exact run_enterLoop_outer _ _ _ _ _
  · simp only [resolve, hg]; simp [go_sem]
  · intro f' hf'
    simp [Target.leads] at hf'
    exact hf' ▸ hFg
  · simp [invoke, go_sem, eg]
  refine (hseq (w.heap.size + 1) (fun t W => I t W ∧ Books w W (recOf w fn a ps assign body .ready none)) (fun _ W => ∃ c, Ix c W ∧ Books w W (recOf w fn a ps assign body .done (some c))) W1 hbel ?_ ?_ ?_ ⟨hI1, hB1⟩).mono ?_
  · exact fun s A B row hs hgr hr => ⟨hown hI s A B row hs.1 hgr hr, hs.2.grown hgr (fun x e => (hr x e).2)⟩
  · rintro s A B row ⟨c, hc, hb⟩ hgr hr
    exact ⟨c, hown hIx c A B row hc hgr hr, hb.grown hgr (fun x e => (hr x e).2)⟩
  · rintro pre x post gx W0 hL ⟨hi0, hb0'⟩ htold0
    refine ⟨fn, _, assign, body, run_yield hb0'.1 (by simp [recOf, hps]), roundIn_of_wpIn hfn (hassign _ gx W0.heap.size W0 _ rfl ?_)⟩
    obtain ⟨W, hWA⟩ : ∃ W, W = W0.alloc (.cells #[.slice (some ⟨gx, 0, none⟩) len len] bt) := ⟨_, rfl⟩
    have hold : ∀ b, b < W0.heap.size → W.heap[b]? = W0.heap[b]? := fun b hb => by rw [hWA]; exact Below.heap_alloc _ _ _ hb
    have hi : I pre W := by rw [hWA]; exact hI.alloc _ hi0
    have hb : Books w W (recOf w fn a ps assign body .ready none) := ⟨(hold _ (Array.getElem?_eq_some_iff.1 hb0'.1).1).trans hb0'.1, (hold _ (Array.getElem?_eq_some_iff.1 hb0'.2).1).trans hb0'.2⟩
    have htold := htold0.of_block (hold _ htold0.lt)
    have hX : W.heap[W0.heap.size]? = some (.cells #[.slice (some ⟨gx, 0, none⟩) len len] bt (0, 0)) := by rw [hWA]; exact World.alloc_heap_new _ _
    have hXs : w.heap.size + 1 < W0.heap.size := (Array.getElem?_eq_some_iff.1 hb0'.1).1
    have hK0 : Kp W0 W := by rw [hWA]; exact hKa _ _
    rw [← hWA]
    refine ⟨_, run_beginRound hb.1 rfl, ?_⟩
    have hb2 := hb.put { recOf w fn a ps assign body .ready none with state := .busy }
    have hne : gx ≠ w.heap.size + 1 := by have := htold.1; omega
    refine wpIn_mono (hbody _ pre x post gx W0.heap.size _ hL (hput hI hi hb) ((htold.of_block (World.putObj_heap_other hne)).mono (by omega)) (by omega) ((World.putObj_heap_other (by omega)).trans hX)) ?_
    -- the round's end: the record is put again
    have hend : ∀ (j : Option Code) (W3 : World), KeepsFrom w.heap.size (W.putObj (w.heap.size + 1) (.loop { recOf w fn a ps assign body .ready none with state := .busy })) W3 →
        (Instr.endRound (w.heap.size + 1) j).run P W3 = .ok (.bool j.isNone) (W3.putObj (w.heap.size + 1) (.loop (recOf w fn a ps assign body (if j.isNone then .ready else .done) j))) ∧
        Books w W3 { recOf w fn a ps assign body .ready none with state := .busy } := fun j W3 hk =>
      ⟨run_endRound j (hb2.from hk).1, hb2.from hk⟩
    intro e a3 W3 hp
    cases e with
    | normal =>
      obtain ⟨hk, hp2, hi3⟩ := hp
      obtain ⟨hr, hb3⟩ := hend none W3 hk
      exact ⟨_, _, hr, .inl ⟨rfl, ⟨hput hI hi3 hb3, hb3.put _⟩, hKt hK0 (hKt (hKt (hkp hb) hp2) (hkp hb3))⟩⟩
    | ret =>
      obtain ⟨hr, hb3⟩ := hend (some .ret) W3 hp.1
      exact ⟨_, _, hr, .inr ⟨rfl, _, hput hIx hp.2 hb3, hb3.put _⟩⟩
    | exit id =>
      obtain ⟨hr, hb3⟩ := hend (some (.exit id)) W3 hp.1
      exact ⟨_, _, hr, .inr ⟨rfl, _, hput hIx hp.2 hb3, hb3.put _⟩⟩
    | goto x =>
      obtain ⟨hr, hb3⟩ := hend (some (.goto x)) W3 hp.1
      exact ⟨_, _, hr, .inr ⟨rfl, _, hput hIx hp.2 hb3, hb3.put _⟩⟩
    | panic ch => exact hp.elim
    | outgrown => exact hp.elim
  · rintro e W2 ⟨⟨v, rfl⟩, ⟨hi, hb⟩ | ⟨c, hi, hb⟩⟩
    · exact ⟨none, _, run_endLoop hb.1 (by simp [recOf]), hdone _ _ (Nat.le_refl _) (hput hI hi hb) (hb.put _).2⟩
    · exact ⟨some c, _, run_endLoop hb.1 (by simp [recOf]), hstop _ c _ (Nat.le_refl _) (hput hIx hi hb) (hb.put _).2⟩
end Go.Proofs.Ytoidgdbgpbcebaa.V
namespace Go.Proofs.Ytoidgdbgpbcebaa.V
open Go Go.RowKit
set_option linter.unusedVariables false

/-- The iterator tells the values of L, one by one, and goes on as long as it is told to. -/
def TellsV (F : Fence) (n : Nat) (P : Program) (g : Nat) (lb : Array Value) (L : List Value) (Kp : World → World → Prop) (w : World) : Prop :=
  ∀ (l : Nat) (J : List Value → World → Prop) (Jx : Unit → World → Prop) (W : World), Below w.heap.size w W → AbidesFrom W.heap.size J → AbidesFrom W.heap.size Jx →
    (∀ pre x post W1, L = pre ++ x :: post → J pre W1 → YieldAt F (n - 1) P l #[x] W1 fun e W' => (e = .returned (.bool true) ∧ J (pre ++ [x]) W' ∧ Kp W1 W') ∨ (e = .returned (.bool false) ∧ Jx () W')) →
    J [] W → CallsIn F n P g (#[.func (.yield l) #[] #[]] ++ lb) W fun e W' => (∃ v, e = .returned v) ∧ (J L W' ∨ Jx () W')

variable {F : Fence} {n : Nat} {P : Program}

theorem rangeFunc_vals {g : Operand} {ps : Array Tmp} {assign body : Code} {Q : Exit → Act → World → Prop} {a : Act} {w : World}
    (hro : F.round = none) (h1 : 1 ≤ n) {gf : Nat} {lb : Array Value} (hg : a.eval g = .func (.func gf) #[] lb) (hFg : F.fn gf) (eg : ∀ args w, (callFunc gf args).run P w = .ok (.enter gf args) w)
    {L : List Value} {Kp : World → World → Prop} {w0 : World} (hseq : TellsV F (n - 1) P gf lb L Kp w0)
    (hKt : ∀ {A B C : World}, Kp A B → Kp B C → Kp A C) (hKb : ∀ (W : World) (l : Nat) (o o' : Obj), w.heap.size ≤ l → W.heap[l]? = some o → o.isCells = false → o.isWalk = false → Kp W (W.putObj l o'))
    (hb0 : Below w0.heap.size w0 w) (hps : ps.size = 1)
    (I : List Value → World → Prop) (Ix : Code → World → Prop) (hI : OwnFrom w.heap.size I) (hIx : OwnFrom w.heap.size Ix) (h0 : I [] w) (a₁ : Value → Act)
    (hassign : ∀ (l : Nat) (gx : Value) (W : World) (K : Act → World → Prop), K (a₁ gx) W →
      assign.wpIn (F.inRound l) (n - 1 - 1) P (Exit.then K (fun _ _ _ => False)) { tmps := (ps.zip #[gx]).foldl (fun t (p, v) => t.setIfInBounds p v) a.tmps, defers := [] } W)
    (hbody : ∀ (l : Nat) (pre : List Value) (x : Value) (post : List Value) (W : World), L = pre ++ x :: post → I pre W → body.wpIn (F.inRound l) (n - 1 - 1) P (leftBy w.heap.size Kp (I (pre ++ [x])) Ix W) (a₁ x) W)
    (hdone : ∀ (D : Nat) (W : World), w.heap.size ≤ D → I L W → W.heap[D]? = some (.deferred (some [])) → Q .normal { a with defers := { target := .collected D, args := #[] } :: a.defers } W)
    (hstop : ∀ (D : Nat) (c : Code) (W : World), w.heap.size ≤ D → Ix c W → W.heap[D]? = some (.deferred (some [])) → c.wpIn F n P Q { a with defers := { target := .collected D, args := #[] } :: a.defers } W) :
    (Code.rangeFunc g ps assign body).wpIn F n P Q a w := by
  refine wpIn_rangeFunc fun fn hfn => ?_
  rw [hro]
  -- the world that the iterator begins in
  generalize hW1 : (w.alloc (.deferred (some []))).alloc (.loop (recOf w fn a ps assign body .ready none)) = W1
  have hB1 : Books w W1 (recOf w fn a ps assign body .ready none) := by
    rw [← hW1]
    refine ⟨?_, (Below.heap_alloc _ _ _ (by simp)).trans (World.alloc_heap_new w _)⟩
    have := World.alloc_heap_new (w.alloc (.deferred (some []))) (.loop (recOf w fn a ps assign body .ready none))
    rwa [World.size_alloc] at this
  have hs1 : W1.heap.size = w.heap.size + 2 := by rw [← hW1]; simp
  have hI1 : I [] W1 := by rw [← hW1]; exact hI.alloc _ (hI.alloc _ h0)
  have hbel : Below w0.heap.size w0 W1 := by
    rw [← hW1]
    have := hb0.size
    exact (hb0.alloc this _).alloc (by simp; omega) _
  -- what the law's own blocks do to the caller's words
  have hown : ∀ {β : Type} {X : β → World → Prop}, OwnFrom w.heap.size X → AbidesFrom W1.heap.size X := fun hX s A B row hs hgr hr =>
    hX s A B row hs hgr (fun r e => by
      obtain ⟨h1, o, ho, hw⟩ := hr r e
      exact ⟨by omega, o, ho, Obj.not_cells_of_walk hw⟩)
  have hput : ∀ {β : Type} {X : β → World → Prop} {s : β} {W : World} {r r' : Loop}, OwnFrom w.heap.size X → X s W → Books w W r → X s (W.putObj (w.heap.size + 1) (.loop r')) := fun hX hs hb => hX.putObj _ hs (by omega) hb.1 rfl
  have hkp : ∀ {W : World} {r r' : Loop}, Books w W r → Kp W (W.putObj (w.heap.size + 1) (.loop r')) := fun hb => hKb _ _ _ _ (by omega) hb.1 rfl rfl
  refine ⟨w.heap.size + 1, [{ target := .collected w.heap.size, args := #[] }], W1, { target := .fn (.func gf) lb, args := #[.func (.yield (w.heap.size + 1)) #[] #[]] }, W1, gf, #[.func (.yield (w.heap.size + 1)) #[] #[]] ++ lb, W1, ?_, ?_, ?_, ?_, fun _ => h1, ?_⟩
  · rw [← hW1]; exact run_enterLoop_outer _ _ _ _ _
  · simp only [resolve, hg]; simp [go_sem]
  · intro f' hf'
    simp [Target.leads] at hf'
    exact hf' ▸ hFg
  · simp [invoke, go_sem, eg]
  refine (hseq (w.heap.size + 1) (fun t W => I t W ∧ Books w W (recOf w fn a ps assign body .ready none)) (fun _ W => ∃ c, Ix c W ∧ Books w W (recOf w fn a ps assign body .done (some c))) W1 hbel ?_ ?_ ?_ ⟨hI1, hB1⟩).mono ?_
  · exact fun s A B row hs hgr hr => ⟨hown hI s A B row hs.1 hgr hr, hs.2.grown hgr (fun x e => (hr x e).2)⟩
  · rintro s A B row ⟨c, hc, hb⟩ hgr hr
    exact ⟨c, hown hIx c A B row hc hgr hr, hb.grown hgr (fun x e => (hr x e).2)⟩
  · rintro pre x post W hL ⟨hi, hb⟩
    refine ⟨fn, _, assign, body, run_yield hb.1 (by simp [recOf, hps]), roundIn_of_wpIn hfn (hassign _ x W _ ?_)⟩
    refine ⟨_, run_beginRound hb.1 rfl, ?_⟩
    have hb2 := hb.put { recOf w fn a ps assign body .ready none with state := .busy }
    refine wpIn_mono (hbody _ pre x post _ hL (hput hI hi hb)) ?_
    -- the round's end: the record is put again
    have hend : ∀ (j : Option Code) (W3 : World), KeepsFrom w.heap.size (W.putObj (w.heap.size + 1) (.loop { recOf w fn a ps assign body .ready none with state := .busy })) W3 →
        (Instr.endRound (w.heap.size + 1) j).run P W3 = .ok (.bool j.isNone) (W3.putObj (w.heap.size + 1) (.loop (recOf w fn a ps assign body (if j.isNone then .ready else .done) j))) ∧
        Books w W3 { recOf w fn a ps assign body .ready none with state := .busy } := fun j W3 hk =>
      ⟨run_endRound j (hb2.from hk).1, hb2.from hk⟩
    intro e a3 W3 hp
    cases e with
    | normal =>
      obtain ⟨hk, hp2, hi3⟩ := hp
      obtain ⟨hr, hb3⟩ := hend none W3 hk
      exact ⟨_, _, hr, .inl ⟨rfl, ⟨hput hI hi3 hb3, hb3.put _⟩, hKt (hKt (hkp hb) hp2) (hkp hb3)⟩⟩
    | ret =>
      obtain ⟨hr, hb3⟩ := hend (some .ret) W3 hp.1
      exact ⟨_, _, hr, .inr ⟨rfl, _, hput hIx hp.2 hb3, hb3.put _⟩⟩
    | exit id =>
      obtain ⟨hr, hb3⟩ := hend (some (.exit id)) W3 hp.1
      exact ⟨_, _, hr, .inr ⟨rfl, _, hput hIx hp.2 hb3, hb3.put _⟩⟩
    | goto x =>
      obtain ⟨hr, hb3⟩ := hend (some (.goto x)) W3 hp.1
      exact ⟨_, _, hr, .inr ⟨rfl, _, hput hIx hp.2 hb3, hb3.put _⟩⟩
    | panic ch => exact hp.elim
    | outgrown => exact hp.elim
  · rintro e W2 ⟨⟨v, rfl⟩, ⟨hi, hb⟩ | ⟨c, hi, hb⟩⟩
    · exact ⟨none, _, run_endLoop hb.1 (by simp [recOf]), hdone _ _ (Nat.le_refl _) (hput hI hi hb) (hb.put _).2⟩
    · exact ⟨some c, _, run_endLoop hb.1 (by simp [recOf]), hstop _ c _ (Nat.le_refl _) (hput hIx hi hb) (hb.put _).2⟩
end Go.Proofs.Ytoidgdbgpbcebaa.V
