/-
  A range over an iterator that tells lists, each behind all that was there before.
-/
import Derived.Test.YtmefgejggpimeaaPtThrough
namespace Go.Proofs.Ytmefgejggpimeaa.V
open Go Go.RowKit Go.Shelf
set_option linter.unusedVariables false

/-- The same, where each list lies behind all that was there before (from m on). -/
def TellsIn2 (F : Fence) (n : Nat) (P : Program) (g : Nat) (lb : Array Value) (L : List (List Int)) (len : Nat) (Kp : World → World → Prop) (w : World) : Prop :=
  ∀ (l : Nat) (J : List (List Int) × Nat → World → Prop) (Jx : Unit → World → Prop) (W : World), Below w.heap.size w W → AbidesFrom W.heap.size J → AbidesFrom W.heap.size Jx →
    (∀ pre m x post gx W1, L = pre ++ x :: post → J (pre, m) W1 → Told W.heap.size gx len x W1 → m ≤ gx → YieldAt F (n - 1) P l #[.slice (some ⟨gx, 0, none⟩) len len] W1 fun e W' => (e = .returned (.bool true) ∧ (∃ m', m' ≤ W'.heap.size ∧ J (pre ++ [x], m') W') ∧ Kp W1 W') ∨ (e = .returned (.bool false) ∧ Jx () W')) →
    (∃ m, m ≤ W.heap.size ∧ J ([], m) W) → CallsIn F n P g (#[.func (.yield l) #[] #[]] ++ lb) W fun e W' => (∃ v, e = .returned v) ∧ ((∃ m, J (L, m) W') ∨ Jx () W')

section
variable {F : Fence} {n : Nat} {P : Program}

theorem rangeFunc_tells2 {g : Operand} {ps : Array Tmp} {assign body : Code} {Q : Exit → Act → World → Prop} {a : Act} {w : World}
    (hro : F.round = none) (h1 : 1 ≤ n) {gf : Nat} {lb : Array Value} (hg : a.eval g = .func (.func gf) #[] lb) (hFg : F.fn gf) (eg : ∀ args w, (callFunc gf args).run P w = .ok (.enter gf args) w)
    {L : List (List Int)} {len : Nat} {Kp : World → World → Prop} {w0 : World} (hseq : TellsIn2 F (n - 1) P gf lb L len Kp w0)
    (hKt : ∀ {A B C : World}, Kp A B → Kp B C → Kp A C) (hKb : ∀ (W : World) (l : Nat) (o o' : Obj), w.heap.size ≤ l → W.heap[l]? = some o → o.isCells = false → o.isWalk = false → Kp W (W.putObj l o'))
    (hb0 : Below w0.heap.size w0 w) (hps : ps.size = 1)
    (I : List (List Int) × Nat → World → Prop) (Ix : Code → World → Prop) (hI : OwnFrom w.heap.size I) (hIx : OwnFrom w.heap.size Ix) (m0 : Nat) (hm0 : m0 ≤ w.heap.size) (h0 : I ([], m0) w) (a₁ : Nat → Act)
    (hassign : ∀ (l gx : Nat) (W : World) (K : Act → World → Prop), K (a₁ gx) W →
      assign.wpIn (F.inRound l) (n - 1 - 1) P (Exit.then K (fun _ _ _ => False)) { tmps := (ps.zip #[.slice (some ⟨gx, 0, none⟩) len len]).foldl (fun t (p, v) => t.setIfInBounds p v) a.tmps, defers := [] } W)
    (hbody : ∀ (l : Nat) (pre : List (List Int)) (m : Nat) (x : List Int) (post : List (List Int)) (gx : Nat) (W : World), L = pre ++ x :: post → I (pre, m) W → Told w.heap.size gx len x W → m ≤ gx → body.wpIn (F.inRound l) (n - 1 - 1) P (leftBy w.heap.size Kp (fun W' => ∃ m', m' ≤ W'.heap.size ∧ I (pre ++ [x], m') W') Ix W) (a₁ gx) W)
    (hdone : ∀ (D : Nat) (W : World), w.heap.size ≤ D → (∃ m, I (L, m) W) → W.heap[D]? = some (.deferred (some [])) → Q .normal { a with defers := { target := .collected D, args := #[] } :: a.defers } W)
    (hstop : ∀ (D : Nat) (c : Code) (W : World), w.heap.size ≤ D → Ix c W → W.heap[D]? = some (.deferred (some [])) → c.wpIn F n P Q { a with defers := { target := .collected D, args := #[] } :: a.defers } W) :
    (Code.rangeFunc g ps assign body).wpIn F n P Q a w := by
  refine wpIn_rangeFunc fun fn hfn => ?_
  rw [hro]
  -- the world that the iterator begins in
  generalize hW1 : (w.alloc (.deferred (some []))).alloc (.loop (recOf w fn a ps assign body .ready none)) = W1
  have hB1 : Books w W1 (recOf w fn a ps assign body .ready none) := by
    rw [← hW1]
    refine ⟨?_, (Below.heap_alloc _ _ _ (by simp)).trans (World.alloc_heap_new w _)⟩
    have := World.alloc_heap_new (w.alloc (.deferred (some []))) (.loop (recOf w fn a ps assign body .ready none))
    rwa [World.size_alloc] at this
  have hs1 : W1.heap.size = w.heap.size + 2 := by rw [← hW1]; simp
  have hI1 : I ([], m0) W1 := by rw [← hW1]; exact hI.alloc _ (hI.alloc _ h0)
  have hbel : Below w0.heap.size w0 W1 := by
    rw [← hW1]
    have := hb0.size
    exact (hb0.alloc this _).alloc (by simp; omega) _
  -- what the law's own blocks do to the caller's words
  have hown : ∀ {β : Type} {X : β → World → Prop}, OwnFrom w.heap.size X → AbidesFrom W1.heap.size X := fun hX s A B row hs hgr hr =>
    hX s A B row hs hgr (fun r e => by
      obtain ⟨h1, o, ho, hw⟩ := hr r e
      exact ⟨by omega, o, ho, Obj.not_cells_of_walk hw⟩)
  have hput : ∀ {β : Type} {X : β → World → Prop} {s : β} {W : World} {r r' : Loop}, OwnFrom w.heap.size X → X s W → Books w W r → X s (W.putObj (w.heap.size + 1) (.loop r')) := fun hX hs hb => hX.putObj _ hs (by omega) hb.1 rfl
  have hkp : ∀ {W : World} {r r' : Loop}, Books w W r → Kp W (W.putObj (w.heap.size + 1) (.loop r')) := fun hb => hKb _ _ _ _ (by omega) hb.1 rfl rfl
  refine ⟨w.heap.size + 1, [{ target := .collected w.heap.size, args := #[] }], W1, { target := .fn (.func gf) lb, args := #[.func (.yield (w.heap.size + 1)) #[] #[]] }, W1, gf, #[.func (.yield (w.heap.size + 1)) #[] #[]] ++ lb, W1, ?_, ?_, ?_, ?_, fun _ => h1, ?_⟩
  · rw [← hW1]; exact run_enterLoop_outer _ _ _ _ _
  · simp only [resolve, hg]; simp [go_sem]
  · intro f' hf'
    simp [Target.leads] at hf'
    exact hf' ▸ hFg
  · simp [invoke, go_sem, eg]
  refine (hseq (w.heap.size + 1) (fun t W => I t W ∧ Books w W (recOf w fn a ps assign body .ready none)) (fun _ W => ∃ c, Ix c W ∧ Books w W (recOf w fn a ps assign body .done (some c))) W1 hbel ?_ ?_ ?_ ⟨m0, by omega, hI1, hB1⟩).mono ?_
  · exact fun s A B row hs hgr hr => ⟨hown hI s A B row hs.1 hgr hr, hs.2.grown hgr (fun x e => (hr x e).2)⟩
  · rintro s A B row ⟨c, hc, hb⟩ hgr hr
    exact ⟨c, hown hIx c A B row hc hgr hr, hb.grown hgr (fun x e => (hr x e).2)⟩
  · rintro pre m x post gx W hL ⟨hi, hb⟩ htold hmg
    refine ⟨fn, _, assign, body, run_yield hb.1 (by simp [recOf, hps]), roundIn_of_wpIn hfn (hassign _ gx W _ ?_)⟩
    refine ⟨_, run_beginRound hb.1 rfl, ?_⟩
    have hb2 := hb.put { recOf w fn a ps assign body .ready none with state := .busy }
    have hne : gx ≠ w.heap.size + 1 := by have := htold.1; omega
    refine wpIn_mono (hbody _ pre m x post gx _ hL (hput hI hi hb) ((htold.of_block (World.putObj_heap_other hne)).mono (by omega)) hmg) ?_
    -- the round's end: the record is put again
    have hend : ∀ (j : Option Code) (W3 : World), KeepsFrom w.heap.size (W.putObj (w.heap.size + 1) (.loop { recOf w fn a ps assign body .ready none with state := .busy })) W3 →
        (Instr.endRound (w.heap.size + 1) j).run P W3 = .ok (.bool j.isNone) (W3.putObj (w.heap.size + 1) (.loop (recOf w fn a ps assign body (if j.isNone then .ready else .done) j))) ∧
        Books w W3 { recOf w fn a ps assign body .ready none with state := .busy } := fun j W3 hk =>
      ⟨run_endRound j (hb2.from hk).1, hb2.from hk⟩
    intro e a3 W3 hp
    cases e with
    | normal =>
      obtain ⟨hk, hp2, m', hm', hi3⟩ := hp
      obtain ⟨hr, hb3⟩ := hend none W3 hk
      exact ⟨_, _, hr, .inl ⟨rfl, ⟨m', by simp; omega, hput hI hi3 hb3, hb3.put _⟩, hKt (hKt (hkp hb) hp2) (hkp hb3)⟩⟩
    | ret =>
      obtain ⟨hr, hb3⟩ := hend (some .ret) W3 hp.1
      exact ⟨_, _, hr, .inr ⟨rfl, _, hput hIx hp.2 hb3, hb3.put _⟩⟩
    | exit id =>
      obtain ⟨hr, hb3⟩ := hend (some (.exit id)) W3 hp.1
      exact ⟨_, _, hr, .inr ⟨rfl, _, hput hIx hp.2 hb3, hb3.put _⟩⟩
    | goto x =>
      obtain ⟨hr, hb3⟩ := hend (some (.goto x)) W3 hp.1
      exact ⟨_, _, hr, .inr ⟨rfl, _, hput hIx hp.2 hb3, hb3.put _⟩⟩
    | panic ch => exact hp.elim
    | outgrown => exact hp.elim
  · rintro e W2 ⟨⟨v, rfl⟩, ⟨m, hi, hb⟩ | ⟨c, hi, hb⟩⟩
    · exact ⟨none, _, run_endLoop hb.1 (by simp [recOf]), hdone _ _ (Nat.le_refl _) ⟨m, hput hI hi hb⟩ (hb.put _).2⟩
    · exact ⟨some c, _, run_endLoop hb.1 (by simp [recOf]), hstop _ c _ (Nat.le_refl _) (hput hIx hi hb) (hb.put _).2⟩
end

section
attribute [local go_sem] Oper.semAt_some
set_option maxRecDepth 100000 in
set_option maxHeartbeats 4000000 in
theorem through1_tells2 (n : Nat) (hn : 1 ≤ n) (Bs : Nat) (ba : Option Addr) (bl bc : Nat) (box : List Int) (ra : Option Addr) (rl rc : Nat) (rs : List (List Int × Int)) (ho : PtOk box rs) (Kp : World → World → Prop)
    (Good : World → Prop) (hGP : ∀ A, Good A → PtGood A Bs ba bl bc box ra rl rc rs) (hGB : ∀ A B, Good A → Below A.heap.size A B → Good B)
    (hKs : ∀ A B, Kp A B → A.heap.size ≤ B.heap.size) (hKG : ∀ A B, Kp A B → Good A → Good B) (w : World) (hG : Good w) :
    TellsIn2 FW n Try.prog 39 #[.pointer (some ⟨Bs, 0, none⟩)] (pts box rs) bl Kp w := by
  intro l J Jx W hW hJ hJx hY h0
  have hro : FW.round = none := rfl
  have hg1 := hGB _ _ hG hW
  have hG1 := hGP _ hg1
  obtain ⟨c0, c1⟩ := hG1.here.cells
  have zB := hG1.here.lt
  have hf := fun w => pt_func_nil (P := Try.prog) w _ _ _ _ Try.underlying59 (.yield l) #[] #[]
  obtain ⟨N, hN⟩ : ∃ N : Nat, prod box = (N : Int) := ⟨(prod box).toNat, by have := ho.size.2.2.2; omega⟩
  have hNs : N ≤ 4096 := by have := ho.size.1; omega
  have HNN : Hid ((prod box).toNat = N) := by rw [Hid, hN]; simp
  have HSN : Hid (sizeN box = (N : Int)) := by rw [Hid, ho.size.2.2.1, hN]
  have HO := hide ho
  have HG1 := hide hG1
  have Hg1 := hide hg1
  have HGP := hide hGP
  have HGB := hide hGB
  have HY := hide hY
  have HJ := hide hJ
  have H0 := hide h0
  have HKG := hide hKG
  have HKS := hide hKs
  clear hG hG1 hg1 ho hY hJ hJx h0 hKG hKs hN hGP hGB
  refine callsIn_of_wp Try.func39 rfl trivial ?_ hro
  simp only [Try.ntmps39, List.size_toArray, List.length_cons, List.length_nil, Nat.reduceAdd, Nat.reduceSub, Array.replicate_succ, Array.replicate_zero, List.push_toArray, List.append_toArray, List.nil_append, List.cons_append]
  gi_wp2_with (refine ⟨trivial, ?_⟩; gi_at_call 40; refine (callsIn_wide.2 (size_any _ _ _ box _ HG1.out.box)).mono ?_; rintro e w' ⟨rfl, hw'⟩; obtain rfl := hw'.symm; rw [HSN.out])
  gi_loopw [17] (fun i wr => ∃ k : Nat, k ≤ N ∧ i = .int .i64 k ∧ (∃ m, m ≤ wr.heap.size ∧ J (upto box rs k, m) wr) ∧ Good wr ∧ W.heap.size ≤ wr.heap.size) (fun i _ => N - (intOf i).toNat)
  case atStart => exact ⟨0, Nat.zero_le _, rfl, H0.out, Hg1.out, Nat.le_refl _⟩
  case round =>
    obtain ⟨k, hk, rfl, ⟨m, hm, hJs⟩, hgr, hsz⟩ := hrel
    have hGr := HGP.out _ hgr
    have Hgr := hide hgr
    clear hgr
    have HJS := hide hJs
    have HGR := hide hGr
    have HSZ := hide hsz
    clear hJs hsz c0 c1
    by_cases hlt : k < N
    · obtain ⟨p0, p1⟩ := hGr.here.cells
      clear hGr
      gi_wp2_with fail
      refine ⟨trivial, (callsIn_wide.2 (callsIn_wide.1 (index_row ba bl bc box (k : Int) wr HGR.out.box HO.out.size.2.1 (by omega) (by rw [HSN.out]; omega)))).mono ?_⟩
      rintro e w2 ⟨⟨g, rfl, q1, q2, q3⟩, q4⟩
      have Hg2 := hide (HGB.out _ _ Hgr.out q4)
      have G2 := HGR.out.below q4
      obtain ⟨p0, p1⟩ := G2.here.cells
      have hkN : k < (prod box).toNat := by rw [HNN.out]; exact hlt
      have hbd := index_bd HO.out hkN
      have hmg : m ≤ g := Nat.le_trans hm q2
      have HM2 : Hid (m ≤ w2.heap.size) := Nat.le_trans hm q4.size
      have T2 : Told W.heap.size g bl (indexV box k) w2 := ⟨by have := HSZ.out; omega, q3.congr (fun j hj => by rw [indexV_getD box k j (by rw [HGR.out.box.1]; exact hj)]), by rw [hbd.2, HGR.out.box.1], by have := HO.out.rank; have := HGR.out.box.1; omega, hbd.1⟩
      have J2 := abides_below HJ.out HJS.out q4
      have A2 := above_any ra rl rc rs (some ⟨g, 0, none⟩) bl bl (indexV box k) w2 G2.rows T2.ints (fits_of HO.out hkN)
      have HMG := hide hmg
      have HG2 := hide G2
      have HT2 := hide T2
      have HJ2 := hide J2
      have HA2 := hide A2
      have HSZ2 : Hid (W.heap.size ≤ w2.heap.size) := Nat.le_trans HSZ.out q4.size
      have HKN := hide hkN
      clear q1 q2 q3 q4 G2 T2 J2 A2 hkN hbd hmg
      cases ha : aboveB rs (indexV box k) with
      | false =>
        have HAB := hide ha
        clear ha
        gi_wp2_with (refine ⟨trivial, ?_⟩; gi_at_call 42; refine (callsIn_wide.2 HA2.out).mono ?_; rintro e w3 ⟨rfl, hb⟩; rw [HAB.out]; have HB3 := hide hb; clear hb)
        refine ⟨(fun f e => by cases e), ?_⟩
        gi_wp2
        go_roundw
        case rel => exact ⟨k + 1, by omega, by go_num, by rw [upto_succ, if_neg (by rw [HAB.out]; simp), List.append_nil]; exact ⟨m, Nat.le_trans HM2.out HB3.out.size, abides_below HJ.out HJ2.out HB3.out⟩, HGB.out _ _ Hg2.out HB3.out, Nat.le_trans HSZ2.out HB3.out.size⟩
        case measure => simp [intOf]; omega
      | true =>
        have HAB := hide ha
        clear ha
        gi_wp2_with (refine ⟨trivial, ?_⟩; gi_at_call 42; refine (callsIn_wide.2 HA2.out).mono ?_; rintro e w3 ⟨rfl, hb⟩; rw [HAB.out]; have HB3 := hide hb; obtain ⟨post, hpost⟩ := upto_here HKN.out HAB.out; obtain ⟨fn, tmps, assign, body, hy, hR⟩ := HY.out (upto box rs k) m (indexV box k) post g w3 hpost (abides_below HJ.out HJ2.out hb) (HT2.out.below hb) HMG.out; have HR := hide hR; clear hb hR hpost)
        refine HR.out.mono ?_
        rintro e w4 (⟨rfl, j4, k4⟩ | ⟨rfl, jx4⟩)
        · have HJ4 := hide j4
          have HK4 := hide k4
          clear HR hy j4 k4
          gi_wp2
          go_roundw
          case rel => exact ⟨k + 1, by omega, by go_num, by rw [upto_succ, if_pos HAB.out]; exact HJ4.out, HKG.out _ _ HK4.out (HGB.out _ _ Hg2.out HB3.out), Nat.le_trans (Nat.le_trans HSZ2.out HB3.out.size) (HKS.out _ _ HK4.out)⟩
          case measure => simp [intOf]; omega
        · have HJ4 := hide jx4
          clear HR hy jx4
          gi_wp2
          refine bodyPost_ret (results_none rfl _ _ _) rfl ?_
          exact ⟨⟨_, rfl⟩, .inr HJ4.out⟩
    · obtain rfl : k = N := by omega
      gi_wp2
      go_end0
      refine ⟨⟨_, rfl⟩, .inl ⟨m, ?_⟩⟩
      have := HJS.out
      rw [← HNN.out] at this
      exact this

end
end Go.Proofs.Ytmefgejggpimeaa.V
