/-
  Contract: view.Whole. Contracts: adjointref1.Whole, adjointref1.Reads. Contracts: adjointref1.Whole, adjointref1.Reads, whatever they are asked. Contract: view.Reads. Plain mathematics: when places can be read in other dimensions. Contract: view.evenStep.
-/
import Derived.Test.YteoobeldmicjhaaGreatPCKArrayCuts11
import Derived.Test.YteoobeldmicjhaaGreatPCKArrayCuts14
import Derived.Test.YteoobeldmicjhaaGreatPCKArrayCuts8
import Derived.Deep.AppendLies
import Derived.Test.YteoobeldmicjhaaGreatPCKArrayCuts0
import Derived.BigRegion
namespace Go.Proofs.YteoobeldmicjhaaGreat.V
set_option maxRecDepth 20000
open Go.RowKit Go.Shelf
attribute [local go_sem] Oper.semAt_some

/-- The row of steps on its way: those from len - t on are there. -/
def wholeF (xs : List Int) (len t j : Nat) : Value := .int .i64 (if len ≤ j + t then beh xs j else 0)
theorem wholeF_succ (xs : List Int) (len t j : Nat) (ht : t < len) : (if j = len - 1 - t then .int .i64 (beh xs (len - 1 - t)) else wholeF xs len t j) = wholeF xs len (t + 1) j := by
  unfold wholeF
  by_cases e : j = len - 1 - t
  · rw [if_pos e, if_pos (by omega), e]
  · rw [if_neg e]
    by_cases h : len ≤ j + t
    · rw [if_pos h, if_pos (by omega)]
    · rw [if_neg h, if_neg (by omega)]
theorem stepV_pos {xs : List Int} (hpos : ∀ x ∈ xs, 1 ≤ x) (k : Nat) : stepV xs k = beh xs k := by
  unfold stepV
  rw [if_neg (fun h => by have := hpos 0 h; omega)]
theorem stepV_zero {xs : List Int} (h : (0 : Int) ∈ xs) (k : Nat) : stepV xs k = 0 := by unfold stepV; rw [if_pos h]
theorem stepsV_getD' (xs : List Int) (k : Nat) (h : k < xs.length) : (stepsV xs)[k]?.getD 0 = stepV xs k := by simp [stepsV, h]
theorem stepsV_len (xs : List Int) : (stepsV xs).length = xs.length := by simp [stepsV]

theorem view_own {β : Type} (B : Nat) (c0 c1 c2 : Value) : Own (fun (_ : β) W => ViewAt W B c0 c1 c2) := fun s X Y row hs hg hrow =>
  (hg.block B hs.lt (fun e' => by obtain ⟨o, ho, hc⟩ := hrow B e'.symm; rw [show X.heap[B]? = _ from hs] at ho; cases ho; cases hc)).trans hs

set_option maxRecDepth 100000 in
set_option maxHeartbeats 4000000 in
theorem whole_ok (a : Option Addr) (len cap : Nat) (xs : List Int) (w : World) (h : Ints w a len xs) (hE : sizeE xs = 0) (hN : sizeN xs ≠ 0) (d0 : Option Addr) :
    CallsIn FW 8 Tryz.prog 71 #[.slice a len cap] w fun e w' => GivesF w d0 e w' 0 xs (stepsV xs) 0 ∧ Below w.heap.size w w' := by
  obtain ⟨z1, z2, z3, z4⟩ := sizeE_ok hE
  have hpos : ∀ x ∈ xs, 1 ≤ x := fun x hx => by
    have := z2 x hx
    by_cases e : x = 0
    · subst e; have := z4 hx; omega
    · omega
  obtain ⟨hp, hn⟩ := z3 hpos
  have hl := h.1
  have hlen : len ≤ 6 := by omega
  have H := hide h
  have HE := hide hE
  have HL := hide hl
  have HP := hide hp
  have HPOS := hide hpos
  have HZ2 := hide z2
  have hne : (sizeN xs == 0) = false := by simp [hN]
  clear h hE hl hp hpos z1 z2 z3 z4 hn hN
  have hro : FW.round = none := rfl
  refine callsIn_of_wp_marks Tryz.func71 rfl trivial ?_ hro
  simp only [Tryz.ntmps71, List.size_toArray, List.length_cons, List.length_nil, Nat.reduceAdd, Nat.reduceSub, Array.replicate_succ, Array.replicate_zero, List.push_toArray, List.append_toArray, List.nil_append, List.cons_append]
  have hb1 : Below w.heap.size w (w.alloc (.cells #[.int .i64 0, .slice none 0 0, .slice none 0 0] 68)) := (Below.refl _ _).alloc (Nat.le_refl _) _
  have HB1 := hide hb1
  have HR1 := hide (ViewAt.new w (.int .i64 0) (.slice none 0 0) (.slice none 0 0))
  clear hb1
  gi_wp2_with (first
    | (refine ⟨trivial, ?_⟩; gi_at_call 40; refine (callsIn_wide.2 (size_any _ _ _ xs _ (H.out.below HB1.out))).mono ?_; rintro e w' ⟨rfl, rfl⟩; rw [HE.out])
    | (refine ⟨trivial, ?_⟩; gi_at_call 101; refine (callsIn_wide.2 (blank_any _ _ _ _ xs _ (H.out.below HB1.out) hlen)).mono ?_; rintro e w2 ⟨⟨g1, g2, rfl, ⟨hr1, hr2⟩, hgne, hg1, hg2⟩, hb⟩; have HQ1 := hide hr1; have HQ2 := hide hr2; have HB2 := hide (Below.on HB1.out hb); have HR2 := hide (HR1.out.below hb); have hsz2 := hb.size; clear hr1 hr2 hb)
    | (refine ⟨trivial, ?_⟩; gi_at_call 100; refine (lastFirst_in FW _ trivial rfl _ _ _ _).mono ?_; rintro e w' ⟨rfl, rfl⟩))
  simp only [World.size_alloc] at hg1 hg2 hsz2
  have hlt1 := HQ1.out.lt
  have hlt2 := HQ2.out.lt
  have hV0 := (ViewAt.new w2 (.int .i64 0) (.slice (some ⟨g1, 0, none⟩) len len) (.slice (some ⟨g2, 0, none⟩) len len)).alloc (.cells #[.slice a len cap] 22)
  have bN := Boxed.new (w2.alloc (.cells #[.int .i64 0, .slice (some ⟨g1, 0, none⟩) len len, .slice (some ⟨g2, 0, none⟩) len len] 68)) 22 (.slice a len cap)
  simp only [World.size_alloc] at bN
  have hR0 := (HR2.out.alloc (.cells #[.int .i64 0, .slice (some ⟨g1, 0, none⟩) len len, .slice (some ⟨g2, 0, none⟩) len len] 68)).alloc (.cells #[.slice a len cap] 22)
  have hq1 := (World.rowIs.alloc HQ1.out (.cells #[.int .i64 0, .slice (some ⟨g1, 0, none⟩) len len, .slice (some ⟨g2, 0, none⟩) len len] 68)).alloc (.cells #[.slice a len cap] 22)
  have hq2 := (World.rowIs.alloc HQ2.out (.cells #[.int .i64 0, .slice (some ⟨g1, 0, none⟩) len len, .slice (some ⟨g2, 0, none⟩) len len] 68)).alloc (.cells #[.slice a len cap] 22)
  have hB0 : Below w.heap.size w ((w2.alloc (.cells #[.int .i64 0, .slice (some ⟨g1, 0, none⟩) len len, .slice (some ⟨g2, 0, none⟩) len len] 68)).alloc (.cells #[.slice a len cap] 22)) := bl_alloc (bl_alloc HB2.out)
  obtain ⟨W0, hW0⟩ : ∃ W0, ((w2.alloc (.cells #[.int .i64 0, .slice (some ⟨g1, 0, none⟩) len len, .slice (some ⟨g2, 0, none⟩) len len] 68)).alloc (.cells #[.slice a len cap] 22)) = W0 := ⟨_, rfl⟩
  have hsz : W0.heap.size = w2.heap.size + 2 := by rw [← hW0]; simp
  rw [hW0] at hV0 bN hR0 hq1 hq2 hB0 ⊢
  clear hW0
  refine rangeFunc_inOrder (F := FW) (n := 8) hro (by omega) (gf := 120) (lb := #[.pointer (some ⟨w2.heap.size + 1, 0, none⟩)]) rfl trivial (enters_of Tryz.func120 (by kernel_rfl) rfl)
    (lastFirst_told FW 7 trivial rfl (by omega) (w2.heap.size + 1) w.heap.size len cap a xs HL.out hlen HPOS.out HP.out W0 (by omega) bN ?hints) Keep.trans (keep_b (by omega) (by omega)) (Below.refl _ _) (fun _ => rfl)
    (fun t W => ((ViewAt W w.heap.size (.int .i64 0) (.slice none 0 0) (.slice none 0 0) ∧ ViewAt W w2.heap.size (.int .i64 0) (.slice (some ⟨g1, 0, none⟩) len len) (.slice (some ⟨g2, 0, none⟩) len len)) ∧ (W.rowIs g1 3 len (fun j => .int .i64 (xs[j]?.getD 0)) ∧ W.rowIs g2 3 len (wholeF xs len t))) ∧ Below w.heap.size w W)
    (fun _ _ => False)
    ?own (fun _ _ _ _ hs _ _ => hs)
    ⟨⟨⟨hR0, hV0⟩, ⟨hq1, hq2.congr (fun i hi => by unfold wholeF; rw [if_neg (by omega)])⟩⟩, hB0⟩
    ?a1 ?assign ?body ?done ?stop
  case assign =>
    intro l t W K hK
    simp only [encT]
    gi_wp2
    exact hK
  case hints =>
    by_cases h0 : len = 0
    · exact .inl h0
    · obtain ⟨b, off, ha, hb, hc⟩ := H.out.at (by omega)
      exact .inr ⟨b, off, ha, hb, fun j hj => (hB0.cell (p := ⟨b, off + j, none⟩) hb).trans (hc j hj)⟩
  case own =>
    exact OwnFrom.and (OwnFrom.and (OwnFrom.and (Own.from (view_own _ _ _ _) _) (Own.from (view_own _ _ _ _) _)) (OwnFrom.and (Own.from (row_own _ _ _ _) _) (Own.from (row_own _ _ _ _) _))) (ownFrom_below (Nat.le_refl _) (by omega))
  case body =>
    rintro l t W ht ⟨⟨⟨hr, hv⟩, ⟨hq1, hq2⟩⟩, hB⟩
    have HR := hide hr
    have HV := hide hv
    have HQ1 := hide hq1
    have HQ2 := hide hq2
    have HB := hide hB
    clear hr hv hq1 hq2 hB hV0 bN hR0 hB0
    obtain ⟨k, hk⟩ : ∃ k : Nat, len - 1 - t = k := ⟨_, rfl⟩
    have hkl : k < len := by omega
    obtain ⟨⟨v0, v1, v2⟩, _⟩ := HV.out.cells
    have c2 := HQ2.out.cell hkl
    have f2 := HQ2.out.frozen k
    have i1 : (0 : Int) ≤ (k : Int) := Int.natCast_nonneg _
    have i2 : (k : Int) < (len : Int) := by omega
    have HK := hide hk
    have HT := hide ht
    simp only [hk]
    clear hk ht
    gi_wp2
    have hvl := HV.out.lt
    refine ⟨(KeepsOthers.setCell _ _ _).from _, ?_, ⟨⟨⟨?_, ?_⟩, ⟨?_, ?_⟩⟩, ?_⟩⟩
    · exact (Keep.refl _ _ W).setCell (p := ⟨g2, k, none⟩) (by simp; omega) (by simp; omega) _
    · exact HR.out.set (p := ⟨g2, k, none⟩) (by simp; omega) _
    · exact HV.out.set (p := ⟨g2, k, none⟩) (by simp; omega) _
    · exact HQ1.out.setOther (a := ⟨g2, k, none⟩) hgne _
    · refine (HQ2.out.set k _).congr (fun j _ => ?_)
      rw [← HK.out]
      exact wholeF_succ xs len t j HT.out
    · exact HB.out.setCell (p := ⟨g2, k, none⟩) (by simp; omega) _
  case done =>
    rintro D W hD ⟨⟨⟨hr, hv⟩, ⟨hq1, hq2⟩⟩, hB⟩ hK
    obtain ⟨⟨r0, r1, r2⟩, rf0, rf1, rf2⟩ := hr.cells
    obtain ⟨⟨v0, v1, v2⟩, _⟩ := hv.cells
    have hvl := hv.lt
    have HR := hide hr
    have HV := hide hv
    have HQ1 := hide hq1
    have HQ2 := hide hq2
    have HB := hide hB
    have HK := hide hK
    clear hr hv hq1 hq2 hB hK hV0 bN hR0 hB0
    gi_wp2
    generalize hW3 : ((W.setCell ⟨w.heap.size, 0, none⟩ (.int .i64 0)).setCell ⟨w.heap.size, 1, none⟩ (.slice (some ⟨g1, 0, none⟩) len len)).setCell ⟨w.heap.size, 2, none⟩ (.slice (some ⟨g2, 0, none⟩) len len) = W3
    have hK3 : W3.heap[D]? = some (.deferred (some [])) := by
      rw [← hW3]
      exact ((Below.heap_setCell _ ⟨w.heap.size, 2, none⟩ _ D (by simp; omega)).trans ((Below.heap_setCell _ ⟨w.heap.size, 1, none⟩ _ D (by simp; omega)).trans (Below.heap_setCell _ ⟨w.heap.size, 0, none⟩ _ D (by simp; omega)))).trans HK.out
    have hv3 : ViewAt W3 w.heap.size (.int .i64 0) (.slice (some ⟨g1, 0, none⟩) len len) (.slice (some ⟨g2, 0, none⟩) len len) := by
      rw [← hW3]; exact ((HR.out.set0 _).set1 _).set2 _
    have hB3 : Below w.heap.size w W3 := by
      rw [← hW3]; exact ((HB.out.setCell (p := ⟨w.heap.size, 0, none⟩) (Nat.le_refl _) _).setCell (p := ⟨w.heap.size, 1, none⟩) (Nat.le_refl _) _).setCell (p := ⟨w.heap.size, 2, none⟩) (Nat.le_refl _) _
    have hq1' : W3.rowIs g1 3 len (fun j => .int .i64 (xs[j]?.getD 0)) := by
      rw [← hW3]; exact ((HQ1.out.setOther (a := ⟨w.heap.size, 0, none⟩) (by simp; omega) _).setOther (a := ⟨w.heap.size, 1, none⟩) (by simp; omega) _).setOther (a := ⟨w.heap.size, 2, none⟩) (by simp; omega) _
    have hq2' : W3.rowIs g2 3 len (wholeF xs len len) := by
      rw [← hW3]; exact ((HQ2.out.setOther (a := ⟨w.heap.size, 0, none⟩) (by simp; omega) _).setOther (a := ⟨w.heap.size, 1, none⟩) (by simp; omega) _).setOther (a := ⟨w.heap.size, 2, none⟩) (by simp; omega) _
    clear hW3 r0 r1 r2 v0 v1 v2 HR HV HQ1 HQ2 HB HK
    refine ⟨by simp, .inl ⟨_, _, rfl, run_takeDeferred hK3, ?_⟩⟩
    have hv4 : ViewAt (W3.putObj D (.deferred none)) w.heap.size (.int .i64 0) (.slice (some ⟨g1, 0, none⟩) len len) (.slice (some ⟨g2, 0, none⟩) len len) := (World.putObj_heap_other (by omega)).trans hv3
    have hq1'' : (W3.putObj D (.deferred none)).rowIs g1 3 len (fun j => .int .i64 (xs[j]?.getD 0)) := hq1'.of_block (World.putObj_heap_other (by omega))
    have hq2'' : (W3.putObj D (.deferred none)).rowIs g2 3 len (wholeF xs len len) := hq2'.of_block (World.putObj_heap_other (by omega))
    obtain ⟨⟨u0, u1, u2⟩, _⟩ := hv4.cells
    refine ⟨.tuple #[.agg #[.int .i64 0, .slice (some ⟨g1, 0, none⟩) len len, .slice (some ⟨g2, 0, none⟩) len len], .int .i64 0], by simp [results, Tryz.results71, go_sem, u0, u1, u2], ⟨_, _, _, _, _, _, rfl, ?_, ?_, ⟨Nat.le_refl _, Nat.le_refl _⟩, .inr (far_some (by omega)), far_some (by omega)⟩, hB3.trans (belowK_b (w := w) (Nat.le_refl _) W3 D _ _ (by omega) hK3 rfl rfl)⟩
    · exact ints_of_rowI hq1'' HL.out (by omega) H.out.2.2.1
    · refine ints_of_rowI (hq2''.congr (fun j hj => ?_)) (by rw [stepsV_len]; exact HL.out) (by omega) (stepsV_bd HZ2.out (by rw [HL.out]; exact hlen))
      rw [stepsV_getD' xs j (by rw [HL.out]; exact hj), stepV_pos HPOS.out]
      unfold wholeF
      rw [if_pos (by omega)]
  case stop =>
    rintro D c W _ h _
    exact h.elim

set_option maxRecDepth 100000 in
set_option maxHeartbeats 2000000 in
theorem whole_none (a : Option Addr) (len cap : Nat) (xs : List Int) (w : World) (h : Ints w a len xs) (hE : sizeE xs = 0) (hN : sizeN xs = 0) (d0 : Option Addr) :
    CallsIn FW 8 Tryz.prog 71 #[.slice a len cap] w fun e w' => GivesF w d0 e w' 0 xs (stepsV xs) 0 ∧ Below w.heap.size w w' := by
  obtain ⟨z1, z2, z3, z4⟩ := sizeE_ok hE
  have hz : (0 : Int) ∈ xs := by
    by_cases hz : (0 : Int) ∈ xs
    · exact hz
    · exfalso
      have hpos : ∀ x ∈ xs, 1 ≤ x := fun x hx => by
        have := z2 x hx
        by_cases e : x = 0
        · exact absurd (e ▸ hx) hz
        · omega
      have := prod_pos xs hpos
      have := (z3 hpos).2
      omega
  have hl := h.1
  have hlen : len ≤ 6 := by omega
  have H := hide h
  have HE := hide hE
  have HL := hide hl
  have HZ := hide hz
  have HN := hide hN
  have HZ2 := hide z2
  clear h hE hl z1 z2 z3 z4 hN hz
  have hro : FW.round = none := rfl
  refine callsIn_of_wp Tryz.func71 rfl trivial ?_ hro
  simp only [Tryz.ntmps71, List.size_toArray, List.length_cons, List.length_nil, Nat.reduceAdd, Nat.reduceSub, Array.replicate_succ, Array.replicate_zero, List.push_toArray, List.append_toArray, List.nil_append, List.cons_append]
  have hb1 : Below w.heap.size w (w.alloc (.cells #[.int .i64 0, .slice none 0 0, .slice none 0 0] 68)) := (Below.refl _ _).alloc (Nat.le_refl _) _
  have HB1 := hide hb1
  have HR1 := hide (ViewAt.new w (.int .i64 0) (.slice none 0 0) (.slice none 0 0))
  clear hb1
  gi_wp2_with (first
    | (refine ⟨trivial, ?_⟩; gi_at_call 40; refine (callsIn_wide.2 (size_any _ _ _ xs _ (H.out.below HB1.out))).mono ?_; rintro e w' ⟨rfl, rfl⟩; rw [HE.out, HN.out])
    | (refine ⟨trivial, ?_⟩; gi_at_call 101; refine (callsIn_wide.2 (blank_any _ _ _ _ xs _ (H.out.below HB1.out) hlen)).mono ?_; rintro e w2 ⟨⟨g1, g2, rfl, ⟨hr1, hr2⟩, hgne, hg1, hg2⟩, hb⟩; have HQ1 := hide hr1; have HQ2 := hide hr2; have HB2 := hide (Below.on HB1.out hb); have HR2 := hide (HR1.out.below hb); obtain ⟨⟨r0, r1, r2⟩, rf0, rf1, rf2⟩ := HR2.out.cells; have hlt2 := HR2.out.lt; clear hr1 hr2 hb))
  simp only [World.size_alloc] at hg1 hg2
  have hlg1 := HQ1.out.lt
  have hlg2 := HQ2.out.lt
  have hR3 := (view_put' (x := .int .i64 0) (y := .slice (some ⟨g1, 0, none⟩) len len) (z := .slice (some ⟨g2, 0, none⟩) len len) HR2.out).alloc (.cells #[.int .i64 0, .slice (some ⟨g1, 0, none⟩) len len, .slice (some ⟨g2, 0, none⟩) len len] 68)
  obtain ⟨⟨u0, u1, u2⟩, _⟩ := hR3.cells
  refine bodyPost_ret (v := .tuple #[.agg #[.int .i64 0, .slice (some ⟨g1, 0, none⟩) len len, .slice (some ⟨g2, 0, none⟩) len len], .int .i64 0]) (by simp [results, Tryz.results71, go_sem, u0, u1, u2]) rfl ⟨⟨_, _, _, _, _, _, rfl, ?_, ?_, ⟨Nat.le_refl _, Nat.le_refl _⟩, .inr (far_some (by omega)), far_some (by omega)⟩, bl_alloc (below_put HB2.out (Nat.le_refl _))⟩
  · exact (ints_set3 (ints_of_rowI HQ1.out HL.out (by omega) H.out.2.2.1) (by omega)).below ((Below.refl _ _).alloc (Nat.le_refl _) _)
  · refine (ints_set3 (ints_of_rowI (HQ2.out.congr (fun j hj => ?_)) (by rw [stepsV_len]; exact HL.out) (by omega) (stepsV_bd HZ2.out (by rw [HL.out]; exact hlen))) (by omega)).below ((Below.refl _ _).alloc (Nat.le_refl _) _)
    rw [stepsV_getD' xs j (by rw [HL.out]; exact hj), stepV_zero HZ.out]

set_option maxHeartbeats 2000000 in
theorem whole_size (a : Option Addr) (len cap : Nat) (xs : List Int) (w : World) (h : Ints w a len xs) (hE : sizeE xs ≠ 0) (d0 : Option Addr) :
    CallsIn FW 8 Tryz.prog 71 #[.slice a len cap] w fun e w' => GivesF w d0 e w' 0 [] [] (sizeE xs) ∧ Below w.heap.size w w' := by
  have H := hide h
  have hro : FW.round = none := rfl
  have hE1 : (sizeE xs != 0) = true := by simp [hE]
  clear h hE
  refine callsIn_of_wp Tryz.func71 rfl trivial ?_ hro
  simp only [Tryz.ntmps71, List.size_toArray, List.length_cons, List.length_nil, Nat.reduceAdd, Nat.reduceSub, Array.replicate_succ, Array.replicate_zero, List.push_toArray, List.append_toArray, List.nil_append, List.cons_append]
  have hb1 : Below w.heap.size w (w.alloc (.cells #[.int .i64 0, .slice none 0 0, .slice none 0 0] 68)) := (Below.refl _ _).alloc (Nat.le_refl _) _
  have HB1 := hide hb1
  have HR1 := hide (ViewAt.new w (.int .i64 0) (.slice none 0 0) (.slice none 0 0))
  clear hb1
  gi_wp2_with (refine ⟨trivial, ?_⟩; gi_at_call 40; refine (callsIn_wide.2 (size_any _ _ _ xs _ (H.out.below HB1.out))).mono ?_; rintro e w' ⟨rfl, rfl⟩)
  obtain ⟨⟨u0, u1, u2⟩, _⟩ := HR1.out.cells
  refine bodyPost_ret (v := .tuple #[.agg #[.int .i64 0, .slice none 0 0, .slice none 0 0], .int .i64 (sizeE xs)]) (by simp [results, Tryz.results71, go_sem, u0, u1, u2]) rfl ⟨givesF_none _ _ _ _, HB1.out⟩

theorem whole_any (a : Option Addr) (len cap : Nat) (xs : List Int) (w : World) (h : Ints w a len xs) (d0 : Option Addr) :
    Calls Tryz.prog 71 #[.slice a len cap] w fun e w' => GivesF w d0 e w' 0 (okL (sizeE xs) xs) (okL (sizeE xs) (stepsV xs)) (sizeE xs) ∧ Below w.heap.size w w' := by
  refine (callsIn_wide (n := 8)).1 ?_
  by_cases hE : sizeE xs = 0
  · simp only [hE, okL]
    by_cases hN : sizeN xs = 0
    · exact whole_none a len cap xs w h hE hN d0
    · exact whole_ok a len cap xs w h hE hN d0
  · simp only [okL, if_neg hE]
    exact whole_size a len cap xs w h hE d0
end Go.Proofs.YteoobeldmicjhaaGreat.V
namespace Go.Proofs.YteoobeldmicjhaaGreat.V
set_option maxRecDepth 20000
open Go.RowKit

theorem prod_zero {xs : List Int} (h : (0 : Int) ∈ xs) : prod xs = 0 := by
  induction xs with
  | nil => cases h
  | cons x r ih =>
    rcases List.mem_cons.1 h with e | e
    · rw [prod, ← e]; omega
    · rw [prod, ih e]; omega
theorem dims_cases {xs : List Int} (hE : sizeE xs = 0) : (0 : Int) ∈ xs ∧ sizeN xs = 0 ∧ prod xs = 0 ∨ (∀ x ∈ xs, 1 ≤ x) ∧ sizeN xs = prod xs ∧ prod xs ≤ 65536 ∧ 1 ≤ prod xs := by
  obtain ⟨z1, z2, z3, z4⟩ := sizeE_ok hE
  by_cases hz : (0 : Int) ∈ xs
  · exact .inl ⟨hz, z4 hz, prod_zero hz⟩
  · have hpos : ∀ x ∈ xs, 1 ≤ x := fun x hx => by
      have := z2 x hx
      by_cases e : x = 0
      · exact absurd (e ▸ hx) hz
      · omega
    exact .inr ⟨hpos, (z3 hpos).2, (z3 hpos).1, prod_pos xs hpos⟩

set_option maxHeartbeats 1000000 in
theorem rall_none (a : Option Addr) (len cap : Nat) (xs : List Int) (w : World) (h : Ints w a len xs) (hE : sizeE xs = 0) (hN : sizeN xs = 0) :
    Calls Tryz.prog 18 #[.slice a len cap] w fun e w' => e = .returned (.slice none 0 0) ∧ Below w.heap.size w w' := by
  have H := hide h
  have HE := hide hE
  have HN := hide hN
  clear h hE hN
  go_enter Tryz.func18, Tryz.ntmps18
  go_wp2_with (go_at_call 27; refine (rsize_any _ _ _ xs _ H.out).mono ?_; rintro e w' ⟨rfl, hw'⟩; obtain rfl := hw'.symm; rw [HE.out, HN.out])
  go_ret
  exact ⟨rfl, Below.refl _ _⟩

theorem readsV_getD (s : Int) (ds ss : List Int) (i : Nat) (h : i < (prod ds).toNat) : (readsV s ds ss)[i]?.getD 0 = s + lieN ds ss i := by simp [readsV, h]
theorem readsV_bd {s : Int} {ds ss : List Int} (hs : Small s ds ss) (hpos : ∀ x ∈ ds, 1 ≤ x) : ∀ x ∈ readsV s ds ss, -28115000000000000 ≤ x ∧ x ≤ 28115000000000000 := by
  intro x hx
  simp only [readsV, List.mem_map, List.mem_range] at hx
  obtain ⟨n, hn, rfl⟩ := hx
  have := lieN_bd (n := n) hs.len hs.rank (fun x hx => ⟨hpos x hx, (hs.dims x hx).2⟩) hs.steps (by omega) (by omega)
  have := hs.start
  omega

end Go.Proofs.YteoobeldmicjhaaGreat.V
namespace Go.Proofs.YteoobeldmicjhaaGreat.V
set_option maxRecDepth 20000
open Go.RowKit

/-- It answers a list and what it tells. -/
def TellsL (w0 : World) (e : Ending) (w : World) (l : List Int) (E : Int) : Prop :=
  ∃ (A : Option Addr) (n c : Nat), e = .returned (.tuple #[.slice A n c, .int .i64 E]) ∧ Ints w A n l ∧ n ≤ c ∧ Far w0.heap.size A
theorem tells_none (w0 w : World) (E : Int) : TellsL w0 (.returned (.tuple #[.slice none 0 0, .int .i64 E])) w [] E := ⟨none, 0, 0, rfl, ⟨rfl, by omega, by simp, .inl rfl⟩, Nat.le_refl _, far_none _⟩

set_option maxRecDepth 100000 in
set_option maxHeartbeats 2000000 in
theorem rwhole_any (a : Option Addr) (len cap : Nat) (xs : List Int) (w : World) (h : Ints w a len xs) (hcap : len ≤ cap) :
    Calls Tryz.prog 85 #[.slice a len cap] w fun e w' => GivesF w a e w' 0 (okL (sizeE xs) xs) (okL (sizeE xs) (stepsV xs)) (sizeE xs) ∧ Below w.heap.size w w' := by
  have hb1 : Below w.heap.size w (w.alloc (.cells #[.int .i64 0, .slice none 0 0, .slice none 0 0] 68)) := (Below.refl _ _).alloc (Nat.le_refl _) _
  have HB1 := hide hb1
  have HR1 := hide (ViewAt.new w (.int .i64 0) (.slice none 0 0) (.slice none 0 0))
  have H := hide h
  clear hb1
  by_cases hE : sizeE xs = 0
  · obtain ⟨z1, z2, _, _⟩ := sizeE_ok hE
    have hlen : len ≤ 6 := by have := h.1; omega
    have HZ2 := hide z2
    have HE := hide hE
    simp only [hE, okL, if_true]
    clear h hE z1 z2
    go_enter Tryz.func85, Tryz.ntmps85
    go_wp2_with (first
      | (go_at_call 27; refine (rsize_any _ _ _ xs _ (H.out.below HB1.out)).mono ?_; rintro e w' ⟨rfl, hw'⟩; obtain rfl := hw'.symm; rw [HE.out])
      | (go_at_call 91; refine (rsteps_any _ _ _ xs _ (H.out.below HB1.out) hcap hlen HZ2.out).mono ?_; rintro e w1 ⟨⟨g1, c1, rfl, hgc, hi1⟩, hb1⟩; have HI1 := hide hi1; have HB2 := hide (Below.on HB1.out hb1); have HR2 := hide (HR1.out.below hb1); obtain ⟨⟨r0, r1, r2⟩, rf0, rf1, rf2⟩ := HR2.out.cells; have hlt2 := HR2.out.lt; clear hi1 hb1))
    simp only [World.size_alloc] at hgc
    have hR3 := view_put' (x := .int .i64 0) (y := .slice a len cap) (z := .slice (some ⟨g1, 0, none⟩) len c1) HR2.out
    obtain ⟨⟨u0, u1, u2⟩, _⟩ := hR3.cells
    have hB3 := below_put (x := .int .i64 0) (y := .slice a len cap) (z := .slice (some ⟨g1, 0, none⟩) len c1) HB2.out (Nat.le_refl w.heap.size)
    refine bodyPost_ret (v := .tuple #[.agg #[.int .i64 0, .slice a len cap, .slice (some ⟨g1, 0, none⟩) len c1], .int .i64 0]) (by simp [results, Tryz.results85, go_sem, u0, u1, u2]) rfl ⟨⟨_, _, _, _, _, _, rfl, H.out.below hB3, ?_, ⟨hcap, hgc.1⟩, .inl rfl, far_some (by omega)⟩, hB3⟩
    exact ints_set3 HI1.out (by omega)
  · have hE1 : (sizeE xs != 0) = true := by simp [hE]
    simp only [okL, if_neg hE]
    clear h hE
    go_enter Tryz.func85, Tryz.ntmps85
    go_wp2_with (go_at_call 27; refine (rsize_any _ _ _ xs _ (H.out.below HB1.out)).mono ?_; rintro e w' ⟨rfl, hw'⟩; obtain rfl := hw'.symm)
    obtain ⟨⟨u0, u1, u2⟩, _⟩ := HR1.out.cells
    refine bodyPost_ret (v := .tuple #[.agg #[.int .i64 0, .slice none 0 0, .slice none 0 0], .int .i64 (sizeE xs)]) (by simp [results, Tryz.results85, go_sem, u0, u1, u2]) rfl ⟨givesF_none _ _ _ _, HB1.out⟩
end Go.Proofs.YteoobeldmicjhaaGreat.V
namespace Go.Proofs.YteoobeldmicjhaaGreat.V
set_option maxRecDepth 20000
open Go.RowKit Go.Shelf
attribute [local go_sem] Oper.semAt_some

theorem lieN_small (ds ss : List Int) (hl : ss.length = ds.length) (hpos : ∀ x ∈ ds, 1 ≤ x) : ∀ (k : Nat) (n : Int), k ≤ ds.length → 0 ≤ n → n < prod (ds.drop k) → lieN ds ss n = lieN (ds.drop k) (ss.drop k) n
  | 0, n, _, _, _ => by simp
  | k + 1, n, hk, h0, h1 => by
    have hp := prod_drop_le (ds.drop k) (fun x hx => hpos x (List.mem_of_mem_drop hx)) 1
    rw [List.drop_drop] at hp
    have hd := prod_drop ds k (by omega)
    have := lieN_small ds ss hl hpos k n (by omega) h0 (by omega)
    rw [this, drop_getD ds k (by omega), drop_getD ss k (by omega), lieN, Int.ediv_eq_zero_of_lt h0 h1, Int.emod_eq_of_lt h0 h1]
    omega
theorem reads_at {s : Int} {ds ss : List Int} (hl : ss.length = ds.length) (hpos : ∀ x ∈ ds, 1 ≤ x) {k : Nat} (hk : k < ds.length) {B i j : Nat} (hB : beh ds k = (B : Int)) (hi : (i : Int) < ds[k]?.getD 0) (hj : j < B) :
    i * B + j < (prod ds).toNat ∧ (readsV s ds ss)[i * B + j]?.getD 0 = (readsV s ds ss)[j]?.getD 0 + i * ss[k]?.getD 0 := by
  have hd := prod_drop ds k hk
  have hle := (prod_drop_le ds hpos k).2
  have hb : beh ds k = prod (ds.drop (k + 1)) := rfl
  have h1 : ((i : Int) + 1) * (B : Int) ≤ ds[k]?.getD 0 * (B : Int) := Int.mul_le_mul_of_nonneg_right (by omega) (by omega)
  rw [Int.add_mul] at h1
  have e0 : ((i * B + j : Nat) : Int) = (i : Int) * (B : Int) + (j : Int) := by simp
  have h2 : ((i * B + j : Nat) : Int) < prod (ds.drop k) := by rw [hd, ← hb, hB, e0]; omega
  have h3 : (j : Int) < prod (ds.drop (k + 1)) := by rw [← hb, hB]; omega
  have h4 := (prod_drop_le ds hpos (k + 1)).2
  refine ⟨by omega, ?_⟩
  rw [readsV_getD s ds ss (i * B + j) (by omega), readsV_getD s ds ss j (by omega)]
  rw [lieN_small ds ss hl hpos k _ (by omega) (by omega) h2, lieN_small ds ss hl hpos (k + 1) _ (by omega) (by omega) h3, e0]
  have := lieN_at ds ss hl k hk i j (by omega) (by rw [hB]; omega)
  rw [hB] at this
  rw [this]; omega

theorem lieN_zero : ∀ ds ss : List Int, lieN ds ss 0 = 0
  | [], [] => rfl
  | [], _ :: _ => rfl
  | _ :: _, [] => rfl
  | d :: ds, t :: ss => by simp [lieN, lieN_zero ds ss]
/-- A row, of which a slice has the first n. -/
theorem own_of_row {w : World} {B t n c g : Nat} {f : Nat → Value} {xs : List Value} (h : w.rowIs g t c f) (hn : n ≤ c) (hc : c ≤ maxLen) (hB : B ≤ g) (hl : xs.length = n) (hf : ∀ j, j < n → xs[j]? = some (f j)) : w.ownsRow B t 1 (.slice (some ⟨g, 0, none⟩) n c) n xs := by
  obtain ⟨cur, h1, h2, h3⟩ := h
  refine ⟨by omega, .inr ⟨g, c, cur, rfl, hB, h1, hn, hc, by omega, ?_⟩⟩
  apply List.ext_getElem?
  intro i
  by_cases hi : i < n
  · rw [List.getElem?_take_of_lt (by omega), hf i hi]
    simpa using h3 i (by omega)
  · rw [List.getElem?_eq_none (by simp; omega), List.getElem?_eq_none (by omega)]

/-- What lies, while a view's places are put together: M of them. -/
def Put (w w1 : World) (s : Int) (da sa : Option Addr) (len dc sc N : Nat) (R : List Int) (M : Nat) (W : World) : Prop :=
  ViewAt W w.heap.size (.int .i64 s) (.slice da len dc) (.slice sa len sc) ∧
  (∃ v, Boxed W (w1.heap.size + 1) 22 v ∧ W.ownsRow w.heap.size 3 1 v M ((R.take M).map (Value.int .i64)) ∧ v = .slice (some ⟨w1.heap.size, 0, none⟩) M N) ∧ Below w.heap.size w W ∧ w1.heap.size + 1 + 1 < W.heap.size
def Mt (ds : List Int) (len t : Nat) : Nat := (prod (ds.drop (len - t))).toNat
theorem put_own (w w1 : World) (s : Int) (da sa : Option Addr) (len dc sc N : Nat) (R : List Int) (M : Nat → Nat) {B : Nat} (hB : w.heap.size ≤ B) : OwnFrom B (fun t W => Put w w1 s da sa len dc sc N R (M t) W) :=
  OwnFrom.and (Own.from (view_own _ _ _ _) _) (OwnFrom.and (Own.from (holdsRow_own w.heap.size (w1.heap.size + 1) 22 3 1 M (fun t => (R.take (M t)).map (Value.int .i64)) (fun t v => v = .slice (some ⟨w1.heap.size, 0, none⟩) (M t) N)) _) (OwnFrom.and (ownFrom_below (Nat.le_refl _) hB) (fun _ _ _ _ hs hg _ => Nat.lt_of_lt_of_le hs hg.size)))

/-- One more place is put behind the others. -/
theorem put_step {w w1 wr w3 : World} {s : Int} {da sa : Option Addr} {len dc sc N M : Nat} {R : List Int} {x : Int} (hP : Put w w1 s da sa len dc sc N R M wr) (hlt : w.heap.size < w1.heap.size) (hM : M < R.length) (hx : x = R[M]?.getD 0)
    (hown' : w3.ownsRow w.heap.size 3 1 (.slice (some ⟨w1.heap.size, 0, none⟩) (M + 1) N) (M + 1) ((R.take M).map (Value.int .i64) ++ [.int .i64 x])) (hgrow : (wr.drew.alloc (.cells #[.int .i64 x] 3)).grownBy w3 (some w1.heap.size)) :
    (Boxed w3 (w1.heap.size + 1) 22 (.slice (some ⟨w1.heap.size, 0, none⟩) M N)) ∧
    Put w w1 s da sa len dc sc N R (M + 1) (w3.setCell ⟨w1.heap.size + 1, 0, none⟩ (.slice (some ⟨w1.heap.size, 0, none⟩) (M + 1) N)) ∧ Keep w.heap.size (w1.heap.size + 1 + 1) wr (w3.setCell ⟨w1.heap.size + 1, 0, none⟩ (.slice (some ⟨w1.heap.size, 0, none⟩) (M + 1) N)) ∧ KeepsOthers wr (w3.setCell ⟨w1.heap.size + 1, 0, none⟩ (.slice (some ⟨w1.heap.size, 0, none⟩) (M + 1) N)) := by
  obtain ⟨hv, ⟨v, hbx, hown, rfl⟩, hB, hsz⟩ := hP
  have hbd : Boxed wr.drew (w1.heap.size + 1) 22 (.slice (some ⟨w1.heap.size, 0, none⟩) M N) := hbx
  have hod : wr.drew.ownsRow w.heap.size 3 1 (.slice (some ⟨w1.heap.size, 0, none⟩) M N) M ((R.take M).map (Value.int .i64)) := hown.drew
  have hszd : wr.drew.heap.size = wr.heap.size := rfl
  obtain ⟨a1, a2, a3, a4, a5⟩ := hbd.appended (by decide) hod (by rw [hszd]; omega) (by omega : w.heap.size ≤ w1.heap.size + 1) hown' hgrow
  refine ⟨a1, ⟨?_, ⟨_, a2, ?_, rfl⟩, ?_, ?_⟩, ⟨?_, ?_⟩, ?_⟩
  · have h1 : w3.heap[w.heap.size]? = wr.heap[w.heap.size]? := (hgrow.block _ (by simp [hszd]; omega) (by simp; omega)).trans (Below.heap_alloc _ _ _ (by rw [hszd]; omega))
    exact ((Below.heap_setCell _ ⟨w1.heap.size + 1, 0, none⟩ _ w.heap.size (by simp; omega)).trans h1).trans hv
  · have e : (R.take (M + 1)).map (Value.int .i64) = (R.take M).map (Value.int .i64) ++ [.int .i64 x] := by
      rw [take_succ_getD R M hM, List.map_append, hx]; rfl
    rw [e]; exact a3
  · exact hB.trans ((Below.refl _ wr).drew.trans a5)
  · have h1 := hgrow.size
    simp only [World.size_alloc, World.size_setCell] at h1 ⊢
    rw [hszd] at h1
    omega
  · exact (Below.refl _ wr).drew.trans a5
  · have h1 : w3.heap[w1.heap.size + 1 + 1]? = wr.heap[w1.heap.size + 1 + 1]? := (hgrow.block _ (by simp [hszd]; omega) (by simp; omega)).trans (Below.heap_alloc _ _ _ (by rw [hszd]; omega))
    exact (Below.heap_setCell _ ⟨w1.heap.size + 1, 0, none⟩ _ _ (by simp)).trans h1
  · exact (KeepsOthers.drew wr).trans a4

set_option maxRecDepth 100000 in
set_option maxHeartbeats 4000000 in
theorem reads_ok (s : Int) (da : Option Addr) (dl dc : Nat) (ds : List Int) (sa : Option Addr) (sl sc : Nat) (ss : List Int) (w : World) (hd : Ints w da dl ds) (hs : Ints w sa sl ss) (hW : wrongE s ds ss = 0) (hpos : ∀ x ∈ ds, 1 ≤ x) :
    CallsIn FW 8 Tryz.prog 70 #[.agg #[.int .i64 s, .slice da dl dc, .slice sa sl sc]] w fun e w' => TellsL w e w' (readsV s ds ss) 0 ∧ Below w.heap.size w w' := by
  obtain ⟨hE, _, _⟩ := wrongE_ok hW
  have hsm := small_of hW
  have hcs := dims_cases hE
  have hp1 := prod_pos ds hpos
  have hp2 : prod ds ≤ 65536 ∧ sizeN ds = prod ds := by
    rcases hcs with ⟨h, _⟩ | ⟨_, h1, h2, _⟩
    · have := hpos 0 h; omega
    · exact ⟨h2, h1⟩
  obtain ⟨N, hN⟩ : ∃ N : Nat, prod ds = (N : Int) := ⟨(prod ds).toNat, by omega⟩
  have HSN : Hid (sizeN ds = (N : Int)) := by rw [Hid, hp2.2, hN]
  have hN1 : 1 ≤ N := by omega
  have hN2 : N ≤ 65536 := by omega
  have hsl : sl = dl := by have := hd.1; have := hs.1; have := hsm.len; omega
  subst hsl
  have HLD := hide hd.1
  have hdl : sl ≤ 6 := by have := hd.1; have := hsm.rank; omega
  have HD := hide hd
  have HS := hide hs
  have HW := hide hW
  have HSM := hide hsm
  have HPN := hide hN
  have HPOS := hide hpos
  have HP2 := hide hp2.1
  have hne : ((N : Int) == 0) = false := by simp; omega
  have hro : FW.round = none := rfl
  clear hd hs hW hE hsm hcs hp1 hp2 hN hpos
  obtain ⟨i0, hi, hz0, hz1, hz2⟩ := info_parts info_int
  have hmk : ∀ W : World, (Instr.makeSlice 22 (.int .i64 1) (.int .i64 (N : Int))).run Tryz.prog W = .ok (.slice (some ⟨W.heap.size, 0, none⟩) 1 N) (W.alloc (.cells (madeCells #[.int .i64 0] N) 3)) := fun W => by
    have := run_make (P := Tryz.prog) W 22 3 i0 (.int .i64 0) Tryz.underlying22 hi hz0 .i64 .i64 1 N (by omega) (by omega) (by rw [hz2]; omega) (by omega)
    simpa [hz1, Value.cells] using this
  have hm0 : (madeCells #[Value.int .i64 0] N)[0]? = some (.int .i64 0) := by
    rw [← Array.getElem?_toList, toList_madeCells_one, List.getElem?_replicate, if_pos (by omega)]
  have HI := hide hi
  have HZ1 := hide hz1
  clear hi hz0 hz1 hz2
  have hb1 : Below w.heap.size w (w.alloc (.cells #[.int .i64 s, .slice da sl dc, .slice sa sl sc] 68)) := (Below.refl _ _).alloc (Nat.le_refl _) _
  have HB1 := hide hb1
  clear hb1
  refine callsIn_of_wp_marks Tryz.func70 rfl trivial ?_ hro
  simp only [Tryz.ntmps70, List.size_toArray, List.length_cons, List.length_nil, Nat.reduceAdd, Nat.reduceSub, Array.replicate_succ, Array.replicate_zero, List.push_toArray, List.append_toArray, List.nil_append, List.cons_append]
  gi_wp2_with (first
    | (refine ⟨trivial, ?_⟩; gi_at_call 99; refine (callsIn_wide.2 (wrong_any _ _ _ _ ds _ _ _ ss _ (HD.out.below HB1.out) (HS.out.below HB1.out))).mono ?_; rintro e w1 ⟨rfl, hb⟩; rw [HW.out]; have HB := hide (Below.on HB1.out hb); have HV1 := hide ((ViewAt.new w (.int .i64 s) (.slice da sl dc) (.slice sa sl sc)).below hb); obtain ⟨⟨v0, v1, v2⟩, _⟩ := HV1.out.cells; have hlt1 := HV1.out.lt; clear hb)
    | (refine ⟨trivial, ?_⟩; gi_at_call 40; refine (callsIn_wide.2 (size_any _ _ _ ds _ (HD.out.below HB.out))).mono ?_; rintro e w' ⟨rfl, hw'⟩; obtain rfl := hw'.symm; rw [HSN.out])
    | (refine ⟨trivial, ?_⟩; gi_at_call 100; refine (lastFirst_in FW _ trivial rfl _ _ _ _).mono ?_; rintro e w' ⟨rfl, rfl⟩))
  have hmsz : (madeCells #[Value.int .i64 0] N).size = N := by
    rw [← Array.length_toList, toList_madeCells_one, List.length_replicate]
  have hown0 : (w1.alloc (.cells ((madeCells #[.int .i64 0] N).setIfInBounds 0 (.int .i64 s)) 3)).ownsRow w.heap.size 3 1 (.slice (some ⟨w1.heap.size, 0, none⟩) 1 N) 1 [.int .i64 s] := by
    refine own_of_row (n := 1) (c := N) (f := fun j => if j = 0 then .int .i64 s else .int .i64 0) ⟨_, World.alloc_heap_new _ _, by simp [hmsz], fun i hi => ?_⟩ (by omega) (by unfold maxLen; omega) HB.out.size rfl (fun j hj => by have e := Nat.lt_one_iff.1 hj; subst e; rfl)
    by_cases e : i = 0
    · subst e
      have : 0 < (madeCells #[Value.int .i64 0] N).size := by omega
      simp [this]
    · show ((madeCells #[Value.int .i64 0] N).setIfInBounds 0 (.int .i64 s))[i]? = some (if i = 0 then .int .i64 s else .int .i64 0)
      rw [Array.getElem?_setIfInBounds_ne (by omega), ← Array.getElem?_toList, toList_madeCells_one, List.getElem?_replicate, if_pos hi, if_neg e]
  have hown1 := (hown0.alloc (.cells #[.slice (some ⟨w1.heap.size, 0, none⟩) 1 N] 22)).alloc (.cells #[.slice da sl dc] 22)
  have hV0 := ((HV1.out.alloc (.cells ((madeCells #[.int .i64 0] N).setIfInBounds 0 (.int .i64 s)) 3)).alloc (.cells #[.slice (some ⟨w1.heap.size, 0, none⟩) 1 N] 22)).alloc (.cells #[.slice da sl dc] 22)
  have bR := (Boxed.new (w1.alloc (.cells ((madeCells #[.int .i64 0] N).setIfInBounds 0 (.int .i64 s)) 3)) 22 (.slice (some ⟨w1.heap.size, 0, none⟩) 1 N)).alloc (.cells #[.slice da sl dc] 22)
  have bN := Boxed.new ((w1.alloc (.cells ((madeCells #[.int .i64 0] N).setIfInBounds 0 (.int .i64 s)) 3)).alloc (.cells #[.slice (some ⟨w1.heap.size, 0, none⟩) 1 N] 22)) 22 (.slice da sl dc)
  simp only [World.size_alloc] at bR bN
  have hB0 := bl_alloc (o := .cells #[.slice da sl dc] 22) (bl_alloc (o := .cells #[.slice (some ⟨w1.heap.size, 0, none⟩) 1 N] 22) (bl_alloc (o := .cells ((madeCells #[.int .i64 0] N).setIfInBounds 0 (.int .i64 s)) 3) HB.out))
  obtain ⟨W0, hW0⟩ : ∃ W0, (((w1.alloc (.cells ((madeCells #[.int .i64 0] N).setIfInBounds 0 (.int .i64 s)) 3)).alloc (.cells #[.slice (some ⟨w1.heap.size, 0, none⟩) 1 N] 22)).alloc (.cells #[.slice da sl dc] 22)) = W0 := ⟨_, rfl⟩
  have hsz : W0.heap.size = w1.heap.size + 3 := by rw [← hW0]; simp
  rw [hW0] at hown1 hV0 bR bN hB0 ⊢
  clear hW0 hmk hm0 hmsz hown0 v0 v1 v2
  have hM0 : Mt ds sl 0 = 1 := by unfold Mt; rw [Nat.sub_zero, List.drop_eq_nil_of_le (by rw [HLD.out]; exact Nat.le_refl _)]; rfl
  refine rangeFunc_inOrder (F := FW) (n := 8) hro (by omega) (gf := 120) (lb := #[.pointer (some ⟨w1.heap.size + 1 + 1, 0, none⟩)]) rfl trivial (enters_of Tryz.func120 (by kernel_rfl) rfl)
    (lastFirst_told FW 7 trivial rfl (by omega) (w1.heap.size + 1 + 1) w.heap.size sl dc da ds HLD.out hdl HPOS.out HP2.out W0 (by omega) bN ?hints) Keep.trans (keep_b (by omega) (by omega)) (Below.refl _ _) (fun _ => rfl)
    (fun t W => Put w w1 s da sa sl dc sc N (readsV s ds ss) (Mt ds sl t) W)
    (fun _ _ => False)
    (put_own w w1 s da sa sl dc sc N (readsV s ds ss) (Mt ds sl) (by omega)) (fun _ _ _ _ hs _ _ => hs)
    ⟨hV0, ⟨_, bR, ?first, by rw [hM0]⟩, hB0, by omega⟩
    ?a1 ?assign ?body ?done ?stop
  case first =>
    rw [hM0]
    have e : ((readsV s ds ss).take 1).map (Value.int .i64) = [.int .i64 s] := by
      rw [take_succ_getD _ 0 (by rw [readsV_length]; have := HPN.out; omega), readsV_getD s ds ss 0 (by have := HPN.out; omega)]
      simp [lieN_zero]
    rw [e]
    exact hown1
  case assign =>
    intro l t W K hK
    simp only [encT]
    gi_wp2
    exact hK
  case hints =>
    by_cases h0 : sl = 0
    · exact .inl h0
    · obtain ⟨b, off, ha, hb, hc⟩ := HD.out.at (by omega)
      exact .inr ⟨b, off, ha, hb, fun j hj => (hB0.cell (p := ⟨b, off + j, none⟩) hb).trans (hc j hj)⟩
  case stop =>
    rintro D c W _ h _
    exact h.elim
  case done =>
    rintro D W hD ⟨hv, ⟨v, hbx, hown, rfl⟩, hB, _⟩ hK
    have hM : Mt ds sl sl = N := by unfold Mt; rw [Nat.sub_self, List.drop_zero]; have := HPN.out; omega
    rw [hM] at hbx hown
    have hcA := hbx.cell
    have ht : (readsV s ds ss).take N = readsV s ds ss := List.take_of_length_le (by rw [readsV_length]; have := HPN.out; omega)
    rw [ht] at hown
    have HO := hide hown
    have HB2 := hide hB
    have HK := hide hK
    clear hown hB hK hv hbx
    gi_wp2
    refine ⟨by simp, .inl ⟨_, _, rfl, run_takeDeferred HK.out, ?_⟩⟩
    refine ⟨_, results_tmp2 rfl _ _ _, ⟨_, _, _, rfl, ?_, by omega, far_some (by omega)⟩, HB2.out.trans (belowK_b (w := w) (Nat.le_refl _) W D _ _ (by omega) HK.out rfl rfl)⟩
    exact ints_of_own (ownsRow_putObj HO.out _ HK.out rfl) (by rw [readsV_length]; have := HPN.out; omega) (by omega) (fun x hx => by have := readsV_bd HSM.out HPOS.out x hx; omega)
  case body =>
    intro l t W ht hput
    clear hown1 hV0 bR hM0
    obtain ⟨k, hk⟩ : ∃ k : Nat, sl - 1 - t = k := ⟨_, rfl⟩
    have hkl : k < sl := by omega
    have hkd : k < ds.length := by rw [HLD.out]; exact hkl
    have hdk := HPOS.out _ (mem_getD ds k hkd)
    have hdk2 := (HSM.out.dims _ (mem_getD ds k hkd)).2
    have hbk := prod_drop_le ds HPOS.out (k + 1)
    have hbk1 : 1 ≤ beh ds k := hbk.1
    have hbk2 : beh ds k ≤ N := by have := HPN.out; have : beh ds k ≤ prod ds := hbk.2; omega
    obtain ⟨Dn, hDn⟩ : ∃ Dn : Nat, ds[k]?.getD 0 = (Dn : Int) := ⟨(ds[k]?.getD 0).toNat, by omega⟩
    obtain ⟨B, hBn⟩ : ∃ B : Nat, beh ds k = (B : Int) := ⟨(beh ds k).toNat, by omega⟩
    have hMt : Mt ds sl t = B := by
      unfold Mt
      rw [show sl - t = k + 1 by omega]
      have : beh ds k = prod (ds.drop (k + 1)) := rfl
      omega
    have hMt1 : Mt ds sl (t + 1) = Dn * B := by
      unfold Mt
      rw [show sl - (t + 1) = k by omega, prod_drop ds k hkd, hDn]
      have : beh ds k = prod (ds.drop (k + 1)) := rfl
      rw [← this, hBn, ← Int.natCast_mul, Int.toNat_natCast]
    rw [hMt] at hput
    have hRl : (readsV s ds ss).length = N := by rw [readsV_length]; have := HPN.out; omega
    have hsk := HSM.out.steps _ (mem_getD ss k (by have := HSM.out.len; omega))
    have HAT : Hid (∀ i j : Nat, i < Dn → j < B → i * B + j < N ∧ (readsV s ds ss)[i * B + j]?.getD 0 = (readsV s ds ss)[j]?.getD 0 + i * ss[k]?.getD 0) := fun i j hi hj => by
      have := reads_at (s := s) HSM.out.len HPOS.out hkd hBn (i := i) (j := j) (by omega) hj
      have hn := HPN.out
      exact ⟨by omega, this.2⟩
    have HRB : Hid (∀ j : Nat, j < N → -28115000000000000 ≤ (readsV s ds ss)[j]?.getD 0 ∧ (readsV s ds ss)[j]?.getD 0 ≤ 28115000000000000) := fun j hj => readsV_bd HSM.out HPOS.out _ (mem_getD _ j (by omega))
    have hD1 : 1 ≤ Dn := by omega
    have hD2 : Dn ≤ 4096 := by omega
    have HRL := hide hRl
    have HM1 := hide hMt1
    have HDN := hide hDn
    obtain ⟨S, hS⟩ : ∃ S, ss[k]?.getD 0 = S := ⟨_, rfl⟩
    rw [hS] at hsk HAT
    have HSS := hide hS
    obtain ⟨db, doff, rfl, hdb, hdc⟩ := HD.out.at (by omega)
    obtain ⟨sb, soff, rfl, hsb, hsc⟩ := HS.out.at (by omega)
    have HDC := hide hdc
    have HSC := hide hsc
    have hb1' : (0 : Int) ≤ (B : Int) := by omega
    have hb2' : (B : Int) ≤ (N : Int) := by omega
    have hBN : B ≤ N := by omega
    have hB1 : 1 ≤ B := by omega
    have i1 : (0 : Int) ≤ (k : Int) := Int.natCast_nonneg _
    have i2 : (k : Int) < (sl : Int) := by omega
    have hWsz := hput.2.1
    have hPut := hide hput
    have hbNW : w1.heap.size + 1 < W.heap.size := by obtain ⟨v, h, _⟩ := hput.2.1; exact h.lt
    simp only [hk, hBn]
    clear hk hput hRl hMt hMt1 hDn hS hdc hsc hbk hbk1 hbk2 hWsz
    gi_wp2_with fail
    gi_loopw [10] (fun i wr => ∃ m : Nat, 1 ≤ m ∧ m ≤ Dn ∧ i = .int .i64 m ∧ Put w w1 s (some ⟨db, doff, none⟩) (some ⟨sb, soff, none⟩) sl dc sc N (readsV s ds ss) (m * B) wr ∧ Keep w.heap.size (w1.heap.size + 1 + 1) W wr ∧ KeepsOthers W wr) (fun i _ => Dn + 1 - (intOf i).toNat)
    case atStart => exact ⟨1, Nat.le_refl _, by omega, rfl, by rw [Nat.one_mul]; exact hPut.out, Keep.refl _ _ _, KeepsOthers.refl _⟩
    case round =>
      obtain ⟨m, hm1, hmD, rfl, hP, hKp, hKo⟩ := hrel
      have HP := hide hP
      have HKP := hide hKp
      have HKO := hide hKo
      obtain ⟨⟨v0, v1, v2⟩, _⟩ := hP.1.cells
      have cd : wr.cell? ⟨db, doff + k, none⟩ = some (.int .i64 (Dn : Int)) := by rw [← HDN.out]; exact (hP.2.2.1.cell (p := ⟨db, doff + k, none⟩) hdb).trans (HDC.out k hkl)
      obtain ⟨v, hbx, hown, rfl⟩ := hP.2.1
      have cb := hbx.cell
      have hwsz := hKp.1.size
      clear hP hKp hKo hbx hown
      by_cases hlt : m < Dn
      · have hlt' : (m : Int) < (Dn : Int) := by omega
        gi_wp2_with fail
        gi_loopw [50] (fun i wr => ∃ j : Nat, j ≤ B ∧ i = .int .i64 j ∧ Put w w1 s (some ⟨db, doff, none⟩) (some ⟨sb, soff, none⟩) sl dc sc N (readsV s ds ss) (m * B + j) wr ∧ Keep w.heap.size (w1.heap.size + 1 + 1) W wr ∧ KeepsOthers W wr) (fun i _ => B - (intOf i).toNat)
        case atStart => exact ⟨0, Nat.zero_le _, rfl, HP.out, HKP.out, HKO.out⟩
        case round =>
          clear HP HKP HKO v0 v1 v2 cd cb hwsz
          obtain ⟨j, hj, rfl, hP, hKp, hKo⟩ := hrel
          have HP := hide hP
          have HKP := hide hKp
          have HKO := hide hKo
          obtain ⟨⟨v0, v1, v2⟩, _⟩ := hP.1.cells
          obtain ⟨v, hbx, hown, rfl⟩ := hP.2.1
          have hmB : 1 ≤ m * B := Nat.mul_pos (by omega) (by omega)
          have cb := hbx.cell
          have hwsz := hKp.1.size
          have hbl := hbx.lt
          by_cases hjB : j < B
          · have hat := HAT.out m j hlt hjB
            obtain ⟨Rj, hRj⟩ : ∃ Rj, (readsV s ds ss)[j]?.getD 0 = Rj := ⟨_, rfl⟩
            have hrb := HRB.out j (by omega)
            rw [hRj] at hrb hat
            have cR : wr.cell? ⟨w1.heap.size, j, none⟩ = some (.int .i64 Rj) := by
              rw [hown.cellAt j (by omega), ← hRj]
              have : j < (readsV s ds ss).length := by rw [HRL.out]; omega
              rw [List.getElem?_map, List.getElem?_take_of_lt (by omega)]
              simp [this]
            have cs : wr.cell? ⟨sb, soff + k, none⟩ = some (.int .i64 S) := by rw [← HSS.out]; exact (hP.2.2.1.cell (p := ⟨sb, soff + k, none⟩) hsb).trans (HSC.out k hkl)
            have bP := mul_bd (d := m) (x := S) (by omega) hsk
            have w1' : IntKind.i64.wrap ((m : Int) * S) = m * S := wrap_in _ (by omega) (by omega)
            have w2' : IntKind.i64.wrap (Rj + (m : Int) * S) = Rj + m * S := wrap_in _ (by omega) (by omega)
            have j1 : (0 : Int) ≤ (j : Int) := Int.natCast_nonneg _
            have j2 : (j : Int) < (B : Int) := by omega
            have HAT1 := hide hat
            have HOWN := hide hown
            have hvl := hP.1.lt
            have hsbl : sb < wr.heap.size := by omega
            clear hP hKp hKo hbx hown hat hRj
            gi_wp2_with fail
            refine region_late 10 2 (wr.drew.alloc (.cells #[.int .i64 (Rj + (m : Int) * S)] 3)) (by kernel_rfl) (by kernel_rfl) (by omega) rfl ?_
            simp only [List.take]
            iterate 10
              apply Late.step
              · go_simp
                try rfl
              · rfl
              · go_simp
                try rfl
              · rfl
              simp only [Act.put, List.setIfInBounds_toArray, List.set_cons_succ, List.set_cons_zero]
            refine Late.nil ?_
            refine ⟨.slice (some ⟨wr.heap.size, 0, none⟩) 1 1, ?_, rfl, ?_⟩
            · go_simp
              try rfl
            simp only [Nat.reduceAdd, List.drop_succ_cons, List.drop_zero, List.setIfInBounds_toArray, List.set_cons_succ, List.set_cons_zero]
            gi_wp2_with (gi_at_builtin; refine wpListIn_append_fits _ rfl _ _ 22 rfl w.heap.size 3 i0 1 Tryz.underlying22 HI.out HZ1.out w1.heap.size (m * B + j) N _ rfl (HOWN.out.drew.alloc _) ⟨wr.heap.size, 0, none⟩ 1 1 [.int .i64 (Rj + (m : Int) * S)] rfl rfl (cell_one_new _ _ _) (by simp [Value.oneCell']) (by have := HAT1.out.1; omega) ?_; intro w3 hown3 hgrow3; obtain ⟨hb3, hP3, hK3, hO3⟩ := put_step HP.out hlt1 (by rw [HRL.out]; exact HAT1.out.1) HAT1.out.2.symm hown3 hgrow3; have c3 := hb3.cell; have f3 := hb3.frozen; have HP3 := hide hP3; have HK3 := hide hK3; have HO3 := hide hO3; clear hb3 hP3 hK3 hO3 hown3 hgrow3)
            go_roundw
            case rel => exact ⟨j + 1, by omega, by go_num, HP3.out, HKP.out.trans HK3.out, HKO.out.trans HO3.out⟩
            case measure => simp [intOf]; omega
          · obtain rfl : j = B := by omega
            clear hP hKp hKo hbx hown
            gi_wp2
            go_roundw
            case rel => exact ⟨m + 1, by omega, by omega, by go_num, by rw [Nat.add_mul, Nat.one_mul]; exact HP.out, HKP.out, HKO.out⟩
            case measure => simp [intOf]; omega
      · obtain rfl : m = Dn := by omega
        gi_wp2
        exact ⟨HKO.out.from _, HKP.out, by rw [HM1.out]; exact HP.out⟩
end Go.Proofs.YteoobeldmicjhaaGreat.V
namespace Go.Proofs.YteoobeldmicjhaaGreat.V
set_option maxRecDepth 20000

theorem beh_cons (d : Int) (ds : List Int) (k : Nat) : beh (d :: ds) (k + 1) = beh ds k := by simp [beh]
theorem beh_zero (d : Int) (ds : List Int) : beh (d :: ds) 0 = prod ds := by simp [beh]
end Go.Proofs.YteoobeldmicjhaaGreat.V
namespace Go.Proofs.YteoobeldmicjhaaGreat.V
set_option maxRecDepth 20000
open Go.RowKit

end Go.Proofs.YteoobeldmicjhaaGreat.V
