/-
  Contract: view.Whole. Contracts: adjointref1.Whole, adjointref1.Reads. Contracts: adjointref1.Whole, adjointref1.Reads, whatever they are asked. Contract: view.Reads. Plain mathematics: when places can be read in other dimensions. Contract: view.evenStep.
-/
import Derived.Test.YteoobeldmicjhaaGreatPRKArrayRows12
import Derived.Test.YteoobeldmicjhaaGreatPRKArrayRows23
import Derived.Test.YteoobeldmicjhaaGreatPRKArrayRows9
import Derived.Deep.AppendLies
import Derived.Test.YteoobeldmicjhaaGreatPRKArrayRows5
import Derived.BigRegion
namespace Go.Proofs.YteoobeldmicjhaaGreat.V
set_option maxRecDepth 20000
open Go.RowKit Go.Shelf
attribute [local go_sem] Oper.semAt_some

/-- The row of steps on its way: those from len - t on are there. -/
def wholeF (xs : List Int) (len t j : Nat) : Value := .int .i64 (if len ≤ j + t then beh xs j else 0)
theorem wholeF_succ (xs : List Int) (len t j : Nat) (ht : t < len) : (if j = len - 1 - t then .int .i64 (beh xs (len - 1 - t)) else wholeF xs len t j) = wholeF xs len (t + 1) j := by
  unfold wholeF
  by_cases e : j = len - 1 - t
  · rw [if_pos e, if_pos (by omega), e]
  · rw [if_neg e]
    by_cases h : len ≤ j + t
    · rw [if_pos h, if_pos (by omega)]
    · rw [if_neg h, if_neg (by omega)]
theorem stepV_pos {xs : List Int} (hpos : ∀ x ∈ xs, 1 ≤ x) (k : Nat) : stepV xs k = beh xs k := by
  unfold stepV
  rw [if_neg (fun h => by have := hpos 0 h; omega)]
theorem stepV_zero {xs : List Int} (h : (0 : Int) ∈ xs) (k : Nat) : stepV xs k = 0 := by unfold stepV; rw [if_pos h]
theorem stepsV_getD' (xs : List Int) (k : Nat) (h : k < xs.length) : (stepsV xs)[k]?.getD 0 = stepV xs k := by simp [stepsV, h]
theorem stepsV_len (xs : List Int) : (stepsV xs).length = xs.length := by simp [stepsV]

theorem view_own {β : Type} (B : Nat) (c0 c1 c2 : Value) : Own (fun (_ : β) W => ViewAt W B c0 c1 c2) := fun s X Y row hs hg hrow =>
  (hg.block B hs.lt (fun e' => by obtain ⟨o, ho, hc⟩ := hrow B e'.symm; rw [show X.heap[B]? = _ from hs] at ho; cases ho; cases hc)).trans hs

set_option maxRecDepth 100000 in
set_option maxHeartbeats 4000000 in
theorem whole_ok (a : Option Addr) (len cap : Nat) (xs : List Int) (w : World) (h : Ints w a len xs) (hE : sizeE xs = 0) (hN : sizeN xs ≠ 0) (d0 : Option Addr) :
    CallsIn FW 8 Tryz.prog 71 #[.slice a len cap] w fun e w' => GivesF w d0 e w' 0 xs (stepsV xs) 0 ∧ Below w.heap.size w w' := by
  obtain ⟨z1, z2, z3, z4⟩ := sizeE_ok hE
  have hpos : ∀ x ∈ xs, 1 ≤ x := fun x hx => by
    have := z2 x hx
    by_cases e : x = 0
    · subst e; have := z4 hx; omega
    · omega
  obtain ⟨hp, hn⟩ := z3 hpos
  have hl := h.1
  have hlen : len ≤ 6 := by omega
  have H := hide h
  have HE := hide hE
  have HL := hide hl
  have HP := hide hp
  have HPOS := hide hpos
  have HZ2 := hide z2
  have hne : (sizeN xs == 0) = false := by simp [hN]
  clear h hE hl hp hpos z1 z2 z3 z4 hn hN
  have hro : FW.round = none := rfl
  refine callsIn_of_wp_marks Tryz.func71 rfl trivial ?_ hro
  simp only [Tryz.ntmps71, List.size_toArray, List.length_cons, List.length_nil, Nat.reduceAdd, Nat.reduceSub, Array.replicate_succ, Array.replicate_zero, List.push_toArray, List.append_toArray, List.nil_append, List.cons_append]
  have hb1 : Below w.heap.size w (w.alloc (.cells #[.int .i64 0, .slice none 0 0, .slice none 0 0] 68)) := (Below.refl _ _).alloc (Nat.le_refl _) _
  have HB1 := hide hb1
  have HR1 := hide (ViewAt.new w (.int .i64 0) (.slice none 0 0) (.slice none 0 0))
  clear hb1
  gi_wp2_with (first
    | (refine ⟨trivial, ?_⟩; gi_at_call 40; refine (callsIn_wide.2 (size_any _ _ _ xs _ (H.out.below HB1.out))).mono ?_; rintro e w' ⟨rfl, rfl⟩; rw [HE.out])
    | (refine ⟨trivial, ?_⟩; gi_at_call 101; refine (callsIn_wide.2 (blank_any _ _ _ _ xs _ (H.out.below HB1.out) hlen)).mono ?_; rintro e w2 ⟨⟨g1, g2, rfl, ⟨hr1, hr2⟩, hgne, hg1, hg2⟩, hb⟩; have HQ1 := hide hr1; have HQ2 := hide hr2; have HB2 := hide (Below.on HB1.out hb); have HR2 := hide (HR1.out.below hb); have hsz2 := hb.size; clear hr1 hr2 hb)
    | (refine ⟨trivial, ?_⟩; gi_at_call 100; refine (lastFirst_in FW _ trivial rfl _ _ _ _).mono ?_; rintro e w' ⟨rfl, rfl⟩))
  simp only [World.size_alloc] at hg1 hg2 hsz2
  have hlt1 := HQ1.out.lt
  have hlt2 := HQ2.out.lt
  have hV0 := (ViewAt.new w2 (.int .i64 0) (.slice (some ⟨g1, 0, none⟩) len len) (.slice (some ⟨g2, 0, none⟩) len len)).alloc (.cells #[.slice a len cap] 22)
  have bN := Boxed.new (w2.alloc (.cells #[.int .i64 0, .slice (some ⟨g1, 0, none⟩) len len, .slice (some ⟨g2, 0, none⟩) len len] 68)) 22 (.slice a len cap)
  simp only [World.size_alloc] at bN
  have hR0 := (HR2.out.alloc (.cells #[.int .i64 0, .slice (some ⟨g1, 0, none⟩) len len, .slice (some ⟨g2, 0, none⟩) len len] 68)).alloc (.cells #[.slice a len cap] 22)
  have hq1 := (World.rowIs.alloc HQ1.out (.cells #[.int .i64 0, .slice (some ⟨g1, 0, none⟩) len len, .slice (some ⟨g2, 0, none⟩) len len] 68)).alloc (.cells #[.slice a len cap] 22)
  have hq2 := (World.rowIs.alloc HQ2.out (.cells #[.int .i64 0, .slice (some ⟨g1, 0, none⟩) len len, .slice (some ⟨g2, 0, none⟩) len len] 68)).alloc (.cells #[.slice a len cap] 22)
  have hB0 : Below w.heap.size w ((w2.alloc (.cells #[.int .i64 0, .slice (some ⟨g1, 0, none⟩) len len, .slice (some ⟨g2, 0, none⟩) len len] 68)).alloc (.cells #[.slice a len cap] 22)) := bl_alloc (bl_alloc HB2.out)
  obtain ⟨W0, hW0⟩ : ∃ W0, ((w2.alloc (.cells #[.int .i64 0, .slice (some ⟨g1, 0, none⟩) len len, .slice (some ⟨g2, 0, none⟩) len len] 68)).alloc (.cells #[.slice a len cap] 22)) = W0 := ⟨_, rfl⟩
  have hsz : W0.heap.size = w2.heap.size + 2 := by rw [← hW0]; simp
  rw [hW0] at hV0 bN hR0 hq1 hq2 hB0 ⊢
  clear hW0
  refine rangeFunc_inOrder (F := FW) (n := 8) hro (by omega) (gf := 120) (lb := #[.pointer (some ⟨w2.heap.size + 1, 0, none⟩)]) rfl trivial (enters_of Tryz.func120 (by kernel_rfl) rfl)
    (lastFirst_told FW 7 trivial rfl (by omega) (w2.heap.size + 1) w.heap.size len cap a xs HL.out hlen HPOS.out HP.out W0 (by omega) bN ?hints) Keep.trans (keep_b (by omega) (by omega)) (Below.refl _ _) (fun _ => rfl)
    (fun t W => ((ViewAt W w.heap.size (.int .i64 0) (.slice none 0 0) (.slice none 0 0) ∧ ViewAt W w2.heap.size (.int .i64 0) (.slice (some ⟨g1, 0, none⟩) len len) (.slice (some ⟨g2, 0, none⟩) len len)) ∧ (W.rowIs g1 3 len (fun j => .int .i64 (xs[j]?.getD 0)) ∧ W.rowIs g2 3 len (wholeF xs len t))) ∧ Below w.heap.size w W)
    (fun _ _ => False)
    ?own (fun _ _ _ _ hs _ _ => hs)
    ⟨⟨⟨hR0, hV0⟩, ⟨hq1, hq2.congr (fun i hi => by unfold wholeF; rw [if_neg (by omega)])⟩⟩, hB0⟩
    ?a1 ?assign ?body ?done ?stop
  case assign =>
    intro l t W K hK
    simp only [encT]
    gi_wp2
    exact hK
  case hints =>
    by_cases h0 : len = 0
    · exact .inl h0
    · obtain ⟨b, off, ha, hb, hc⟩ := H.out.at (by omega)
      exact .inr ⟨b, off, ha, hb, fun j hj => (hB0.cell (p := ⟨b, off + j, none⟩) hb).trans (hc j hj)⟩
  case own =>
    exact OwnFrom.and (OwnFrom.and (OwnFrom.and (Own.from (view_own _ _ _ _) _) (Own.from (view_own _ _ _ _) _)) (OwnFrom.and (Own.from (row_own _ _ _ _) _) (Own.from (row_own _ _ _ _) _))) (ownFrom_below (Nat.le_refl _) (by omega))
  case body =>
    rintro l t W ht ⟨⟨⟨hr, hv⟩, ⟨hq1, hq2⟩⟩, hB⟩
    have HR := hide hr
    have HV := hide hv
    have HQ1 := hide hq1
    have HQ2 := hide hq2
    have HB := hide hB
    clear hr hv hq1 hq2 hB hV0 bN hR0 hB0
    obtain ⟨k, hk⟩ : ∃ k : Nat, len - 1 - t = k := ⟨_, rfl⟩
    have hkl : k < len := by omega
    obtain ⟨⟨v0, v1, v2⟩, _⟩ := HV.out.cells
    have c2 := HQ2.out.cell hkl
    have f2 := HQ2.out.frozen k
    have i1 : (0 : Int) ≤ (k : Int) := Int.natCast_nonneg _
    have i2 : (k : Int) < (len : Int) := by omega
    have HK := hide hk
    have HT := hide ht
    simp only [hk]
    clear hk ht
    gi_wp2
    have hvl := HV.out.lt
    refine ⟨(KeepsOthers.setCell _ _ _).from _, ?_, ⟨⟨⟨?_, ?_⟩, ⟨?_, ?_⟩⟩, ?_⟩⟩
    · exact (Keep.refl _ _ W).setCell (p := ⟨g2, k, none⟩) (by simp; omega) (by simp; omega) _
    · exact HR.out.set (p := ⟨g2, k, none⟩) (by simp; omega) _
    · exact HV.out.set (p := ⟨g2, k, none⟩) (by simp; omega) _
    · exact HQ1.out.setOther (a := ⟨g2, k, none⟩) hgne _
    · refine (HQ2.out.set k _).congr (fun j _ => ?_)
      rw [← HK.out]
      exact wholeF_succ xs len t j HT.out
    · exact HB.out.setCell (p := ⟨g2, k, none⟩) (by simp; omega) _
  case done =>
    rintro D W hD ⟨⟨⟨hr, hv⟩, ⟨hq1, hq2⟩⟩, hB⟩ hK
    obtain ⟨⟨r0, r1, r2⟩, rf0, rf1, rf2⟩ := hr.cells
    obtain ⟨⟨v0, v1, v2⟩, _⟩ := hv.cells
    have hvl := hv.lt
    have HR := hide hr
    have HV := hide hv
    have HQ1 := hide hq1
    have HQ2 := hide hq2
    have HB := hide hB
    have HK := hide hK
    clear hr hv hq1 hq2 hB hK hV0 bN hR0 hB0
    gi_wp2
    generalize hW3 : ((W.setCell ⟨w.heap.size, 0, none⟩ (.int .i64 0)).setCell ⟨w.heap.size, 1, none⟩ (.slice (some ⟨g1, 0, none⟩) len len)).setCell ⟨w.heap.size, 2, none⟩ (.slice (some ⟨g2, 0, none⟩) len len) = W3
    have hK3 : W3.heap[D]? = some (.deferred (some [])) := by
      rw [← hW3]
      exact ((Below.heap_setCell _ ⟨w.heap.size, 2, none⟩ _ D (by simp; omega)).trans ((Below.heap_setCell _ ⟨w.heap.size, 1, none⟩ _ D (by simp; omega)).trans (Below.heap_setCell _ ⟨w.heap.size, 0, none⟩ _ D (by simp; omega)))).trans HK.out
    have hv3 : ViewAt W3 w.heap.size (.int .i64 0) (.slice (some ⟨g1, 0, none⟩) len len) (.slice (some ⟨g2, 0, none⟩) len len) := by
      rw [← hW3]; exact ((HR.out.set0 _).set1 _).set2 _
    have hB3 : Below w.heap.size w W3 := by
      rw [← hW3]; exact ((HB.out.setCell (p := ⟨w.heap.size, 0, none⟩) (Nat.le_refl _) _).setCell (p := ⟨w.heap.size, 1, none⟩) (Nat.le_refl _) _).setCell (p := ⟨w.heap.size, 2, none⟩) (Nat.le_refl _) _
    have hq1' : W3.rowIs g1 3 len (fun j => .int .i64 (xs[j]?.getD 0)) := by
      rw [← hW3]; exact ((HQ1.out.setOther (a := ⟨w.heap.size, 0, none⟩) (by simp; omega) _).setOther (a := ⟨w.heap.size, 1, none⟩) (by simp; omega) _).setOther (a := ⟨w.heap.size, 2, none⟩) (by simp; omega) _
    have hq2' : W3.rowIs g2 3 len (wholeF xs len len) := by
      rw [← hW3]; exact ((HQ2.out.setOther (a := ⟨w.heap.size, 0, none⟩) (by simp; omega) _).setOther (a := ⟨w.heap.size, 1, none⟩) (by simp; omega) _).setOther (a := ⟨w.heap.size, 2, none⟩) (by simp; omega) _
    clear hW3 r0 r1 r2 v0 v1 v2 HR HV HQ1 HQ2 HB HK
    refine ⟨by simp, .inl ⟨_, _, rfl, run_takeDeferred hK3, ?_⟩⟩
    have hv4 : ViewAt (W3.putObj D (.deferred none)) w.heap.size (.int .i64 0) (.slice (some ⟨g1, 0, none⟩) len len) (.slice (some ⟨g2, 0, none⟩) len len) := (World.putObj_heap_other (by omega)).trans hv3
    have hq1'' : (W3.putObj D (.deferred none)).rowIs g1 3 len (fun j => .int .i64 (xs[j]?.getD 0)) := hq1'.of_block (World.putObj_heap_other (by omega))
    have hq2'' : (W3.putObj D (.deferred none)).rowIs g2 3 len (wholeF xs len len) := hq2'.of_block (World.putObj_heap_other (by omega))
    obtain ⟨⟨u0, u1, u2⟩, _⟩ := hv4.cells
    refine ⟨.tuple #[.agg #[.int .i64 0, .slice (some ⟨g1, 0, none⟩) len len, .slice (some ⟨g2, 0, none⟩) len len], .int .i64 0], by simp [results, Tryz.results71, go_sem, u0, u1, u2], ⟨_, _, _, _, _, _, rfl, ?_, ?_, ⟨Nat.le_refl _, Nat.le_refl _⟩, .inr (far_some (by omega)), far_some (by omega)⟩, hB3.trans (belowK_b (w := w) (Nat.le_refl _) W3 D _ _ (by omega) hK3 rfl rfl)⟩
    · exact ints_of_rowI hq1'' HL.out (by omega) H.out.2.2.1
    · refine ints_of_rowI (hq2''.congr (fun j hj => ?_)) (by rw [stepsV_len]; exact HL.out) (by omega) (stepsV_bd HZ2.out (by rw [HL.out]; exact hlen))
      rw [stepsV_getD' xs j (by rw [HL.out]; exact hj), stepV_pos HPOS.out]
      unfold wholeF
      rw [if_pos (by omega)]
  case stop =>
    rintro D c W _ h _
    exact h.elim

set_option maxRecDepth 100000 in
set_option maxHeartbeats 2000000 in
theorem whole_none (a : Option Addr) (len cap : Nat) (xs : List Int) (w : World) (h : Ints w a len xs) (hE : sizeE xs = 0) (hN : sizeN xs = 0) (d0 : Option Addr) :
    CallsIn FW 8 Tryz.prog 71 #[.slice a len cap] w fun e w' => GivesF w d0 e w' 0 xs (stepsV xs) 0 ∧ Below w.heap.size w w' := by
  obtain ⟨z1, z2, z3, z4⟩ := sizeE_ok hE
  have hz : (0 : Int) ∈ xs := by
    by_cases hz : (0 : Int) ∈ xs
    · exact hz
    · exfalso
      have hpos : ∀ x ∈ xs, 1 ≤ x := fun x hx => by
        have := z2 x hx
        by_cases e : x = 0
        · exact absurd (e ▸ hx) hz
        · omega
      have := prod_pos xs hpos
      have := (z3 hpos).2
      omega
  have hl := h.1
  have hlen : len ≤ 6 := by omega
  have H := hide h
  have HE := hide hE
  have HL := hide hl
  have HZ := hide hz
  have HN := hide hN
  have HZ2 := hide z2
  clear h hE hl z1 z2 z3 z4 hN hz
  have hro : FW.round = none := rfl
  refine callsIn_of_wp Tryz.func71 rfl trivial ?_ hro
  simp only [Tryz.ntmps71, List.size_toArray, List.length_cons, List.length_nil, Nat.reduceAdd, Nat.reduceSub, Array.replicate_succ, Array.replicate_zero, List.push_toArray, List.append_toArray, List.nil_append, List.cons_append]
  have hb1 : Below w.heap.size w (w.alloc (.cells #[.int .i64 0, .slice none 0 0, .slice none 0 0] 68)) := (Below.refl _ _).alloc (Nat.le_refl _) _
  have HB1 := hide hb1
  have HR1 := hide (ViewAt.new w (.int .i64 0) (.slice none 0 0) (.slice none 0 0))
  clear hb1
  gi_wp2_with (first
    | (refine ⟨trivial, ?_⟩; gi_at_call 40; refine (callsIn_wide.2 (size_any _ _ _ xs _ (H.out.below HB1.out))).mono ?_; rintro e w' ⟨rfl, rfl⟩; rw [HE.out, HN.out])
    | (refine ⟨trivial, ?_⟩; gi_at_call 101; refine (callsIn_wide.2 (blank_any _ _ _ _ xs _ (H.out.below HB1.out) hlen)).mono ?_; rintro e w2 ⟨⟨g1, g2, rfl, ⟨hr1, hr2⟩, hgne, hg1, hg2⟩, hb⟩; have HQ1 := hide hr1; have HQ2 := hide hr2; have HB2 := hide (Below.on HB1.out hb); have HR2 := hide (HR1.out.below hb); obtain ⟨⟨r0, r1, r2⟩, rf0, rf1, rf2⟩ := HR2.out.cells; have hlt2 := HR2.out.lt; clear hr1 hr2 hb))
  simp only [World.size_alloc] at hg1 hg2
  have hlg1 := HQ1.out.lt
  have hlg2 := HQ2.out.lt
  have hR3 := (view_put' (x := .int .i64 0) (y := .slice (some ⟨g1, 0, none⟩) len len) (z := .slice (some ⟨g2, 0, none⟩) len len) HR2.out).alloc (.cells #[.int .i64 0, .slice (some ⟨g1, 0, none⟩) len len, .slice (some ⟨g2, 0, none⟩) len len] 68)
  obtain ⟨⟨u0, u1, u2⟩, _⟩ := hR3.cells
  refine bodyPost_ret (v := .tuple #[.agg #[.int .i64 0, .slice (some ⟨g1, 0, none⟩) len len, .slice (some ⟨g2, 0, none⟩) len len], .int .i64 0]) (by simp [results, Tryz.results71, go_sem, u0, u1, u2]) rfl ⟨⟨_, _, _, _, _, _, rfl, ?_, ?_, ⟨Nat.le_refl _, Nat.le_refl _⟩, .inr (far_some (by omega)), far_some (by omega)⟩, bl_alloc (below_put HB2.out (Nat.le_refl _))⟩
  · exact (ints_set3 (ints_of_rowI HQ1.out HL.out (by omega) H.out.2.2.1) (by omega)).below ((Below.refl _ _).alloc (Nat.le_refl _) _)
  · refine (ints_set3 (ints_of_rowI (HQ2.out.congr (fun j hj => ?_)) (by rw [stepsV_len]; exact HL.out) (by omega) (stepsV_bd HZ2.out (by rw [HL.out]; exact hlen))) (by omega)).below ((Below.refl _ _).alloc (Nat.le_refl _) _)
    rw [stepsV_getD' xs j (by rw [HL.out]; exact hj), stepV_zero HZ.out]

set_option maxHeartbeats 2000000 in
theorem whole_size (a : Option Addr) (len cap : Nat) (xs : List Int) (w : World) (h : Ints w a len xs) (hE : sizeE xs ≠ 0) (d0 : Option Addr) :
    CallsIn FW 8 Tryz.prog 71 #[.slice a len cap] w fun e w' => GivesF w d0 e w' 0 [] [] (sizeE xs) ∧ Below w.heap.size w w' := by
  have H := hide h
  have hro : FW.round = none := rfl
  have hE1 : (sizeE xs != 0) = true := by simp [hE]
  clear h hE
  refine callsIn_of_wp Tryz.func71 rfl trivial ?_ hro
  simp only [Tryz.ntmps71, List.size_toArray, List.length_cons, List.length_nil, Nat.reduceAdd, Nat.reduceSub, Array.replicate_succ, Array.replicate_zero, List.push_toArray, List.append_toArray, List.nil_append, List.cons_append]
  have hb1 : Below w.heap.size w (w.alloc (.cells #[.int .i64 0, .slice none 0 0, .slice none 0 0] 68)) := (Below.refl _ _).alloc (Nat.le_refl _) _
  have HB1 := hide hb1
  have HR1 := hide (ViewAt.new w (.int .i64 0) (.slice none 0 0) (.slice none 0 0))
  clear hb1
  gi_wp2_with (refine ⟨trivial, ?_⟩; gi_at_call 40; refine (callsIn_wide.2 (size_any _ _ _ xs _ (H.out.below HB1.out))).mono ?_; rintro e w' ⟨rfl, rfl⟩)
  obtain ⟨⟨u0, u1, u2⟩, _⟩ := HR1.out.cells
  refine bodyPost_ret (v := .tuple #[.agg #[.int .i64 0, .slice none 0 0, .slice none 0 0], .int .i64 (sizeE xs)]) (by simp [results, Tryz.results71, go_sem, u0, u1, u2]) rfl ⟨givesF_none _ _ _ _, HB1.out⟩

theorem whole_any (a : Option Addr) (len cap : Nat) (xs : List Int) (w : World) (h : Ints w a len xs) (d0 : Option Addr) :
    Calls Tryz.prog 71 #[.slice a len cap] w fun e w' => GivesF w d0 e w' 0 (okL (sizeE xs) xs) (okL (sizeE xs) (stepsV xs)) (sizeE xs) ∧ Below w.heap.size w w' := by
  refine (callsIn_wide (n := 8)).1 ?_
  by_cases hE : sizeE xs = 0
  · simp only [hE, okL]
    by_cases hN : sizeN xs = 0
    · exact whole_none a len cap xs w h hE hN d0
    · exact whole_ok a len cap xs w h hE hN d0
  · simp only [okL, if_neg hE]
    exact whole_size a len cap xs w h hE d0
end Go.Proofs.YteoobeldmicjhaaGreat.V
namespace Go.Proofs.YteoobeldmicjhaaGreat.V
set_option maxRecDepth 20000
open Go.RowKit

theorem prod_zero {xs : List Int} (h : (0 : Int) ∈ xs) : prod xs = 0 := by
  induction xs with
  | nil => cases h
  | cons x r ih =>
    rcases List.mem_cons.1 h with e | e
    · rw [prod, ← e]; omega
    · rw [prod, ih e]; omega
theorem dims_cases {xs : List Int} (hE : sizeE xs = 0) : (0 : Int) ∈ xs ∧ sizeN xs = 0 ∧ prod xs = 0 ∨ (∀ x ∈ xs, 1 ≤ x) ∧ sizeN xs = prod xs ∧ prod xs ≤ 65536 ∧ 1 ≤ prod xs := by
  obtain ⟨z1, z2, z3, z4⟩ := sizeE_ok hE
  by_cases hz : (0 : Int) ∈ xs
  · exact .inl ⟨hz, z4 hz, prod_zero hz⟩
  · have hpos : ∀ x ∈ xs, 1 ≤ x := fun x hx => by
      have := z2 x hx
      by_cases e : x = 0
      · exact absurd (e ▸ hx) hz
      · omega
    exact .inr ⟨hpos, (z3 hpos).2, (z3 hpos).1, prod_pos xs hpos⟩

set_option maxHeartbeats 1000000 in
theorem rall_none (a : Option Addr) (len cap : Nat) (xs : List Int) (w : World) (h : Ints w a len xs) (hE : sizeE xs = 0) (hN : sizeN xs = 0) :
    Calls Tryz.prog 18 #[.slice a len cap] w fun e w' => e = .returned (.slice none 0 0) ∧ Below w.heap.size w w' := by
  have H := hide h
  have HE := hide hE
  have HN := hide hN
  clear h hE hN
  go_enter Tryz.func18, Tryz.ntmps18
  go_wp2_with (go_at_call 27; refine (rsize_any _ _ _ xs _ H.out).mono ?_; rintro e w' ⟨rfl, hw'⟩; obtain rfl := hw'.symm; rw [HE.out, HN.out])
  go_ret
  exact ⟨rfl, Below.refl _ _⟩

end Go.Proofs.YteoobeldmicjhaaGreat.V
namespace Go.Proofs.YteoobeldmicjhaaGreat.V
set_option maxRecDepth 20000
open Go.RowKit

set_option maxRecDepth 100000 in
set_option maxHeartbeats 2000000 in
theorem rwhole_any (a : Option Addr) (len cap : Nat) (xs : List Int) (w : World) (h : Ints w a len xs) (hcap : len ≤ cap) :
    Calls Tryz.prog 85 #[.slice a len cap] w fun e w' => GivesF w a e w' 0 (okL (sizeE xs) xs) (okL (sizeE xs) (stepsV xs)) (sizeE xs) ∧ Below w.heap.size w w' := by
  have hb1 : Below w.heap.size w (w.alloc (.cells #[.int .i64 0, .slice none 0 0, .slice none 0 0] 68)) := (Below.refl _ _).alloc (Nat.le_refl _) _
  have HB1 := hide hb1
  have HR1 := hide (ViewAt.new w (.int .i64 0) (.slice none 0 0) (.slice none 0 0))
  have H := hide h
  clear hb1
  by_cases hE : sizeE xs = 0
  · obtain ⟨z1, z2, _, _⟩ := sizeE_ok hE
    have hlen : len ≤ 6 := by have := h.1; omega
    have HZ2 := hide z2
    have HE := hide hE
    simp only [hE, okL, if_true]
    clear h hE z1 z2
    go_enter Tryz.func85, Tryz.ntmps85
    go_wp2_with (first
      | (go_at_call 27; refine (rsize_any _ _ _ xs _ (H.out.below HB1.out)).mono ?_; rintro e w' ⟨rfl, hw'⟩; obtain rfl := hw'.symm; rw [HE.out])
      | (go_at_call 91; refine (rsteps_any _ _ _ xs _ (H.out.below HB1.out) hcap hlen HZ2.out).mono ?_; rintro e w1 ⟨⟨g1, c1, rfl, hgc, hi1⟩, hb1⟩; have HI1 := hide hi1; have HB2 := hide (Below.on HB1.out hb1); have HR2 := hide (HR1.out.below hb1); obtain ⟨⟨r0, r1, r2⟩, rf0, rf1, rf2⟩ := HR2.out.cells; have hlt2 := HR2.out.lt; clear hi1 hb1))
    simp only [World.size_alloc] at hgc
    have hR3 := view_put' (x := .int .i64 0) (y := .slice a len cap) (z := .slice (some ⟨g1, 0, none⟩) len c1) HR2.out
    obtain ⟨⟨u0, u1, u2⟩, _⟩ := hR3.cells
    have hB3 := below_put (x := .int .i64 0) (y := .slice a len cap) (z := .slice (some ⟨g1, 0, none⟩) len c1) HB2.out (Nat.le_refl w.heap.size)
    refine bodyPost_ret (v := .tuple #[.agg #[.int .i64 0, .slice a len cap, .slice (some ⟨g1, 0, none⟩) len c1], .int .i64 0]) (by simp [results, Tryz.results85, go_sem, u0, u1, u2]) rfl ⟨⟨_, _, _, _, _, _, rfl, H.out.below hB3, ?_, ⟨hcap, hgc.1⟩, .inl rfl, far_some (by omega)⟩, hB3⟩
    exact ints_set3 HI1.out (by omega)
  · have hE1 : (sizeE xs != 0) = true := by simp [hE]
    simp only [okL, if_neg hE]
    clear h hE
    go_enter Tryz.func85, Tryz.ntmps85
    go_wp2_with (go_at_call 27; refine (rsize_any _ _ _ xs _ (H.out.below HB1.out)).mono ?_; rintro e w' ⟨rfl, hw'⟩; obtain rfl := hw'.symm)
    obtain ⟨⟨u0, u1, u2⟩, _⟩ := HR1.out.cells
    refine bodyPost_ret (v := .tuple #[.agg #[.int .i64 0, .slice none 0 0, .slice none 0 0], .int .i64 (sizeE xs)]) (by simp [results, Tryz.results85, go_sem, u0, u1, u2]) rfl ⟨givesF_none _ _ _ _, HB1.out⟩
end Go.Proofs.YteoobeldmicjhaaGreat.V
namespace Go.Proofs.YteoobeldmicjhaaGreat.V
set_option maxRecDepth 20000
open Go.RowKit Go.Shelf
attribute [local go_sem] Oper.semAt_some

end Go.Proofs.YteoobeldmicjhaaGreat.V
namespace Go.Proofs.YteoobeldmicjhaaGreat.V
set_option maxRecDepth 20000

end Go.Proofs.YteoobeldmicjhaaGreat.V
namespace Go.Proofs.YteoobeldmicjhaaGreat.V
set_option maxRecDepth 20000
open Go.RowKit

end Go.Proofs.YteoobeldmicjhaaGreat.V
