/-
  Contract: room.tree.sort.
-/
import Derived.Test.YtnncalhpbfmgoaaRmSortM
namespace Go.Proofs.Ytnncalhpbfmgoaa.V
open Go Go.Shelf Go.RowKit Go.Lib Go.Sort Go.Proofs Go.Proofs.Ytnncalhpbfmgoaa.S Go.Proofs.Ytnncalhpbfmgoaa.S1
set_option linter.unusedVariables false

structure SoInv (w : World) (B L n : Nat) (b : Option Addr) (cap' : Nat) (v : Nat → Value) (T' : Nat → List Nat) (bl : Nat → Int) (wr : World) : Prop where
  bel : Below B w wr
  own : wr.heap[w.heap.size]? = some (.cells #[.slice (some ⟨L, 0, none⟩) n n, .slice b n cap'] 57 (0, 0))
  bey : wr.rowIs (w.heap.size + 1) 3 n (fun j => .int .i64 (bl j))
  cell : wr.heap[w.heap.size + 1 + 1]? = some (.cells #[.slice (some ⟨w.heap.size + 1, 0, none⟩) n n] 27 (0, 0))
  row : Bel wr B L n v T'
  lo : ∀ s g, s < n → (v s).ownBlock = some g → g < w.heap.size
  kept : ∀ i, i < w.heap.size → (∀ s, s < n → (v s).ownBlock ≠ some i) → wr.heap[i]? = w.heap[i]?
theorem so_start (w : World) (B L n : Nat) (b : Option Addr) (cap' : Nat) (v : Nat → Value) (T : Nat → List Nat) (hB : Bel w B L n v T) (hBs : B ≤ w.heap.size) :
    SoInv w B L n b cap' v T (fun _ => 0) (((w.alloc (.cells #[.slice (some ⟨L, 0, none⟩) n n, .slice b n cap'] 57)).alloc (.cells (madeCells #[.int .i64 0] n) 3)).alloc (.cells #[.slice (some ⟨w.heap.size + 1, 0, none⟩) n n] 27)) := by
  have z1 : (w.alloc (.cells #[.slice (some ⟨L, 0, none⟩) n n, .slice b n cap'] 57)).heap.size = w.heap.size + 1 := by simp
  have z2 : ((w.alloc (.cells #[.slice (some ⟨L, 0, none⟩) n n, .slice b n cap'] 57)).alloc (.cells (madeCells #[.int .i64 0] n) 3)).heap.size = w.heap.size + 1 + 1 := by simp
  have hr := World.rowIs_made (w.alloc (.cells #[.slice (some ⟨L, 0, none⟩) n n, .slice b n cap'] 57)) (.int .i64 0) n 3
  have hn := World.alloc_heap_new ((w.alloc (.cells #[.slice (some ⟨L, 0, none⟩) n n, .slice b n cap'] 57)).alloc (.cells (madeCells #[.int .i64 0] n) 3)) (.cells #[.slice (some ⟨w.heap.size + 1, 0, none⟩) n n] 27)
  rw [z1] at hr
  rw [z2] at hn
  have hb := bl_on (bl_on (bl_new (w := w) (.cells #[.slice (some ⟨L, 0, none⟩) n n, .slice b n cap'] 57)) (bl_new (.cells (madeCells #[.int .i64 0] n) 3))) (bl_new (.cells #[.slice (some ⟨w.heap.size + 1, 0, none⟩) n n] 27))
  refine ⟨hb.mono hBs, ?_, World.rowIs.alloc hr _, hn, hB.below hb, fun s g hs e => ((hB.side s hs).at e).2.1, fun i hi _ => hb.block i hi⟩
  exact ((bl_new _).block _ (by omega)).trans (((bl_new _).block _ (by omega)).trans (World.alloc_heap_new _ _))
theorem SoInv.same {w : World} {B L n : Nat} {b : Option Addr} {cap' : Nat} {v : Nat → Value} {T' T2 : Nat → List Nat} {bl : Nat → Int} {wr : World} (h : SoInv w B L n b cap' v T' bl wr) (he : ∀ s, s < n → T2 s = T' s) : SoInv w B L n b cap' v T2 bl wr :=
  ⟨h.bel, h.own, h.bey, h.cell, h.row.congr he, h.lo, h.kept⟩
theorem SoInv.resort {w : World} {B L n : Nat} {b : Option Addr} {cap' : Nat} {v : Nat → Value} {T' : Nat → List Nat} {bl : Nat → Int} {wr w1 : World} {k g : Nat} {l' : List Nat} (h : SoInv w B L n b cap' v T' bl wr) (hk : k < n) (eg : (v k).ownBlock = some g) (hr : Rw g wr w1) (ho : OwnN w1 B (v k) l') : SoInv w B L n b cap' v (fun t => if t = k then l' else T' t) bl w1 := by
  have hgB := ((h.row.side k hk).at eg).1
  have hgl := h.lo k g hk eg
  have hL := h.row.ne hk eg
  have hbl : ∀ i, i < wr.heap.size → i ≠ g → w1.heap[i]? = wr.heap[i]? := fun i hi hne => hr.grown.block i hi (fun e => hne (Option.some.inj e))
  have s1 := (Array.getElem?_eq_some_iff.1 h.own).1
  have s2 := h.bey.lt
  have s3 := (Array.getElem?_eq_some_iff.1 h.cell).1
  refine ⟨h.bel.trans (hr.below hgB (Nat.le_trans hgB (Nat.le_of_lt ((h.row.side k hk).at eg).2.1))), (hbl _ s1 (by omega)).trans h.own, h.bey.of_block (hbl _ s2 (by omega)), (hbl _ s3 (by omega)).trans h.cell, ?_, h.lo, fun i hi hne => (hbl i (Nat.lt_of_lt_of_le hi h.bel.size) (fun e => hne k hk (e ▸ eg))).trans (h.kept i hi hne)⟩
  refine ⟨h.row.row.of_block (hbl _ h.row.row.lt (fun e => hL e.symm)), fun s hs => ?_, h.row.apart, h.row.base⟩
  by_cases e : s = k
  · subst e
    simp only
    exact ho
  · simp only [if_neg e]
    exact (h.row.side s hs).keep fun g' hg' hlt => hbl g' hlt (fun ee => e (h.row.apart s k g hs hk (ee ▸ hg') eg))
/-- Those below one node are sorted. -/
theorem sort_row {w : World} {B L n : Nat} {b : Option Addr} {cap' : Nat} {v : Nat → Value} {T' : Nat → List Nat} {bl : Nat → Int} {wr : World} {k : Nat} (h : SoInv w B L n b cap' v T' bl wr) (hk : k < n) (hn : n ≤ 4096) (hl : (T' k).length ≤ 4096) (hq : ∀ q ∈ T' k, q < n) :
    Calls Try.prog 41 #[v k, .func (.func 49) #[] #[.pointer (some ⟨w.heap.size + 1 + 1, 0, none⟩)]] wr fun e w' => e = .returned (.tuple #[]) ∧ ∃ l', SrtK bl (T' k) l' ∧ SoInv w B L n b cap' v (fun t => if t = k then l' else T' t) bl w' := by
  have hnil : T' k = [] → ∀ a c, v k = .slice a 0 c → Calls Try.prog 41 #[v k, .func (.func 49) #[] #[.pointer (some ⟨w.heap.size + 1 + 1, 0, none⟩)]] wr fun e w' => e = .returned (.tuple #[]) ∧ ∃ l', SrtK bl (T' k) l' ∧ SoInv w B L n b cap' v (fun t => if t = k then l' else T' t) bl w' := fun e0 a c ev => by
    rw [ev]
    refine (nil_sort1 a c _ wr).mono ?_
    rintro e w1 ⟨rfl, rfl⟩
    refine ⟨rfl, [], by rw [e0]; exact SrtK.nil bl, h.same fun s _ => ?_⟩
    by_cases e : s = k
    · rw [if_pos e, e, e0]
    · rw [if_neg e]
  have hside := h.row.side k hk
  rcases hside.2 with ⟨ev, e0⟩ | ⟨g, cap, cur, ev, hBg, hcur, hle, hcm, hsz, htk⟩
  · exact hnil (List.eq_nil_of_length_eq_zero e0) none 0 ev
  by_cases e0 : T' k = []
  · exact hnil e0 (some ⟨g, 0, none⟩) cap (by rw [ev, e0]; rfl)
  have hpos : 0 < (T' k).length := List.length_pos_iff.2 e0
  have eg : (v k).ownBlock = some g := by rw [ev]; rfl
  have hgl := h.lo k g hk eg
  have hrow : ∀ j, j < (T' k).length → wr.cell? ⟨g, j, none⟩ = some (nv (atK (T' k) j)) := fun j hj => by
    have h1 : (cur.toList.take ((T' k).length * 1))[j]? = ((T' k).map nv)[j]? := by rw [htk]
    rw [List.getElem?_take_of_lt (by omega), Array.getElem?_toList] at h1
    simp [World.cell?, hcur, h1, hj, atK]
  have hc := pk_cell h.cell
  rw [ev]
  refine (sortK_any bl n (w.heap.size + 1 + 1) (w.heap.size + 1) g cap (T' k).length (T' k) wr rfl hrow (fun i => by simp [World.frozen?, hcur]) (Array.getElem?_eq_some_iff.1 hcur).1 hl (fun j hj => hq _ (atK_mem _ j hj)) hn hc.1 (fun j hj => h.bey.cell hj) (by omega) (by omega) hpos).mono ?_
  rintro e w1 ⟨rfl, ⟨D, hD, hP, hcl⟩, hrw, hszs⟩
  obtain ⟨cur', hc1, hc2⟩ := hszs cur _ _ hcur
  have hDl : D.length = (T' k).length := by rw [hD.length_eq]; simp
  refine ⟨rfl, D.map fun i => atK (T' k) i.1, ⟨D, hD, hP, rfl⟩, h.resort hk eg hrw ?_⟩
  refine ⟨by simp, .inr ⟨g, cap, cur', by rw [ev]; simp [hDl], hBg, hc1, by simp [hDl]; exact hle, hcm, by rw [hc2]; exact hsz, ?_⟩⟩
  refine List.ext_getElem? fun j => ?_
  by_cases hj : j < (T' k).length
  · have h1 : cur'[j]? = some (nv (atK (D.map fun i => atK (T' k) i.1) j)) := by have h := hcl j hj; simpa [World.cell?, hc1] using h
    rw [List.getElem?_take_of_lt (by simp [hDl]; exact hj), Array.getElem?_toList, h1]
    simp [atK, hDl, hj]
  · rw [List.getElem?_eq_none (by simp [hDl]; omega), List.getElem?_eq_none (by simp [hDl]; omega)]
theorem SrtTo.next {ws : List Int} {T T' : Nat → List Nat} {bl : Nat → Int} {n k : Nat} {l' : List Nat} {V : Int} (h : SrtTo ws T T' bl n k) (hs : SrtK bl (T k) l') (hk : k < n) (hT : ∀ s, s < n → ∀ q ∈ T s, q < s) (hV : V = beyV ws bl l' k) (hb : 0 ≤ V ∧ V ≤ ((k : Int) + 1) * 4294967296) : SrtTo ws T (fun t => if t = k then l' else T' t) (fun j => if j = k then V else bl j) n (k + 1) := by
  have hc : ∀ q, q < k → (if q = k then V else bl q) = bl q := fun q hq => if_neg (by omega)
  refine ⟨fun s hs1 => ?_, fun s hs1 => ?_, fun s h1 h2 => ?_, fun s hs1 => ?_⟩
  · by_cases e : s = k
    · subst e
      simp only [if_true]
      exact hs.congr fun q hq => hc q (hT s hk q hq)
    · simp only [if_neg e]
      exact (h.srt s (by omega)).congr fun q hq => hc q (by have := hT s (by omega) q hq; omega)
  · by_cases e : s = k
    · subst e
      simp only [if_true]
      refine hV.trans ?_
      rw [beyV, beyV, mostF_congr ws (bl := bl) l' 0 0 fun q hq => hc q (hT s hk q (hs.perm.mem_iff.1 hq))]
    · simp only [if_neg e]
      rw [h.bey s (by omega), beyV, beyV, mostF_congr ws (bl := bl) (T' s) 0 0 fun q hq => hc q (by have := hT s (by omega) q ((h.srt s (by omega)).perm.mem_iff.1 hq); omega)]
  · simp only [if_neg (show s ≠ k by omega)]
    exact h.rest s (by omega) h2
  · by_cases e : s = k
    · subst e
      simp only [if_true]
      exact hb
    · simp only [if_neg e]
      exact h.bd s (by omega)
theorem SoInv.laid {w : World} {B L n : Nat} {b : Option Addr} {cap' : Nat} {v : Nat → Value} {T' : Nat → List Nat} {bl : Nat → Int} {wr : World} (h : SoInv w B L n b cap' v T' bl wr) (hB : B ≤ w.heap.size) (k : Nat) (V : Int) : SoInv w B L n b cap' v T' (fun j => if j = k then V else bl j) (wr.setCell ⟨w.heap.size + 1, k, none⟩ (.int .i64 V)).drew := by
  have hL : L ≠ w.heap.size + 1 := by
    rintro rfl
    obtain ⟨c1, e1, _⟩ := h.row.row
    obtain ⟨c2, e2, _⟩ := h.bey
    rw [e1] at e2
    simp at e2
  refine ⟨(h.bel.setCell (p := ⟨w.heap.size + 1, k, none⟩) (by simp; omega) _).drew, (heap_setCell_other _ _ _ _ (by simp)).trans h.own, ?_, (heap_setCell_other _ _ _ _ (by simp)).trans h.cell, ?_, h.lo, fun i hi hne => (heap_setCell_other _ _ _ _ (by simp; omega)).trans (h.kept i hi hne)⟩
  · refine World.rowIs.congr (w := (wr.setCell ⟨w.heap.size + 1, k, none⟩ (.int .i64 V)).drew) (h.bey.set k (.int .i64 V)) fun j _ => ?_
    by_cases e : j = k
    · rw [if_pos e, if_pos e]
    · rw [if_neg e, if_neg e]
  · exact h.row.keep (heap_setCell_other _ _ _ _ hL) fun s g hs hg => heap_setCell_other _ _ _ _ (by have := h.lo s g hs hg; simp; omega)
set_option maxRecDepth 100000 in
set_option maxHeartbeats 8000000 in
theorem sortT_any (B L n : Nat) (v : Nat → Value) (T : Nat → List Nat) (ab ws : List Int) (b : Option Addr) (cap' : Nat) (w : World) (hB : Bel w B L n v T) (hBs : B ≤ w.heap.size) (hT : ∀ s, s < n → (T s).length ≤ 4096 ∧ ∀ q ∈ T s, q < s) (h0 : TreeOk ab ws) (hn : ab.length = n) (hw : Ints w b n ws) (hwb : ∀ b' o', b = some ⟨b', o', none⟩ → 0 < n → b' < B) :
    Calls Try.prog 33 #[.agg #[.slice (some ⟨L, 0, none⟩) n n, .slice b n cap']] w fun e w' => e = .returned (.tuple #[]) ∧ (∃ T' bl, SrtTo ws T T' bl n n ∧ Bel w' B L n v T') ∧ Below B w w' ∧ ∀ i, i < w.heap.size → (∀ s, s < n → (v s).ownBlock ≠ some i) → w'.heap[i]? = w.heap[i]? := by
  have HT := hide hT
  have H0 := hide h0
  have HN := hide hn
  have HW := hide hw
  have HWB := hide hwb
  have hn4 : n ≤ 4096 := hn ▸ h0.few
  have hmk := run_make_row' (P := Try.prog) 27 3 (.int .i64 0) 8 Try.underlying27 info_int rfl .i64 .i64 n (by omega) (by omega)
  have HSO := hide (so_start w B L n b cap' v T hB hBs)
  clear hB hT h0 hn hw hwb
  go_enter Try.func33, Try.ntmps33
  go_wp2
  go_loopw [16] (fun i wr => ∃ (k : Nat) (T' : Nat → List Nat) (bl : Nat → Int), k ≤ n ∧ i = .int .i64 k ∧ SrtTo ws T T' bl n k ∧ SoInv w B L n b cap' v T' bl wr) (fun i _ => n - (intOf i).toNat)
  case atStart => exact ⟨0, T, _, Nat.zero_le _, rfl, ⟨fun s h => by omega, fun s h => by omega, fun _ _ _ => rfl, fun s h => by omega⟩, HSO.out⟩
  case round =>
    clear hmk
    obtain ⟨k, T', bl, hk, rfl, hst, hinv⟩ := hrel
    have HST := hide hst
    have HV := hide hinv
    clear hst hinv
    by_cases hlt : k < n
    · have hTk := HST.out.rest k (Nat.le_refl _) hlt
      have hTb := HT.out k hlt
      obtain ⟨ra, rc, rv, _⟩ := own_row0 (HV.out.row.side k hlt)
      have RV := hide rv
      have c4 := HV.out.row.row.cell (i := k) hlt
      have z4 := HV.out.row.row.lt
      have HCS := hide (sort_row HV.out hlt hn4 (by rw [hTk]; exact hTb.1) (fun q hq => by rw [hTk] at hq; have := hTb.2 q hq; omega))
      rw [rv] at c4 HCS
      obtain ⟨t1, t2, _, _, t5⟩ := tree_cells HV.out.own
      have hkz : (k : Int) < (n : Int) := by omega
      obtain ⟨b2, o2, rfl, _, _⟩ := HW.out.at (show 0 < n by omega)
      have hb2 := HWB.out b2 o2 rfl (by omega)
      have HWD : Hid (∀ W, Below B w W → ∀ j, j < n → W.cell? ⟨b2, o2 + j, none⟩ = some (.int .i64 (nth ws j))) := fun W hW j hj => by
        obtain ⟨b3, o3, e, _, c⟩ := HW.out.at (show 0 < n by omega)
        cases e
        exact (hW.cell (p := ⟨b2, o2 + j, none⟩) hb2).trans (c j hj)
      have HTK := hide hTk
      have HTB := hide hTb
      clear rv hTk hTb
      go_wp2_with (go_at_call 41; refine HCS.out.mono ?_; rintro e w1 ⟨rfl, l', hs1, hi1⟩; have HS1 := hide hs1; have HI := hide hi1; clear hs1 hi1)
      have HLN : Hid (l'.length = (T' k).length) := HS1.out.perm.length_eq
      have hIk : OwnN w1 B (v k) l' := by have h := HI.out.row.side k hlt; simp only [if_true] at h; exact h
      obtain ⟨ra', rc', rv', rr'⟩ := own_row0 hIk
      rw [RV.out, HLN.out] at rv'
      cases rv'
      have RR := hide rr'
      have HMEM : Hid (∀ q ∈ l', q < k) := fun q hq => HTB.out.2 q (by rw [← HTK.out]; exact HS1.out.perm.mem_iff.1 hq)
      have hl4 : (T' k).length ≤ 4096 := by rw [HTK.out]; exact HTB.out.1
      obtain ⟨y1, y2, _, _, y5⟩ := tree_cells HI.out.own
      obtain ⟨r1, r5⟩ := pk_cell HI.out.cell
      have y7 := HI.out.bey.lt
      clear t1 t2 t5 c4 rr' hIk z4
      go_loop [5, 6, 26] (fun hd ms i => ∃ j : Nat, j ≤ (T' k).length ∧ i = .int .i64 j ∧ hd = .int .i64 (wsum ws (l'.take j)) ∧ ms = .int .i64 (mostF ws bl 0 0 (l'.take j))) (fun _ _ i => (T' k).length - (intOf i).toNat)
      case atStart => exact ⟨0, Nat.zero_le _, rfl, by simp [wsum], by simp [mostF]⟩
      case round =>
        obtain ⟨j, hj, rfl, rfl, rfl⟩ := hrel
        have hSb := wsum_bound H0.out (l'.take j) fun q hq => by have := HMEM.out q (List.mem_of_mem_take hq); rw [HN.out]; omega
        have hSl : (l'.take j).length ≤ 4096 := by simp; omega
        have hMb := mostF_bound (ws := ws) H0.out (bl := bl) (K := (k : Int) * 4294967296) (l'.take j) 0 0 (fun q hq => by
          have h1 := HMEM.out q (List.mem_of_mem_take hq)
          have h2 := HST.out.bd q h1
          refine ⟨by rw [HN.out]; omega, h2.1, by omega⟩) (by omega) (by omega) (by omega) (by omega)
        by_cases hjl : j < (T' k).length
        · have hjl' : j < l'.length := by rw [HLN.out]; exact hjl
          rcases RR.out with h0 | ⟨g, rfl, hc⟩
          · exfalso; rw [h0] at hjl'; simp at hjl'
          have c5 := hc j hjl'
          obtain ⟨q, hq⟩ : ∃ q, q = l'[j]?.getD 0 := ⟨_, rfl⟩
          have hqk : q < k := HMEM.out q (by rw [hq]; simp [hjl'])
          have hqn : q < n := by omega
          have x5 := HWD.out _ HI.out.bel q hqn
          have x6 := HI.out.bey.cell (i := q) hqn
          have hzb := H0.out.wd q (by rw [HN.out]; exact hqn)
          have hqb := HST.out.bd q hqk
          have HS2 := hide (wsum_take ws l' j hjl')
          have HM2 : Hid (mostF ws bl 0 0 (l'.take (j + 1)) = max (mostF ws bl 0 0 (l'.take j)) (0 + wsum ws (l'.take j) + nth ws q + bl q)) := by
            rw [Hid, List.take_succ_eq_append_getElem hjl', mostF_next, hq]
            simp [hjl']
          rw [← hq] at c5 HS2
          unfold nv at c5
          obtain ⟨z, hz⟩ : ∃ z, z = nth ws q := ⟨_, rfl⟩
          obtain ⟨y, hy⟩ : ∃ y, y = bl q := ⟨_, rfl⟩
          obtain ⟨S, hS⟩ : ∃ S, S = wsum ws (l'.take j) := ⟨_, rfl⟩
          obtain ⟨M, hM⟩ : ∃ M, M = mostF ws bl 0 0 (l'.take j) := ⟨_, rfl⟩
          rw [← hz] at x5 hzb HS2 HM2
          rw [← hy] at x6 hqb HM2
          rw [← hS] at hSb HS2 HM2 ⊢
          rw [← hM] at hMb HM2 ⊢
          have hw1 : IntKind.i64.wrap (S + z) = S + z := by rw [IntKind.wrap_i64]; omega
          have hw2 : IntKind.i64.wrap (S + z + y) = S + z + y := by rw [IntKind.wrap_i64]; omega
          have z5 := lt_of_cell c5
          have z6 := lt_of_cell x5
          simp only at z5 z6
          have hjz : (j : Int) < ((T' k).length : Int) := by omega
          have hqz : (q : Int) < (n : Int) := by omega
          clear hc hq hz hy hS hM hSb hMb hqb hzb hSl
          go_wp2
          all_goals
            go_round
            case rel => exact ⟨j + 1, by omega, by go_num, by rw [HS2.out], by rw [HM2.out]; congr 1; omega⟩
            case measure => simp [intOf]; omega
        · have hall : l'.take j = l' := List.take_of_length_le (by rw [HLN.out]; omega)
          rw [hall] at hSb hMb ⊢
          have x7 := HWD.out _ HI.out.bel k hlt
          have x8 := HI.out.bey.cell (i := k) hlt
          have fz := HI.out.bey.frozen k
          have hxb := H0.out.wd k (by rw [HN.out]; exact hlt)
          have hSl2 : l'.length ≤ 4096 := by rw [HLN.out]; exact hl4
          obtain ⟨x, hx⟩ : ∃ x, x = nth ws k := ⟨_, rfl⟩
          obtain ⟨S, hS⟩ : ∃ S, S = wsum ws l' := ⟨_, rfl⟩
          obtain ⟨M, hM⟩ : ∃ M, M = mostF ws bl 0 0 l' := ⟨_, rfl⟩
          have HX := hide hx
          have HS3 := hide hS
          have HM3 := hide hM
          rw [← hx] at x7 hxb
          rw [← hS] at hSb ⊢
          rw [← hM] at hMb ⊢
          have hjz : ¬ (j : Int) < ((T' k).length : Int) := by omega
          have hw1 : IntKind.i64.wrap (S + x) = S + x := by rw [IntKind.wrap_i64]; omega
          have hw2 : IntKind.i64.wrap (S + x - x) = S + x - x := by rw [IntKind.wrap_i64]; omega
          have hw3 : IntKind.i64.wrap (M - x) = M - x := by rw [IntKind.wrap_i64]; omega
          have z7 := lt_of_cell x7
          simp only at z7
          have HBD : Hid (0 ≤ max M (S + x) - x ∧ max M (S + x) - x ≤ ((k : Int) + 1) * 4294967296) := by rw [Hid]; omega
          clear hall hx hS hM hSl hSl2 hSb hMb
          go_wp2_with fail
          go_region
          all_goals go_wp2_with fail
          have hw4 : wrap64 (max M (S + x) - x) = max M (S + x) - x := by have := HBD.out; unfold wrap64; omega
          rw [hw4]
          refine ⟨⟨k + 1, _, _, by omega, by go_num, HST.out.next (by rw [← HTK.out]; exact HS1.out) hlt (fun s hs => (HT.out s hs).2) ?_ HBD.out, HI.out.laid hBs k _⟩, by simp [intOf]; omega⟩
          rw [beyV, ← HX.out, ← HS3.out, ← HM3.out]
    · obtain rfl : k = n := by omega
      go_wp2
      exact bodyPost_end (v := .tuple #[]) (by simp [results, Try.results33, go_sem]) rfl ⟨rfl, ⟨T', bl, HST.out, HV.out.row⟩, HV.out.bel, HV.out.kept⟩
end Go.Proofs.Ytnncalhpbfmgoaa.V
