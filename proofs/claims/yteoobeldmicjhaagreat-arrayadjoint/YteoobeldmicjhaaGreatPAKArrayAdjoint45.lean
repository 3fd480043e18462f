/-
  Contracts: array.Dims, array.Do, over what shape answers. Contracts: array.Do, by kind, without bounds. Contract: adjointref2.Dims of the seven kinds.
-/
import Derived.Test.YteoobeldmicjhaaGreatPAKArrayAdjoint35
import Derived.Test.YteoobeldmicjhaaGreatPAKArrayAdjoint43
import Derived.Test.YteoobeldmicjhaaGreatPAKArrayAdjoint42
import Derived.Test.YteoobeldmicjhaaGreatPAKArrayAdjoint33
namespace Go.Proofs.YteoobeldmicjhaaGreat.V
set_option maxRecDepth 20000
open Go.RowKit

set_option maxRecDepth 100000 in
set_option maxHeartbeats 4000000 in
theorem Dims_Q (k x : Int) (ea : Option Addr) (el ec : Nat) (es : List Int) (pa : Option Addr) (pl pc : Nat) (ps : List Int) (la : Option Addr) (ll lc : Nat) (lo : List Int) (ha : Option Addr) (hl hc : Nat) (hi : List Int) (ta : Option Addr) (tl tc : Nat) (st : List Int) (A : Option Addr) (len cap : Nat) (xss : List (List Int)) (w : World)
    (he : Lst w ea el ec es) (hp : Lst w pa pl pc ps) (hlo : Lst w la ll lc lo) (hhi : Lst w ha hl hc hi) (hst : Lst w ta tl tc st) (h : LstsQ w A len xss) (hcap : len ≤ cap) (hlen : len ≤ 1048576) (hS : ∀ (W : World) (A : Option Addr) (cap : Nat), Below w.heap.size w W → LstsQ W A len (xss) → len ≤ cap → Calls Tryz.prog 41 #[.agg #[.int .i64 k, .slice ea el ec, .slice pa pl pc, .slice la ll lc, .slice ha hl hc, .slice ta tl tc, .int .i64 x], .slice A len cap] W fun e w' => OutP e w' (shapeP k es ps lo hi st (xss)) ∧ Below W.heap.size W w') :
    Calls Tryz.prog 22 #[.agg #[.int .i64 k, .slice ea el ec, .slice pa pl pc, .slice la ll lc, .slice ha hl hc, .slice ta tl tc, .int .i64 x], .slice A len cap] w fun e w' => OutP e w' (dimsP k es ps lo hi st xss) ∧ Below w.heap.size w w' := by
  have hmx := h.2.1
  have H := hide h
  have HN := hide h.1
  have HE := hide he
  have HP := hide hp
  have HLO := hide hlo
  have HHI := hide hhi
  have HST := hide hst
  have HB1 := hide ((Below.refl w.heap.size w).alloc (Nat.le_refl _) (.cells #[.int .i64 k, .slice ea el ec, .slice pa pl pc, .slice la ll lc, .slice ha hl hc, .slice ta tl tc, .int .i64 x] 31))
  have HOP := hide (OpAt.new w k (.slice ea el ec) (.slice pa pl pc) (.slice la ll lc) (.slice ha hl hc) (.slice ta tl tc) x)
  obtain ⟨o0, o1, o2, o3, o4, o5, o6⟩ := HOP.out.cells
  have HDP := hide (show dimsP k es ps lo hi st xss = if takesE k xss.length ≠ 0 then ([], takesE k xss.length) else if sizesE xss ≠ 0 then ([], sizesE xss) else if (shapeP k es ps lo hi st xss).2 ≠ 0 then ([], (shapeP k es ps lo hi st xss).2) else if sizeE (shapeP k es ps lo hi st xss).1 ≠ 0 then ([], sizeE (shapeP k es ps lo hi st xss).1) else ((shapeP k es ps lo hi st xss).1, 0) from rfl)
  have HSH := hide hS
  clear h he hp hlo hhi hst hS
  by_cases c1 : takesE k len = 0
  case neg =>
    obtain ⟨T, hT⟩ : ∃ T, T = takesE k len := ⟨_, rfl⟩
    have hp : dimsP k es ps lo hi st xss = ([], T) := by rw [HDP.out, HN.out, if_pos c1, ← hT]
    rw [hp]
    have HT := hide hT
    have q : (T != 0) = true := by rw [hT]; simp [c1]
    clear hp c1 hT
    go_enter Tryz.func22, Tryz.ntmps22
    go_wp2_with (go_at_call 20; refine (takes_any _ _ _).mono ?_; rintro e w' ⟨rfl, hw'⟩; obtain rfl := hw'.symm; rw [← HT.out])
    go_ret2
    exact ⟨outP_none _ _, HB1.out⟩
  have HC1 := hide c1
  clear c1
  go_enter Tryz.func22, Tryz.ntmps22
  go_wp2_with (go_at_call 20; refine (takes_any _ _ _).mono ?_; rintro e w' ⟨rfl, hw'⟩; obtain rfl := hw'.symm; rw [HC1.out])
  go_loopw [25] (fun i wr => ∃ j : Nat, j ≤ len ∧ i = .int .i64 j ∧ (∀ t, t < j → sizeE (xss[t]?.getD []) = 0) ∧ OpAt wr w.heap.size k (.slice ea el ec) (.slice pa pl pc) (.slice la ll lc) (.slice ha hl hc) (.slice ta tl tc) x ∧ Below w.heap.size w wr) (fun i _ => len - (intOf i).toNat)
  case atStart => exact ⟨0, Nat.zero_le _, rfl, fun t ht => by omega, HOP.out, HB1.out⟩
  case round =>
    obtain ⟨j, hj, rfl, hgood, ho, hB⟩ := hrel
    have HG := hide hgood
    have HO := hide ho
    have HB := hide hB
    clear hgood ho hB o0 o1 o2 o3 o4 o5 o6
    by_cases hlt : j < len
    · obtain ⟨b, off, rfl, hc⟩ := H.out.at (by omega)
      obtain ⟨X, m, c, hcj0, hlj⟩ := hc j hlt
      have hcj : wr.cell? ⟨b, off + j, none⟩ = some (.slice X m c) := (HB.out.cell (p := ⟨b, off + j, none⟩) (lt_of_cell hcj0)).trans hcj0
      have HLJ := hide hlj
      clear hlj hcj0 hc
      obtain ⟨T, hT⟩ : ∃ T, T = sizeE (xss[j]?.getD []) := ⟨_, rfl⟩
      have HT := hide hT
      by_cases c2 : T = 0
      · have HT0 : Hid (sizeE (xss[j]?.getD []) = 0) := hT.symm.trans c2
        clear hT c2 HT
        go_wp2_with (go_at_call 40; refine (size_any _ _ _ (xss[j]?.getD []) _ (HLJ.out.1.below HB.out)).mono ?_; rintro e w' ⟨rfl, hw'⟩; obtain rfl := hw'.symm; rw [HT0.out])
        go_roundw
        case rel =>
          refine ⟨j + 1, by omega, by go_num, fun t ht => ?_, HO.out, HB.out⟩
          by_cases e : t = j
          · rw [e]; exact HT0.out
          · exact HG.out t (by omega)
        case measure => simp [intOf]; omega
      · have q : (T != 0) = true := by simp [c2]
        have hsz : sizesE xss = T := by
          rw [hT]
          exact sizesE_at xss j HG.out (by rw [HN.out]; exact hlt) (by rw [← hT]; exact c2)
        have hp : dimsP k es ps lo hi st xss = ([], T) := by rw [HDP.out, HN.out, if_neg (by rw [HC1.out]; simp), hsz, if_pos c2]
        have HPP := hide hp
        clear hp hsz hT c2
        go_wp2_with (go_at_call 40; refine (size_any _ _ _ (xss[j]?.getD []) _ (HLJ.out.1.below HB.out)).mono ?_; rintro e w' ⟨rfl, hw'⟩; obtain rfl := hw'.symm; rw [← HT.out])
        go_ret2
        rw [HPP.out]
        exact ⟨outP_none _ _, HB.out⟩
    · obtain rfl : j = len := by omega
      have hall : sizesE xss = 0 := sizesE_all xss (fun t ht => HG.out t (by rw [HN.out] at ht; exact ht))
      have HZ := hide (sizesE_ok xss hall)
      have HD2 : Hid (dimsP k es ps lo hi st xss = if (shapeP k es ps lo hi st xss).2 ≠ 0 then ([], (shapeP k es ps lo hi st xss).2) else if sizeE (shapeP k es ps lo hi st xss).1 ≠ 0 then ([], sizeE (shapeP k es ps lo hi st xss).1) else ((shapeP k es ps lo hi st xss).1, 0)) := by
        rw [Hid, HDP.out, HN.out, if_neg (by rw [HC1.out]; simp), if_neg (by rw [hall]; simp)]
      have HCS := hide (HSH.out wr _ cap HB.out (H.out.below HB.out) hcap)
      obtain ⟨⟨L, E⟩, hLE⟩ : ∃ r, r = shapeP k es ps lo hi st xss := ⟨_, rfl⟩
      rw [← hLE] at HCS HD2
      have hd2 := HD2.out
      simp only at hd2
      obtain ⟨o0, o1, o2, o3, o4, o5, o6⟩ := HO.out.cells
      clear hall hLE HDP HD2
      by_cases c3 : E = 0
      case neg =>
        have q : (E != 0) = true := by simp [c3]
        rw [if_pos c3] at hd2
        have HPP := hide hd2
        clear hd2 c3
        go_wp2_with (go_at_call 41; refine HCS.out.mono ?_; rintro e w1 ⟨⟨Z, nz, cz, rfl, hi1, hnc⟩, hb⟩; have HB2 := hide (Below.on HB.out hb); clear hi1 hb)
        go_ret2
        rw [HPP.out]
        exact ⟨outP_none _ _, HB2.out⟩
      subst c3
      rw [if_neg (by simp)] at hd2
      obtain ⟨S, hS⟩ : ∃ S, S = sizeE L := ⟨_, rfl⟩
      have HSS := hide hS
      rw [← hS] at hd2
      clear hS
      by_cases c4 : S = 0
      · subst c4
        rw [if_neg (by simp)] at hd2
        have HPP := hide hd2
        clear hd2
        go_wp2_with (first
          | (go_at_call 41; refine HCS.out.mono ?_; rintro e w1 ⟨⟨Z, nz, cz, rfl, hi1, hnc⟩, hb⟩; have HI1 : Hid (Ints w1 Z nz L) := hi1; have HB2 := hide (Below.on HB.out hb); clear hi1 hb)
          | (go_at_call 40; refine (size_any _ _ _ L _ HI1.out).mono ?_; rintro e w' ⟨rfl, hw'⟩; obtain rfl := hw'.symm; rw [← HSS.out]))
        go_ret2
        rw [HPP.out]
        exact ⟨⟨_, _, _, rfl, HI1.out, hnc⟩, HB2.out⟩
      · have q : (S != 0) = true := by simp [c4]
        rw [if_pos c4] at hd2
        have HPP := hide hd2
        clear hd2 c4
        go_wp2_with (first
          | (go_at_call 41; refine HCS.out.mono ?_; rintro e w1 ⟨⟨Z, nz, cz, rfl, hi1, hnc⟩, hb⟩; have HI1 : Hid (Ints w1 Z nz L) := hi1; have HB2 := hide (Below.on HB.out hb); clear hi1 hb)
          | (go_at_call 40; refine (size_any _ _ _ L _ HI1.out).mono ?_; rintro e w' ⟨rfl, hw'⟩; obtain rfl := hw'.symm; rw [← HSS.out]))
        go_ret2
        rw [HPP.out]
        exact ⟨outP_none _ _, HB2.out⟩


set_option maxRecDepth 100000 in
set_option maxHeartbeats 4000000 in
theorem Do_goodQ (k x : Int) (ea : Option Addr) (el ec : Nat) (es : List Int) (pa : Option Addr) (pl pc : Nat) (ps : List Int) (la : Option Addr) (ll lc : Nat) (lo : List Int) (ha : Option Addr) (hl hc : Nat) (hi : List Int) (ta : Option Addr) (tl tc : Nat) (st : List Int) (A : Option Addr) (m cap : Nat) (v : Nat → ArrV) (L : List Int) (n : Nat) (f : List Int) (w : World)
    (he : Lst w ea el ec es) (hp : Lst w pa pl pc ps) (hlo : Lst w la ll lc lo) (hhi : Lst w ha hl hc hi) (hst : Lst w ta tl tc st) (hA : ArrsQ w A m v) (hm : m ≤ 1048576) (hE : doE k es ps lo hi st m v = 0) (hL : L = (dimsP k es ps lo hi st (dimsOf m v)).1) (hN : (n : Int) = prod L) (hfl : f.length = n) (hfb : ∀ y ∈ f, -9223372036854775808 ≤ y ∧ y ≤ 9223372036854775807)
    (hS : ∀ (W : World) (A : Option Addr) (cap : Nat), Below w.heap.size w W → LstsQ W A m (dimsOf m v) → m ≤ cap → Calls Tryz.prog 41 #[.agg #[.int .i64 k, .slice ea el ec, .slice pa pl pc, .slice la ll lc, .slice ha hl hc, .slice ta tl tc, .int .i64 x], .slice A m cap] W fun e w' => OutP e w' (shapeP k es ps lo hi st (dimsOf m v)) ∧ Below W.heap.size W w')
    (hwork : 0 < n → ∀ (W : World) (Z : Option Addr) (nz cz g : Nat), Below w.heap.size w W → w.heap.size ≤ g → Ints W Z nz L → nz ≤ cz → W.rowIs g 2 n (fun _ => .int .i64 0) → Calls Tryz.prog 24 #[.agg #[.slice Z nz cz, .slice (some ⟨g, 0, none⟩) n n], .agg #[.int .i64 k, .slice ea el ec, .slice pa pl pc, .slice la ll lc, .slice ha hl hc, .slice ta tl tc, .int .i64 x], .slice A m cap] W fun e W' => e = .returned (.tuple #[]) ∧ W'.rowIs g 2 n (fun j => .int .i64 (f[j]?.getD 0)) ∧ Save g W W') :
    Calls Tryz.prog 9 #[.agg #[.int .i64 k, .slice ea el ec, .slice pa pl pc, .slice la ll lc, .slice ha hl hc, .slice ta tl tc, .int .i64 x], .slice A m cap] w fun e w' => (∃ (Z : Option Addr) (nz cz G : Nat), e = .returned (.tuple #[.agg #[.slice Z nz cz, .slice (some ⟨G, 0, none⟩) n n], .int .i64 0]) ∧ (Ints w' Z nz L ∧ nz ≤ cz) ∧ Ints w' (some ⟨G, 0, none⟩) n f ∧ w.heap.size ≤ G) ∧ Below w.heap.size w w' := by
  obtain ⟨c1, c2, c3⟩ := doE_ok hE
  have hz := dimsP_ok c3
  rw [← hL] at hz
  have hn6 : n ≤ 65536 := by
    have : arrE L n = 0 := by
      unfold arrE
      rw [if_neg (by rw [hz]; simp), if_neg (by rw [size_prod hz, hN]; simp)]
    exact (arrE_ok this).2.2
  have HE := hide he
  have HP := hide hp
  have HLO := hide hlo
  have HHI := hide hhi
  have HST := hide hst
  have HAA := hide hA
  have HC1 := hide c1
  have HOK := hide (arrsE_ok m c2)
  have HZ := hide hz
  have HN := hide hN
  have HFL := hide hfl
  have HFB := hide hfb
  have HW := hide hwork
  have HSH := hide hS
  have HDP : Hid (dimsP k es ps lo hi st (dimsOf m v) = (L, 0)) := by
    rw [Hid, hL]
    exact Prod.ext rfl c3
  have HB1 := hide ((Below.refl w.heap.size w).alloc (Nat.le_refl _) (.cells #[.int .i64 k, .slice ea el ec, .slice pa pl pc, .slice la ll lc, .slice ha hl hc, .slice ta tl tc, .int .i64 x] 31))
  have HB2 := hide (HB1.out.alloc HB1.out.size (.cells #[.slice none 0 0, .slice none 0 0] 25))
  have HOP := hide ((OpAt.new w k (.slice ea el ec) (.slice pa pl pc) (.slice la ll lc) (.slice ha hl hc) (.slice ta tl tc) x).alloc (.cells #[.slice none 0 0, .slice none 0 0] 25))
  have har := ArrAt.new (w.alloc (.cells #[.int .i64 k, .slice ea el ec, .slice pa pl pc, .slice la ll lc, .slice ha hl hc, .slice ta tl tc, .int .i64 x] 31)) (.slice none 0 0) (.slice none 0 0)
  simp only [World.size_alloc] at har
  have HAR := hide har
  obtain ⟨o0, o1, o2, o3, o4, o5, o6⟩ := HOP.out.cells
  have hmk := run_make_row' (P := Tryz.prog) 45 22 (.slice none 0 0) 24 Tryz.underlying45 info_ints rfl .i64 .i64 m (by omega) (by omega)
  have hmk2 := run_make_row' (P := Tryz.prog) 23 2 (.int .i64 0) 8 Tryz.underlying23 info_int64 rfl .i64 .i64 n (by omega) (by omega)
  clear he hp hlo hhi hst hA har hE hL hN hfl hfb hwork hS c1 c2 c3 hz
  go_enter Tryz.func9, Tryz.ntmps9
  go_wp2_with (go_at_call 20; refine (takes_any _ _ _).mono ?_; rintro e w' ⟨rfl, hw'⟩; obtain rfl := hw'.symm; rw [HC1.out])
  go_loopw [28] (fun i wr => ∃ j : Nat, j ≤ m ∧ i = .int .i64 j ∧ wr.rowIs (w.heap.size + 1 + 1) 22 m (rowV v j) ∧ OpAt wr w.heap.size k (.slice ea el ec) (.slice pa pl pc) (.slice la ll lc) (.slice ha hl hc) (.slice ta tl tc) x ∧ ArrAt wr (w.heap.size + 1) (.slice none 0 0) (.slice none 0 0) ∧ Below w.heap.size w wr) (fun i _ => m - (intOf i).toNat)
  case atStart =>
    refine ⟨0, by omega, rfl, ?_, HOP.out.alloc _, HAR.out.alloc _, HB2.out.alloc HB2.out.size _⟩
    have := World.rowIs_made ((w.alloc (.cells #[.int .i64 k, .slice ea el ec, .slice pa pl pc, .slice la ll lc, .slice ha hl hc, .slice ta tl tc, .int .i64 x] 31)).alloc (.cells #[.slice none 0 0, .slice none 0 0] 25)) (.slice none 0 0) m 22
    simp only [World.size_alloc] at this
    exact this.congr (fun t _ => by simp [rowV])
  case round =>
    obtain ⟨j, hj, rfl, hrow, hop, har, hB⟩ := hrel
    have HR := hide hrow
    have HO := hide hop
    have HA := hide har
    have HB := hide hB
    clear hrow hop har hB o0 o1 o2 o3 o4 o5 o6
    by_cases hlt : j < m
    · obtain ⟨b, off, rfl, hcs⟩ := HAA.out.resolve_left (by omega)
      obtain ⟨d0, d1, hl⟩ := hcs j hlt
      have hbl : b < w.heap.size := lt_of_cell d0
      have hok := HOK.out j hlt
      obtain ⟨⟨da, dl, dc, ds, xa, xl, xc⟩, hv⟩ : ∃ u, u = v j := ⟨_, rfl⟩
      rw [← hv] at d0 d1 hl hok
      simp only [ArrV.d, ArrV.x] at d0 d1 hl hok
      have s0 := (HB.out.cell (p := ⟨b, off + j * 2, none⟩) hbl).trans d0
      have s1 := (HB.out.cell (p := ⟨b, off + j * 2 + 1, none⟩) hbl).trans d1
      have HL := hide hl
      have HV := hide hv
      have HE1 := hide hok
      have HAN := hide (ArrAt.new wr (.slice da dl dc) (.slice xa xl xc))
      have HBN := hide (HB.out.alloc HB.out.size (.cells #[.slice da dl dc, .slice xa xl xc] 25))
      have HAB := hide (HA.out.alloc (.cells #[.slice da dl dc, .slice xa xl xc] 25))
      obtain ⟨⟨a0, a1⟩, _⟩ := HAN.out.cells
      clear hcs d0 d1 hl hv hok
      go_wp2_with (go_at_call 21; refine (awrong_any da dl dc ds xa xl xc _ (HL.out.1.below HBN.out)).mono ?_; rintro e w1 ⟨rfl, hb⟩; rw [HE1.out]; have HB3 := hide (Below.on HBN.out hb); have HA3 := hide (HAB.out.below hb); have HO3 := hide ((HO.out.alloc _).below hb); have HR3 := hide ((HR.out.of_block (Below.heap_alloc _ (.cells #[.slice da dl dc, .slice xa xl xc] 25) _ HR.out.lt)).of_block (hb.block _ (by have := HR.out.lt; simp; omega))); have HAN3 := hide (HAN.out.below hb); clear a0 a1 hb; obtain ⟨⟨a0, a1⟩, _⟩ := HAN3.out.cells; have hr := HR3.out.cell hlt; have hf := HR3.out.frozen j)
      go_roundw
      case rel =>
        refine ⟨j + 1, by omega, by go_num, (HR3.out.set j (.slice da dl dc)).congr (fun t ht => ?_), HO3.out.set (p := ⟨w.heap.size + 1 + 1, j, none⟩) (by simp; omega) _, HA3.out.set (p := ⟨w.heap.size + 1 + 1, j, none⟩) (by simp) _, HB3.out.setCell (p := ⟨w.heap.size + 1 + 1, j, none⟩) (by simp; omega) _⟩
        by_cases e : t = j
        · rw [e, if_pos rfl, rowV, if_pos (by omega), ← HV.out]; rfl
        · rw [if_neg e, rowV, rowV]
          by_cases h : t < j
          · rw [if_pos h, if_pos (by omega)]
          · rw [if_neg h, if_neg (by omega)]
      case measure => simp [intOf]; omega
    · obtain rfl : j = m := by omega
      have HLS : Hid (LstsQ wr (some ⟨w.heap.size + 1 + 1, 0, none⟩) j (dimsOf j v)) := by
        refine ⟨dimsOf_len _ _, by omega, ?_⟩
        by_cases h0 : j = 0
        · exact .inl h0
        · refine .inr ⟨_, _, rfl, fun t ht => ?_⟩
          obtain ⟨b, off, rfl, hcs⟩ := HAA.out.resolve_left h0
          have := HR.out.cell ht
          rw [rowV, if_pos ht, ArrV.d] at this
          exact ⟨_, _, _, by rw [Nat.zero_add]; exact this, by rw [dimsOf_at _ _ _ ht]; exact (hcs t ht).2.2.below HB.out⟩
      have hcd := Dims_Q k x _ _ ec es _ _ pc ps _ _ lc lo _ _ hc hi _ _ tc st _ _ j (dimsOf j v) wr (HE.out.below HB.out) (HP.out.below HB.out) (HLO.out.below HB.out) (HHI.out.below HB.out) (HST.out.below HB.out) HLS.out (Nat.le_refl _) hm (fun W A cap hW => HSH.out W A cap (Below.on HB.out hW))
      rw [HDP.out] at hcd
      have HCD := hide hcd
      obtain ⟨o0, o1, o2, o3, o4, o5, o6⟩ := HO.out.cells
      clear hcd
      by_cases hn0 : (0 : Int) < (n : Int)
      case neg =>
        have hn2 : decide ((0 : Int) < (n : Int)) = false := decide_eq_false hn0
        have hn3 : n = 0 := by omega
        have hn4 : decide (0 < n) = false := decide_eq_false (by omega)
        have hn5 : ¬ 0 < n := by omega
        have HN3 := hide hn3
        clear hn3 hn0
        go_wp2_with (first
          | (go_at_call 22; refine HCD.out.mono ?_; rintro e w1 ⟨⟨Z, nz, cz, rfl, hi1, hnc⟩, hb⟩; have HI1 : Hid (Ints w1 Z nz L) := hi1; have HB2 := hide (Below.on HB.out hb); have hna := HA.out.lt; have HO2 := hide (HO.out.below hb); have HA2 := hide (HA.out.below hb); clear hi1 hb o0 o1 o2 o3 o4 o5 o6; obtain ⟨o0, o1, o2, o3, o4, o5, o6⟩ := HO2.out.cells)
          | (go_at_call 23; refine (count_any _ _ _ L _ HI1.out (count_ok HZ.out)).mono ?_; rintro e w' ⟨rfl, hw'⟩; obtain rfl := hw'.symm; rw [← HN.out]; have HO5 := hide ((HO2.out.alloc (.cells (madeCells #[.int .i64 0] n) 2)).alloc (.cells #[.slice Z nz cz, .slice (some ⟨w1.heap.size, 0, none⟩) n n] 25)); have HA5 := hide ((HA2.out.alloc (.cells (madeCells #[.int .i64 0] n) 2)).alloc (.cells #[.slice Z nz cz, .slice (some ⟨w1.heap.size, 0, none⟩) n n] 25)); have HB5 := hide ((HB2.out.alloc HB2.out.size (.cells (madeCells #[.int .i64 0] n) 2)).alloc (HB2.out.alloc HB2.out.size (.cells (madeCells #[.int .i64 0] n) 2)).size (.cells #[.slice Z nz cz, .slice (some ⟨w1.heap.size, 0, none⟩) n n] 25)); have hx5 := ArrAt.new (w1.alloc (.cells (madeCells #[.int .i64 0] n) 2)) (.slice Z nz cz) (.slice (some ⟨w1.heap.size, 0, none⟩) n n); simp only [World.size_alloc] at hx5; have HX5 := hide hx5; clear o0 o1 o2 o3 o4 o5 o6 hx5; obtain ⟨o0, o1, o2, o3, o4, o5, o6⟩ := HO5.out.cells; obtain ⟨⟨x0, x1⟩, _⟩ := HX5.out.cells; obtain ⟨⟨a0, a1⟩, fa0, fa1⟩ := HA5.out.cells))
        have hs1 := HB2.out.size
        have ha1 := HA2.out.lt
        obtain ⟨⟨u0, u1⟩, _⟩ := (HA5.out.put (.slice Z nz cz) (.slice (some ⟨w1.heap.size, 0, none⟩) n n)).cells
        refine bodyPost_ret (v := .tuple #[.agg #[.slice Z nz cz, .slice (some ⟨w1.heap.size, 0, none⟩) n n], .int .i64 0]) (by simp [results, Tryz.results9, go_sem, u0, u1]) rfl ⟨⟨Z, nz, cz, w1.heap.size, rfl, ⟨?_, hnc⟩, ?_, hs1⟩, ?_⟩
        · exact ints_put_arr (HI1.out.below (((Below.refl _ _).alloc (Nat.le_refl _) _).alloc (by simp) _)) HA5.out (fun _ _ e => by cases e) (fun _ _ e => by cases e) _ _
        · exact ⟨HFL.out, by omega, HFB.out, .inl HN3.out⟩
        · exact (HB5.out.setCell (p := ⟨w.heap.size + 1, 0, none⟩) (by simp) _).setCell (p := ⟨w.heap.size + 1, 1, none⟩) (by simp) _
      go_wp2_with (first
        | (go_at_call 22; refine HCD.out.mono ?_; rintro e w1 ⟨⟨Z, nz, cz, rfl, hi1, hnc⟩, hb⟩; have HI1 : Hid (Ints w1 Z nz L) := hi1; have HB2 := hide (Below.on HB.out hb); have hna := HA.out.lt; have HO2 := hide (HO.out.below hb); have HA2 := hide (HA.out.below hb); clear hi1 hb o0 o1 o2 o3 o4 o5 o6; obtain ⟨o0, o1, o2, o3, o4, o5, o6⟩ := HO2.out.cells)
        | (go_at_call 23; refine (count_any _ _ _ L _ HI1.out (count_ok HZ.out)).mono ?_; rintro e w' ⟨rfl, hw'⟩; obtain rfl := hw'.symm; rw [← HN.out]; have HO5 := hide ((HO2.out.alloc (.cells (madeCells #[.int .i64 0] n) 2)).alloc (.cells #[.slice Z nz cz, .slice (some ⟨w1.heap.size, 0, none⟩) n n] 25)); have HA5 := hide ((HA2.out.alloc (.cells (madeCells #[.int .i64 0] n) 2)).alloc (.cells #[.slice Z nz cz, .slice (some ⟨w1.heap.size, 0, none⟩) n n] 25)); have HB5 := hide ((HB2.out.alloc HB2.out.size (.cells (madeCells #[.int .i64 0] n) 2)).alloc (HB2.out.alloc HB2.out.size (.cells (madeCells #[.int .i64 0] n) 2)).size (.cells #[.slice Z nz cz, .slice (some ⟨w1.heap.size, 0, none⟩) n n] 25)); have hx5 := ArrAt.new (w1.alloc (.cells (madeCells #[.int .i64 0] n) 2)) (.slice Z nz cz) (.slice (some ⟨w1.heap.size, 0, none⟩) n n); simp only [World.size_alloc] at hx5; have HX5 := hide hx5; clear o0 o1 o2 o3 o4 o5 o6 hx5; obtain ⟨o0, o1, o2, o3, o4, o5, o6⟩ := HO5.out.cells; obtain ⟨⟨x0, x1⟩, _⟩ := HX5.out.cells)
        | (go_at_call 24; refine (HW.out (by omega) _ Z nz cz w1.heap.size HB5.out HB2.out.size (HI1.out.below (((Below.refl _ _).alloc (Nat.le_refl _) _).alloc (by simp) _)) hnc ((World.rowIs_made w1 (.int .i64 0) n 2).of_block (Below.heap_alloc _ _ _ (by simp)))).mono ?_; rintro e w6 ⟨rfl, hr6, hsv⟩; have hs0 := HB2.out.size; have ha0 := HA2.out.lt; have HR6 := hide hr6; have HX6 : Hid (ArrAt w6 (w1.heap.size + 1) _ _) := (hsv.1 (w1.heap.size + 1) (by simp) (by omega)).trans HX5.out; have HA6 : Hid (ArrAt w6 (w.heap.size + 1) _ _) := (hsv.1 (w.heap.size + 1) (by simp; omega) (by omega)).trans HA5.out; have HI6 := hide (ints_save HI1.out (((Below.refl _ _).alloc (Nat.le_refl _) (.cells (madeCells #[.int .i64 0] n) 2)).alloc (by simp) (.cells #[.slice Z nz cz, .slice (some ⟨w1.heap.size, 0, none⟩) n n] 25)) hsv); have HB6 := hide (Save.below HB5.out hsv (by omega) (Nat.le_refl _)); clear hsv hr6 x0 x1 o0 o1 o2 o3 o4 o5 o6; obtain ⟨⟨x0, x1⟩, _⟩ := HX6.out.cells; obtain ⟨⟨a0, a1⟩, fa0, fa1⟩ := HA6.out.cells))
      have hs1 := HB2.out.size
      have ha1 := HA2.out.lt
      obtain ⟨⟨u0, u1⟩, _⟩ := (HA6.out.put (.slice Z nz cz) (.slice (some ⟨w1.heap.size, 0, none⟩) n n)).cells
      refine bodyPost_ret (v := .tuple #[.agg #[.slice Z nz cz, .slice (some ⟨w1.heap.size, 0, none⟩) n n], .int .i64 0]) (by simp [results, Tryz.results9, go_sem, u0, u1]) rfl ⟨⟨Z, nz, cz, w1.heap.size, rfl, ⟨?_, hnc⟩, ?_, hs1⟩, ?_⟩
      · exact ints_put_arr HI6.out HA6.out (fun _ _ e => by cases e) (fun _ _ e => by cases e) _ _
      · have hr8 := (HR6.out.setOther (a := ⟨w.heap.size + 1, 0, none⟩) (by simp; omega) (.slice Z nz cz)).setOther (a := ⟨w.heap.size + 1, 1, none⟩) (by simp; omega) (.slice (some ⟨w1.heap.size, 0, none⟩) n n)
        exact ⟨HFL.out, by omega, HFB.out, .inr ⟨_, _, rfl, fun t ht => by rw [Nat.zero_add]; exact hr8.cell ht⟩⟩
      · exact (HB6.out.setCell (p := ⟨w.heap.size + 1, 0, none⟩) (by simp) _).setCell (p := ⟨w.heap.size + 1, 1, none⟩) (by simp) _


end Go.Proofs.YteoobeldmicjhaaGreat.V
namespace Go.Proofs.YteoobeldmicjhaaGreat.V
set_option maxRecDepth 20000
open Go.RowKit

theorem do_look2Q (k : Int) (hk : k = 9 ∨ k = 11 ∨ k = 13 ∨ k = 15) (x : Int) (ea : Option Addr) (el ec : Nat) (es : List Int) (pa : Option Addr) (pl pc : Nat) (ps : List Int) (la : Option Addr) (ll lc : Nat) (lo : List Int) (ha : Option Addr) (hl hc : Nat) (hi : List Int) (ta : Option Addr) (tl tc : Nat) (st : List Int) (ds : List Int) (n : Nat) (S : Int) (D Tt : List Int) (w : World)
    (he : Lst w ea el ec es) (hp : Lst w pa pl pc ps) (hlo : Lst w la ll lc lo) (hhi : Lst w ha hl hc hi) (hst : Lst w ta tl tc st) (hE : doE k es ps lo hi st 1 (oneV ds n) = 0) (hL : (shapeP k es ps lo hi st [ds]).1 = D) (hwr : wrongE S D Tt = 0) (hq : ∀ i : Nat, i < (prod D).toNat → ∃ p : Nat, p < (prod ds).toNat ∧ (readsV S D Tt)[i]?.getD 0 = (p : Int))
    (hS : ∀ (W0 : World) (A : Option Addr) (cap : Nat), Below w.heap.size w W0 → LstsQ W0 A 1 [ds] → 1 ≤ cap → Calls Tryz.prog 41 #[.agg #[.int .i64 k, .slice ea el ec, .slice pa pl pc, .slice la ll lc, .slice ha hl hc, .slice ta tl tc, .int .i64 x], .slice A 1 cap] W0 fun e w' => OutP e w' (shapeP k es ps lo hi st [ds]) ∧ Below W0.heap.size W0 w')
    (hseen : ∀ (W : World) (da : Option Addr) (dl dc : Nat), Below w.heap.size w W → Ints W da dl ds → Calls Tryz.prog 61 #[.agg #[.int .i64 k, .slice ea el ec, .slice pa pl pc, .slice la ll lc, .slice ha hl hc, .slice ta tl tc, .int .i64 x], .slice da dl dc] W fun e W' => Seen S D Tt e W' ∧ Below W.heap.size W W') :
    ∀ (W : World) (b off cap : Nat) (da : Option Addr) (dl dc : Nat) (xa : Option Addr) (xc : Nat) (xs : List Int), Below w.heap.size w W → W.cell? ⟨b, off, none⟩ = some (.slice da dl dc) → W.cell? ⟨b, off + 1, none⟩ = some (.slice xa n xc) → LstQ W da dl dc ds → Ints W xa n xs → n ≤ xc → Calls Tryz.prog 9 #[.agg #[.int .i64 k, .slice ea el ec, .slice pa pl pc, .slice la ll lc, .slice ha hl hc, .slice ta tl tc, .int .i64 x], .slice (some ⟨b, off, none⟩) 1 cap] W fun e W' => DoesTo W D (lookL xs (readsV S D Tt)) (prod D).toNat e W' ∧ Below W.heap.size W W' := by
  obtain ⟨hae, hs1, hs2, hs3⟩ := oneV_parts hE
  rw [hL] at hs2 hs3
  obtain ⟨haL, hN⟩ := arrE_of hs2
  have hn := (arrE_ok hae).2.1
  have hlen : (readsV S D Tt).length = (prod D).toNat := readsV_length _ _ _
  intro W b off cap da dl dc xa xc xs hW c0 c1 hd hx hxc
  have hn6 := (arrE_ok haL).2.2
  have hbk := lt_of_cell c0
  refine Do_goodQ k x ea el ec es pa pl pc ps la ll lc lo ha hl hc hi ta tl tc st (some ⟨b, off, none⟩) 1 cap (fun _ => ⟨da, dl, dc, ds, xa, n, xc⟩) D (prod D).toNat (lookL xs (readsV S D Tt)) W (he.below hW) (hp.below hW) (hlo.below hW) (hhi.below hW) (hst.below hW) (.inr ⟨b, off, rfl, fun j hj => by obtain rfl : j = 0 := by { omega }; exact ⟨c0, c1, hd⟩⟩) (by omega) ((doE_congr (fun j _ => ⟨rfl, rfl⟩)).trans hE) hs3.symm hN ((lookL_length _ _).trans hlen) (lookL_bd hx.2.2.1) (fun W0 A cap hW5 hl5 hc5 => hS W0 A cap (hW.trans (hW5.mono hW.size)) hl5 hc5) ?_
  intro hpos W2 Z nz cz g hW2 hg _ _ hrow
  have hn0 : 0 < n := by
    obtain ⟨p, hp', _⟩ := hq 0 hpos
    omega
  have hWW := hW.trans (hW2.mono hW.size)
  exact work_look k x hk (.slice ea el ec) (.slice pa pl pc) (.slice la ll lc) (.slice ha hl hc) (.slice ta tl tc) Z nz cz g (prod D).toNat b off 1 cap (.slice da dl dc) xa n xc xs (readsV S D Tt) W2 (by omega) ((hW2.cell (p := ⟨b, off, none⟩) (lt_of_cell c0)).trans c0) ((hW2.cell (p := ⟨b, off + 1, none⟩) (lt_of_cell c1)).trans c1) (hx.below hW2) (off_new (W := W) hx hn0 hg) hrow (by omega) hlen (fun i hi => by
      obtain ⟨p, hp', e⟩ := hq i hi
      rw [e]; omega) (fun W3 hW3 => lookedAt_gen k x (.slice ea el ec) (.slice pa pl pc) (.slice la ll lc) (.slice ha hl hc) (.slice ta tl tc) da dl dc (.slice xa n xc) S D Tt W3 (fun W4 hW4 => by
        have h3 := hWW.trans (hW3.mono hWW.size)
        have h4 := h3.trans (hW4.mono h3.size)
        have g3 := hW2.trans (hW3.mono hW2.size)
        exact hseen W4 da dl dc h4 (hd.1.below (g3.trans (hW4.mono g3.size)))) hwr)


theorem do_9Q (x : Int) (ea : Option Addr) (el ec : Nat) (es : List Int) (pa : Option Addr) (pl pc : Nat) (ps : List Int) (la : Option Addr) (ll lc : Nat) (lo : List Int) (ha : Option Addr) (hl hc : Nat) (hi : List Int) (ta : Option Addr) (tl tc : Nat) (st : List Int) (ds : List Int) (n : Nat) (w : World)
    (he : Lst w ea el ec es) (hp : Lst w pa pl pc ps) (hlo : Lst w la ll lc lo) (hhi : Lst w ha hl hc hi) (hst : Lst w ta tl tc st) (hE : doE 9 es ps lo hi st 1 (oneV ds n) = 0) : ∀ (W : World) (b off cap : Nat) (da : Option Addr) (dl dc : Nat) (xa : Option Addr) (xc : Nat) (xs : List Int), Below w.heap.size w W → W.cell? ⟨b, off, none⟩ = some (.slice da dl dc) → W.cell? ⟨b, off + 1, none⟩ = some (.slice xa n xc) → LstQ W da dl dc ds → Ints W xa n xs → n ≤ xc → Calls Tryz.prog 9 #[.agg #[.int .i64 9, .slice ea el ec, .slice pa pl pc, .slice la ll lc, .slice ha hl hc, .slice ta tl tc, .int .i64 x], .slice (some ⟨b, off, none⟩) 1 cap] W fun e W' => DoesTo W es (lookL xs (readsV 0 es (sprS es.length (stepsV ds) ps))) (prod es).toNat e W' ∧ Below W.heap.size W W' := by
  obtain ⟨hae, hs1, _, _⟩ := oneV_parts hE
  have e0 : sprE 0 ds (stepsV ds) es ps = 0 := hs1
  obtain ⟨_, _, _, t4, t5⟩ := thr_spread e0
  have hL : (shapeP 9 es ps lo hi st [ds]).1 = es := by
    show okL (sprE 0 ds (stepsV ds) es ps) (es) = _
    rw [e0]; rfl
  refine do_look2Q 9 (by omega) x ea el ec es pa pl pc ps la ll lc lo ha hl hc hi ta tl tc st ds n (0) (es) (sprS es.length (stepsV ds) ps) w he hp hlo hhi hst hE hL t4 (fun i hi' => ?_) (fun W0 A cap hW5 hl5 hc5 => shape_9Q x ea el ec es pa pl pc ps la ll lc lo ha hl hc hi ta tl tc st A 1 cap [ds] W0 (he.below hW5) (hp.below hW5) (hlo.below hW5) (hhi.below hW5) (hst.below hW5) hl5 hc5 (fun d hd5 => by rw [List.mem_singleton.1 hd5]; exact (arrE_ok hae).1) rfl (by omega)) (fun W da dl dc hW hd => ?_)
  · obtain ⟨p, h1, h2, _⟩ := t5 i hi'
    exact ⟨p, h1, h2⟩
  · refine (seen_spread 9 x da dl dc ds ea el ec es pa pl pc ps la ll lc lo ha hl hc hi ta tl tc st W hd (he.1.below hW) (hp.1.below hW) (hlo.1.below hW) (hhi.1.below hW) (hst.1.below hW) (arrE_ok hae).1 rfl).mono ?_
    rintro e W' ⟨⟨a, b, c', d, f, g, rfl, h1, h2, _⟩, hb⟩
    rw [e0] at h1 h2 ⊢
    exact ⟨⟨a, b, c', d, f, g, 0, rfl, h1, h2⟩, hb⟩


theorem do_11Q (x : Int) (ea : Option Addr) (el ec : Nat) (es : List Int) (pa : Option Addr) (pl pc : Nat) (ps : List Int) (la : Option Addr) (ll lc : Nat) (lo : List Int) (ha : Option Addr) (hl hc : Nat) (hi : List Int) (ta : Option Addr) (tl tc : Nat) (st : List Int) (ds : List Int) (n : Nat) (w : World)
    (he : Lst w ea el ec es) (hp : Lst w pa pl pc ps) (hlo : Lst w la ll lc lo) (hhi : Lst w ha hl hc hi) (hst : Lst w ta tl tc st) (hE : doE 11 es ps lo hi st 1 (oneV ds n) = 0) : ∀ (W : World) (b off cap : Nat) (da : Option Addr) (dl dc : Nat) (xa : Option Addr) (xc : Nat) (xs : List Int), Below w.heap.size w W → W.cell? ⟨b, off, none⟩ = some (.slice da dl dc) → W.cell? ⟨b, off + 1, none⟩ = some (.slice xa n xc) → LstQ W da dl dc ds → Ints W xa n xs → n ≤ xc → Calls Tryz.prog 9 #[.agg #[.int .i64 11, .slice ea el ec, .slice pa pl pc, .slice la ll lc, .slice ha hl hc, .slice ta tl tc, .int .i64 x], .slice (some ⟨b, off, none⟩) 1 cap] W fun e W' => DoesTo W (taken ds ps) (lookL xs (readsV 0 (taken ds ps) (taken (stepsV ds) ps))) (prod (taken ds ps)).toNat e W' ∧ Below W.heap.size W W' := by
  obtain ⟨hae, hs1, _, _⟩ := oneV_parts hE
  have e0 : turnE 0 ds (stepsV ds) ps = 0 := hs1
  obtain ⟨_, _, _, t4, t5⟩ := thr_turn e0
  have hL : (shapeP 11 es ps lo hi st [ds]).1 = taken ds ps := by
    show okL (turnE 0 ds (stepsV ds) ps) (taken ds ps) = _
    rw [e0]; rfl
  refine do_look2Q 11 (by omega) x ea el ec es pa pl pc ps la ll lc lo ha hl hc hi ta tl tc st ds n (0) (taken ds ps) (taken (stepsV ds) ps) w he hp hlo hhi hst hE hL t4 (fun i hi' => ?_) (fun W0 A cap hW5 hl5 hc5 => shape_11Q x ea el ec es pa pl pc ps la ll lc lo ha hl hc hi ta tl tc st A 1 cap [ds] W0 (he.below hW5) (hp.below hW5) (hlo.below hW5) (hhi.below hW5) (hst.below hW5) hl5 hc5 (fun d hd5 => by rw [List.mem_singleton.1 hd5]; exact (arrE_ok hae).1) rfl (by omega)) (fun W da dl dc hW hd => ?_)
  · obtain ⟨p, h1, h2, _⟩ := t5 i hi'
    exact ⟨p, h1, h2⟩
  · refine (seen_turn 11 x da dl dc ds ea el ec es pa pl pc ps la ll lc lo ha hl hc hi ta tl tc st W hd (he.1.below hW) (hp.1.below hW) (hlo.1.below hW) (hhi.1.below hW) (hst.1.below hW) (arrE_ok hae).1 rfl).mono ?_
    rintro e W' ⟨⟨a, b, c', d, f, g, rfl, h1, h2, _⟩, hb⟩
    rw [e0] at h1 h2 ⊢
    exact ⟨⟨a, b, c', d, f, g, 0, rfl, h1, h2⟩, hb⟩


theorem do_13Q (x : Int) (ea : Option Addr) (el ec : Nat) (es : List Int) (pa : Option Addr) (pl pc : Nat) (ps : List Int) (la : Option Addr) (ll lc : Nat) (lo : List Int) (ha : Option Addr) (hl hc : Nat) (hi : List Int) (ta : Option Addr) (tl tc : Nat) (st : List Int) (ds : List Int) (n : Nat) (w : World)
    (he : Lst w ea el ec es) (hp : Lst w pa pl pc ps) (hlo : Lst w la ll lc lo) (hhi : Lst w ha hl hc hi) (hst : Lst w ta tl tc st) (hE : doE 13 es ps lo hi st 1 (oneV ds n) = 0) : ∀ (W : World) (b off cap : Nat) (da : Option Addr) (dl dc : Nat) (xa : Option Addr) (xc : Nat) (xs : List Int), Below w.heap.size w W → W.cell? ⟨b, off, none⟩ = some (.slice da dl dc) → W.cell? ⟨b, off + 1, none⟩ = some (.slice xa n xc) → LstQ W da dl dc ds → Ints W xa n xs → n ≤ xc → Calls Tryz.prog 9 #[.agg #[.int .i64 13, .slice ea el ec, .slice pa pl pc, .slice la ll lc, .slice ha hl hc, .slice ta tl tc, .int .i64 x], .slice (some ⟨b, off, none⟩) 1 cap] W fun e W' => DoesTo W (cutD ds lo hi st) (lookL xs (readsV (cutAcc 0 (stepsV ds) lo ds.length) (cutD ds lo hi st) (cutS (stepsV ds) st))) (prod (cutD ds lo hi st)).toNat e W' ∧ Below W.heap.size W W' := by
  obtain ⟨hae, hs1, _, _⟩ := oneV_parts hE
  have e0 : cutE 0 ds (stepsV ds) lo hi st = 0 := hs1
  obtain ⟨_, _, _, t4, t5⟩ := thr_cut e0
  have hL : (shapeP 13 es ps lo hi st [ds]).1 = cutD ds lo hi st := by
    show okL (cutE 0 ds (stepsV ds) lo hi st) (cutD ds lo hi st) = _
    rw [e0]; rfl
  refine do_look2Q 13 (by omega) x ea el ec es pa pl pc ps la ll lc lo ha hl hc hi ta tl tc st ds n (cutAcc 0 (stepsV ds) lo ds.length) (cutD ds lo hi st) (cutS (stepsV ds) st) w he hp hlo hhi hst hE hL t4 (fun i hi' => ?_) (fun W0 A cap hW5 hl5 hc5 => shape_13Q x ea el ec es pa pl pc ps la ll lc lo ha hl hc hi ta tl tc st A 1 cap [ds] W0 (he.below hW5) (hp.below hW5) (hlo.below hW5) (hhi.below hW5) (hst.below hW5) hl5 hc5 (fun d hd5 => by rw [List.mem_singleton.1 hd5]; exact (arrE_ok hae).1) rfl (by omega)) (fun W da dl dc hW hd => ?_)
  · obtain ⟨p, h1, h2, _⟩ := t5 i hi'
    exact ⟨p, h1, h2⟩
  · refine (seen_cut 13 x da dl dc ds ea el ec es pa pl pc ps la ll lc lo ha hl hc hi ta tl tc st W hd (he.1.below hW) (hp.1.below hW) (hlo.1.below hW) (hhi.1.below hW) (hst.1.below hW) (arrE_ok hae).1 rfl).mono ?_
    rintro e W' ⟨⟨a, b, c', d, f, g, rfl, h1, h2, _⟩, hb⟩
    rw [e0] at h1 h2 ⊢
    exact ⟨⟨a, b, c', d, f, g, 0, rfl, h1, h2⟩, hb⟩


theorem do_15Q (x : Int) (ea : Option Addr) (el ec : Nat) (es : List Int) (pa : Option Addr) (pl pc : Nat) (ps : List Int) (la : Option Addr) (ll lc : Nat) (lo : List Int) (ha : Option Addr) (hl hc : Nat) (hi : List Int) (ta : Option Addr) (tl tc : Nat) (st : List Int) (ds : List Int) (n : Nat) (w : World)
    (he : Lst w ea el ec es) (hp : Lst w pa pl pc ps) (hlo : Lst w la ll lc lo) (hhi : Lst w ha hl hc hi) (hst : Lst w ta tl tc st) (hE : doE 15 es ps lo hi st 1 (oneV ds n) = 0) : ∀ (W : World) (b off cap : Nat) (da : Option Addr) (dl dc : Nat) (xa : Option Addr) (xc : Nat) (xs : List Int), Below w.heap.size w W → W.cell? ⟨b, off, none⟩ = some (.slice da dl dc) → W.cell? ⟨b, off + 1, none⟩ = some (.slice xa n xc) → LstQ W da dl dc ds → Ints W xa n xs → n ≤ xc → Calls Tryz.prog 9 #[.agg #[.int .i64 15, .slice ea el ec, .slice pa pl pc, .slice la ll lc, .slice ha hl hc, .slice ta tl tc, .int .i64 x], .slice (some ⟨b, off, none⟩) 1 cap] W fun e W' => DoesTo W ds (lookL xs (readsV (flipAcc 0 ds (stepsV ds) ps ps.length) ds (flipL (stepsV ds) ps))) (prod ds).toNat e W' ∧ Below W.heap.size W W' := by
  obtain ⟨hae, hs1, _, _⟩ := oneV_parts hE
  have e0 : flipE 0 ds (stepsV ds) ps = 0 := hs1
  obtain ⟨_, _, _, t4, t5⟩ := thr_flip e0
  have hL : (shapeP 15 es ps lo hi st [ds]).1 = ds := by
    show okL (flipE 0 ds (stepsV ds) ps) (ds) = _
    rw [e0]; rfl
  refine do_look2Q 15 (by omega) x ea el ec es pa pl pc ps la ll lc lo ha hl hc hi ta tl tc st ds n (flipAcc 0 ds (stepsV ds) ps ps.length) (ds) (flipL (stepsV ds) ps) w he hp hlo hhi hst hE hL t4 (fun i hi' => ?_) (fun W0 A cap hW5 hl5 hc5 => shape_15Q x ea el ec es pa pl pc ps la ll lc lo ha hl hc hi ta tl tc st A 1 cap [ds] W0 (he.below hW5) (hp.below hW5) (hlo.below hW5) (hhi.below hW5) (hst.below hW5) hl5 hc5 (fun d hd5 => by rw [List.mem_singleton.1 hd5]; exact (arrE_ok hae).1) rfl (by omega)) (fun W da dl dc hW hd => ?_)
  · obtain ⟨p, h1, h2, _⟩ := t5 i hi'
    exact ⟨p, h1, h2⟩
  · refine (seen_flip 15 x da dl dc ds ea el ec es pa pl pc ps la ll lc lo ha hl hc hi ta tl tc st W hd (he.1.below hW) (hp.1.below hW) (hlo.1.below hW) (hhi.1.below hW) (hst.1.below hW) (arrE_ok hae).1 (by decide)).mono ?_
    rintro e W' ⟨⟨a, b, c', d, f, g, rfl, h1, h2, _⟩, hb⟩
    rw [e0] at h1 h2 ⊢
    exact ⟨⟨a, b, c', d, f, g, 0, rfl, h1, h2⟩, hb⟩


theorem do_12Q (x : Int) (ea : Option Addr) (el ec : Nat) (es : List Int) (pa : Option Addr) (pl pc : Nat) (ps : List Int) (la : Option Addr) (ll lc : Nat) (lo : List Int) (ha : Option Addr) (hl hc : Nat) (hi : List Int) (ta : Option Addr) (tl tc : Nat) (st : List Int) (ds : List Int) (n : Nat) (w : World)
    (he : Lst w ea el ec es) (hp : Lst w pa pl pc ps) (hlo : Lst w la ll lc lo) (hhi : Lst w ha hl hc hi) (hst : Lst w ta tl tc st) (hE : doE 12 es ps lo hi st 1 (oneV ds n) = 0) : ∀ (W : World) (b off cap : Nat) (da : Option Addr) (dl dc : Nat) (xa : Option Addr) (xc : Nat) (xs : List Int), Below w.heap.size w W → W.cell? ⟨b, off, none⟩ = some (.slice da dl dc) → W.cell? ⟨b, off + 1, none⟩ = some (.slice xa n xc) → LstQ W da dl dc ds → Ints W xa n xs → n ≤ xc → Calls Tryz.prog 9 #[.agg #[.int .i64 12, .slice ea el ec, .slice pa pl pc, .slice la ll lc, .slice ha hl hc, .slice ta tl tc, .int .i64 x], .slice (some ⟨b, off, none⟩) 1 cap] W fun e W' => DoesTo W es xs n e W' ∧ Below W.heap.size W W' := by
  obtain ⟨hae, hs1, hs2, hs3⟩ := oneV_parts hE
  have hsh : shapeP 12 es ps lo hi st [ds] = reformP ds es := rfl
  rw [hsh] at hs1 hs2 hs3
  have hz := (arrE_ok hae).1
  have hn := (arrE_ok hae).2.1
  have hp0 : sizeE es = 0 ∧ sizeN es = sizeN ds ∧ (reformP ds es).1 = es := by
    unfold reformP at hs1 ⊢
    by_cases c : sizeE es ≠ 0
    · rw [if_pos c] at hs1; exact absurd hs1 c
    rw [if_neg c] at hs1 ⊢
    by_cases c2 : sizeN es = sizeN ds
    · rw [if_pos c2]; exact ⟨Decidable.not_not.1 c, c2, rfl⟩
    · rw [if_neg c2] at hs1; exact absurd hs1 (by simp)
  obtain ⟨q1, q2, q3⟩ := hp0
  rw [q3] at hs3
  have hpe : (n : Int) = prod es := by rw [hn, ← size_prod hz, ← q2, size_prod q1]
  intro W b off cap da dl dc xa xc xs hW c0 c1 hd hx hxc
  refine Do_goodQ 12 x ea el ec es pa pl pc ps la ll lc lo ha hl hc hi ta tl tc st (some ⟨b, off, none⟩) 1 cap (fun _ => ⟨da, dl, dc, ds, xa, n, xc⟩) es n xs W (he.below hW) (hp.below hW) (hlo.below hW) (hhi.below hW) (hst.below hW) (.inr ⟨b, off, rfl, fun j hj => by obtain rfl : j = 0 := by { omega }; exact ⟨c0, c1, hd⟩⟩) (by omega) ((doE_congr (fun j _ => ⟨rfl, rfl⟩)).trans hE) hs3.symm hpe hx.1 hx.2.2.1 (fun W A cap hW5 hl5 hc5 => shape_12Q x ea el ec es pa pl pc ps la ll lc lo ha hl hc hi ta tl tc st A 1 cap [ds] W ((he.below hW).below hW5) ((hp.below hW).below hW5) ((hlo.below hW).below hW5) ((hhi.below hW).below hW5) ((hst.below hW).below hW5) hl5 hc5 (fun d hd5 => by rw [List.mem_singleton.1 hd5]; exact (arrE_ok hae).1) rfl (by omega)) ?_
  intro hpos W2 Z nz cz g hW2 hg _ _ hrow
  exact work_reform x (.slice ea el ec) (.slice pa pl pc) (.slice la ll lc) (.slice ha hl hc) (.slice ta tl tc) Z nz cz g n b off 1 cap xa xc xs W2 (by omega) ((hW2.cell (p := ⟨b, off + 1, none⟩) (lt_of_cell c1)).trans c1) (hx.below hW2) hrow


theorem do_10Q (x : Int) (ea : Option Addr) (el ec : Nat) (es : List Int) (pa : Option Addr) (pl pc : Nat) (ps : List Int) (la : Option Addr) (ll lc : Nat) (lo : List Int) (ha : Option Addr) (hl hc : Nat) (hi : List Int) (ta : Option Addr) (tl tc : Nat) (st : List Int) (ds : List Int) (n : Nat) (w : World)
    (he : Lst w ea el ec es) (hp : Lst w pa pl pc ps) (hlo : Lst w la ll lc lo) (hhi : Lst w ha hl hc hi) (hst : Lst w ta tl tc st) (hE : doE 10 es ps lo hi st 1 (oneV ds n) = 0) : ∀ (W : World) (b off cap : Nat) (da : Option Addr) (dl dc : Nat) (xa : Option Addr) (xc : Nat) (xs : List Int), Below w.heap.size w W → W.cell? ⟨b, off, none⟩ = some (.slice da dl dc) → W.cell? ⟨b, off + 1, none⟩ = some (.slice xa n xc) → LstQ W da dl dc ds → Ints W xa n xs → n ≤ xc → Calls Tryz.prog 9 #[.agg #[.int .i64 10, .slice ea el ec, .slice pa pl pc, .slice la ll lc, .slice ha hl hc, .slice ta tl tc, .int .i64 x], .slice (some ⟨b, off, none⟩) 1 cap] W fun e W' => DoesTo W (taken ds (freeL ps ds.length)) (addS (List.replicate (prod (taken ds (freeL ps ds.length))).toNat 0) (readsV 0 ds (sprS ds.length (stepsV (taken ds (freeL ps ds.length))) (freeL ps ds.length))) xs n) (prod (taken ds (freeL ps ds.length))).toNat e W' ∧ Below W.heap.size W W' := by
  obtain ⟨hae, hs1, hs2, hs3⟩ := oneV_parts hE
  have hsh : shapeP 10 es ps lo hi st [ds] = sumP ds ps := rfl
  rw [hsh] at hs1 hs2 hs3
  have hz := (arrE_ok hae).1
  have hn := (arrE_ok hae).2.1
  have hrise : riseB ps ds.length = true ∧ (sumP ds ps).1 = taken ds (freeL ps ds.length) := by
    unfold sumP at hs1 ⊢
    by_cases c : riseB ps ds.length = true
    · rw [if_pos c]; exact ⟨c, rfl⟩
    · rw [if_neg c] at hs1; exact absurd hs1 (by simp)
  obtain ⟨hr, hq1⟩ := hrise
  rw [hq1] at hs2 hs3
  obtain ⟨haL, hN⟩ := arrE_of hs2
  have hsp := sum_spread hz hs2
  obtain ⟨_, _, _, t4, t5⟩ := thr_spread hsp
  have hqq : ∀ j, j < n → 0 ≤ (readsV 0 ds (sprS ds.length (stepsV (taken ds (freeL ps ds.length))) (freeL ps ds.length)))[j]?.getD 0 ∧ (readsV 0 ds (sprS ds.length (stepsV (taken ds (freeL ps ds.length))) (freeL ps ds.length)))[j]?.getD 0 < ((prod (taken ds (freeL ps ds.length))).toNat : Int) := fun j hj => by
    obtain ⟨p, h1, h2, _⟩ := t5 j (by omega)
    rw [h2]; omega
  intro W b off cap da dl dc xa xc xs hW c0 c1 hd hx hxc
  have hN6 := (arrE_ok haL).2.2
  refine Do_goodQ 10 x ea el ec es pa pl pc ps la ll lc lo ha hl hc hi ta tl tc st (some ⟨b, off, none⟩) 1 cap (fun _ => ⟨da, dl, dc, ds, xa, n, xc⟩) (taken ds (freeL ps ds.length)) (prod (taken ds (freeL ps ds.length))).toNat (addS (List.replicate (prod (taken ds (freeL ps ds.length))).toNat 0) (readsV 0 ds (sprS ds.length (stepsV (taken ds (freeL ps ds.length))) (freeL ps ds.length))) xs n) W (he.below hW) (hp.below hW) (hlo.below hW) (hhi.below hW) (hst.below hW) (.inr ⟨b, off, rfl, fun j hj => by obtain rfl : j = 0 := by { omega }; exact ⟨c0, c1, hd⟩⟩) (by omega) ((doE_congr (fun j _ => ⟨rfl, rfl⟩)).trans hE) hs3.symm hN (by rw [addS_length]; simp) (addS_bd (fun x hx => by simp at hx; rw [hx.2]; omega) _) (fun W A cap hW5 hl5 hc5 => shape_10Q x ea el ec es pa pl pc ps la ll lc lo ha hl hc hi ta tl tc st A 1 cap [ds] W ((he.below hW).below hW5) ((hp.below hW).below hW5) ((hlo.below hW).below hW5) ((hhi.below hW).below hW5) ((hst.below hW).below hW5) hl5 hc5 (fun d hd5 => by rw [List.mem_singleton.1 hd5]; exact (arrE_ok hae).1) rfl (by omega)) ?_
  intro hpos W2 Z nz cz g hW2 hg hZ _ hrow
  have hWW := hW.trans (hW2.mono hW.size)
  exact work_land 10 x (by omega) (.slice ea el ec) (.slice pa pl pc) (.slice la ll lc) (.slice ha hl hc) (.slice ta tl tc) Z nz cz g (prod (taken ds (freeL ps ds.length))).toNat b off 1 cap da dl dc xa n xc xs (readsV 0 ds (sprS ds.length (stepsV (taken ds (freeL ps ds.length))) (freeL ps ds.length))) W2 (by omega) ((hW2.cell (p := ⟨b, off, none⟩) (lt_of_cell c0)).trans c0) ((hW2.cell (p := ⟨b, off + 1, none⟩) (lt_of_cell c1)).trans c1) (hx.below hW2) (fun h0 => off_new (W := W) hx h0 hg) hrow (by rw [readsV_length]; omega) hqq (fun W3 hW3 => by {
      have h3 := hWW.trans (hW3.mono hWW.size)
      have hdl := hd.1.1
      subst hdl
      exact landing_sum x (.slice ea el ec) pa pl pc ps la ll lc ha hl hc ta tl tc da ds.length dc ds Z nz cz (taken ds (freeL ps ds.length)) W3 (hp.below h3) (hd.1.below (hW2.trans (hW3.mono hW2.size))) (hZ.below hW3) (sizeE_ok hz).1 (once_of_rise ((riseB_iff _ _).1 hr)) hs2 hsp t4 })


theorem do_14Q (x : Int) (ea : Option Addr) (el ec : Nat) (es : List Int) (pa : Option Addr) (pl pc : Nat) (ps : List Int) (la : Option Addr) (ll lc : Nat) (lo : List Int) (ha : Option Addr) (hl hc : Nat) (hi : List Int) (ta : Option Addr) (tl tc : Nat) (st : List Int) (ds : List Int) (n : Nat) (w : World)
    (he : Lst w ea el ec es) (hp : Lst w pa pl pc ps) (hlo : Lst w la ll lc lo) (hhi : Lst w ha hl hc hi) (hst : Lst w ta tl tc st) (hE : doE 14 es ps lo hi st 1 (oneV ds n) = 0) : ∀ (W : World) (b off cap : Nat) (da : Option Addr) (dl dc : Nat) (xa : Option Addr) (xc : Nat) (xs : List Int), Below w.heap.size w W → W.cell? ⟨b, off, none⟩ = some (.slice da dl dc) → W.cell? ⟨b, off + 1, none⟩ = some (.slice xa n xc) → LstQ W da dl dc ds → Ints W xa n xs → n ≤ xc → Calls Tryz.prog 9 #[.agg #[.int .i64 14, .slice ea el ec, .slice pa pl pc, .slice la ll lc, .slice ha hl hc, .slice ta tl tc, .int .i64 x], .slice (some ⟨b, off, none⟩) 1 cap] W fun e W' => DoesTo W (padD ds lo hi st) (addS (List.replicate (prod (padD ds lo hi st)).toNat 0) (readsV (cutAcc 0 (stepsV (padD ds lo hi st)) lo (padD ds lo hi st).length) ds (cutS (stepsV (padD ds lo hi st)) st)) xs n) (prod (padD ds lo hi st)).toNat e W' ∧ Below W.heap.size W W' := by
  obtain ⟨hae, hs1, hs2, hs3⟩ := oneV_parts hE
  have hsh : shapeP 14 es ps lo hi st [ds] = padP ds lo hi st := rfl
  rw [hsh] at hs1 hs2 hs3
  have hz := (arrE_ok hae).1
  have hn := (arrE_ok hae).2.1
  have hpp : lensB ds.length lo hi st = true ∧ anyPad ds.length lo hi st = false ∧ (padP ds lo hi st).1 = padD ds lo hi st := by
    unfold padP at hs1 ⊢
    by_cases c : lensB ds.length lo hi st = true
    · rw [if_pos c] at hs1 ⊢
      by_cases c2 : anyPad ds.length lo hi st = true
      · rw [if_pos c2] at hs1; exact absurd hs1 (by simp)
      · rw [if_neg c2]; exact ⟨c, by simpa using c2, rfl⟩
    · rw [if_neg c] at hs1; exact absurd hs1 (by simp)
  obtain ⟨hl1, hl2, hq1⟩ := hpp
  rw [hq1] at hs2 hs3
  obtain ⟨haL, hN⟩ := arrE_of hs2
  obtain ⟨k1, k2, k3⟩ := pad_cut hz hl1 hl2
  have hct := cut_whole hs2 k1 k2
  obtain ⟨_, _, _, t4, t5⟩ := thr_cut hct
  have t4' := t4
  have t5' := t5
  rw [k3] at t4' t5'
  have hqq : ∀ j, j < n → 0 ≤ (readsV (cutAcc 0 (stepsV (padD ds lo hi st)) lo (padD ds lo hi st).length) ds (cutS (stepsV (padD ds lo hi st)) st))[j]?.getD 0 ∧ (readsV (cutAcc 0 (stepsV (padD ds lo hi st)) lo (padD ds lo hi st).length) ds (cutS (stepsV (padD ds lo hi st)) st))[j]?.getD 0 < ((prod (padD ds lo hi st)).toNat : Int) := fun j hj => by
    obtain ⟨p, h1, h2, _⟩ := t5' j (by omega)
    rw [h2]; omega
  obtain ⟨m1, m2, m3⟩ := lensB_true.1 hl1
  intro W b off cap da dl dc xa xc xs hW c0 c1 hd hx hxc
  have hN6 := (arrE_ok haL).2.2
  refine Do_goodQ 14 x ea el ec es pa pl pc ps la ll lc lo ha hl hc hi ta tl tc st (some ⟨b, off, none⟩) 1 cap (fun _ => ⟨da, dl, dc, ds, xa, n, xc⟩) (padD ds lo hi st) (prod (padD ds lo hi st)).toNat (addS (List.replicate (prod (padD ds lo hi st)).toNat 0) (readsV (cutAcc 0 (stepsV (padD ds lo hi st)) lo (padD ds lo hi st).length) ds (cutS (stepsV (padD ds lo hi st)) st)) xs n) W (he.below hW) (hp.below hW) (hlo.below hW) (hhi.below hW) (hst.below hW) (.inr ⟨b, off, rfl, fun j hj => by obtain rfl : j = 0 := by { omega }; exact ⟨c0, c1, hd⟩⟩) (by omega) ((doE_congr (fun j _ => ⟨rfl, rfl⟩)).trans hE) hs3.symm hN (by rw [addS_length]; simp) (addS_bd (fun x hx => by simp at hx; rw [hx.2]; omega) _) (fun W A cap hW5 hl5 hc5 => shape_14Q x ea el ec es pa pl pc ps la ll lc lo ha hl hc hi ta tl tc st A 1 cap [ds] W ((he.below hW).below hW5) ((hp.below hW).below hW5) ((hlo.below hW).below hW5) ((hhi.below hW).below hW5) ((hst.below hW).below hW5) hl5 hc5 (fun d hd5 => by rw [List.mem_singleton.1 hd5]; exact (arrE_ok hae).1) rfl (by omega)) ?_
  intro hpos W2 Z nz cz g hW2 hg hZ _ hrow
  have hWW := hW.trans (hW2.mono hW.size)
  exact work_land 14 x (by omega) (.slice ea el ec) (.slice pa pl pc) (.slice la ll lc) (.slice ha hl hc) (.slice ta tl tc) Z nz cz g (prod (padD ds lo hi st)).toNat b off 1 cap da dl dc xa n xc xs (readsV (cutAcc 0 (stepsV (padD ds lo hi st)) lo (padD ds lo hi st).length) ds (cutS (stepsV (padD ds lo hi st)) st)) W2 (by omega) ((hW2.cell (p := ⟨b, off, none⟩) (lt_of_cell c0)).trans c0) ((hW2.cell (p := ⟨b, off + 1, none⟩) (lt_of_cell c1)).trans c1) (hx.below hW2) (fun h0 => off_new (W := W) hx h0 hg) hrow (by rw [readsV_length]; omega) hqq (fun W3 hW3 => by {
      have h3 := hWW.trans (hW3.mono hWW.size)
      have hpl := padD_length ds lo hi st
      have hnz := hZ.1
      have hhl := hhi.1.1
      have key := landing_pad x (.slice ea el ec) pa pl pc la ll lc lo ha hl hc hi ta tl tc st (.slice da dl dc) Z nz cz (padD ds lo hi st) W3 (hlo.1.below h3) (hhi.1.below h3) (hst.1.below h3) (hZ.below hW3) (by have := (sizeE_ok hs2).1; omega) (by omega) (fun j hj => ⟨(of_anyPad_false hl2 j (by omega)).2.1, (sizeE_ok hs2).2.1 _ (mem_getD _ j (by omega))⟩) hs2 hct t4
      rw [k3] at key
      exact key })


end Go.Proofs.YteoobeldmicjhaaGreat.V
namespace Go.Proofs.YteoobeldmicjhaaGreat.V
set_option maxRecDepth 20000
open Go.RowKit

theorem ruled_R (k : Int) (hk : 9 ≤ k ∧ k ≤ 15) (x : Int) (ea : Option Addr) (el ec : Nat) (es : List Int) (pa : Option Addr) (pl pc : Nat) (ps : List Int) (la : Option Addr) (ll lc : Nat) (lo : List Int) (ha : Option Addr) (hl hc : Nat) (hi : List Int) (ta : Option Addr) (tl tc : Nat) (st : List Int) (A : Option Addr) (len cap : Nat) (xss : List (List Int)) (w : World)
    (he : Lst w ea el ec es) (hp : Lst w pa pl pc ps) (hlo : Lst w la ll lc lo) (hhi : Lst w ha hl hc hi) (hst : Lst w ta tl tc st) (h : Lsts w A len xss) (hcap : len ≤ cap) (hlen : len ≤ 1048576) (hz : ∀ d ∈ xss, sizeE d = 0) (ht : takesE k len = 0) :
    Calls Tryz.prog 28 #[.agg #[.int .i64 k, .slice ea el ec, .slice pa pl pc, .slice la ll lc, .slice ha hl hc, .slice ta tl tc, .int .i64 x], .slice A len cap] w fun e w' => OutP e w' (shapeP k es ps lo hi st xss) ∧ Below w.heap.size w w' := by
  have hn : len = 1 := by rcases takes_ok ht with h | h | h | h | h <;> omega
  have hk' : k = 9 ∨ k = 10 ∨ k = 11 ∨ k = 12 ∨ k = 13 ∨ k = 14 ∨ k = 15 := by omega
  rcases hk' with rfl | rfl | rfl | rfl | rfl | rfl | rfl
  · exact ruled_9R x ea el ec es pa pl pc ps la ll lc lo ha hl hc hi ta tl tc st A len cap xss w he hp hlo hhi hst h hcap hz hn hlen
  · exact ruled_10R x ea el ec es pa pl pc ps la ll lc lo ha hl hc hi ta tl tc st A len cap xss w he hp hlo hhi hst h hcap hz hn hlen
  · exact ruled_11R x ea el ec es pa pl pc ps la ll lc lo ha hl hc hi ta tl tc st A len cap xss w he hp hlo hhi hst h hcap hz hn hlen
  · exact ruled_12R x ea el ec es pa pl pc ps la ll lc lo ha hl hc hi ta tl tc st A len cap xss w he hp hlo hhi hst h hcap hz hn hlen
  · exact ruled_13R x ea el ec es pa pl pc ps la ll lc lo ha hl hc hi ta tl tc st A len cap xss w he hp hlo hhi hst h hcap hz hn hlen
  · exact ruled_14R x ea el ec es pa pl pc ps la ll lc lo ha hl hc hi ta tl tc st A len cap xss w he hp hlo hhi hst h hcap hz hn hlen
  · exact ruled_15R x ea el ec es pa pl pc ps la ll lc lo ha hl hc hi ta tl tc st A len cap xss w he hp hlo hhi hst h hcap hz hn hlen

set_option maxRecDepth 100000 in
set_option maxHeartbeats 4000000 in
theorem rDims_R (k : Int) (hkk : 9 ≤ k ∧ k ≤ 15) (x : Int) (ea : Option Addr) (el ec : Nat) (es : List Int) (pa : Option Addr) (pl pc : Nat) (ps : List Int) (la : Option Addr) (ll lc : Nat) (lo : List Int) (ha : Option Addr) (hl hc : Nat) (hi : List Int) (ta : Option Addr) (tl tc : Nat) (st : List Int) (A : Option Addr) (len cap : Nat) (xss : List (List Int)) (w : World)
    (he : Lst w ea el ec es) (hp : Lst w pa pl pc ps) (hlo : Lst w la ll lc lo) (hhi : Lst w ha hl hc hi) (hst : Lst w ta tl tc st) (h : Lsts w A len xss) (hcap : len ≤ cap) (hlen : len ≤ 1048576) :
    Calls Tryz.prog 17 #[.agg #[.int .i64 k, .slice ea el ec, .slice pa pl pc, .slice la ll lc, .slice ha hl hc, .slice ta tl tc, .int .i64 x], .slice A len cap] w fun e w' => OutP e w' (dimsP k es ps lo hi st xss) ∧ Below w.heap.size w w' := by
  have hmx := h.2.1
  have H := hide h
  have HN := hide h.1
  have HE := hide he
  have HP := hide hp
  have HLO := hide hlo
  have HHI := hide hhi
  have HST := hide hst
  have HB1 := hide ((Below.refl w.heap.size w).alloc (Nat.le_refl _) (.cells #[.int .i64 k, .slice ea el ec, .slice pa pl pc, .slice la ll lc, .slice ha hl hc, .slice ta tl tc, .int .i64 x] 31))
  have HOP := hide (OpAt.new w k (.slice ea el ec) (.slice pa pl pc) (.slice la ll lc) (.slice ha hl hc) (.slice ta tl tc) x)
  obtain ⟨o0, o1, o2, o3, o4, o5, o6⟩ := HOP.out.cells
  have HDP := hide (show dimsP k es ps lo hi st xss = if takesE k xss.length ≠ 0 then ([], takesE k xss.length) else if sizesE xss ≠ 0 then ([], sizesE xss) else if (shapeP k es ps lo hi st xss).2 ≠ 0 then ([], (shapeP k es ps lo hi st xss).2) else if sizeE (shapeP k es ps lo hi st xss).1 ≠ 0 then ([], sizeE (shapeP k es ps lo hi st xss).1) else ((shapeP k es ps lo hi st xss).1, 0) from rfl)
  clear h he hp hlo hhi hst
  by_cases c1 : takesE k len = 0
  case neg =>
    obtain ⟨T, hT⟩ : ∃ T, T = takesE k len := ⟨_, rfl⟩
    have hp : dimsP k es ps lo hi st xss = ([], T) := by rw [HDP.out, HN.out, if_pos c1, ← hT]
    rw [hp]
    have HT := hide hT
    have q : (T != 0) = true := by rw [hT]; simp [c1]
    clear hp c1 hT
    go_enter Tryz.func17, Tryz.ntmps17
    go_wp2_with (go_at_call 15; refine (right_any k (.slice ea el ec) (.slice pa pl pc) (.slice la ll lc) (.slice ha hl hc) (.slice ta tl tc) x len _).mono ?_; rintro e w1 ⟨rfl, hb⟩; rw [← HT.out]; have HBR := hide (Below.on HB1.out hb); have HOR := hide (HOP.out.below hb); clear hb)
    go_ret2
    exact ⟨outP_none _ _, HBR.out⟩
  have HC1 := hide c1
  clear c1
  go_enter Tryz.func17, Tryz.ntmps17
  go_wp2_with (go_at_call 15; refine (right_any k (.slice ea el ec) (.slice pa pl pc) (.slice la ll lc) (.slice ha hl hc) (.slice ta tl tc) x len _).mono ?_; rintro e w1 ⟨rfl, hb⟩; rw [HC1.out]; have HBR := hide (Below.on HB1.out hb); have HOR := hide (HOP.out.below hb); clear hb)
  go_loopw [24] (fun i wr => ∃ j : Nat, j ≤ len ∧ i = .int .i64 j ∧ (∀ t, t < j → sizeE (xss[t]?.getD []) = 0) ∧ OpAt wr w.heap.size k (.slice ea el ec) (.slice pa pl pc) (.slice la ll lc) (.slice ha hl hc) (.slice ta tl tc) x ∧ Below w.heap.size w wr) (fun i _ => len - (intOf i).toNat)
  case atStart => exact ⟨0, Nat.zero_le _, rfl, fun t ht => by omega, HOR.out, HBR.out⟩
  case round =>
    obtain ⟨j, hj, rfl, hgood, ho, hB⟩ := hrel
    have HG := hide hgood
    have HO := hide ho
    have HB := hide hB
    clear HBR HOR
    clear hgood ho hB o0 o1 o2 o3 o4 o5 o6
    by_cases hlt : j < len
    · obtain ⟨b, off, rfl, hc⟩ := H.out.at (by omega)
      obtain ⟨X, m, c, hcj0, hlj⟩ := hc j hlt
      have hcj : wr.cell? ⟨b, off + j, none⟩ = some (.slice X m c) := (HB.out.cell (p := ⟨b, off + j, none⟩) (lt_of_cell hcj0)).trans hcj0
      have HLJ := hide hlj
      clear hlj hcj0 hc
      obtain ⟨T, hT⟩ : ∃ T, T = sizeE (xss[j]?.getD []) := ⟨_, rfl⟩
      have HT := hide hT
      by_cases c2 : T = 0
      · have HT0 : Hid (sizeE (xss[j]?.getD []) = 0) := hT.symm.trans c2
        clear hT c2 HT
        go_wp2_with (go_at_call 27; refine (rsize_any _ _ _ (xss[j]?.getD []) _ (HLJ.out.1.below HB.out)).mono ?_; rintro e w' ⟨rfl, hw'⟩; obtain rfl := hw'.symm; rw [HT0.out])
        go_roundw
        case rel =>
          refine ⟨j + 1, by omega, by go_num, fun t ht => ?_, HO.out, HB.out⟩
          by_cases e : t = j
          · rw [e]; exact HT0.out
          · exact HG.out t (by omega)
        case measure => simp [intOf]; omega
      · have q : (T != 0) = true := by simp [c2]
        have hsz : sizesE xss = T := by
          rw [hT]
          exact sizesE_at xss j HG.out (by rw [HN.out]; exact hlt) (by rw [← hT]; exact c2)
        have hp : dimsP k es ps lo hi st xss = ([], T) := by rw [HDP.out, HN.out, if_neg (by rw [HC1.out]; simp), hsz, if_pos c2]
        have HPP := hide hp
        clear hp hsz hT c2
        go_wp2_with (go_at_call 27; refine (rsize_any _ _ _ (xss[j]?.getD []) _ (HLJ.out.1.below HB.out)).mono ?_; rintro e w' ⟨rfl, hw'⟩; obtain rfl := hw'.symm; rw [← HT.out])
        go_ret2
        rw [HPP.out]
        exact ⟨outP_none _ _, HB.out⟩
    · obtain rfl : j = len := by omega
      have hall : sizesE xss = 0 := sizesE_all xss (fun t ht => HG.out t (by rw [HN.out] at ht; exact ht))
      have HZ := hide (sizesE_ok xss hall)
      have HD2 : Hid (dimsP k es ps lo hi st xss = if (shapeP k es ps lo hi st xss).2 ≠ 0 then ([], (shapeP k es ps lo hi st xss).2) else if sizeE (shapeP k es ps lo hi st xss).1 ≠ 0 then ([], sizeE (shapeP k es ps lo hi st xss).1) else ((shapeP k es ps lo hi st xss).1, 0)) := by
        rw [Hid, HDP.out, HN.out, if_neg (by rw [HC1.out]; simp), if_neg (by rw [hall]; simp)]
      have HCS := hide (ruled_R k hkk x _ _ _ es _ _ _ ps _ _ _ lo _ _ _ hi _ _ _ st _ _ cap xss wr (HE.out.below HB.out) (HP.out.below HB.out) (HLO.out.below HB.out) (HHI.out.below HB.out) (HST.out.below HB.out) (H.out.below HB.out) hcap hlen HZ.out HC1.out)
      obtain ⟨⟨L, E⟩, hLE⟩ : ∃ r, r = shapeP k es ps lo hi st xss := ⟨_, rfl⟩
      rw [← hLE] at HCS HD2
      have hd2 := HD2.out
      simp only at hd2
      obtain ⟨o0, o1, o2, o3, o4, o5, o6⟩ := HO.out.cells
      clear hall hLE HDP HD2
      by_cases c3 : E = 0
      case neg =>
        have q : (E != 0) = true := by simp [c3]
        rw [if_pos c3] at hd2
        have HPP := hide hd2
        clear hd2 c3
        go_wp2_with (go_at_call 28; refine HCS.out.mono ?_; rintro e w1 ⟨⟨Z, nz, cz, rfl, hi1, hnc⟩, hb⟩; have HB2 := hide (Below.on HB.out hb); clear hi1 hb)
        go_ret2
        rw [HPP.out]
        exact ⟨outP_none _ _, HB2.out⟩
      subst c3
      rw [if_neg (by simp)] at hd2
      obtain ⟨S, hS⟩ : ∃ S, S = sizeE L := ⟨_, rfl⟩
      have HSS := hide hS
      rw [← hS] at hd2
      clear hS
      by_cases c4 : S = 0
      · subst c4
        rw [if_neg (by simp)] at hd2
        have HPP := hide hd2
        clear hd2
        go_wp2_with (first
          | (go_at_call 28; refine HCS.out.mono ?_; rintro e w1 ⟨⟨Z, nz, cz, rfl, hi1, hnc⟩, hb⟩; have HI1 : Hid (Ints w1 Z nz L) := hi1; have HB2 := hide (Below.on HB.out hb); clear hi1 hb)
          | (go_at_call 27; refine (rsize_any _ _ _ L _ HI1.out).mono ?_; rintro e w' ⟨rfl, hw'⟩; obtain rfl := hw'.symm; rw [← HSS.out]))
        go_ret2
        rw [HPP.out]
        exact ⟨⟨_, _, _, rfl, HI1.out, hnc⟩, HB2.out⟩
      · have q : (S != 0) = true := by simp [c4]
        rw [if_pos c4] at hd2
        have HPP := hide hd2
        clear hd2 c4
        go_wp2_with (first
          | (go_at_call 28; refine HCS.out.mono ?_; rintro e w1 ⟨⟨Z, nz, cz, rfl, hi1, hnc⟩, hb⟩; have HI1 : Hid (Ints w1 Z nz L) := hi1; have HB2 := hide (Below.on HB.out hb); clear hi1 hb)
          | (go_at_call 27; refine (rsize_any _ _ _ L _ HI1.out).mono ?_; rintro e w' ⟨rfl, hw'⟩; obtain rfl := hw'.symm; rw [← HSS.out]))
        go_ret2
        rw [HPP.out]
        exact ⟨outP_none _ _, HB2.out⟩


end Go.Proofs.YteoobeldmicjhaaGreat.V
