/-
  Contract: room.tree.peak.
-/
import Derived.Test.YtnncalhpbfmgoaaRmTree
import Derived.Test.YtnncalhpbfmgoaaRmPeakM
namespace Go.Proofs.Ytnncalhpbfmgoaa.V
open Go.RowKit
set_option linter.unusedVariables false

theorem info_bool4 : (Try.prog.info? 4).map (fun i => (i.zero, i.size, i.bytes)) = some (some (.bool false), 1, 1) := by kernel_rfl
/-- A list of numbers, as it lies. -/
def RowN0 (w : World) (a : Option Addr) (l : List Nat) : Prop := l = [] ∨ ∃ g, a = some ⟨g, 0, none⟩ ∧ ∀ j, j < l.length → w.cell? ⟨g, j, none⟩ = some (nv (l[j]?.getD 0))
set_option maxHeartbeats 1000000 in
theorem indexMiss_any (a : Option Addr) (l : List Nat) (cap C G n : Nat) (M : Nat → Bool) (w : World) (hl : RowN0 w a l) (hlen : l.length ≤ 4096) (hk : ∀ k ∈ l, k < n) (hn : n ≤ 4096)
    (hC : w.cell? ⟨C, 0, none⟩ = some (.slice (some ⟨G, 0, none⟩) n n)) (hG : w.rowIs G 4 n (fun j => .bool (M j))) :
    Calls Try.prog 56 #[.slice a l.length cap, .func (.func 47) #[] #[.pointer (some ⟨C, 0, none⟩)]] w fun e w' => (∃ r : Int, e = .returned (.int .i64 r) ∧ decide (0 ≤ r) = l.any fun b => !M b) ∧ w' = w := by
  obtain ⟨len, hlen'⟩ : ∃ len, len = l.length := ⟨_, rfl⟩
  have HLN := hide hlen'
  have HK := hide hk
  have HL := hide hl
  have HG := hide hG
  have zc := lt_of_cell hC
  have zg := hG.lt
  simp only at zc
  rw [← hlen'] at hlen ⊢
  clear hlen' hk hl hG
  go_enter Try.func56, Try.ntmps56
  go_wp2
  go_loop [8] (fun i => ∃ k : Nat, k ≤ len ∧ i = .int .i64 k ∧ ((l.take k).any fun b => !M b) = false) (fun i => len - (intOf i).toNat)
  case atStart => exact ⟨0, Nat.zero_le _, rfl, by simp⟩
  case round =>
    obtain ⟨k, hk, rfl, hno⟩ := hrel
    have HN := hide hno
    clear hno
    by_cases hlt : k < len
    · have hll : k < l.length := by rw [← HLN.out]; exact hlt
      rcases HL.out with h0 | ⟨g, rfl, hc⟩
      · exfalso; rw [h0] at hll; simp at hll
      have c1 := hc k hll
      obtain ⟨x, hx⟩ : ∃ x, x = l[k]?.getD 0 := ⟨_, rfl⟩
      rw [← hx] at c1
      have hxn : x < n := HK.out x (by rw [hx]; simp [hll])
      have c2 := HG.out.cell (i := x) hxn
      have z1 := lt_of_cell c1
      simp only at z1
      have HX := hide hx
      have HT : Hid (l.take (k + 1) = l.take k ++ [x]) := by rw [Hid, List.take_succ_eq_append_getElem hll, hx]; simp [hll]
      unfold nv at c1
      clear hc hx
      have hxz : (x : Int) < (n : Int) := by omega
      have hkz : (k : Int) < (len : Int) := by omega
      by_cases h1 : M x = true
      · rw [h1] at c2
        go_wp2
        go_round
        case rel => exact ⟨k + 1, by omega, by go_num, by rw [HT.out, List.any_append, HN.out]; simp [h1]⟩
        case measure => simp [intOf]; omega
      · have h2 : M x = false := by simpa using h1
        rw [h2] at c2
        go_wp2
        go_ret
        refine ⟨⟨_, rfl, ?_⟩, rfl⟩
        have e1 : (l.any fun b => !M b) = true := by
          rw [List.any_eq_true]
          exact ⟨x, by rw [HX.out]; simp [hll], by simp [h2]⟩
        rw [e1]
        simp
    · go_wp2
      go_ret
      refine ⟨⟨_, rfl, ?_⟩, rfl⟩
      have := HN.out
      rw [List.take_of_length_le (by rw [← HLN.out]; omega)] at this
      rw [this]; decide
theorem containsMiss_any (a : Option Addr) (l : List Nat) (cap C G n : Nat) (M : Nat → Bool) (w : World) (hl : RowN0 w a l) (hlen : l.length ≤ 4096) (hk : ∀ k ∈ l, k < n) (hn : n ≤ 4096)
    (hC : w.cell? ⟨C, 0, none⟩ = some (.slice (some ⟨G, 0, none⟩) n n)) (hG : w.rowIs G 4 n (fun j => .bool (M j))) :
    Calls Try.prog 48 #[.slice a l.length cap, .func (.func 47) #[] #[.pointer (some ⟨C, 0, none⟩)]] w fun e w' => e = .returned (.bool (l.any fun b => !M b)) ∧ w' = w := by
  have H := hide (indexMiss_any a l cap C G n M w hl hlen hk hn hC hG)
  clear hl hlen hk hn hC hG
  go_enter Try.func48, Try.ntmps48
  go_wp2_with (go_at_call 56; refine H.out.mono ?_; rintro e w' ⟨⟨r, rfl, hr⟩, rfl⟩; have HR := hide hr; clear hr)
  go_ret
  exact ⟨by rw [← HR.out]; rfl, rfl⟩
/-- While nodes are made. -/
structure PkInv (w : World) (L n : Nat) (b : Option Addr) (cap' : Nat) (ab : List Int) (M : Nat → Bool) (wr : World) : Prop where
  bel : Below w.heap.size w wr
  own : wr.heap[w.heap.size]? = some (.cells #[.slice (some ⟨L, 0, none⟩) n n, .slice b n cap'] 57 (0, 0))
  made : wr.rowIs (w.heap.size + 1) 4 n (fun j => .bool (M j))
  cell : wr.heap[w.heap.size + 1 + 1]? = some (.cells #[.slice (some ⟨w.heap.size + 1, 0, none⟩) n n] 53 (0, 0))
  cl : Closed n ab M
theorem pk_start (w : World) (L n : Nat) (b : Option Addr) (cap' : Nat) (ab : List Int) :
    PkInv w L n b cap' ab (fun _ => false) (((w.alloc (.cells #[.slice (some ⟨L, 0, none⟩) n n, .slice b n cap'] 57)).alloc (.cells (madeCells #[.bool false] n) 4)).alloc (.cells #[.slice (some ⟨w.heap.size + 1, 0, none⟩) n n] 53)) := by
  have z1 : (w.alloc (.cells #[.slice (some ⟨L, 0, none⟩) n n, .slice b n cap'] 57)).heap.size = w.heap.size + 1 := by simp
  have z2 : ((w.alloc (.cells #[.slice (some ⟨L, 0, none⟩) n n, .slice b n cap'] 57)).alloc (.cells (madeCells #[.bool false] n) 4)).heap.size = w.heap.size + 1 + 1 := by simp
  have hr := World.rowIs_made (w.alloc (.cells #[.slice (some ⟨L, 0, none⟩) n n, .slice b n cap'] 57)) (.bool false) n 4
  have hn := World.alloc_heap_new ((w.alloc (.cells #[.slice (some ⟨L, 0, none⟩) n n, .slice b n cap'] 57)).alloc (.cells (madeCells #[.bool false] n) 4)) (.cells #[.slice (some ⟨w.heap.size + 1, 0, none⟩) n n] 53)
  rw [z1] at hr
  rw [z2] at hn
  refine ⟨bl_on (bl_on (bl_new _) (bl_new _)) (bl_new _), ?_, World.rowIs.alloc hr _, hn, closed_none _ _⟩
  exact ((bl_new _).block _ (by omega)).trans (((bl_new _).block _ (by omega)).trans (World.alloc_heap_new _ _))
theorem PkInv.set {w : World} {L n : Nat} {b : Option Addr} {cap' : Nat} {ab : List Int} {M : Nat → Bool} {wr : World} (h : PkInv w L n b cap' ab M wr) (i : Nat) (hk : kidsIn n ab M i) : PkInv w L n b cap' ab (setB M i) (wr.setCell ⟨w.heap.size + 1, i, none⟩ (.bool true)) := by
  refine ⟨h.bel.setCell (p := ⟨w.heap.size + 1, i, none⟩) (by simp) _, (heap_setCell_other _ _ _ _ (by simp)).trans h.own, ?_, (heap_setCell_other _ _ _ _ (by simp)).trans h.cell, closed_set h.cl hk⟩
  refine (h.made.set i (.bool true)).congr fun j _ => ?_
  unfold setB
  by_cases e : j = i
  · rw [if_pos e, if_pos e]
  · rw [if_neg e, if_neg e]
theorem pk_cell {wr : World} {B : Nat} {t : TypeId} {p : Value} (h : wr.heap[B]? = some (.cells #[p] t (0, 0))) : wr.cell? ⟨B, 0, none⟩ = some p ∧ B < wr.heap.size := ⟨by simp [World.cell?, h], (Array.getElem?_eq_some_iff.1 h).1⟩
theorem own_row0 {w : World} {B : Nat} {u : Value} {l : List Nat} (h : OwnN w B u l) : ∃ a cap, u = .slice a l.length cap ∧ RowN0 w a l := by
  obtain ⟨a, cap, h1, _, h2⟩ := h.slice
  refine ⟨a, cap, h1, ?_⟩
  rcases h2 with h2 | ⟨g, h3, _, h4⟩
  · exact .inl h2
  · exact .inr ⟨g, h3, h4⟩
theorem wsum_perm (ws : List Int) {l l' : List Nat} (h : l.Perm l') : wsum ws l = wsum ws l' := by
  induction h with
  | nil => rfl
  | cons x _ ih => simp only [wsum, List.map_cons, List.sum_cons] at ih ⊢; rw [ih]
  | swap x y l => simp only [wsum, List.map_cons, List.sum_cons]; omega
  | trans _ _ a b => exact a.trans b
theorem drop_nth (l : List Int) (k : Nat) (h : k < l.length) : l.drop k = nth l k :: l.drop (k + 1) := by
  rw [List.drop_eq_getElem_cons h]; simp [nth, h]
theorem need_none (n : Nat) (ab ws : List Int) : needV n ab ws (fun _ => false) = 0 := by
  unfold needV
  exact (sumTo_congr n fun k _ => by simp).trans (sumTo_zero n)
theorem peak_bad {ab ws ord : List Int} (h : pk ab ws (fun _ => false) 0 ord = none) : peakV ab ws ord = (0, 10) := by unfold peakV; rw [h]; rfl
theorem peak_long {ab ws ord : List Int} (h : ord.length ≠ ab.length) : peakV ab ws ord = (0, 10) := by
  unfold peakV peakX
  split
  · rfl
  · rw [if_neg h]
theorem any_perm (M : Nat → Bool) {l l' : List Nat} (h : l.Perm l') : (l.any fun b => !M b) = l'.any fun b => !M b := by
  rw [Bool.eq_iff_iff, List.any_eq_true, List.any_eq_true]
  exact ⟨fun ⟨x, h1, h2⟩ => ⟨x, h.mem_iff.1 h1, h2⟩, fun ⟨x, h1, h2⟩ => ⟨x, h.mem_iff.2 h1, h2⟩⟩
set_option maxHeartbeats 8000000 in
theorem peakT_any (B L n : Nat) (v : Nat → Value) (T : Nat → List Nat) (ab ws ord : List Int) (b : Option Addr) (cap' : Nat) (o : Option Addr) (len ocap : Nat) (w : World) (hB : Bel w B L n v T) (hT : ∀ s, s < n → (T s).Perm (kids ab s)) (h0 : TreeOk ab ws) (hn : ab.length = n) (hw : Ints w b n ws) (ho : Ints w o len ord) :
    Calls Try.prog 32 #[.agg #[.slice (some ⟨L, 0, none⟩) n n, .slice b n cap'], .slice o len ocap] w fun e w' => e = .returned (.tuple #[.int .i64 (peakV ab ws ord).1, .int .i64 (peakV ab ws ord).2]) ∧ Below w.heap.size w w' := by
  have HB := hide hB
  have HT := hide hT
  have H0 := hide h0
  have HN := hide hn
  have HW := hide hw
  have HO := hide ho
  have HOL := hide ho.1
  have hom := ho.2.1
  have hn4 : n ≤ 4096 := hn ▸ h0.few
  clear hB hT h0 hn hw ho
  go_enter Try.func32, Try.ntmps32
  by_cases e1 : len = n
  · have hmk := run_make_row' (P := Try.prog) 53 4 (.bool false) 1 Try.underlying53 info_bool4 rfl .i64 .i64 n (by omega) (by omega)
    subst e1
    go_wp2
    go_loopw [8, 9, 27] (fun nd ms i wr => ∃ (k : Nat) (M : Nat → Bool) (most : Int), k ≤ len ∧ i = .int .i64 k ∧ nd = .int .i64 (needV ab.length ab ws M) ∧ ms = .int .i64 most ∧ 0 ≤ most ∧ most ≤ 8589934592 ∧ pk ab ws M most (ord.drop k) = pk ab ws (fun _ => false) 0 ord ∧ PkInv w L len b cap' ab M wr) (fun _ _ i _ => len - (intOf i).toNat)
    case atStart => exact ⟨0, _, 0, Nat.zero_le _, rfl, by rw [need_none], rfl, by decide, by decide, rfl, pk_start w L len b cap' ab⟩
    case round =>
      clear hmk
      obtain ⟨k, M, most, hk, rfl, rfl, rfl, hm0, hm1, hpk, hinv⟩ := hrel
      have HPK := hide hpk
      have HV := hide hinv
      clear hpk hinv
      by_cases hlt : k < len
      · obtain ⟨b1, o1, rfl, zb1, c1⟩ := (HO.out.below HV.out.bel).at (show 0 < len by omega)
        obtain ⟨b2, o2, rfl, zb2, d2⟩ := (HW.out.below HV.out.bel).at (show 0 < len by omega)
        have q1 := c1 k hlt
        obtain ⟨i, hi⟩ : ∃ i, i = nth ord k := ⟨_, rfl⟩
        have hpk := HPK.out
        rw [drop_nth ord k (by rw [HOL.out]; exact hlt), pk, ← hi] at hpk
        simp only [nth] at hi
        rw [← hi] at q1
        have HPK2 := hide hpk
        have hkz : (k : Int) < (len : Int) := by omega
        obtain ⟨t1, t2, _, _, t5⟩ := tree_cells HV.out.own
        obtain ⟨u1, u5⟩ := pk_cell HV.out.cell
        clear c1 hpk hi HPK
        obtain ⟨N, hN⟩ : ∃ N, N = needV ab.length ab ws M := ⟨_, rfl⟩
        have HNV := hide hN
        rw [← hN] at HPK2 ⊢
        clear hN
        by_cases f1 : i < 0
        · have PB : Hid (peakV ab ws ord = (0, 10)) := peak_bad (by rw [← HPK2.out, if_pos (by simp [stepBad, f1])])
          clear d2
          go_wp2
          go_ret2
          exact ⟨by rw [PB.out]; rfl, HV.out.bel⟩
        by_cases f2 : i ≥ (len : Int)
        · have PB : Hid (peakV ab ws ord = (0, 10)) := peak_bad (by rw [← HPK2.out, if_pos (by simp [stepBad, HN.out]; omega)])
          clear d2
          go_wp2
          go_ret2
          exact ⟨by rw [PB.out]; rfl, HV.out.bel⟩
        obtain ⟨s, hs⟩ : ∃ s : Nat, i = (s : Int) := ⟨i.toNat, by omega⟩
        subst hs
        have hsm : s < len := by omega
        have c2 := HV.out.made.cell (i := s) hsm
        have z2 := HV.out.made.lt
        by_cases f3 : M s = true
        · rw [f3] at c2
          have PB : Hid (peakV ab ws ord = (0, 10)) := peak_bad (by rw [← HPK2.out, if_pos (by simp [stepBad, f3])])
          clear d2
          go_wp2
          go_ret2
          exact ⟨by rw [PB.out]; rfl, HV.out.bel⟩
        have f3' : M s = false := by simpa using f3
        rw [f3'] at c2
        have HK := hide (HB.out.below HV.out.bel)
        obtain ⟨ra, rc, rv, rr⟩ := own_row0 (HK.out.side s hsm)
        have c3 := HK.out.row.cell (i := s) hsm
        have z3 := HK.out.row.lt
        rw [rv] at c3
        have hlen : (T s).length ≤ len := by rw [(HT.out s hsm).length_eq]; have := kids_len ab ab.length s; rw [HN.out] at this; unfold kids; rw [HN.out]; exact this
        have hmem : Hid (∀ k ∈ T s, k < len) := fun k hk => by have := (HT.out s hsm).mem_iff.1 hk; simp [kids, kidsTo, HN.out] at this; exact this.1
        have HCON := hide (containsMiss_any ra (T s) rc (w.heap.size + 1 + 1) (w.heap.size + 1) len M wr rr (by omega) hmem.out hn4 u1 HV.out.made)
        have RR := hide rr
        have hsz : (s : Int) < (len : Int) := by omega
        have RV := hide rv
        clear rr rv
        by_cases f4 : ((T s).any fun b => !M b) = true
        · have F4 := hide f4
          have PB : Hid (peakV ab ws ord = (0, 10)) := peak_bad (by rw [← HPK2.out, if_pos (by have h := any_perm M (HT.out s hsm); rw [f4] at h; simp only [stepBad, Int.toNat_natCast]; rw [← h]; simp)])
          clear d2 f4
          go_wp2_with (go_at_call 48; refine HCON.out.mono ?_; rintro e w1 ⟨rfl, hw⟩; rw [hw, F4.out]; clear hw w1)
          go_ret2
          exact ⟨by rw [PB.out]; rfl, HV.out.bel⟩
        have F4 : Hid (((T s).any fun b => !M b) = false) := by rw [Bool.not_eq_true] at f4; exact f4
        have HSB : Hid (stepBad ab M (s : Int) = false) := by have h := any_perm M (HT.out s hsm); rw [F4.out] at h; rw [Hid]; simp only [stepBad, Int.toNat_natCast]; rw [← h, f3', HN.out]; simp; omega
        have HKI := hide (step_ok HSB.out).2.2.2
        have HV2 := hide (HV.out.set s (by have h := HKI.out; rw [HN.out, Int.toNat_natCast] at h; exact h))
        have HWD : Hid (∀ W, Below w.heap.size w W → ∀ j, j < len → W.cell? ⟨b2, o2 + j, none⟩ = some (.int .i64 (nth ws j))) := fun W hW j hj => by
          obtain ⟨b3, o3, e, _, c⟩ := (HW.out.below hW).at (show 0 < len by omega)
          cases e
          exact c j hj
        obtain ⟨ra', rc', rv', rr'⟩ := own_row0 ((HB.out.below HV2.out.bel).side s hsm)
        rw [RV.out] at rv'
        cases rv'
        have RR2 := hide rr'
        have c4 := (HB.out.below HV2.out.bel).row.cell (i := s) hsm
        rw [RV.out] at c4
        have x4 := HWD.out _ HV2.out.bel s hsm
        obtain ⟨y1, y2, _, _, y5⟩ := tree_cells HV2.out.own
        have y6 := (HB.out.below HV2.out.bel).row.lt
        have y7 := lt_of_cell x4
        have fz := HV.out.made.frozen s
        obtain ⟨x, hx⟩ : ∃ x, x = nth ws s := ⟨_, rfl⟩
        have hxb := H0.out.wd s (by rw [HN.out]; exact hsm)
        have hNb := need_bound H0.out M
        rw [← HNV.out] at hNb
        rw [← hx] at x4 hxb
        have HX := hide hx
        have hw1 : IntKind.i64.wrap (N + x) = N + x := by rw [IntKind.wrap_i64]; omega
        clear rr' d2 hx f4
        simp only at y7
        go_wp2_with (go_at_call 48; refine HCON.out.mono ?_; rintro e w1 ⟨rfl, hw⟩; rw [hw, F4.out]; clear hw w1)
        all_goals
          go_loop [8, 73] (fun nd i => ∃ j : Nat, j ≤ (T s).length ∧ i = .int .i64 j ∧ nd = .int .i64 (N + x - wsum ws ((T s).take j))) (fun _ i => (T s).length - (intOf i).toNat)
          case atStart => exact ⟨0, Nat.zero_le _, rfl, by simp [wsum]⟩
          case round =>
            obtain ⟨j, hj, rfl, rfl⟩ := hrel
            by_cases hjl : j < (T s).length
            · rcases RR2.out with h0 | ⟨g, rfl, hc⟩
              · exfalso; rw [h0] at hjl; simp at hjl
              have c5 := hc j hjl
              obtain ⟨y, hy⟩ : ∃ y, y = (T s)[j]?.getD 0 := ⟨_, rfl⟩
              have hyl : y < len := hmem.out y (by rw [hy]; simp [hjl])
              have x5 := HWD.out _ HV2.out.bel y hyl
              have hzb := H0.out.wd y (by rw [HN.out]; exact hyl)
              have hSb := wsum_bound H0.out ((T s).take j) fun q hq => by rw [HN.out]; exact hmem.out q (List.mem_of_mem_take hq)
              have hSl : ((T s).take j).length ≤ 4096 := by simp; omega
              have HST := hide (wsum_take ws (T s) j hjl)
              rw [← hy] at c5 HST
              unfold nv at c5
              obtain ⟨z, hz⟩ : ∃ z, z = nth ws y := ⟨_, rfl⟩
              rw [← hz] at x5 hzb HST
              obtain ⟨S, hS⟩ : ∃ S, S = wsum ws ((T s).take j) := ⟨_, rfl⟩
              rw [← hS] at hSb HST ⊢
              have hw2 : IntKind.i64.wrap (N + x - S - z) = N + x - S - z := by rw [IntKind.wrap_i64]; omega
              have z5 := lt_of_cell c5
              simp only at z5
              have hjz : (j : Int) < ((T s).length : Int) := by omega
              have hyz : (y : Int) < (len : Int) := by omega
              clear hc hy hz hS hSb hSl
              go_wp2
              go_round
              case rel => exact ⟨j + 1, by omega, by go_num, by rw [HST.out]; congr 1; omega⟩
              case measure => simp [intOf]; omega
            · have hjl2 : ¬ (j : Int) < ((T s).length : Int) := by omega
              have HFN : Hid (needV ab.length ab ws (setB M s) = N + x - wsum ws ((T s).take j)) := by
                have h := need_next H0.out (by rw [HN.out]; exact HV.out.cl) (by rw [HN.out]; exact hsm) f3' (by have h := HKI.out; rw [Int.toNat_natCast] at h; exact h)
                rw [Hid, h, List.take_of_length_le (by omega), wsum_perm ws (HT.out s hsm), HNV.out, HX.out]
              obtain ⟨NN, hNN⟩ : ∃ NN, NN = N + x - wsum ws ((T s).take j) := ⟨_, rfl⟩
              rw [← hNN] at HFN ⊢
              clear hNN
              go_wp2
              go_roundw
              case rel =>
                refine ⟨k + 1, setB M s, _, by omega, by go_num, by rw [HFN.out], rfl, by omega, by omega, ?_, HV2.out⟩
                rw [← HPK2.out, if_neg (by rw [HSB.out]; simp), Int.toNat_natCast, ← HX.out]
                congr 1
                omega
              case measure => simp [intOf]; omega
      · obtain rfl : k = len := by omega
        have PB : Hid (peakV ab ws ord = (most, 0)) := by
          have h := HPK.out
          rw [List.drop_eq_nil_of_le (by rw [HOL.out]; omega), pk] at h
          rw [Hid, peakV, ← h]
          simp only [peakX]
          rw [if_pos (by rw [HOL.out, HN.out])]
        go_wp2
        go_ret2
        exact ⟨by rw [PB.out]; rfl, HV.out.bel⟩
  · have PB : Hid (peakV ab ws ord = (0, 10)) := peak_long (by rw [HOL.out, HN.out]; exact e1)
    have e2 : ((len : Int) != (n : Int)) = true := by simp; omega
    go_wp2
    go_ret2
    exact ⟨by rw [PB.out]; rfl, bl_new _⟩
end Go.Proofs.Ytnncalhpbfmgoaa.V
