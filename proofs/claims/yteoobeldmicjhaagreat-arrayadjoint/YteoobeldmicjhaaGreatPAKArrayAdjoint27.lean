/-
  Contract: adjointref2.dotDims. adjointlaw2.back: the kind Cut.
-/
import Derived.Test.YteoobeldmicjhaaGreatPAKArrayAdjoint25
import Derived.Test.YteoobeldmicjhaaGreatPAKArrayAdjoint20
import Derived.Test.YteoobeldmicjhaaGreatPAKArrayAdjoint22
namespace Go.Proofs.YteoobeldmicjhaaGreat.V
set_option maxRecDepth 20000
open Go.RowKit

end Go.Proofs.YteoobeldmicjhaaGreat.V
namespace Go.Proofs.YteoobeldmicjhaaGreat.V
set_option maxRecDepth 20000
open Go.RowKit

/-- How far what is kept of a cut reaches. -/
def bkN (l u s : Int) : Int := if l < u then (u - l - 1) / s * s + 1 else 0
def bkHi (ds lo hi st : List Int) : List Int := (List.range ds.length).map fun j => ds[j]?.getD 0 - lo[j]?.getD 0 - bkN (lo[j]?.getD 0) (hi[j]?.getD 0) (st[j]?.getD 0)
theorem bkHi_length (ds lo hi st : List Int) : (bkHi ds lo hi st).length = ds.length := by simp [bkHi]
theorem bkHi_at (ds lo hi st : List Int) (j : Nat) (h : j < ds.length) : (bkHi ds lo hi st)[j]?.getD 0 = ds[j]?.getD 0 - lo[j]?.getD 0 - bkN (lo[j]?.getD 0) (hi[j]?.getD 0) (st[j]?.getD 0) := by simp [bkHi, h]
theorem bkN_bd {l u s : Int} (hs : 1 ≤ s) (h : l ≤ u) : 0 ≤ bkN l u s ∧ bkN l u s ≤ u - l := by
  unfold bkN
  split
  · have h1 := Int.ediv_mul_le (u - l - 1) (b := s) (by omega)
    have h2 : 0 ≤ (u - l - 1) / s := Int.ediv_nonneg (by omega) (by omega)
    have h3 : 0 ≤ (u - l - 1) / s * s := Int.mul_nonneg h2 (by omega)
    omega
  · omega
/-- What is cut, of one dimension. -/
structure CutOne (X L U S : Int) : Prop where
  lo : 0 ≤ L
  le : L ≤ U
  top : U ≤ X
  one : 1 ≤ S
  big : S ≤ 4096
  dim : X ≤ 4096

set_option maxRecDepth 100000 in
set_option maxHeartbeats 2000000 in
theorem back_13 (ea : Option Addr) (el ec : Nat) (pa : Option Addr) (pl pc : Nat) (la : Option Addr) (ll lc : Nat) (ha : Option Addr) (hl hc : Nat) (ta : Option Addr) (tl tc : Nat) (x : Int) (da : Option Addr) (dl dc : Nat) (ds lo hi st : List Int) (w : World) (hd : Ints w da dl ds) (hl' : Ints w la ll lo) (hh : Ints w ha hl hi) (ht : Ints w ta tl st) (e1 : dl = ll) (e2 : dl = hl) (e3 : dl = tl) (h6 : dl ≤ 6) (hok : ∀ j, j < dl → CutOne (ds[j]?.getD 0) (lo[j]?.getD 0) (hi[j]?.getD 0) (st[j]?.getD 0)) :
    Calls Tryz.prog 14 #[.agg #[.int .i64 13, .slice ea el ec, .slice pa pl pc, .slice la ll lc, .slice ha hl hc, .slice ta tl tc, .int .i64 x], .slice da dl dc] w fun e w' => (∃ (X : Option Addr) (n c : Nat), e = .returned (.agg #[.int .i64 14, .slice none 0 0, .slice none 0 0, .slice la ll lc, .slice X n c, .slice ta tl tc, .int .i64 0]) ∧ Lst w' X n c (bkHi ds lo hi st)) ∧ Below w.heap.size w w' := by
  subst e1
  subst e2
  subst e3
  have HB1 := (Below.refl w.heap.size w).alloc (Nat.le_refl _) (.cells #[.int .i64 13, .slice ea el ec, .slice pa pl pc, .slice la dl lc, .slice ha dl hc, .slice ta dl tc, .int .i64 x] 31)
  have HB2 := hide (HB1.alloc HB1.size (.cells #[.int .i64 0, .slice none 0 0, .slice none 0 0, .slice none 0 0, .slice none 0 0, .slice none 0 0, .int .i64 0] 31))
  have HOP := hide ((OpAt.new w 13 (.slice ea el ec) (.slice pa pl pc) (.slice la dl lc) (.slice ha dl hc) (.slice ta dl tc) x).alloc (.cells #[.int .i64 0, .slice none 0 0, .slice none 0 0, .slice none 0 0, .slice none 0 0, .slice none 0 0, .int .i64 0] 31))
  have hrs := OpAt.new (w.alloc (.cells #[.int .i64 13, .slice ea el ec, .slice pa pl pc, .slice la dl lc, .slice ha dl hc, .slice ta dl tc, .int .i64 x] 31)) 0 (.slice none 0 0) (.slice none 0 0) (.slice none 0 0) (.slice none 0 0) (.slice none 0 0) 0
  simp only [World.size_alloc] at hrs
  have HRS := hide hrs
  obtain ⟨o0, o1, o2, o3, o4, o5, o6⟩ := HOP.out.cells
  clear hrs HB1
  have Hd2 := hide (hd.below HB2.out)
  have Hl2 := hide (hl'.below HB2.out)
  have Hh2 := hide (hh.below HB2.out)
  have Ht2 := hide (ht.below HB2.out)
  have HOK := hide hok
  have HDL := hide hd.1
  have hdm := hd.2.1
  have hmk := run_make_row' (P := Tryz.prog) 22 3 (.int .i64 0) 8 Tryz.underlying22 info_int rfl .i64 .i64 dl (by omega) (by omega)
  have hob := HOP.out.alloc (.cells (madeCells #[.int .i64 0] dl) 3)
  obtain ⟨q0, q1, q2, q3, q4, q5, q6⟩ := hob.cells
  clear hd hl' hh ht hok hob
  go_enter Tryz.func14, Tryz.ntmps14
  go_wp2
  obtain ⟨W2, hW2⟩ : ∃ W2, W2 = ((w.alloc (.cells #[.int .i64 13, .slice ea el ec, .slice pa pl pc, .slice la dl lc, .slice ha dl hc, .slice ta dl tc, .int .i64 x] 31)).alloc (.cells #[.int .i64 0, .slice none 0 0, .slice none 0 0, .slice none 0 0, .slice none 0 0, .slice none 0 0, .int .i64 0] 31)) := ⟨_, rfl⟩
  have hs2 : W2.heap.size = w.heap.size + 2 := by rw [hW2]; simp
  have hs2' : w.heap.size + 1 + 1 = W2.heap.size := by omega
  rw [← hW2] at HB2 HOP HRS Hd2 Hl2 Hh2 Ht2 ⊢
  rw [hs2']
  have HS2 := hide hs2
  clear hs2 hs2' hW2 o0 o1 o2 o3 o4 o5 o6 q0 q1 q2 q3 q4 q5 q6 hmk
  go_loopw [121] (fun i wr => ∃ k : Nat, k ≤ dl ∧ i = .int .i64 k ∧ wr.rowIs W2.heap.size 3 dl (onWay (bkHi ds lo hi st) [] k) ∧ Below W2.heap.size W2 wr) (fun i _ => dl - (intOf i).toNat)
  case atStart => exact ⟨0, Nat.zero_le _, rfl, (World.rowIs_made W2 (.int .i64 0) dl 3).congr (fun j _ => by simp [onWay]), (Below.refl _ _).alloc (Nat.le_refl _) _⟩
  case round =>
    obtain ⟨k, hk, rfl, hrow, hB⟩ := hrel
    have HR := hide hrow
    have HB := hide hB
    clear hrow hB
    by_cases hlt : k < dl
    · have hok := HOK.out k hlt
      obtain ⟨db, doff, ed, hdb, hdc⟩ := Hd2.out.at (by omega)
      subst ed
      have HdC := hide (hdc k hlt)
      obtain ⟨lb, loff, el, hlb, hlc⟩ := Hl2.out.at (by omega)
      subst el
      have HlC := hide (hlc k hlt)
      obtain ⟨hb, hoff, eh, hhb, hhc⟩ := Hh2.out.at (by omega)
      subst eh
      have HhC := hide (hhc k hlt)
      obtain ⟨tb, toff, et, htb, htc⟩ := Ht2.out.at (by omega)
      subst et
      have HtC := hide (htc k hlt)
      have HV : Hid ((bkHi ds lo hi st)[k]?.getD 0 = ds[k]?.getD 0 - lo[k]?.getD 0 - bkN (lo[k]?.getD 0) (hi[k]?.getD 0) (st[k]?.getD 0)) := bkHi_at _ _ _ _ k (by rw [HDL.out]; exact hlt)
      obtain ⟨X, hX⟩ : ∃ X, X = ds[k]?.getD 0 := ⟨_, rfl⟩
      obtain ⟨L, hL⟩ : ∃ L, L = lo[k]?.getD 0 := ⟨_, rfl⟩
      obtain ⟨U, hU⟩ : ∃ U, U = hi[k]?.getD 0 := ⟨_, rfl⟩
      obtain ⟨S, hS⟩ : ∃ S, S = st[k]?.getD 0 := ⟨_, rfl⟩
      rw [← hX, ← hL, ← hU, ← hS] at HV hok
      rw [← hX] at HdC
      rw [← hL] at HlC
      rw [← hU] at HhC
      rw [← hS] at HtC
      clear hX hL hU hS hdc hlc hhc htc
      obtain ⟨k1, k2, k3, k4, k5, k6⟩ := hok
      have hbn := bkN_bd k4 k2
      obtain ⟨BN, hBN⟩ : ∃ BN, BN = bkN L U S := ⟨_, rfl⟩
      rw [← hBN] at hbn HV
      have HBN := hide hBN
      have HOR := hide (HOP.out.below HB.out)
      obtain ⟨o0, o1, o2, o3, o4, o5, o6⟩ := HOR.out.cells
      have cd := (HB.out.cell (p := ⟨db, doff + k, none⟩) hdb).trans HdC.out
      have cl := (HB.out.cell (p := ⟨lb, loff + k, none⟩) hlb).trans HlC.out
      have ch := (HB.out.cell (p := ⟨hb, hoff + k, none⟩) hhb).trans HhC.out
      have ct := (HB.out.cell (p := ⟨tb, toff + k, none⟩) htb).trans HtC.out
      have hr := HR.out.cell (i := k) (by omega)
      have hf := HR.out.frozen k
      have i1 : (0 : Int) ≤ (k : Int) := Int.natCast_nonneg _
      have i2 : (k : Int) < (dl : Int) := by omega
      clear hBN
      go_wp2_with fail
      go_cut [136] (fun v wc => v = .bool (decide (L < U)) ∧ wc.rowIs W2.heap.size 3 dl (onWay (bkHi ds lo hi st) [] k) ∧ Below W2.heap.size W2 wc)
      case first =>
        go_quiet (fail)
        all_goals go_wp2
        all_goals go_meet
        all_goals exact ⟨by simp, HR.out.of_block ((below_drewN _ _).block _ HR.out.lt), HB.out.trans ((below_drewN _ _).mono HB.out.size)⟩
      case rest =>
        obtain ⟨rfl, hrow, hB⟩ := hcut
        have HR1 := hide hrow
        have HB1 := hide hB
        clear hrow hB o0 o1 o2 o3 o4 o5 o6 cd cl ch ct hr hf
        have HOR1 := hide (HOP.out.below HB1.out)
        obtain ⟨o0, o1, o2, o3, o4, o5, o6⟩ := HOR1.out.cells
        have cd := (HB1.out.cell (p := ⟨db, doff + k, none⟩) hdb).trans HdC.out
        have cl := (HB1.out.cell (p := ⟨lb, loff + k, none⟩) hlb).trans HlC.out
        have ch := (HB1.out.cell (p := ⟨hb, hoff + k, none⟩) hhb).trans HhC.out
        have ct := (HB1.out.cell (p := ⟨tb, toff + k, none⟩) htb).trans HtC.out
        have hr := HR1.out.cell (i := k) (by omega)
        have hf := HR1.out.frozen k
        by_cases hLU : L < U
        · have hdec : decide (L < U) = true := by simpa using hLU
          rw [hdec]
          clear hdec
          have hQ0 : 0 ≤ (U - L - 1) / S := Int.ediv_nonneg (by omega) (by omega)
          have hQ1 := Int.ediv_mul_le (U - L - 1) (b := S) (by omega)
          obtain ⟨Q, hQ⟩ : ∃ Q, Q = (U - L - 1) / S := ⟨_, rfl⟩
          rw [← hQ] at hQ0 hQ1
          have hQ2 : Q ≤ Q * S := by have := Int.mul_le_mul_of_nonneg_left k4 hQ0; omega
          have hbq : BN = Q * S + 1 := by rw [HBN.out, bkN, if_pos hLU, ← hQ]
          obtain ⟨T, hT⟩ : ∃ T, T = Q * S := ⟨_, rfl⟩
          rw [← hT] at hbq hQ1 hQ2
          have w1' : IntKind.i64.wrap (U - L) = U - L := wrap_in _ (by omega) (by omega)
          have w2' : IntKind.i64.wrap (U - L - 1) = U - L - 1 := wrap_in _ (by omega) (by omega)
          have w3' : IntKind.i64.wrap ((U - L - 1).tdiv S) = Q := by
            rw [Int.tdiv_eq_ediv_of_nonneg (by omega), ← hQ]; exact wrap_in _ (by omega) (by omega)
          have w4' : IntKind.i64.wrap (Q * S) = T := by rw [hT]; exact wrap_in _ (by omega) (by omega)
          have w5' : IntKind.i64.wrap (T + 1) = T + 1 := wrap_in _ (by omega) (by omega)
          have hz' : ¬ S = 0 := by omega
          have HBQ := hide hbq
          clear hQ0 hQ1 hQ hQ2 hT hbq hLU
          go_wp2_with fail
          go_cut [21] (fun v wc => v = .int .i64 BN ∧ wc.rowIs W2.heap.size 3 dl (onWay (bkHi ds lo hi st) [] k) ∧ Below W2.heap.size W2 wc)
          case first =>
            go_quiet (fail)
            all_goals go_wp2
            all_goals go_meet
            all_goals exact ⟨by rw [HBQ.out], HR1.out.of_block ((below_drewN _ _).block _ HR1.out.lt), HB1.out.trans ((below_drewN _ _).mono HB1.out.size)⟩
          case rest =>
            obtain ⟨rfl, hrow, hB⟩ := hcut
            have HR3 := hide hrow
            have HB3 := hide hB
            clear hrow hB o0 o1 o2 o3 o4 o5 o6 cd cl ch ct hr hf w1' w2' w3' w4' w5' HBQ
            have HOR3 := hide (HOP.out.below HB3.out)
            obtain ⟨o0, o1, o2, o3, o4, o5, o6⟩ := HOR3.out.cells
            have cd := (HB3.out.cell (p := ⟨db, doff + k, none⟩) hdb).trans HdC.out
            have cl := (HB3.out.cell (p := ⟨lb, loff + k, none⟩) hlb).trans HlC.out
            have ch := (HB3.out.cell (p := ⟨hb, hoff + k, none⟩) hhb).trans HhC.out
            have ct := (HB3.out.cell (p := ⟨tb, toff + k, none⟩) htb).trans HtC.out
            have hr := HR3.out.cell (i := k) (by omega)
            have hf := HR3.out.frozen k
            have w6' : IntKind.i64.wrap (X - L) = X - L := wrap_in _ (by omega) (by omega)
            have w7' : IntKind.i64.wrap (X - L - BN) = X - L - BN := wrap_in _ (by omega) (by omega)
            go_wp2
            go_roundw
            case rel =>
              refine ⟨k + 1, by omega, by go_num, (HR3.out.set k (.int .i64 (X - L - BN))).congr (fun j _ => ?_), HB3.out.setCell (p := ⟨W2.heap.size, k, none⟩) (Nat.le_refl _) _⟩
              rw [← HV.out]; exact onWay_succ _ _ k j
            case measure => simp [intOf]; omega
        · have hdec : decide (L < U) = false := by simpa using hLU
          rw [hdec]
          clear hdec
          have hbq : BN = 0 := by rw [HBN.out, bkN, if_neg hLU]
          subst hbq
          have w6' : IntKind.i64.wrap (X - L) = X - L := wrap_in _ (by omega) (by omega)
          clear hLU
          go_wp2
          go_roundw
          case rel =>
            refine ⟨k + 1, by omega, by go_num, (HR1.out.set k (.int .i64 (X - L))).congr (fun j _ => ?_), HB1.out.setCell (p := ⟨W2.heap.size, k, none⟩) (Nat.le_refl _) _⟩
            have hv := HV.out
            rw [Int.sub_zero] at hv
            rw [← hv]; exact onWay_succ _ _ k j
          case measure => simp [intOf]; omega
    · have hkp : k = dl := by omega
      have hs2 := HS2.out
      have hrr := HRS.out.below HB.out
      have HRR := hide hrr
      have HOR := hide (HOP.out.below HB.out)
      obtain ⟨o0, o1, o2, o3, o4, o5, o6⟩ := HOR.out.cells
      have hrow := HR.out
      rw [hkp] at hrow
      have hlst : Lst wr (some ⟨W2.heap.size, 0, none⟩) dl dl (bkHi ds lo hi st) := ⟨ints_of_rowI (onWay_all hrow) (by rw [bkHi_length, HDL.out]) (by omega) (fun x hx => by
        obtain ⟨j, hj, e⟩ := List.getElem_of_mem hx
        have hj' : j < dl := by rw [bkHi_length, HDL.out] at hj; exact hj
        have h1 := HOK.out j hj'
        have h2 := bkN_bd h1.one h1.le
        have h3 := bkHi_at ds lo hi st j (by rw [HDL.out]; exact hj')
        simp [hj] at h3
        have := h1.lo
        have := h1.le
        have := h1.top
        have := h1.dim
        omega), Nat.le_refl _, fun e => by cases e⟩
      obtain ⟨y0, y1, y2, y3, y4, y5, y6⟩ := HRR.out.cells
      have z0 := op7_frozen HRR.out 0
      have z1 := op7_frozen HRR.out 1
      have z2 := op7_frozen HRR.out 2
      have z3 := op7_frozen HRR.out 3
      have z4 := op7_frozen HRR.out 4
      have z5 := op7_frozen HRR.out 5
      have z6 := op7_frozen HRR.out 6
      have HBF := hide (op7_below (b := w.heap.size + 1) (Below.on HB2.out HB.out) (by omega) (.int .i64 14) (.slice none 0 0) (.slice none 0 0) (.slice la dl lc) (.slice (some ⟨W2.heap.size, 0, none⟩) dl dl) (.slice ta dl tc) (.int .i64 0))
      have HXF := hide (op7_lst (b := w.heap.size + 1) hlst (fun g o e => by cases e; omega) (.int .i64 14) (.slice none 0 0) (.slice none 0 0) (.slice la dl lc) (.slice (some ⟨W2.heap.size, 0, none⟩) dl dl) (.slice ta dl tc) (.int .i64 0))
      clear hlst hrow hs2 hrr
      go_wp2
      have hput := op7_put HRR.out 14 (.slice none 0 0) (.slice none 0 0) (.slice la dl lc) (.slice (some ⟨W2.heap.size, 0, none⟩) dl dl) (.slice ta dl tc) 0
      obtain ⟨u0, u1, u2, u3, u4, u5, u6⟩ := hput.cells
      exact bodyPost_ret (v := .agg #[.int .i64 14, .slice none 0 0, .slice none 0 0, .slice la dl lc, .slice (some ⟨W2.heap.size, 0, none⟩) dl dl, .slice ta dl tc, .int .i64 0]) (by simp [results, Tryz.results14, go_sem, u0, u1, u2, u3, u4, u5, u6]) rfl ⟨⟨_, _, _, rfl, HXF.out⟩, HBF.out⟩

end Go.Proofs.YteoobeldmicjhaaGreat.V
