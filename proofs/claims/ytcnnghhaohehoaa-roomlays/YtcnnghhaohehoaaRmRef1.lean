/-
  Contracts: adjointref12.Wrong, Load, Meet.
-/
import Derived.Test.YtcnnghhaohehoaaRmWrong
namespace Go.Proofs.Ytcnnghhaohehoaa.V
open Go.RowKit
set_option linter.unusedVariables false

set_option maxHeartbeats 4000000 in
theorem rRmWrong_any (a : Option Addr) (len cap : Nat) (ls : List Lf) (w : World) (h : Lives w a len ls) :
    Calls Try.prog 11 #[.slice a len cap] w fun e w' => e = .returned (.int .i64 (livesE ls)) ∧ Below w.heap.size w w' := by
  have HL := hide h.1
  have hm := h.2.1
  have H := hide h
  have hlE : livesE ls = if 4096 < len then 2 else if ls.any badL = true then 4 else 0 := by unfold livesE; rw [h.1]
  have HE := hide hlE
  clear h hlE
  go_enter Try.func11, Try.ntmps11
  by_cases h1 : 4096 < len
  · go_wp2
    go_ret
    exact ⟨by rw [HE.out, if_pos h1]; rfl, Below.refl _ _⟩
  · go_wp2
    go_loopw [10] (fun i wr => ∃ k : Nat, k ≤ len ∧ i = .int .i64 k ∧ (ls.take k).any badL = false ∧ Below w.heap.size w wr) (fun i _ => len - (intOf i).toNat)
    case atStart => exact ⟨0, Nat.zero_le _, rfl, by simp, Below.refl _ _⟩
    case round =>
      obtain ⟨k, hk, rfl, hn, hB⟩ := hrel
      have HN := hide hn
      have HB := hide hB
      clear hn hB
      by_cases hlt : k < len
      · have hkl : k < ls.length := by rw [HL.out]; exact hlt
        obtain ⟨b, off, rfl, c1, c2, c3⟩ := (H.out.below HB.out).at hlt
        have z1 := lt_of_cell c1
        simp only at z1
        obtain ⟨q, hq⟩ : ∃ q, q = ls[k]?.getD lfD := ⟨_, rfl⟩
        rw [← hq] at c1 c2 c3
        have HQ := hide hq
        have HKL := hide hkl
        have HB3 := hide (bl_on HB.out (bl_new (.cells #[.int .i64 q.fr, .int .i64 q.to, .int .i64 q.wd] 37)))
        have hbad : ∀ v, badL q = v → v = true → ls.any badL = true := fun v e1 e2 => any_of_getLf ls k hkl (by rw [← hq, e1, e2])
        have HBAD : Hid (badL q = true → livesE ls = 4) := fun e => by rw [HE.out, if_neg h1, if_pos (hbad _ e rfl)]
        clear hq hkl hbad
        by_cases p1 : q.fr < 0
        · go_wp2
          go_ret
          exact ⟨by rw [HBAD.out (by simp [badL, p1])]; rfl, HB3.out⟩
        · by_cases p2 : q.fr > q.to
          · go_wp2
            go_ret
            exact ⟨by rw [HBAD.out (by simp [badL]; omega)]; rfl, HB3.out⟩
          · by_cases p3 : q.to > 1048576
            · go_wp2
              go_ret
              exact ⟨by rw [HBAD.out (by simp [badL]; omega)]; rfl, HB3.out⟩
            · by_cases p4 : q.wd < 0
              · go_wp2
                go_ret
                exact ⟨by rw [HBAD.out (by simp [badL]; omega)]; rfl, HB3.out⟩
              · by_cases p5 : q.wd > 1048576
                · go_wp2
                  go_ret
                  exact ⟨by rw [HBAD.out (by simp [badL]; omega)]; rfl, HB3.out⟩
                · have HGD : Hid (badL q = false) := by rw [Hid]; simp [badL, p1]; omega
                  go_wp2
                  go_roundw
                  case rel => exact ⟨k + 1, by omega, by go_num, not_any_succLf ls k HKL.out HN.out (by rw [← HQ.out]; exact HGD.out), HB3.out⟩
                  case measure => simp [intOf]; omega
      · go_wp2
        go_ret
        have := HN.out
        rw [List.take_of_length_le (by rw [HL.out]; omega)] at this
        exact ⟨by rw [HE.out, if_neg h1, this]; rfl, HB.out⟩
theorem sum_take (f : Lf → Int) (ls : List Lf) (k : Nat) (h : k < ls.length) : ((ls.take (k + 1)).map f).sum = ((ls.take k).map f).sum + f (ls[k]?.getD lfD) := by
  rw [take_succLf ls k h]; simp
theorem sum_bd (t : Int) {ls : List Lf} (h : ∀ x ∈ ls, LfOk x) : 0 ≤ (ls.map (atT t)).sum ∧ (ls.map (atT t)).sum ≤ 1048576 * ls.length := by
  induction ls with
  | nil => simp
  | cons x ls ih =>
    have h1 := (h x (by simp)).w0
    have h2 := (h x (by simp)).w1
    have h3 := ih (fun y hy => h y (by simp [hy]))
    simp only [List.map_cons, List.sum_cons, List.length_cons]
    have : 0 ≤ atT t x ∧ atT t x ≤ 1048576 := by unfold atT; split <;> omega
    omega
def loadK (ls : List Lf) (k : Nat) : Int := (ls.take k).foldl (fun m x => max m (needed ls x.fr)) 0
theorem loadK_succ (ls : List Lf) (k : Nat) (h : k < ls.length) : loadK ls (k + 1) = max (loadK ls k) (needed ls (ls[k]?.getD lfD).fr) := by
  unfold loadK; rw [take_succLf ls k h, List.foldl_append]; rfl
set_option maxHeartbeats 4000000 in
theorem rLoad_any (a : Option Addr) (len cap : Nat) (ls : List Lf) (w : World) (h : Lives w a len ls) :
    Calls Try.prog 9 #[.slice a len cap] w fun e w' => e = .returned (.tuple #[.int .i64 (if livesE ls = 0 then loadV ls else 0), .int .i64 (livesE ls)]) ∧ Below w.heap.size w w' := by
  have HL := hide h.1
  have H := hide h
  have HW := hide (rRmWrong_any a len cap ls w h)
  clear h
  by_cases hE : livesE ls = 0
  · obtain ⟨hl4, hok⟩ := livesE_ok hE
    have hlen : len ≤ 4096 := by rw [← HL.out]; exact hl4
    rw [if_pos hE]
    have HE := hide hE
    have HO := hide hok
    rw [hE]
    clear hE hl4 hok
    go_enter Try.func9, Try.ntmps9
    go_wp2_with (go_at_call 11; refine HW.out.mono ?_; rintro e w1 ⟨rfl, hb⟩; rw [HE.out]; have HB1 := hide hb; clear hb)
    go_loopw [5, 18] (fun v5 i wr => ∃ k : Nat, k ≤ len ∧ i = .int .i64 k ∧ v5 = .int .i64 (loadK ls k) ∧ Below w.heap.size w wr) (fun _ i _ => len - (intOf i).toNat)
    case atStart => exact ⟨0, Nat.zero_le _, rfl, rfl, HB1.out⟩
    case round =>
      obtain ⟨k, hk, rfl, rfl, hB⟩ := hrel
      have HB := hide hB
      clear hB
      by_cases hlt : k < len
      · have hkl : k < ls.length := by rw [HL.out]; exact hlt
        obtain ⟨b, off, rfl, c1, c2, c3⟩ := (H.out.below HB.out).at hlt
        have z1 := lt_of_cell c1
        simp only at z1
        obtain ⟨x, hx⟩ : ∃ q, q = ls[k]?.getD lfD := ⟨_, rfl⟩
        have hLS := loadK_succ ls k hkl
        rw [← hx] at c1 c2 c3 hLS
        have HLS := hide hLS
        obtain ⟨M, hM⟩ : ∃ M, M = loadK ls k := ⟨_, rfl⟩
        rw [← hM]
        rw [← hM] at HLS
        have HM := hide hM
        have hbn := bl_new (w := wr) (.cells #[.int .i64 x.fr, .int .i64 x.to, .int .i64 x.wd] 37)
        have x0 : (wr.alloc (.cells #[.int .i64 x.fr, .int .i64 x.to, .int .i64 x.wd] 37)).cell? ⟨wr.heap.size, 0, none⟩ = some (.int .i64 x.fr) := by simp
        have HX0 := hide x0
        have HBN := hide hbn
        have HBW := hide (bl_on HB.out hbn)
        have hzx : wr.heap.size < (wr.alloc (.cells #[.int .i64 x.fr, .int .i64 x.to, .int .i64 x.wd] 37)).heap.size := by simp
        clear hx hkl hLS hM hbn x0
        go_wp2
        generalize wr.alloc (.cells #[.int .i64 x.fr, .int .i64 x.to, .int .i64 x.wd] 37) = W3 at HX0 HBN HBW hzx ⊢
        obtain ⟨X, hX⟩ : ∃ X, X = wr.heap.size := ⟨_, rfl⟩
        rw [← hX] at HX0 hzx ⊢
        clear HB HBN c1 c2 c3 z1 hX
        go_loopw [8, 24] (fun v8 i wr => ∃ j : Nat, j ≤ len ∧ i = .int .i64 j ∧ v8 = .int .i64 ((ls.take j).map (atT x.fr)).sum ∧ Below W3.heap.size W3 wr) (fun _ i _ => len - (intOf i).toNat)
        case atStart => exact ⟨0, Nat.zero_le _, rfl, rfl, Below.refl _ _⟩
        case round =>
          obtain ⟨j, hj, rfl, rfl, hB⟩ := hrel
          have HB4 := hide hB
          clear hB
          by_cases hltj : j < len
          · have hjl : j < ls.length := by rw [HL.out]; exact hltj
            obtain ⟨b', off', e', d1, d2, d3⟩ := (H.out.below (bl_on HBW.out HB4.out)).at hltj
            cases e'
            have z2 := lt_of_cell d1
            simp only at z2
            have hsb := sum_bd x.fr (ls := ls.take j) (fun y hy => HO.out y (List.mem_of_mem_take hy))
            rw [List.length_take] at hsb
            have hst := sum_take (atT x.fr) ls j hjl
            have hyo := HO.out _ (mem_getLf ls j hjl)
            obtain ⟨y, hy⟩ : ∃ q, q = ls[j]?.getD lfD := ⟨_, rfl⟩
            rw [← hy] at d1 d2 d3 hst hyo
            have HST := hide hst
            obtain ⟨N, hN⟩ : ∃ N, N = ((ls.take j).map (atT x.fr)).sum := ⟨_, rfl⟩
            rw [← hN] at hsb ⊢
            rw [← hN] at HST
            have hyw0 := hyo.w0
            have hyw1 := hyo.w1
            have hwr : IntKind.i64.wrap (N + y.wd) = N + y.wd := by rw [IntKind.wrap_i64]; omega
            have g0 := (HB4.out.cell (p := ⟨X, 0, none⟩) hzx).trans HX0.out
            have HB6 := hide (bl_on HB4.out (bl_new (.cells #[.int .i64 y.fr, .int .i64 y.to, .int .i64 y.wd] 37)))
            have zz := HB4.out.size
            have hXw : X < wr.heap.size := by omega
            clear hy hjl hst hyo hN hsb
            by_cases p1 : y.fr ≤ x.fr
            · by_cases p2 : x.fr < y.to
              · have HAT : Hid (atT x.fr y = y.wd) := by rw [Hid]; unfold atT; rw [if_pos ⟨p1, p2⟩]
                go_wp2
                go_roundw
                case rel => exact ⟨j + 1, by omega, by go_num, by rw [HST.out, HAT.out], HB6.out⟩
                case measure => simp [intOf]; omega
              · have HAT : Hid (atT x.fr y = 0) := by rw [Hid]; unfold atT; rw [if_neg (fun h => p2 h.2)]
                go_wp2
                go_roundw
                case rel => exact ⟨j + 1, by omega, by go_num, by rw [HST.out, HAT.out, Int.add_zero], HB6.out⟩
                case measure => simp [intOf]; omega
            · have HAT : Hid (atT x.fr y = 0) := by rw [Hid]; unfold atT; rw [if_neg (fun h => p1 h.1)]
              go_wp2
              go_roundw
              case rel => exact ⟨j + 1, by omega, by go_num, by rw [HST.out, HAT.out, Int.add_zero], HB6.out⟩
              case measure => simp [intOf]; omega
          · obtain rfl : j = len := by omega
            have htk : ls.take j = ls := List.take_of_length_le (by rw [HL.out]; exact Nat.le_refl _)
            have hnd : ((ls.take j).map (atT x.fr)).sum = needed ls x.fr := by rw [htk]; rfl
            rw [hnd]
            have HB7 := hide (bl_on HBW.out HB4.out)
            obtain ⟨N, hN⟩ : ∃ N, N = needed ls x.fr := ⟨_, rfl⟩
            rw [← hN]
            rw [← hN] at HLS
            clear htk hnd hN
            by_cases hgt : N > M
            · go_wp2
              go_roundw
              case rel => exact ⟨k + 1, by omega, by go_num, by rw [HLS.out, show max M N = N by omega], HB7.out⟩
              case measure => simp [intOf]; omega
            · go_wp2
              go_roundw
              case rel => exact ⟨k + 1, by omega, by go_num, by rw [HLS.out, show max M N = M by omega], HB7.out⟩
              case measure => simp [intOf]; omega
      · obtain rfl : k = len := by omega
        have hL : loadK ls k = loadV ls := by unfold loadK loadV; rw [List.take_of_length_le (by rw [HL.out]; exact Nat.le_refl _)]
        rw [hL]
        go_wp2
        refine bodyPost_ret (v := .tuple #[.int .i64 (loadV ls), .int .i64 0]) (by simp [results, Try.results9, go_sem]) rfl ⟨rfl, HB.out⟩
  · rw [if_neg hE]
    obtain ⟨E, hEE⟩ : ∃ E, E = livesE ls := ⟨_, rfl⟩
    rw [← hEE] at hE ⊢
    have HEE := hide hEE
    have hE' : (E != 0) = true := by simpa using hE
    clear hEE
    go_enter Try.func9, Try.ntmps9
    go_wp2_with (go_at_call 11; refine HW.out.mono ?_; rintro e w1 ⟨rfl, hb⟩; rw [← HEE.out]; have HB1 := hide hb; clear hb)
    refine bodyPost_ret (v := .tuple #[.int .i64 0, .int .i64 E]) (by simp [results, Try.results9, go_sem]) rfl ⟨rfl, HB1.out⟩
/-- Are two needed at one time, and do both take room? -/
def meetB (x y : Lf) : Bool := decide (0 < x.wd) && decide (0 < y.wd) && decide (x.fr < x.to) && decide (y.fr < y.to) && decide (x.fr < y.to) && decide (y.fr < x.to)
set_option maxHeartbeats 2000000 in
theorem rMeet_any (x y : Lf) (w : World) : Calls Try.prog 46 #[.agg #[.int .i64 x.fr, .int .i64 x.to, .int .i64 x.wd], .agg #[.int .i64 y.fr, .int .i64 y.to, .int .i64 y.wd]] w fun e w' => e = .returned (.bool (meetB x y)) ∧ Below w.heap.size w w' := by
  have HB := hide (bl_on (bl_new (w := w) (.cells #[.int .i64 x.fr, .int .i64 x.to, .int .i64 x.wd] 37)) (bl_new (.cells #[.int .i64 y.fr, .int .i64 y.to, .int .i64 y.wd] 37)))
  obtain ⟨R, hR⟩ : ∃ R, R = meetB x y := ⟨_, rfl⟩
  rw [← hR]
  have HR := hide hR
  clear hR
  go_enter Try.func46, Try.ntmps46
  by_cases p1 : 0 < x.wd
  · by_cases p2 : 0 < y.wd
    · by_cases p3 : x.fr < x.to
      · by_cases p4 : y.fr < y.to
        · by_cases p5 : x.fr < y.to
          · by_cases p6 : y.fr < x.to
            · have hr : R = true := by rw [HR.out]; simp [meetB, p1, p2, p3, p4, p5, p6]
              go_wp2
              go_ret
              exact ⟨by first | rfl | (rw [hr]; rfl) | simp [p6] | (rw [hr]; simp [p6]), HB.out⟩
            · have hr : R = false := by rw [HR.out]; simp [meetB, p6]
              go_wp2
              go_ret
              exact ⟨by first | rfl | (rw [hr]; rfl) | simp [p6] | (rw [hr]; simp [p6]), HB.out⟩
          · have hr : R = false := by rw [HR.out]; simp [meetB, p5]
            go_wp2
            go_ret
            exact ⟨by first | rfl | (rw [hr]; rfl), HB.out⟩
        · have hr : R = false := by rw [HR.out]; simp [meetB, p4]
          go_wp2
          go_ret
          exact ⟨by first | rfl | (rw [hr]; rfl), HB.out⟩
      · have hr : R = false := by rw [HR.out]; simp [meetB, p3]
        go_wp2
        go_ret
        exact ⟨by first | rfl | (rw [hr]; rfl), HB.out⟩
    · have hr : R = false := by rw [HR.out]; simp [meetB, p2]
      go_wp2
      go_ret
      exact ⟨by first | rfl | (rw [hr]; rfl), HB.out⟩
  · have hr : R = false := by rw [HR.out]; simp [meetB, p1]
    go_wp2
    go_ret
    exact ⟨by first | rfl | (rw [hr]; rfl), HB.out⟩
end Go.Proofs.Ytcnnghhaohehoaa.V
