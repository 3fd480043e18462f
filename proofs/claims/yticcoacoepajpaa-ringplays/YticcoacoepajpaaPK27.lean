/-
  Contract: the next note, of a swap. Contract: the next note.
-/
import Derived.Test.YticcoacoepajpaaPK14
import Derived.Test.YticcoacoepajpaaPK15
namespace Go.Proofs.Yticcoacoepajpaa.V
open Go Go.RowKit
set_option linter.unusedVariables false
set_option linter.unusedSimpArgs false

set_option maxRecDepth 20000 in
set_option maxHeartbeats 4000000 in
theorem next_yes4 (g : Nat) (F : Nat → Prop) (d n me : Nat) (s : St) (G : Gh) (W : World) (h : MbAt W F g d n me s G) (hk : StOk d n me s) (hcan : canM d n s = true) (h4 : d = 4) :
    Calls Try.prog 17 #[pm g] W fun e w' => NextAns W F g d n me s G e w' := by
  have hc := hcan
  unfold canM at hc
  simp only [Bool.not_eq_true', Bool.or_eq_false_iff, decide_eq_false_iff_not, Bool.and_eq_false_iff] at hc
  obtain ⟨hs, hwt⟩ := hc
  have hlt : s.sent < notN d n := by have := hk.sent; omega
  have n2 := notN_two hlt
  have h16 := hk.n16
  have hme := hk.mel
  have h30 := notN_le (d := d) h16
  have hl := fns_lit hk.d1 hk.d4 n2 hlt
  obtain ⟨hfar, hpce, hmod⟩ := hl.1 h4
  have hMl : s.sent % (n - 1) < n - 1 := Nat.mod_lt _ (by omega)
  obtain ⟨M, hM⟩ : ∃ M, M = s.sent % (n - 1) := ⟨_, rfl⟩
  rw [← hM] at hMl hmod
  have hto : toN d n me s.sent = modI ((me : Int) + ((M : Int) + 1)) n := by unfold toN; rw [if_pos h4, hmod, Int.add_assoc]
  have hpo : sendN d n me s.sent = modI ((me : Int) + M + 1) n := by unfold sendN; rw [if_neg (by omega), if_pos h4, hmod]
  have hPl : sendN d n me s.sent < n := sendN_lt (by omega)
  obtain ⟨D, hD⟩ : ∃ D, D = prt (if d = 4 then s.own else s.parts) (sendN d n me s.sent) := ⟨_, rfl⟩
  have hns := (h.snd _ hPl).1
  rw [← hD] at hns
  have h65 : (G.Ss (sendN d n me s.sent)).n ≤ 65536 := by
    rw [← hns.len, hD]
    by_cases e : d = 4
    · rw [if_pos e]; exact (hk.small _).2
    · rw [if_neg e]; exact (hk.small _).1
  obtain ⟨PC, hPC⟩ : ∃ PC, PC = sendN d n me s.sent := ⟨_, rfl⟩
  obtain ⟨TO, hTO⟩ : ∃ TO, TO = toN d n me s.sent := ⟨_, rfl⟩
  have hnote : noteM d n me s = ⟨me, TO, s.sent, D⟩ := by unfold noteM; rw [← hTO, ← hD]
  have hr := fun V hV => round_any g F d n me s G V (h.below hV) n2 h16 s.sent hlt
  rw [hfar, hpce] at hr
  rw [← hM] at hr
  rw [← hTO] at hto
  rw [← hPC] at hpo hns h65 hPl
  unfold fv pm at hr
  have HR : Hid (∀ V, Below W.heap.size W V → _) := hr
  have HTO := hide hto
  have HPC := hide hpo
  have HNOTE := hide hnote
  have HCAN := hide hcan
  have H := hide h
  have HS := hide hk.sent
  obtain ⟨⟨-, a1, -, -, -⟩, ⟨-, a8, a9, a10, -, a12, -⟩, a0, -⟩ := mb_cells h
  have acs : ∀ V, Below W.heap.size W V → V.cell? ⟨G.hs, PC, none⟩ = some (.slice (G.Ss PC).a (G.Ss PC).n (G.Ss PC).c) := fun V hV => (h.below hV).rowS.cell hPl
  have HACS := hide acs
  have HNS0 : Hid (∀ V, Below W.heap.size W V → Num V (G.Ss PC) D) := fun V hV => hns.below hV
  have HM0 : Hid (∀ V, Below W.heap.size W V → MbAt V F g d n me s G) := fun V hV => h.below hV
  obtain ⟨S, hS⟩ : ∃ S, S = s.sent := ⟨_, rfl⟩
  have HSS := hide hS
  rw [← hS] at a9 hs hlt HR HS hwt HNOTE
  have q1 : ((S : Int) == (notN d n : Int)) = false := by rw [beq_eq_false_iff_ne]; omega
  have q3 : decide (S = notN d n) = false := by simp [hs]
  have hPz : (PC : Int) < (n : Int) := by omega
  have H4 := hide h4
  clear hr hto hpo hnote hcan h acs hns hD hM hPC hTO hS hs hl hfar hpce hk h4 hmod
  rw [show decide (d ≠ 4) = false by simp [H4.out]] at a1
  unfold pm
  go_enter Try.func17, Try.ntmps17
  go_wp2
  go_quiet (first | (go_at_call 32; exact Calls.quiet_of (notes_any g F d n me s G _ (HM0.out _ (below_draws (bl_new _) _)) (by omega) h16)))
  go_upto_region 4 with (go_at_call 33; refine (HR.out _ (below_draws (bl_new _) _)).mono ?_; rintro e w1 ⟨rfl, hb⟩; have HB := hide hb; clear hb)
  obtain ⟨V2, hV2⟩ : ∃ V, V = w1.alloc (.cells #[.func (.func 47) #[] #[], .func (.func 48) #[] #[], .func (.func (useF d (S / (n - 1)))) #[] #[]] 88) := ⟨_, rfl⟩
  rw [← hV2]
  have hb1 : Below W.heap.size W w1 := bl_on (below_draws (bl_new _) _) HB.out
  have hb2 : Below W.heap.size W V2 := by rw [hV2]; exact hb1.alloc hb1.size _
  have res2 : V2.heap[W.heap.size]? = some (.cells #[.int .i64 0, .int .i64 0, .int .i64 0, .slice none 0 0] 39 (0, 0)) := by
    rw [hV2]
    have hzz : W.heap.size < w1.heap.size := Nat.lt_of_lt_of_le (show W.heap.size < (W.alloc _).heap.size by simp) HB.out.size
    exact ((bl_new (w := w1) _).block _ hzz).trans ((HB.out.block _ (show W.heap.size < (W.alloc _).heap.size by simp)).trans (World.alloc_heap_new _ _))
  have r0 : V2.cell? ⟨w1.heap.size, 0, none⟩ = some (.func (.func 47) #[] #[]) := by rw [hV2]; exact box_cell w1 _ _ 0 _ rfl
  have r1 : V2.cell? ⟨w1.heap.size, 1, none⟩ = some (.func (.func 48) #[] #[]) := by rw [hV2]; exact box_cell w1 _ _ 1 _ rfl
  have c8 := (hb2.cell (p := ⟨g, 8, none⟩) a0).trans a8
  have c9 := (hb2.cell (p := ⟨g, 9, none⟩) a0).trans a9
  have c12 := (hb2.cell (p := ⟨g, 12, none⟩) a0).trans a12
  have cs := HACS.out V2 hb2
  have HB2 := hide hb2
  have HRES := hide res2
  have HA9 := hide a9
  have HM : Hid (∀ V, Below V2.heap.size V2 V → MbAt V F g d n me s G) := fun V hV => HM0.out V (bl_on HB2.out hV)
  have HNS : Hid (∀ V, Below V2.heap.size V2 V → Num V (G.Ss PC) D) := fun V hV => HNS0.out V (bl_on HB2.out hV)
  obtain ⟨X1, hX1⟩ : ∃ X, X = (me : Int) + ((M : Int) + 1) := ⟨_, rfl⟩
  have HX1 := hide hX1
  have HW13 : Hid (wrap64 ((me : Int) + ((M : Int) + 1)) = X1) := by rw [hX1]; exact wrap_small (by omega) (by omega)
  have HW14 : Hid (IntKind.i64.wrap ((me : Int) + ((M : Int) + 1)) = X1) := by rw [hX1]; exact wrapk_small (by omega) (by omega)
  rw [← hX1] at HTO
  clear hb1 hb2 res2 a1 a8 a9 a10 a12 hV2 hX1
  refine region_made 39 40 [fIs (.pointer (some ⟨g, 0, none⟩)), fIs (.pointer (some ⟨g, 0, none⟩)), fIs (.pointer (some ⟨g, 8, none⟩)), fIs (.int .i64 (me : Int)), fIs (.pointer (some ⟨g, 0, none⟩)), fIs (.pointer (some ⟨g, 0, none⟩)), fIs (.pointer (some ⟨g, 0, none⟩)), fIs (.pointer (some ⟨g, 8, none⟩)), fIs (.int .i64 (me : Int)), fIs (.pointer (some ⟨w1.heap.size, 0, none⟩)), fIs (.func (.func 47) #[] #[]), fIs (.int .i64 (M : Int)), fIs (.int .i64 ((M : Int) + 1)), fIs (.int .i64 X1), fIs (.int .i64 (TO : Int)), fIs (.pointer (some ⟨g, 0, none⟩)), fIs (.pointer (some ⟨g, 0, none⟩)), fIs (.pointer (some ⟨g, 9, none⟩)), fIs (.int .i64 (S : Int)), fIs (.pointer (some ⟨g, 0, none⟩)), fIs (.pointer (some ⟨g, 0, none⟩)), fIs (.pointer (some ⟨g, 12, none⟩)), fIs (.pointer (some ⟨g, 12, none⟩)), fIs (.slice (some ⟨G.hs, 0, none⟩) n n), fIs (.pointer (some ⟨g, 0, none⟩)), fIs (.pointer (some ⟨w1.heap.size, 1, none⟩)), fIs (.func (.func 48) #[] #[]), fIs (.pointer (some ⟨g, 0, none⟩)), fIs (.pointer (some ⟨g, 0, none⟩)), fIs (.pointer (some ⟨g, 8, none⟩)), fIs (.int .i64 (me : Int)), fIs (.int .i64 (M : Int)), fIs (.int .i64 ((me : Int) + M + 1)), fIs (.int .i64 (PC : Int)), fIs (.pointer (some ⟨G.hs, PC, none⟩)), fIs (.slice (G.Ss PC).a (G.Ss PC).n (G.Ss PC).c), fNum W.heap.size (G.Ss PC).n D, fNote W.heap.size (me : Int) (TO : Int) (S : Int) (G.Ss PC).n D, fNew V2.heap.size] (by kernel_rfl) (by kernel_rfl) (by kernel_rfl) (fun _ ⟨_, _⟩ ⟨_, _⟩ _ e h => by cases e; exact h) ⟨fIs_good _, fIs_good _, fIs_good _, fIs_good _, fIs_good _, fIs_good _, fIs_good _, fIs_good _, fIs_good _, fIs_good _, fIs_good _, fIs_good _, fIs_good _, fIs_good _, fIs_good _, fIs_good _, fIs_good _, fIs_good _, fIs_good _, fIs_good _, fIs_good _, fIs_good _, fIs_good _, fIs_good _, fIs_good _, fIs_good _, fIs_good _, fIs_good _, fIs_good _, fIs_good _, fIs_good _, fIs_good _, fIs_good _, fIs_good _, fIs_good _, fIs_good _, fNum_good _ _ _, fNote_good _ _ _ _ _ _, fNew_good _, trivial⟩ ?mk ?rest
  case mk =>
    refine ⟨fun u wz hb hd => ?_, fun u wz hb hd => ?_, fun u wz hb hd => ?_, fun u wz hb hd => ?_, fun u wz hb hd => ?_, fun u wz hb hd => ?_, fun u wz hb hd => ?_, fun u wz hb hd => ?_, fun u wz hb hd => ?_, fun u wz hb hd => ?_, fun u wz hb hd => ?_, fun u wz hb hd => ?_, fun u wz hb hd => ?_, fun u wz hb hd => ?_, fun u wz hb hd => ?_, fun u wz hb hd => ?_, fun u wz hb hd => ?_, fun u wz hb hd => ?_, fun u wz hb hd => ?_, fun u wz hb hd => ?_, fun u wz hb hd => ?_, fun u wz hb hd => ?_, fun u wz hb hd => ?_, fun u wz hb hd => ?_, fun u wz hb hd => ?_, fun u wz hb hd => ?_, fun u wz hb hd => ?_, fun u wz hb hd => ?_, fun u wz hb hd => ?_, fun u wz hb hd => ?_, fun u wz hb hd => ?_, fun u wz hb hd => ?_, fun u wz hb hd => ?_, fun u wz hb hd => ?_, fun u wz hb hd => ?_, fun u wz hb hd => ?_, fun u wz hb hd => ?_, fun u wz hb hd => ?_, fun u wz hb hd => ?_, trivial⟩
    all_goals simp only [Act.put, List.setIfInBounds_toArray, List.set_cons_zero, List.set_cons_succ]
    · go_simp
      exact ⟨rfl, Below.refl _ _, fun h => by cases h⟩
    · have e0 : u 0 = .pointer (some ⟨g, 0, none⟩) := hd 0 (by omega) (by kernel_rfl)
      rw [e0]
      go_simp
      exact ⟨rfl, Below.refl _ _, fun h => by cases h⟩
    · have e1 : u 1 = .pointer (some ⟨g, 0, none⟩) := hd 1 (by omega) (by kernel_rfl)
      rw [e1]
      go_simp
      exact ⟨rfl, Below.refl _ _, fun h => by cases h⟩
    · have e2 : u 2 = .pointer (some ⟨g, 8, none⟩) := hd 2 (by omega) (by kernel_rfl)
      rw [e2]
      have c8' := (hb.cell (p := ⟨g, 8, none⟩) (lt_of_cell c8)).trans c8
      go_simp
      exact ⟨rfl, Below.refl _ _, fun h => by cases h⟩
    · go_simp
      exact ⟨rfl, Below.refl _ _, fun h => by cases h⟩
    · go_simp
      exact ⟨rfl, Below.refl _ _, fun h => by cases h⟩
    · have e5 : u 5 = .pointer (some ⟨g, 0, none⟩) := hd 5 (by omega) (by kernel_rfl)
      rw [e5]
      go_simp
      exact ⟨rfl, Below.refl _ _, fun h => by cases h⟩
    · have e6 : u 6 = .pointer (some ⟨g, 0, none⟩) := hd 6 (by omega) (by kernel_rfl)
      rw [e6]
      go_simp
      exact ⟨rfl, Below.refl _ _, fun h => by cases h⟩
    · have e7 : u 7 = .pointer (some ⟨g, 8, none⟩) := hd 7 (by omega) (by kernel_rfl)
      rw [e7]
      have c8' := (hb.cell (p := ⟨g, 8, none⟩) (lt_of_cell c8)).trans c8
      go_simp
      exact ⟨rfl, Below.refl _ _, fun h => by cases h⟩
    · go_simp
      exact ⟨rfl, Below.refl _ _, fun h => by cases h⟩
    · have e9 : u 9 = .pointer (some ⟨w1.heap.size, 0, none⟩) := hd 9 (by omega) (by kernel_rfl)
      rw [e9]
      have r0' := (hb.cell (p := ⟨w1.heap.size, 0, none⟩) (lt_of_cell r0)).trans r0
      go_simp
      exact ⟨rfl, Below.refl _ _, fun h => by cases h⟩
    · go_simp
      exact ⟨rfl, Below.refl _ _, fun h => by cases h⟩
    · have e10 : u 10 = .func (.func 47) #[] #[] := hd 10 (by omega) (by kernel_rfl)
      have e11 : u 11 = .int .i64 (M : Int) := hd 11 (by omega) (by kernel_rfl)
      rw [e10, e11]
      go_simp
      refine (k4_any _ _ (by omega)).mono ?_
      rintro e w4 ⟨rfl, hw4⟩
      obtain rfl := hw4.symm
      exact ⟨rfl, Below.refl _ _, fun h => by cases h⟩
    · have e8 : u 8 = .int .i64 (me : Int) := hd 8 (by omega) (by kernel_rfl)
      have e12 : u 12 = .int .i64 ((M : Int) + 1) := hd 12 (by omega) (by kernel_rfl)
      rw [e8, e12]
      have w13 := HW13.out
      have w14 := HW14.out
      go_simp
      exact ⟨rfl, Below.refl _ _, fun h => by cases h⟩
    · have e4 : u 4 = .pointer (some ⟨g, 0, none⟩) := hd 4 (by omega) (by kernel_rfl)
      have e13 : u 13 = .int .i64 X1 := hd 13 (by omega) (by kernel_rfl)
      rw [e4, e13]
      go_simp
      refine (number_any g F d n me s G wz (HM.out wz hb) (by omega) h16 X1).mono ?_
      rintro e w4 ⟨rfl, kk, rfl⟩
      rw [← HTO.out]
      exact ⟨rfl, below_draws (Below.refl _ _) _, fun h => by cases h⟩
    · go_simp
      exact ⟨rfl, Below.refl _ _, fun h => by cases h⟩
    · have e15 : u 15 = .pointer (some ⟨g, 0, none⟩) := hd 15 (by omega) (by kernel_rfl)
      rw [e15]
      go_simp
      exact ⟨rfl, Below.refl _ _, fun h => by cases h⟩
    · have e16 : u 16 = .pointer (some ⟨g, 0, none⟩) := hd 16 (by omega) (by kernel_rfl)
      rw [e16]
      go_simp
      exact ⟨rfl, Below.refl _ _, fun h => by cases h⟩
    · have e17 : u 17 = .pointer (some ⟨g, 9, none⟩) := hd 17 (by omega) (by kernel_rfl)
      rw [e17]
      have c9' := (hb.cell (p := ⟨g, 9, none⟩) (lt_of_cell c9)).trans c9
      go_simp
      exact ⟨rfl, Below.refl _ _, fun h => by cases h⟩
    · go_simp
      exact ⟨rfl, Below.refl _ _, fun h => by cases h⟩
    · have e19 : u 19 = .pointer (some ⟨g, 0, none⟩) := hd 19 (by omega) (by kernel_rfl)
      rw [e19]
      go_simp
      exact ⟨rfl, Below.refl _ _, fun h => by cases h⟩
    · have e20 : u 20 = .pointer (some ⟨g, 0, none⟩) := hd 20 (by omega) (by kernel_rfl)
      rw [e20]
      go_simp
      exact ⟨rfl, Below.refl _ _, fun h => by cases h⟩
    · have e21 : u 21 = .pointer (some ⟨g, 12, none⟩) := hd 21 (by omega) (by kernel_rfl)
      rw [e21]
      go_simp
      exact ⟨rfl, Below.refl _ _, fun h => by cases h⟩
    · have e22 : u 22 = .pointer (some ⟨g, 12, none⟩) := hd 22 (by omega) (by kernel_rfl)
      rw [e22]
      have c12' := (hb.cell (p := ⟨g, 12, none⟩) (lt_of_cell c12)).trans c12
      go_simp
      exact ⟨rfl, Below.refl _ _, fun h => by cases h⟩
    · go_simp
      exact ⟨rfl, Below.refl _ _, fun h => by cases h⟩
    · go_simp
      exact ⟨rfl, Below.refl _ _, fun h => by cases h⟩
    · have e25 : u 25 = .pointer (some ⟨w1.heap.size, 1, none⟩) := hd 25 (by omega) (by kernel_rfl)
      rw [e25]
      have r1' := (hb.cell (p := ⟨w1.heap.size, 1, none⟩) (lt_of_cell r1)).trans r1
      go_simp
      exact ⟨rfl, Below.refl _ _, fun h => by cases h⟩
    · go_simp
      exact ⟨rfl, Below.refl _ _, fun h => by cases h⟩
    · have e27 : u 27 = .pointer (some ⟨g, 0, none⟩) := hd 27 (by omega) (by kernel_rfl)
      rw [e27]
      go_simp
      exact ⟨rfl, Below.refl _ _, fun h => by cases h⟩
    · have e28 : u 28 = .pointer (some ⟨g, 0, none⟩) := hd 28 (by omega) (by kernel_rfl)
      rw [e28]
      go_simp
      exact ⟨rfl, Below.refl _ _, fun h => by cases h⟩
    · have e29 : u 29 = .pointer (some ⟨g, 8, none⟩) := hd 29 (by omega) (by kernel_rfl)
      rw [e29]
      have c8' := (hb.cell (p := ⟨g, 8, none⟩) (lt_of_cell c8)).trans c8
      go_simp
      exact ⟨rfl, Below.refl _ _, fun h => by cases h⟩
    · go_simp
      exact ⟨rfl, Below.refl _ _, fun h => by cases h⟩
    · have e26 : u 26 = .func (.func 48) #[] #[] := hd 26 (by omega) (by kernel_rfl)
      have e30 : u 30 = .int .i64 (me : Int) := hd 30 (by omega) (by kernel_rfl)
      have e31 : u 31 = .int .i64 (M : Int) := hd 31 (by omega) (by kernel_rfl)
      rw [e26, e30, e31]
      go_simp
      refine (k5_any _ _ _ (by omega) (by omega)).mono ?_
      rintro e w4 ⟨rfl, hw4⟩
      obtain rfl := hw4.symm
      exact ⟨rfl, Below.refl _ _, fun h => by cases h⟩
    · have e24 : u 24 = .pointer (some ⟨g, 0, none⟩) := hd 24 (by omega) (by kernel_rfl)
      have e32 : u 32 = .int .i64 ((me : Int) + M + 1) := hd 32 (by omega) (by kernel_rfl)
      rw [e24, e32]
      go_simp
      refine (number_any g F d n me s G wz (HM.out wz hb) (by omega) h16 ((me : Int) + M + 1)).mono ?_
      rintro e w4 ⟨rfl, kk, rfl⟩
      rw [← HPC.out]
      exact ⟨rfl, below_draws (Below.refl _ _) _, fun h => by cases h⟩
    · have e23 : u 23 = .slice (some ⟨G.hs, 0, none⟩) n n := hd 23 (by omega) (by kernel_rfl)
      have e33 : u 33 = .int .i64 (PC : Int) := hd 33 (by omega) (by kernel_rfl)
      rw [e23, e33]
      go_simp
      exact ⟨rfl, Below.refl _ _, fun h => by cases h⟩
    · have e34 : u 34 = .pointer (some ⟨G.hs, PC, none⟩) := hd 34 (by omega) (by kernel_rfl)
      rw [e34]
      have cs' := (hb.cell (p := ⟨G.hs, PC, none⟩) (lt_of_cell cs)).trans cs
      go_simp
      exact ⟨rfl, Below.refl _ _, fun h => by cases h⟩
    · have e35 : u 35 = .slice (G.Ss PC).a (G.Ss PC).n (G.Ss PC).c := hd 35 (by omega) (by kernel_rfl)
      rw [e35]
      go_simp
      refine (fresh_any (G.Ss PC) D wz (HNS.out wz hb) h65).mono ?_
      rintro e w4 ⟨⟨g4, rfl, hn4, hg4, hl4⟩, hb4⟩
      have hsz := hb.size
      have hsz1 := HB2.out.size
      exact ⟨⟨g4, rfl, hn4, by omega, hl4⟩, hb4, fun h => by cases h⟩
    · have e3 : u 3 = .int .i64 (me : Int) := hd 3 (by omega) (by kernel_rfl)
      have e14 : u 14 = .int .i64 (TO : Int) := hd 14 (by omega) (by kernel_rfl)
      have e18 : u 18 = .int .i64 (S : Int) := hd 18 (by omega) (by kernel_rfl)
      obtain ⟨g36, e36, n36, l36, m36⟩ := hd 36 (by omega) (by kernel_rfl)
      rw [e3, e14, e18, e36]
      go_simp
      exact ⟨⟨g36, rfl, n36, l36, m36⟩, Below.refl _ _, fun h => by cases h⟩
    · go_simp
      have hsz := hb.size
      exact ⟨⟨_, rfl, World.alloc_heap_new _ _, hsz⟩, bl_new _, fun h => by cases h⟩
  case rest =>
    intro u wz hb hf hp
    have f0 : u 0 = .pointer (some ⟨g, 0, none⟩) := hf 0 (by omega)
    have f1 : u 1 = .pointer (some ⟨g, 0, none⟩) := hf 1 (by omega)
    have f2 : u 2 = .pointer (some ⟨g, 8, none⟩) := hf 2 (by omega)
    have f3 : u 3 = .int .i64 (me : Int) := hf 3 (by omega)
    have f4 : u 4 = .pointer (some ⟨g, 0, none⟩) := hf 4 (by omega)
    have f5 : u 5 = .pointer (some ⟨g, 0, none⟩) := hf 5 (by omega)
    have f6 : u 6 = .pointer (some ⟨g, 0, none⟩) := hf 6 (by omega)
    have f7 : u 7 = .pointer (some ⟨g, 8, none⟩) := hf 7 (by omega)
    have f8 : u 8 = .int .i64 (me : Int) := hf 8 (by omega)
    have f9 : u 9 = .pointer (some ⟨w1.heap.size, 0, none⟩) := hf 9 (by omega)
    have f10 : u 10 = .func (.func 47) #[] #[] := hf 10 (by omega)
    have f11 : u 11 = .int .i64 (M : Int) := hf 11 (by omega)
    have f12 : u 12 = .int .i64 ((M : Int) + 1) := hf 12 (by omega)
    have f13 : u 13 = .int .i64 X1 := hf 13 (by omega)
    have f14 : u 14 = .int .i64 (TO : Int) := hf 14 (by omega)
    have f15 : u 15 = .pointer (some ⟨g, 0, none⟩) := hf 15 (by omega)
    have f16 : u 16 = .pointer (some ⟨g, 0, none⟩) := hf 16 (by omega)
    have f17 : u 17 = .pointer (some ⟨g, 9, none⟩) := hf 17 (by omega)
    have f18 : u 18 = .int .i64 (S : Int) := hf 18 (by omega)
    have f19 : u 19 = .pointer (some ⟨g, 0, none⟩) := hf 19 (by omega)
    have f20 : u 20 = .pointer (some ⟨g, 0, none⟩) := hf 20 (by omega)
    have f21 : u 21 = .pointer (some ⟨g, 12, none⟩) := hf 21 (by omega)
    have f22 : u 22 = .pointer (some ⟨g, 12, none⟩) := hf 22 (by omega)
    have f23 : u 23 = .slice (some ⟨G.hs, 0, none⟩) n n := hf 23 (by omega)
    have f24 : u 24 = .pointer (some ⟨g, 0, none⟩) := hf 24 (by omega)
    have f25 : u 25 = .pointer (some ⟨w1.heap.size, 1, none⟩) := hf 25 (by omega)
    have f26 : u 26 = .func (.func 48) #[] #[] := hf 26 (by omega)
    have f27 : u 27 = .pointer (some ⟨g, 0, none⟩) := hf 27 (by omega)
    have f28 : u 28 = .pointer (some ⟨g, 0, none⟩) := hf 28 (by omega)
    have f29 : u 29 = .pointer (some ⟨g, 8, none⟩) := hf 29 (by omega)
    have f30 : u 30 = .int .i64 (me : Int) := hf 30 (by omega)
    have f31 : u 31 = .int .i64 (M : Int) := hf 31 (by omega)
    have f32 : u 32 = .int .i64 ((me : Int) + M + 1) := hf 32 (by omega)
    have f33 : u 33 = .int .i64 (PC : Int) := hf 33 (by omega)
    have f34 : u 34 = .pointer (some ⟨G.hs, PC, none⟩) := hf 34 (by omega)
    have f35 : u 35 = .slice (G.Ss PC).a (G.Ss PC).n (G.Ss PC).c := hf 35 (by omega)
    obtain ⟨g36, f36, n36, l36, m36⟩ := hf 36 (by omega)
    obtain ⟨g37, f37, n37, l37, m37⟩ := hf 37 (by omega)
    obtain ⟨g38, f38, n38, l38⟩ := hf 38 (by omega)
    refine UptoW.rest 1 39 (by rfl) (by kernel_rfl) ?_
    simp only [List.take, List.drop, putOps, Act.put, List.setIfInBounds_toArray, List.set_cons_zero, List.set_cons_succ, Nat.reduceAdd, f0, f1, f2, f3, f4, f5, f6, f7, f8, f9, f10, f11, f12, f13, f14, f15, f16, f17, f18, f19, f20, f21, f22, f23, f24, f25, f26, f27, f28, f29, f30, f31, f32, f33, f34, f35, f36, f37, f38]
    clear f0 f1 f2 f3 f4 f5 f6 f7 f8 f9 f10 f11 f12 f13 f14 f15 f16 f17 f18 f19 f20 f21 f22 f23 f24 f25 f26 f27 f28 f29 f30 f31 f32 f33 f34 f35 f36 f37 f38 hf hp
    have hbz : Below W.heap.size W wz := bl_on HB2.out hb
    have hsz2 := HB2.out.size
    have hWV : W.heap.size < V2.heap.size := (Array.getElem?_eq_some_iff.1 HRES.out).1
    have hresz := (hb.block _ hWV).trans HRES.out
    have zz := (Array.getElem?_eq_some_iff.1 n38).1
    have y0 : wz.cell? ⟨g38, 0, none⟩ = some (.int .i64 0) := by simp only [World.cell?, n38]; rfl
    have y1 : wz.cell? ⟨g38, 1, none⟩ = some (.int .i64 0) := by simp only [World.cell?, n38]; rfl
    have y2 : wz.cell? ⟨g38, 2, none⟩ = some (.int .i64 0) := by simp only [World.cell?, n38]; rfl
    have y3 : wz.cell? ⟨g38, 3, none⟩ = some (.slice none 0 0) := by simp only [World.cell?, n38]; rfl
    have yf : ∀ k, wz.frozen? ⟨g38, k, none⟩ = false := fun k => by simp [World.frozen?, n38]
    have HBZ := hide hbz
    have HREZ := hide hresz
    have HN37 := hide n37
    have HN38 := hide n38
    have HBB := hide hb
    clear n36 n37 n38 hb hbz hresz c8 c9 c12 cs r0 r1
    go_upto_region 5 with fail
    obtain ⟨V5, hV5⟩ : ∃ V, V = set4 wz g38 (.int .i64 (me : Int)) (.int .i64 (TO : Int)) (.int .i64 (S : Int)) (.slice (some ⟨g37, 0, none⟩) (G.Ss PC).n (G.Ss PC).n) := ⟨_, rfl⟩
    rw [show World.setCell _ _ _ = V5 from hV5.symm]
    have hb5 : Below W.heap.size W V5 := by rw [hV5]; exact set4_below HBZ.out (by omega)
    have hn5 : V5.heap[g38]? = some (.cells #[.int .i64 (me : Int), .int .i64 (TO : Int), .int .i64 (S : Int), .slice (some ⟨g37, 0, none⟩) (G.Ss PC).n (G.Ss PC).n] 39 (0, 0)) := by rw [hV5]; exact set4_heap HN38.out rfl
    have hr5 : V5.heap[W.heap.size]? = some (.cells #[.int .i64 0, .int .i64 0, .int .i64 0, .slice none 0 0] 39 (0, 0)) := by rw [hV5, set4_other (by omega)]; exact HREZ.out
    have hy5 : Num V5 ⟨some ⟨g37, 0, none⟩, (G.Ss PC).n, (G.Ss PC).n⟩ D := by
      rw [hV5]
      refine HN37.out.keep fun b hO => set4_other ?_
      obtain ⟨cur, hc⟩ := HN37.out.blk b hO
      intro e
      rw [e, HN38.out] at hc
      simp at hc
    have m9 := (hb5.cell (p := ⟨g, 9, none⟩) a0).trans HA9.out
    have mf9 : V5.frozen? ⟨g, 9, none⟩ = false := (mb_cells (HM0.out V5 hb5)).2.2.2 9
    have z5 : g < V5.heap.size := Nat.lt_of_lt_of_le a0 hb5.size
    have wS : wrap64 ((S : Int) + 1) = (S : Int) + 1 := wrap_small (by omega) (by omega)
    have HB5 := hide hb5
    have HN5 := hide hn5
    have HR5 := hide hr5
    have HY5 := hide hy5
    clear hb5 hn5 hr5 hy5 hV5 y0 y1 y2 y3 yf
    go_upto_region 6 with fail
    obtain ⟨V6, hV6⟩ : ∃ V, V = V5.setCell ⟨g, 9, none⟩ (.int .i64 ((S : Int) + 1)) := ⟨_, rfl⟩
    rw [← hV6]
    have ng1 : g38 ≠ g := by omega
    have ng2 : W.heap.size ≠ g := by omega
    have hn6 : V6.heap[g38]? = some (.cells #[.int .i64 (me : Int), .int .i64 (TO : Int), .int .i64 (S : Int), .slice (some ⟨g37, 0, none⟩) (G.Ss PC).n (G.Ss PC).n] 39 (0, 0)) := by rw [hV6, Below.heap_setCell _ _ _ _ ng1]; exact HN5.out
    have hr6 : V6.heap[W.heap.size]? = some (.cells #[.int .i64 0, .int .i64 0, .int .i64 0, .slice none 0 0] 39 (0, 0)) := by rw [hV6, Below.heap_setCell _ _ _ _ ng2]; exact HR5.out
    have HV6 := hide hV6
    have x0 : V6.cell? ⟨g38, 0, none⟩ = some (.int .i64 (me : Int)) := by simp only [World.cell?, hn6]; rfl
    have x1 : V6.cell? ⟨g38, 1, none⟩ = some (.int .i64 (TO : Int)) := by simp only [World.cell?, hn6]; rfl
    have x2 : V6.cell? ⟨g38, 2, none⟩ = some (.int .i64 (S : Int)) := by simp only [World.cell?, hn6]; rfl
    have x3 : V6.cell? ⟨g38, 3, none⟩ = some (.slice (some ⟨g37, 0, none⟩) (G.Ss PC).n (G.Ss PC).n) := by simp only [World.cell?, hn6]; rfl
    have v0 : V6.cell? ⟨W.heap.size, 0, none⟩ = some (.int .i64 0) := by simp only [World.cell?, hr6]; rfl
    have v1 : V6.cell? ⟨W.heap.size, 1, none⟩ = some (.int .i64 0) := by simp only [World.cell?, hr6]; rfl
    have v2 : V6.cell? ⟨W.heap.size, 2, none⟩ = some (.int .i64 0) := by simp only [World.cell?, hr6]; rfl
    have v3 : V6.cell? ⟨W.heap.size, 3, none⟩ = some (.slice none 0 0) := by simp only [World.cell?, hr6]; rfl
    have vf : ∀ k, V6.frozen? ⟨W.heap.size, k, none⟩ = false := fun k => by simp [World.frozen?, hr6]
    have HR6 := hide hr6
    have z6 := (Array.getElem?_eq_some_iff.1 hn6).1
    have z7 := (Array.getElem?_eq_some_iff.1 hr6).1
    clear hV6 hn6 hr6 m9 mf9
    go_wp2
    refine bodyPost_ret (results_next _ _ W.heap.size (.int .i64 (me : Int)) (.int .i64 (TO : Int)) (.int .i64 (S : Int)) (.slice (some ⟨g37, 0, none⟩) (G.Ss PC).n (G.Ss PC).n) _ (0, 0) rfl rfl (set4_heap HR6.out rfl)) rfl ?_
    have hsz5 : V6.heap.size = V5.heap.size := by rw [HV6.out]; simp [World.setCell]
    refine ⟨⟨some ⟨g37, 0, none⟩, (G.Ss PC).n, (G.Ss PC).n⟩, ?_, ?_, ?_, ?_, ?_⟩
    · rw [if_pos HCAN.out, HCAN.out, HNOTE.out]; rfl
    · rw [if_pos HCAN.out, HNOTE.out]
      refine HY5.out.keep fun b hO => ?_
      obtain ⟨cur, hc⟩ := HY5.out.blk b hO
      have e1 : b ≠ W.heap.size := fun e => by rw [e, HR5.out] at hc; simp at hc
      have e2 : b ≠ g := fun e => by
        have hbl := (HM0.out V5 HB5.out).blk
        rw [e, hbl] at hc
        simp at hc
      show (set4 V6 W.heap.size _ _ _ _).heap[b]? = _
      rw [set4_other e1, HV6.out, Below.heap_setCell _ _ _ _ e2]
    · intro b hO
      obtain ⟨_, off, e⟩ := hO
      simp only [Option.some.injEq, Addr.mk.injEq] at e
      obtain ⟨rfl, _⟩ := e
      exact l37
    · unfold nextM
      rw [if_pos HCAN.out]
      have h1 := H.out.sends
      rw [← HSS.out] at h1
      rw [show s.sent + 1 = S + 1 by rw [HSS.out]]
      refine h1.below ?_
      have hsw : (W.setCell ⟨g, 9, none⟩ (.int .i64 ((S : Int) + 1))).heap.size = W.heap.size := by simp [World.setCell]
      rw [hsw]
      refine set4_below ?_ (Nat.le_refl _)
      rw [HV6.out]
      exact below_both HB5.out _ _
    · refine ⟨(show V6.os = W.os by rw [HV6.out]; exact HB5.out.os), (show V6.tape = W.tape by rw [HV6.out]; exact HB5.out.tape), (show V6.output = W.output by rw [HV6.out]; exact HB5.out.output), ?_, fun b hb hf => ?_⟩
      · show W.heap.size ≤ (set4 V6 W.heap.size _ _ _ _).heap.size
        rw [set4_size, hsz5]
        exact HB5.out.size
      · show (set4 V6 W.heap.size _ _ _ _).heap[b]? = _
        rw [set4_other (by omega), HV6.out, Below.heap_setCell _ _ _ _ (fun e => hf (by rw [e]; exact H.out.fg))]
        exact HB5.out.block b hb
end Go.Proofs.Yticcoacoepajpaa.V
namespace Go.Proofs.Yticcoacoepajpaa.V
open Go Go.RowKit
set_option linter.unusedVariables false
set_option linter.unusedSimpArgs false

theorem next_any (g : Nat) (F : Nat → Prop) (d n me : Nat) (s : St) (G : Gh) (W : World) (h : MbAt W F g d n me s G) (hk : StOk d n me s) :
    Calls Try.prog 17 #[pm g] W fun e w' => NextAns W F g d n me s G e w' := by
  cases hc : canM d n s with
  | false =>
    by_cases hs : s.sent = notN d n
    · exact next_no1 g F d n me s G W h hk hs
    · unfold canM at hc
      simp [hs] at hc
      exact next_no2 g F d n me s G W h hk hs hc.1 hc.2
  | true =>
    by_cases h4 : d = 4
    · exact next_yes4 g F d n me s G W h hk hc h4
    · cases hs : sumsB d n s.sent with
      | true => exact next_yess g F d n me s G W h hk hc h4 hs
      | false => exact next_yesh g F d n me s G W h hk hc h4 hs
end Go.Proofs.Yticcoacoepajpaa.V
