/-
  Contract: notes that were taken are used.
-/
import Derived.Test.YticcoacoepajpaaPK5
import Derived.Test.YticcoacoepajpaaPK4
import Derived.Test.YticcoacoepajpaaPK6
import Derived.Test.YticcoacoepajpaaPK3
import Derived.Test.YticcoacoepajpaaPK10
import Derived.Deep.RegionHeld3
namespace Go.Proofs.Yticcoacoepajpaa.V
open Go Go.RowKit
set_option linter.unusedVariables false
set_option linter.unusedSimpArgs false

def cellN (W : World) (a : Addr) : Nat := match W.cell? a with
  | some (.int _ k) => k.toNat
  | _ => 0
theorem delete_run {W : World} {b : Nat} {M : List (Int × Value)} (h : MpAt W b M) (k : Int) : ∃ o : Obj, (∀ (q : Nat) (ty : TypeId), (Builtin.delete_ #[82, 3] ty #[.map (some b), .int .i64 k]).run Try.prog (W.drewN q) = .ok (.tuple #[]) ((mapW W b o).drewN q)) ∧ MpAt (mapW W b o) b (dlM k M) := by
  obtain ⟨o, h1, h2⟩ := run_dlM h k 0
  exact ⟨o, fun q ty => h1 _, h2⟩
theorem set_same {w : World} {g i : Nat} {v : Value} (hc : w.cell? ⟨g, i, none⟩ = some v) : w.setCell ⟨g, i, none⟩ v = w := by
  have h : w.heap.modify g (fun | .cells c e f => .cells (c.setIfInBounds i v) e f | o => o) = w.heap := by
    apply Array.ext_getElem?
    intro k
    rw [Array.getElem?_modify]
    by_cases e : g = k
    · subst e
      rw [if_pos rfl]
      simp only [World.cell?] at hc
      cases hb : w.heap[g]? with
      | none => rfl
      | some o =>
        rw [hb] at hc
        cases o with
        | cells cur e f =>
          have hc' : cur[i]? = some v := by simpa using hc
          have hl := (Array.getElem?_eq_some_iff.1 hc').1
          have hv := (Array.getElem?_eq_some_iff.1 hc').2
          simp only [Option.map_some, Option.some.injEq, Obj.cells.injEq, and_true]
          apply Array.ext_getElem?
          intro j
          rw [Array.getElem?_setIfInBounds]
          by_cases e' : i = j
          · subst e'; rw [if_pos rfl, if_pos hl, hc']
          · rw [if_neg e']
        | _ => rfl
    · rw [if_neg e]
  show { w with heap := _ } = w
  obtain ⟨heap, tape, drawn, os, output⟩ := w
  simp only [World.mk.injEq, and_true]
  exact h
/-- The end of a round. -/
theorem use_end {V : World} {F : Nat → Prop} {g d n me : Nat} {t t2 : St} {G : Gh} (h : MbAt V F g d n me t2 G) (xs : List Int) (e1 : t2.taken = t.taken) (e2 : t2.own = t.own) (e3 : t2.sent = t.sent) (e4 : t2.early = dropE t.taken t.early)
    (e5 : t2.parts = t.parts.set (takeN d n me t.taken) (if sumsB d n t.taken = true then addW (prt t.parts (takeN d n me t.taken)) xs else xs)) (hno : lkM (t.taken : Int) G.M = none) (hkn : d = 4 → ∀ k, k < n → k = fromN d n me t.taken → Num V (G.Sh k) (prt t2.parts k)) :
    MbAt (V.setCell ⟨g, 10, none⟩ (.int .i64 ((t.taken : Int) + 1))) F g d n me (useM d n me t xs) G := by
  have h1 := h.used (by rw [e1]; exact hno) (by rw [e1]; exact hkn)
  rw [e1] at h1
  have h2 := h1.early t.early (fun u hu => by
    show lookL u t.early = lookL u t2.early
    rw [e4, look_drop, if_neg (by have : t.taken + 1 ≤ u := hu; omega)])
  have e : ({ t2 with taken := t.taken + 1, early := t.early } : St) = useM d n me t xs := by
    unfold useM
    rw [e2, e3, e5]
  rw [e] at h2
  exact h2
theorem measure_less {V U : World} {a : Addr} {N T : Nat} (h1 : V.cell? a = some (.int .i64 (T : Int))) (hT : T < N) (h2 : U.cell? a = some (.int .i64 (T : Int))) : N - cellN (U.setCell a (.int .i64 ((T : Int) + 1))) a < N - cellN V a := by
  have e : (U.setCell a (.int .i64 ((T : Int) + 1))).cell? a = some (.int .i64 ((T : Int) + 1)) := World.cell?_setCell_same _ _ _ h2
  unfold cellN
  rw [e, h1]
  show N - ((T : Int) + 1).toNat < N - (T : Int).toNat
  omega
theorem frozen_of_block {w w' : World} {b i : Nat} (h : w'.heap[b]? = w.heap[b]?) : w'.frozen? ⟨b, i, none⟩ = w.frozen? ⟨b, i, none⟩ := by simp only [World.frozen?, h]
theorem set_ne_cell {w : World} {b o g i : Nat} {v x : Value} (h : b ≠ g) (hc : w.cell? ⟨b, o, none⟩ = some v) : (w.setCell ⟨g, i, none⟩ x).cell? ⟨b, o, none⟩ = some v := (World.cell?_of_block (w := w) (Below.heap_setCell _ _ _ _ h)).trans hc
theorem set_same_cell {w : World} {g i : Nat} {v : Value} (hc : w.cell? ⟨g, i, none⟩ = some v) : (w.setCell ⟨g, i, none⟩ v).cell? ⟨g, i, none⟩ = some v := by
  simp only [World.cell?, World.setCell, Array.getElem?_modify] at hc ⊢
  cases hb : w.heap[g]? with
  | none => rw [hb] at hc; simp at hc
  | some o =>
    rw [hb] at hc
    cases o with
    | cells cur e f =>
      simp at hc ⊢
      have := (Array.getElem?_eq_some_iff.1 hc).1
      simp [this]
    | _ => simp at hc
theorem use_lit {d n T : Nat} (h1 : 1 ≤ d) (h4 : d ≤ 4) (h2 : 2 ≤ n) (ht : T < notN d n) : (sumsB d n T = true → useF d (T / (n - 1)) = 44) ∧ (sumsB d n T = false → useF d (T / (n - 1)) = 46) := by
  have hr := (step_div h2 ht).1
  have hm := Nat.mod_add_div T (n - 1)
  have hml : T % (n - 1) < n - 1 := Nat.mod_lt _ (by omega)
  obtain ⟨q, hq⟩ : ∃ q, q = T / (n - 1) := ⟨_, rfl⟩
  rw [← hq] at hr hm ⊢
  have hd : d = 1 ∨ d = 2 ∨ d = 3 ∨ d = 4 := by omega
  have hqq : q = 0 ∨ q = 1 ∧ d = 1 := by
    unfold rdN at hr
    split at hr
    · rename_i e; have : q = 0 ∨ q = 1 := by clear hm; omega
      rcases this with e1 | e1
      · exact .inl e1
      · exact .inr ⟨e1, e⟩
    · left; clear hm; omega
  unfold sumsB useF
  rcases hqq with e | ⟨e, e1⟩
  · subst e
    simp only [Nat.mul_zero, Nat.add_zero] at hm
    have hlt : T < n - 1 := by omega
    rcases hd with rfl | rfl | rfl | rfl <;> simp [hlt]
  · subst e e1
    have hge : ¬ T < n - 1 := by omega
    simp [hge]
set_option maxHeartbeats 4000000 in
theorem useThose_any (g : Nat) (F : Nat → Prop) (d n me : Nat) (s : St) (G : Gh) (W : World) (h : MbAt W F g d n me s G) (hk : StOk d n me s) :
    Calls Try.prog 36 #[pm g] W fun e w' => e = .returned (.tuple #[]) ∧ (∃ G', MbAt w' F g d n me (drainA d n me s) G') ∧ Wr F W w' := by
  have H := hide h
  have HK := hide hk
  clear h hk
  unfold pm
  go_enter Try.func36, Try.ntmps36
  go_wp2
  go_loopw [] (fun wr => ∃ (s' : St) (G' : Gh), MbAt wr F g d n me s' G' ∧ StOk d n me s' ∧ drainA d n me s = drainA d n me s' ∧ Wr F W wr) (fun wr => notN d n - cellN wr ⟨g, 10, none⟩)
  case atStart => exact ⟨s, G, H.out, HK.out, rfl, Wr.refl _ _⟩
  case round =>
    obtain ⟨t, G1, h1, hk1, hd, hw⟩ := hrel
    have HD := hide hd
    have HW := hide hw
    have H1 := hide h1
    have HK1 := hide hk1
    obtain ⟨⟨-, -, -, -, -⟩, ⟨-, -, -, c10, c11, -⟩, z0, -⟩ := mb_cells h1
    have HC10 := hide c10
    have hlk : ∀ k, (Instr.lookup 82 (.map (some G1.eb)) (.int .i64 (t.taken : Int)) true).run Try.prog (wr.drewN k) = .ok (.tuple #[(lkM (t.taken : Int) G1.M).getD (.slice none 0 0), .bool (lkM (t.taken : Int) G1.M).isSome]) (wr.drewN k) := fun k => run_lkM (H1.out.map.keep (V := wr.drewN k) rfl) _
    cases hl : lkM (t.taken : Int) G1.M with
    | none =>
      rw [hl] at hlk
      simp only [Option.getD_none, Option.isSome_none] at hlk
      have HL := hide hl
      clear h1 hk1 hd hw hl
      go_wp2
      go_quiet (fail)
      go_wp2
      refine bodyPost_ret (v := .tuple #[]) (by simp [results, Try.results36, go_sem]) rfl ⟨rfl, ⟨G1, ?_⟩, HW.out.draws _⟩
      have hnl : lookL t.taken t.early = none := by
        cases hq : lookL t.taken t.early with
        | none => rfl
        | some zs =>
          obtain ⟨z, h5, _⟩ := (H1.out.mem t.taken zs (Nat.le_refl _)).1 hq
          rw [HL.out] at h5
          cases h5
      rw [HD.out, drainA_none d n me t hnl]
      exact H1.out.below (below_draws (Below.refl _ _) _)
    | some v =>
      obtain ⟨x, xs, rfl, hx, hxF, hxA, _, hlt⟩ := h1.mon _ v hl
      rw [hl] at hlk
      obtain ⟨o, ho, hmp⟩ := delete_run h1.map (t.taken : Int)
      obtain ⟨xa, xn, xc⟩ := x
      simp only [Option.getD_some, Option.isSome_some, Sl.v] at hlk
      have HX := hide hx
      have HXF := hide hxF
      have HXA := hide hxA
      have HMP := hide hmp
      have HL := hide hl
      clear h1 hk1 hd hw hl hx hxF hxA hmp hlt
      go_wp2
      go_quiet (fail)
      go_wp2
      go_region
      go_upto_region 3 with fail
      obtain ⟨V1, hV1⟩ : ∃ V, V = (mapW wr G1.eb o).drewN (nq + 1) := ⟨_, rfl⟩
      rw [← hV1]
      obtain ⟨t1, ht1⟩ : ∃ t1 : St, t1 = { t with early := dropE t.taken t.early } := ⟨_, rfl⟩
      obtain ⟨G2, hG2⟩ : ∃ G2 : Gh, G2 = { G1 with M := dlM (t.taken : Int) G1.M } := ⟨_, rfl⟩
      have hm1 : MbAt V1 F g d n me t1 G2 := by
        rw [hV1, ht1, hG2]
        exact (H1.out.delete o t.taken HMP.out).below (below_draws (Below.refl _ _) _)
      have hw1 : Wr F W V1 := by
        rw [hV1]
        exact (HW.out.put (b := G1.eb) (o := o) H1.out.feb).draws _
      have hx1 : Num V1 ⟨xa, xn, xc⟩ xs := by
        rw [hV1]
        exact (HX.out.keepMap H1.out.map o).below (below_draws (Below.refl _ _) _)
      have hA2 : ∀ j, j < n → Ap ⟨xa, xn, xc⟩ (G2.Sh j) := by rw [hG2]; exact HXA.out
      have hB2 : ∀ (u : Int) (y : Sl), lkM u G2.M = some y.v → Ap ⟨xa, xn, xc⟩ y := fun u y hy => by
        rw [hG2] at hy
        simp only at hy
        rw [lk_dl _ _ _ H1.out.map.2] at hy
        by_cases e : u = (t.taken : Int)
        · rw [if_pos e] at hy; cases hy
        · rw [if_neg e] at hy
          exact H1.out.map2 _ _ _ _ (Ne.symm e) HL.out hy
      have hno2 : lkM (t.taken : Int) G2.M = none := by rw [hG2]; simp only; rw [lk_dl _ _ _ H1.out.map.2, if_pos rfl]
      have hls : lookL t.taken t.early = some xs := (H1.out.mem t.taken xs (Nat.le_refl _)).2 ⟨_, HL.out, HX.out⟩
      have HT := hide (⟨by rw [ht1], by rw [ht1], by rw [ht1], by rw [ht1]⟩ : t1.taken = t.taken ∧ t1.own = t.own ∧ t1.parts = t.parts ∧ t1.sent = t.sent)
      have hT : t1.taken = t.taken := by rw [ht1]
      have HE := hide ht1
      obtain ⟨T, hTT⟩ : ∃ T, T = t.taken := ⟨_, rfl⟩
      have hlt : T < notN d n := by rw [hTT]; exact HK1.out.early _ _ hls
      have n2 := notN_two hlt
      have h16 := HK1.out.n16
      have d1 := HK1.out.d1
      have d4 := HK1.out.d4
      have hme := HK1.out.mel
      have HX1 := hide hx1
      have HM1 := hide hm1
      have HW1 := hide hw1
      have HA2 := hide hA2
      have HB2 := hide hB2
      have HNO2 := hide hno2
      have HLS := hide hls
      obtain ⟨⟨-, -, -, -, -⟩, ⟨-, -, -, e10, -⟩, y0, -⟩ := mb_cells hm1
      rw [hT, ← hTT] at e10
      have HTT := hide hTT
      clear hV1 hG2 ht1 hm1 hw1 hx1 hA2 hB2 hno2 hls hT hTT c10 c11 hlk ho
      have hul := use_lit d1 d4 n2 hlt
      by_cases h4 : d = 4
      · have hp : plcF d = 52 := by unfold plcF; rw [if_pos h4]
        have hsm : sumsB d n T = false := by unfold sumsB; rw [h4]; simp
        have H4 := hide h4
        have hu := hul.2 hsm
        clear hul h4
        have hr := round_any g F d n me t1 G2 V1 HM1.out n2 h16 T hlt
        rw [hu] at hr
        have HSM := hide hsm
        clear hsm
        unfold fv pm at hr
        have HR := hide hr
        clear hr hu
        go_upto_region 4 with (first | (go_at_call 33; refine HR.out.mono ?_; rintro e w1 ⟨rfl, hb⟩; have HBR := hide hb; clear hb))
        obtain ⟨V2, hV2⟩ : ∃ V, V = w1.alloc (.cells #[.func (.func (farF d (T / (n - 1)))) #[] #[], .func (.func (pceF d (T / (n - 1)))) #[] #[], .func (.func 46) #[] #[]] 88) := ⟨_, rfl⟩
        rw [← hV2]
        have hb2 : Below V1.heap.size V1 V2 := by rw [hV2]; exact HBR.out.alloc HBR.out.size _
        have hm2 : MbAt V2 F g d n me t1 G2 := HM1.out.below hb2
        have r2 : V2.cell? ⟨w1.heap.size, 2, none⟩ = some (.func (.func 46) #[] #[]) := by rw [hV2]; exact box_cell w1 _ _ 2 _ rfl
        have HB2' := hide hb2
        have HM2 := hide hm2
        have cl := mb_cells hm2
        obtain ⟨⟨-, -, -, -, -, a5, -⟩, ⟨-, -, -, a10, -, -, a13⟩, a0, -⟩ := cl
        rw [HT.out.1, ← HTT.out] at a10
        unfold fv at a5
        rw [show plcF d = 52 from hp] at a5
        have b5 : ∀ p, (gw V2 p).cell? ⟨g, 5, none⟩ = some (.func (.func 52) #[] #[]) := fun p => gw_cell a5 p
        have b10 : ∀ p, (gw V2 p).cell? ⟨g, 10, none⟩ = some (.int .i64 (T : Int)) := fun p => gw_cell a10 p
        have HC : Hid (∀ p, MbAt (gw V2 p) F g d n me t1 G2) := fun p => hm2.below (gw_below _ _)
        have cs13 : V2.cell? ⟨g, 13, none⟩ = some (.slice (some ⟨G2.hh, 0, none⟩) n n) := a13
        have HC13 := hide cs13
        have HR2 := hide r2
        clear a13 cs13 r2 hV2 hb2 hm2 a5 a10 e10 y0 hp
        have ine : Nonempty GwP := ⟨⟨#[], 0⟩⟩
        refine wp_region_gw (by kernel_rfl) (by kernel_rfl) ?_
        repeat (quiet_step (first | (go_at_call 58; exact Calls.gw_of (comes_any g F d n me t1 G2 _ (HC.out _) d1 d4 n2 h16 hme T hlt)) | (go_at_call 52; exact Calls.gw_same (k9_any _ _ _))))
        refine wpQuiet_nil ?_
        intro _ hw'
        obtain ⟨pq, hw''⟩ := hw'
        subst hw''
        clear b5 b10
        go_upto_region 5 with fail
        obtain ⟨V3, hV3⟩ : ∃ V, V = gw V2 pq := ⟨_, rfl⟩
        rw [← hV3]
        obtain ⟨P, hP⟩ : ∃ P, P = fromN d n me T := ⟨_, rfl⟩
        rw [← hP]
        have hPt : takeN d n me T = P := by rw [hP]; unfold takeN; rw [if_pos H4.out]
        have hPl : P < n := by rw [← hPt]; exact takeN_lt (by omega)
        have hm3 : MbAt V3 F g d n me t1 G2 := by rw [hV3]; exact HC.out pq
        have hb3 : Below V1.heap.size V1 V3 := by rw [hV3]; exact bl_on HB2'.out (gw_below _ _)
        have hw3 : Wr F W V3 := HW1.out.below hb3
        have hx3 : Num V3 ⟨xa, xn, xc⟩ xs := HX1.out.below hb3
        have q2 : V3.cell? ⟨w1.heap.size, 2, none⟩ = some (.func (.func 46) #[] #[]) := by rw [hV3]; exact gw_cell HR2.out pq
        have q13 : V3.cell? ⟨g, 13, none⟩ = some (.slice (some ⟨G2.hh, 0, none⟩) n n) := by rw [hV3]; exact gw_cell HC13.out pq
        have qh : V3.cell? ⟨G2.hh, P, none⟩ = some (.slice (G2.Sh P).a (G2.Sh P).n (G2.Sh P).c) := hm3.rowH.cell hPl
        have qf : V3.frozen? ⟨G2.hh, P, none⟩ = false := hm3.rowH.frozen P
        have HM3 := hide hm3
        have HW3 := hide hw3
        have HX3 := hide hx3
        have HPT := hide hPt
        have HPP := hide hP
        have hPz : (P : Int) < (n : Int) := by omega
        clear hV3 hb3 hw3 hx3 hm3 hPt hP HC
        have ng : g ≠ G2.hh := fun e => by
          obtain ⟨cur, hc, _⟩ := HM3.out.rowH
          have hb := HM3.out.blk
          rw [e, hc] at hb
          simp at hb
        have nr : w1.heap.size ≠ G2.hh := fun e => by
          have h5 := HM1.out.rowH.lt
          have h6 := HBR.out.size
          omega
        refine region_made 19 20 [fIs (.pointer (some ⟨g, 0, none⟩)), fIs (.pointer (some ⟨g, 0, none⟩)), fIs (.pointer (some ⟨g, 12, none⟩)), fIs (.pointer (some ⟨g, 13, none⟩)), fIs (.slice (some ⟨G2.hh, 0, none⟩) n n), fIs (.int .i64 (P : Int)), fIs (.pointer (some ⟨w1.heap.size, 2, none⟩)), fIs (.func (.func 46) #[] #[]), fIs (.pointer (some ⟨g, 0, none⟩)), fIs (.pointer (some ⟨g, 0, none⟩)), fIs (.pointer (some ⟨g, 12, none⟩)), fIs (.pointer (some ⟨g, 13, none⟩)), fIs (.slice (some ⟨G2.hh, 0, none⟩) n n), fIs (.int .i64 (P : Int)), fIs (.pointer (some ⟨G2.hh, P, none⟩)), fIs (.slice (G2.Sh P).a (G2.Sh P).n (G2.Sh P).c), fIs (.slice xa xn xc), fIs (.slice xa xn xc), fIs (.pointer (some ⟨G2.hh, P, none⟩))] (by kernel_rfl) (by kernel_rfl) (by kernel_rfl) (fun _ ⟨_, _⟩ ⟨_, _⟩ _ e h => by cases e; exact h) ⟨fIs_good _, fIs_good _, fIs_good _, fIs_good _, fIs_good _, fIs_good _, fIs_good _, fIs_good _, fIs_good _, fIs_good _, fIs_good _, fIs_good _, fIs_good _, fIs_good _, fIs_good _, fIs_good _, fIs_good _, fIs_good _, fIs_good _, trivial⟩ ?mk ?rest
        case mk =>
          refine ⟨fun u wz hb hd => ?_, fun u wz hb hd => ?_, fun u wz hb hd => ?_, fun u wz hb hd => ?_, fun u wz hb hd => ?_, fun u wz hb hd => ?_, fun u wz hb hd => ?_, fun u wz hb hd => ?_, fun u wz hb hd => ?_, fun u wz hb hd => ?_, fun u wz hb hd => ?_, fun u wz hb hd => ?_, fun u wz hb hd => ?_, fun u wz hb hd => ?_, fun u wz hb hd => ?_, fun u wz hb hd => ?_, fun u wz hb hd => ?_, fun u wz hb hd => ?_, fun u wz hb hd => ?_, trivial⟩
          all_goals simp only [Act.put, List.setIfInBounds_toArray, List.set_cons_zero, List.set_cons_succ]
          · go_simp
            exact ⟨rfl, Below.refl _ _, fun h => by cases h⟩
          · have e0 : u 0 = .pointer (some ⟨g, 0, none⟩) := hd 0 (by omega) (by kernel_rfl)
            rw [e0]
            go_simp
            exact ⟨rfl, Below.refl _ _, fun h => by cases h⟩
          · have e1 : u 1 = .pointer (some ⟨g, 0, none⟩) := hd 1 (by omega) (by kernel_rfl)
            rw [e1]
            go_simp
            exact ⟨rfl, Below.refl _ _, fun h => by cases h⟩
          · have e2 : u 2 = .pointer (some ⟨g, 12, none⟩) := hd 2 (by omega) (by kernel_rfl)
            rw [e2]
            go_simp
            exact ⟨rfl, Below.refl _ _, fun h => by cases h⟩
          · have e3 : u 3 = .pointer (some ⟨g, 13, none⟩) := hd 3 (by omega) (by kernel_rfl)
            rw [e3]
            have q13' := (hb.cell (p := ⟨g, 13, none⟩) (lt_of_cell q13)).trans q13
            go_simp
            exact ⟨rfl, Below.refl _ _, fun h => by cases h⟩
          · go_simp
            exact ⟨rfl, Below.refl _ _, fun h => by cases h⟩
          · go_simp
            exact ⟨rfl, Below.refl _ _, fun h => by cases h⟩
          · have e6 : u 6 = .pointer (some ⟨w1.heap.size, 2, none⟩) := hd 6 (by omega) (by kernel_rfl)
            rw [e6]
            have q2' := (hb.cell (p := ⟨w1.heap.size, 2, none⟩) (lt_of_cell q2)).trans q2
            go_simp
            exact ⟨rfl, Below.refl _ _, fun h => by cases h⟩
          · go_simp
            exact ⟨rfl, Below.refl _ _, fun h => by cases h⟩
          · have e8 : u 8 = .pointer (some ⟨g, 0, none⟩) := hd 8 (by omega) (by kernel_rfl)
            rw [e8]
            go_simp
            exact ⟨rfl, Below.refl _ _, fun h => by cases h⟩
          · have e9 : u 9 = .pointer (some ⟨g, 0, none⟩) := hd 9 (by omega) (by kernel_rfl)
            rw [e9]
            go_simp
            exact ⟨rfl, Below.refl _ _, fun h => by cases h⟩
          · have e10 : u 10 = .pointer (some ⟨g, 12, none⟩) := hd 10 (by omega) (by kernel_rfl)
            rw [e10]
            go_simp
            exact ⟨rfl, Below.refl _ _, fun h => by cases h⟩
          · have e11 : u 11 = .pointer (some ⟨g, 13, none⟩) := hd 11 (by omega) (by kernel_rfl)
            rw [e11]
            have q13' := (hb.cell (p := ⟨g, 13, none⟩) (lt_of_cell q13)).trans q13
            go_simp
            exact ⟨rfl, Below.refl _ _, fun h => by cases h⟩
          · go_simp
            exact ⟨rfl, Below.refl _ _, fun h => by cases h⟩
          · have e12 : u 12 = .slice (some ⟨G2.hh, 0, none⟩) n n := hd 12 (by omega) (by kernel_rfl)
            have e13 : u 13 = .int .i64 (P : Int) := hd 13 (by omega) (by kernel_rfl)
            rw [e12, e13]
            go_simp
            exact ⟨rfl, Below.refl _ _, fun h => by cases h⟩
          · have e14 : u 14 = .pointer (some ⟨G2.hh, P, none⟩) := hd 14 (by omega) (by kernel_rfl)
            rw [e14]
            have qh' := (hb.cell (p := ⟨G2.hh, P, none⟩) (lt_of_cell qh)).trans qh
            go_simp
            exact ⟨rfl, Below.refl _ _, fun h => by cases h⟩
          · go_simp
            exact ⟨rfl, Below.refl _ _, fun h => by cases h⟩
          · have e7 : u 7 = .func (.func 46) #[] #[] := hd 7 (by omega) (by kernel_rfl)
            have e15 : u 15 = .slice (G2.Sh P).a (G2.Sh P).n (G2.Sh P).c := hd 15 (by omega) (by kernel_rfl)
            have e16 : u 16 = .slice xa xn xc := hd 16 (by omega) (by kernel_rfl)
            rw [e7, e15, e16]
            go_simp
            refine (instead_any _ _ _).mono ?_
            rintro e w4 ⟨rfl, hw4⟩
            obtain rfl := hw4.symm
            exact ⟨rfl, Below.refl _ _, fun h => by cases h⟩
          · have e4 : u 4 = .slice (some ⟨G2.hh, 0, none⟩) n n := hd 4 (by omega) (by kernel_rfl)
            have e5 : u 5 = .int .i64 (P : Int) := hd 5 (by omega) (by kernel_rfl)
            rw [e4, e5]
            go_simp
            exact ⟨rfl, Below.refl _ _, fun h => by cases h⟩
        case rest =>
          intro u wz hb hf hp
          have f0 : u 0 = .pointer (some ⟨g, 0, none⟩) := hf 0 (by omega)
          have f1 : u 1 = .pointer (some ⟨g, 0, none⟩) := hf 1 (by omega)
          have f2 : u 2 = .pointer (some ⟨g, 12, none⟩) := hf 2 (by omega)
          have f3 : u 3 = .pointer (some ⟨g, 13, none⟩) := hf 3 (by omega)
          have f4 : u 4 = .slice (some ⟨G2.hh, 0, none⟩) n n := hf 4 (by omega)
          have f5 : u 5 = .int .i64 (P : Int) := hf 5 (by omega)
          have f6 : u 6 = .pointer (some ⟨w1.heap.size, 2, none⟩) := hf 6 (by omega)
          have f7 : u 7 = .func (.func 46) #[] #[] := hf 7 (by omega)
          have f8 : u 8 = .pointer (some ⟨g, 0, none⟩) := hf 8 (by omega)
          have f9 : u 9 = .pointer (some ⟨g, 0, none⟩) := hf 9 (by omega)
          have f10 : u 10 = .pointer (some ⟨g, 12, none⟩) := hf 10 (by omega)
          have f11 : u 11 = .pointer (some ⟨g, 13, none⟩) := hf 11 (by omega)
          have f12 : u 12 = .slice (some ⟨G2.hh, 0, none⟩) n n := hf 12 (by omega)
          have f13 : u 13 = .int .i64 (P : Int) := hf 13 (by omega)
          have f14 : u 14 = .pointer (some ⟨G2.hh, P, none⟩) := hf 14 (by omega)
          have f15 : u 15 = .slice (G2.Sh P).a (G2.Sh P).n (G2.Sh P).c := hf 15 (by omega)
          have f16 : u 16 = .slice xa xn xc := hf 16 (by omega)
          have f17 : u 17 = .slice xa xn xc := hf 17 (by omega)
          have f18 : u 18 = .pointer (some ⟨G2.hh, P, none⟩) := hf 18 (by omega)
          refine UptoW.rest 1 19 (by rfl) (by kernel_rfl) ?_
          simp only [List.take, List.drop, putOps, Act.put, List.setIfInBounds_toArray, List.set_cons_zero, List.set_cons_succ, Nat.reduceAdd, f0, f1, f2, f3, f4, f5, f6, f7, f8, f9, f10, f11, f12, f13, f14, f15, f16, f17, f18]
          clear f0 f1 f2 f3 f4 f5 f6 f7 f8 f9 f10 f11 f12 f13 f14 f15 f16 f17 f18 hf hp
          have HBZ := hide hb
          have zf : wz.frozen? ⟨G2.hh, P, none⟩ = false := (hb.frozen (p := ⟨G2.hh, P, none⟩) (lt_of_cell qh)).trans qf
          have zh := (hb.cell (p := ⟨G2.hh, P, none⟩) (lt_of_cell qh)).trans qh
          clear hb
          go_upto_region 6 with fail
          have hm4 := (HM3.out.below HBZ.out).instead hPl (by rw [HT.out.2.2.1]; exact HK1.out.lp) ⟨xa, xn, xc⟩ xs (HX3.out.below HBZ.out) HXF.out HA2.out HB2.out
          have hx4 : Num (wz.setCell ⟨G2.hh, P, none⟩ (Sl.v ⟨xa, xn, xc⟩)) ⟨xa, xn, xc⟩ xs := (HX3.out.below HBZ.out).keep fun b hO => Below.heap_setCell _ _ _ _ ((HM3.out.rowH.keep (HBZ.out.block _ HM3.out.rowH.lt)).ne (HX3.out.below HBZ.out) hO)
          unfold Sl.v at hm4 hx4
          simp only at hm4 hx4
          have hw4 : Wr F W (wz.setCell ⟨G2.hh, P, none⟩ (.slice xa xn xc)) := (HW3.out.below HBZ.out).set HM3.out.fhh _
          obtain ⟨V4, hV4⟩ : ∃ V, V = wz.setCell ⟨G2.hh, P, none⟩ (.slice xa xn xc) := ⟨_, rfl⟩
          rw [← hV4] at hm4 hx4 hw4 ⊢
          have HM4 := hide hm4
          have HX4 := hide hx4
          have HW4 := hide hw4
          obtain ⟨⟨-, -, -, -, -⟩, ⟨-, -, -, m10, -⟩, m0, mf⟩ := mb_cells hm4
          have mf10 := mf 10
          rw [show ({ t1 with parts := t1.parts.set P xs } : St).taken = T from HT.out.1.trans HTT.out.symm] at m10
          clear hm4 hx4 hw4 hV4 mf zf zh
          have wT : wrap64 ((T : Int) + 1) = (T : Int) + 1 := by (have h30 := notN_le (d := d) h16; exact wrap_small (by omega) (by omega))
          go_wp2
          go_roundw
          case rel =>
            have hsm : sumsB d n t.taken = false := by rw [← HTT.out]; exact HSM.out
            refine ⟨useM d n me t xs, { G2 with Sh := upS G2.Sh P ⟨xa, xn, xc⟩, Ss := if d = 4 then G2.Ss else upS G2.Ss P ⟨xa, xn, xc⟩ }, ?_, HK1.out.use xs HLS.out, ?_, ?_⟩
            rotate_left
            · rw [HD.out]
              exact drainA_some d n me t xs HLS.out (by rw [← HTT.out]; exact hlt)
            · exact HW4.out.set HM3.out.fg _
            · rw [HTT.out]
              refine use_end HM4.out xs HT.out.1 HT.out.2.1 HT.out.2.2.2 (by rw [HE.out]) ?_ HNO2.out (fun e k hk1 hk2 => ?_)
              · show t1.parts.set P xs = _
                rw [HT.out.2.2.1, hsm, ← HTT.out, HPT.out]
                rfl
              · have ek : k = P := by rw [hk2, HPP.out, HTT.out]
                show Num V4 (upS G2.Sh P ⟨xa, xn, xc⟩ k) (prt (t1.parts.set P xs) k)
                rw [prt_set (by rw [HT.out.2.2.1, HK1.out.lp]; exact hPl), if_pos ek]
                unfold upS
                rw [if_pos ek]
                exact HX4.out
          case measure => exact measure_less (by rw [HTT.out]; exact HC10.out) hlt m10
      · have hp : plcF d = 51 := by unfold plcF; rw [if_neg h4]
        cases hsm : sumsB d n T with
        | false =>
          have hu := hul.2 hsm
          clear hul
          have hr := round_any g F d n me t1 G2 V1 HM1.out n2 h16 T hlt
          rw [hu] at hr
          have HSM := hide hsm
          clear hsm
          unfold fv pm at hr
          have HR := hide hr
          clear hr hu
          go_upto_region 4 with (first | (go_at_call 33; refine HR.out.mono ?_; rintro e w1 ⟨rfl, hb⟩; have HBR := hide hb; clear hb))
          obtain ⟨V2, hV2⟩ : ∃ V, V = w1.alloc (.cells #[.func (.func (farF d (T / (n - 1)))) #[] #[], .func (.func (pceF d (T / (n - 1)))) #[] #[], .func (.func 46) #[] #[]] 88) := ⟨_, rfl⟩
          rw [← hV2]
          have hb2 : Below V1.heap.size V1 V2 := by rw [hV2]; exact HBR.out.alloc HBR.out.size _
          have hm2 : MbAt V2 F g d n me t1 G2 := HM1.out.below hb2
          have r2 : V2.cell? ⟨w1.heap.size, 2, none⟩ = some (.func (.func 46) #[] #[]) := by rw [hV2]; exact box_cell w1 _ _ 2 _ rfl
          have HB2' := hide hb2
          have HM2 := hide hm2
          have cl := mb_cells hm2
          obtain ⟨⟨-, -, -, -, -, a5, -⟩, ⟨-, -, -, a10, -, -, a13⟩, a0, -⟩ := cl
          rw [HT.out.1, ← HTT.out] at a10
          unfold fv at a5
          rw [show plcF d = 51 from hp] at a5
          have b5 : ∀ p, (gw V2 p).cell? ⟨g, 5, none⟩ = some (.func (.func 51) #[] #[]) := fun p => gw_cell a5 p
          have b10 : ∀ p, (gw V2 p).cell? ⟨g, 10, none⟩ = some (.int .i64 (T : Int)) := fun p => gw_cell a10 p
          have HC : Hid (∀ p, MbAt (gw V2 p) F g d n me t1 G2) := fun p => hm2.below (gw_below _ _)
          have cs13 : V2.cell? ⟨g, 13, none⟩ = some (.slice (some ⟨G2.hh, 0, none⟩) n n) := a13
          have HC13 := hide cs13
          have HR2 := hide r2
          clear a13 cs13 r2 hV2 hb2 hm2 a5 a10 e10 y0 hp
          have ine : Nonempty GwP := ⟨⟨#[], 0⟩⟩
          refine wp_region_gw (by kernel_rfl) (by kernel_rfl) ?_
          repeat (quiet_step (first | (go_at_call 58; exact Calls.gw_of (comes_any g F d n me t1 G2 _ (HC.out _) d1 d4 n2 h16 hme T hlt)) | (go_at_call 51; exact Calls.gw_same (k8_any _ _ _))))
          refine wpQuiet_nil ?_
          intro _ hw'
          obtain ⟨pq, hw''⟩ := hw'
          subst hw''
          clear b5 b10
          go_upto_region 5 with fail
          obtain ⟨V3, hV3⟩ : ∃ V, V = gw V2 pq := ⟨_, rfl⟩
          rw [← hV3]
          obtain ⟨P, hP⟩ : ∃ P, P = sendN d n (fromN d n me T) T := ⟨_, rfl⟩
          rw [← hP]
          have hPt : takeN d n me T = P := by rw [hP]; unfold takeN; rw [if_neg h4]
          have hPl : P < n := by rw [← hPt]; exact takeN_lt (by omega)
          have hm3 : MbAt V3 F g d n me t1 G2 := by rw [hV3]; exact HC.out pq
          have hb3 : Below V1.heap.size V1 V3 := by rw [hV3]; exact bl_on HB2'.out (gw_below _ _)
          have hw3 : Wr F W V3 := HW1.out.below hb3
          have hx3 : Num V3 ⟨xa, xn, xc⟩ xs := HX1.out.below hb3
          have q2 : V3.cell? ⟨w1.heap.size, 2, none⟩ = some (.func (.func 46) #[] #[]) := by rw [hV3]; exact gw_cell HR2.out pq
          have q13 : V3.cell? ⟨g, 13, none⟩ = some (.slice (some ⟨G2.hh, 0, none⟩) n n) := by rw [hV3]; exact gw_cell HC13.out pq
          have qh : V3.cell? ⟨G2.hh, P, none⟩ = some (.slice (G2.Sh P).a (G2.Sh P).n (G2.Sh P).c) := hm3.rowH.cell hPl
          have qf : V3.frozen? ⟨G2.hh, P, none⟩ = false := hm3.rowH.frozen P
          have HM3 := hide hm3
          have HW3 := hide hw3
          have HX3 := hide hx3
          have HPT := hide hPt
          have HPP := hide hP
          have hPz : (P : Int) < (n : Int) := by omega
          clear hV3 hb3 hw3 hx3 hm3 hPt hP HC
          have ng : g ≠ G2.hh := fun e => by
            obtain ⟨cur, hc, _⟩ := HM3.out.rowH
            have hb := HM3.out.blk
            rw [e, hc] at hb
            simp at hb
          have nr : w1.heap.size ≠ G2.hh := fun e => by
            have h5 := HM1.out.rowH.lt
            have h6 := HBR.out.size
            omega
          refine region_made 19 20 [fIs (.pointer (some ⟨g, 0, none⟩)), fIs (.pointer (some ⟨g, 0, none⟩)), fIs (.pointer (some ⟨g, 12, none⟩)), fIs (.pointer (some ⟨g, 13, none⟩)), fIs (.slice (some ⟨G2.hh, 0, none⟩) n n), fIs (.int .i64 (P : Int)), fIs (.pointer (some ⟨w1.heap.size, 2, none⟩)), fIs (.func (.func 46) #[] #[]), fIs (.pointer (some ⟨g, 0, none⟩)), fIs (.pointer (some ⟨g, 0, none⟩)), fIs (.pointer (some ⟨g, 12, none⟩)), fIs (.pointer (some ⟨g, 13, none⟩)), fIs (.slice (some ⟨G2.hh, 0, none⟩) n n), fIs (.int .i64 (P : Int)), fIs (.pointer (some ⟨G2.hh, P, none⟩)), fIs (.slice (G2.Sh P).a (G2.Sh P).n (G2.Sh P).c), fIs (.slice xa xn xc), fIs (.slice xa xn xc), fIs (.pointer (some ⟨G2.hh, P, none⟩))] (by kernel_rfl) (by kernel_rfl) (by kernel_rfl) (fun _ ⟨_, _⟩ ⟨_, _⟩ _ e h => by cases e; exact h) ⟨fIs_good _, fIs_good _, fIs_good _, fIs_good _, fIs_good _, fIs_good _, fIs_good _, fIs_good _, fIs_good _, fIs_good _, fIs_good _, fIs_good _, fIs_good _, fIs_good _, fIs_good _, fIs_good _, fIs_good _, fIs_good _, fIs_good _, trivial⟩ ?mk ?rest
          case mk =>
            refine ⟨fun u wz hb hd => ?_, fun u wz hb hd => ?_, fun u wz hb hd => ?_, fun u wz hb hd => ?_, fun u wz hb hd => ?_, fun u wz hb hd => ?_, fun u wz hb hd => ?_, fun u wz hb hd => ?_, fun u wz hb hd => ?_, fun u wz hb hd => ?_, fun u wz hb hd => ?_, fun u wz hb hd => ?_, fun u wz hb hd => ?_, fun u wz hb hd => ?_, fun u wz hb hd => ?_, fun u wz hb hd => ?_, fun u wz hb hd => ?_, fun u wz hb hd => ?_, fun u wz hb hd => ?_, trivial⟩
            all_goals simp only [Act.put, List.setIfInBounds_toArray, List.set_cons_zero, List.set_cons_succ]
            · go_simp
              exact ⟨rfl, Below.refl _ _, fun h => by cases h⟩
            · have e0 : u 0 = .pointer (some ⟨g, 0, none⟩) := hd 0 (by omega) (by kernel_rfl)
              rw [e0]
              go_simp
              exact ⟨rfl, Below.refl _ _, fun h => by cases h⟩
            · have e1 : u 1 = .pointer (some ⟨g, 0, none⟩) := hd 1 (by omega) (by kernel_rfl)
              rw [e1]
              go_simp
              exact ⟨rfl, Below.refl _ _, fun h => by cases h⟩
            · have e2 : u 2 = .pointer (some ⟨g, 12, none⟩) := hd 2 (by omega) (by kernel_rfl)
              rw [e2]
              go_simp
              exact ⟨rfl, Below.refl _ _, fun h => by cases h⟩
            · have e3 : u 3 = .pointer (some ⟨g, 13, none⟩) := hd 3 (by omega) (by kernel_rfl)
              rw [e3]
              have q13' := (hb.cell (p := ⟨g, 13, none⟩) (lt_of_cell q13)).trans q13
              go_simp
              exact ⟨rfl, Below.refl _ _, fun h => by cases h⟩
            · go_simp
              exact ⟨rfl, Below.refl _ _, fun h => by cases h⟩
            · go_simp
              exact ⟨rfl, Below.refl _ _, fun h => by cases h⟩
            · have e6 : u 6 = .pointer (some ⟨w1.heap.size, 2, none⟩) := hd 6 (by omega) (by kernel_rfl)
              rw [e6]
              have q2' := (hb.cell (p := ⟨w1.heap.size, 2, none⟩) (lt_of_cell q2)).trans q2
              go_simp
              exact ⟨rfl, Below.refl _ _, fun h => by cases h⟩
            · go_simp
              exact ⟨rfl, Below.refl _ _, fun h => by cases h⟩
            · have e8 : u 8 = .pointer (some ⟨g, 0, none⟩) := hd 8 (by omega) (by kernel_rfl)
              rw [e8]
              go_simp
              exact ⟨rfl, Below.refl _ _, fun h => by cases h⟩
            · have e9 : u 9 = .pointer (some ⟨g, 0, none⟩) := hd 9 (by omega) (by kernel_rfl)
              rw [e9]
              go_simp
              exact ⟨rfl, Below.refl _ _, fun h => by cases h⟩
            · have e10 : u 10 = .pointer (some ⟨g, 12, none⟩) := hd 10 (by omega) (by kernel_rfl)
              rw [e10]
              go_simp
              exact ⟨rfl, Below.refl _ _, fun h => by cases h⟩
            · have e11 : u 11 = .pointer (some ⟨g, 13, none⟩) := hd 11 (by omega) (by kernel_rfl)
              rw [e11]
              have q13' := (hb.cell (p := ⟨g, 13, none⟩) (lt_of_cell q13)).trans q13
              go_simp
              exact ⟨rfl, Below.refl _ _, fun h => by cases h⟩
            · go_simp
              exact ⟨rfl, Below.refl _ _, fun h => by cases h⟩
            · have e12 : u 12 = .slice (some ⟨G2.hh, 0, none⟩) n n := hd 12 (by omega) (by kernel_rfl)
              have e13 : u 13 = .int .i64 (P : Int) := hd 13 (by omega) (by kernel_rfl)
              rw [e12, e13]
              go_simp
              exact ⟨rfl, Below.refl _ _, fun h => by cases h⟩
            · have e14 : u 14 = .pointer (some ⟨G2.hh, P, none⟩) := hd 14 (by omega) (by kernel_rfl)
              rw [e14]
              have qh' := (hb.cell (p := ⟨G2.hh, P, none⟩) (lt_of_cell qh)).trans qh
              go_simp
              exact ⟨rfl, Below.refl _ _, fun h => by cases h⟩
            · go_simp
              exact ⟨rfl, Below.refl _ _, fun h => by cases h⟩
            · have e7 : u 7 = .func (.func 46) #[] #[] := hd 7 (by omega) (by kernel_rfl)
              have e15 : u 15 = .slice (G2.Sh P).a (G2.Sh P).n (G2.Sh P).c := hd 15 (by omega) (by kernel_rfl)
              have e16 : u 16 = .slice xa xn xc := hd 16 (by omega) (by kernel_rfl)
              rw [e7, e15, e16]
              go_simp
              refine (instead_any _ _ _).mono ?_
              rintro e w4 ⟨rfl, hw4⟩
              obtain rfl := hw4.symm
              exact ⟨rfl, Below.refl _ _, fun h => by cases h⟩
            · have e4 : u 4 = .slice (some ⟨G2.hh, 0, none⟩) n n := hd 4 (by omega) (by kernel_rfl)
              have e5 : u 5 = .int .i64 (P : Int) := hd 5 (by omega) (by kernel_rfl)
              rw [e4, e5]
              go_simp
              exact ⟨rfl, Below.refl _ _, fun h => by cases h⟩
          case rest =>
            intro u wz hb hf hp
            have f0 : u 0 = .pointer (some ⟨g, 0, none⟩) := hf 0 (by omega)
            have f1 : u 1 = .pointer (some ⟨g, 0, none⟩) := hf 1 (by omega)
            have f2 : u 2 = .pointer (some ⟨g, 12, none⟩) := hf 2 (by omega)
            have f3 : u 3 = .pointer (some ⟨g, 13, none⟩) := hf 3 (by omega)
            have f4 : u 4 = .slice (some ⟨G2.hh, 0, none⟩) n n := hf 4 (by omega)
            have f5 : u 5 = .int .i64 (P : Int) := hf 5 (by omega)
            have f6 : u 6 = .pointer (some ⟨w1.heap.size, 2, none⟩) := hf 6 (by omega)
            have f7 : u 7 = .func (.func 46) #[] #[] := hf 7 (by omega)
            have f8 : u 8 = .pointer (some ⟨g, 0, none⟩) := hf 8 (by omega)
            have f9 : u 9 = .pointer (some ⟨g, 0, none⟩) := hf 9 (by omega)
            have f10 : u 10 = .pointer (some ⟨g, 12, none⟩) := hf 10 (by omega)
            have f11 : u 11 = .pointer (some ⟨g, 13, none⟩) := hf 11 (by omega)
            have f12 : u 12 = .slice (some ⟨G2.hh, 0, none⟩) n n := hf 12 (by omega)
            have f13 : u 13 = .int .i64 (P : Int) := hf 13 (by omega)
            have f14 : u 14 = .pointer (some ⟨G2.hh, P, none⟩) := hf 14 (by omega)
            have f15 : u 15 = .slice (G2.Sh P).a (G2.Sh P).n (G2.Sh P).c := hf 15 (by omega)
            have f16 : u 16 = .slice xa xn xc := hf 16 (by omega)
            have f17 : u 17 = .slice xa xn xc := hf 17 (by omega)
            have f18 : u 18 = .pointer (some ⟨G2.hh, P, none⟩) := hf 18 (by omega)
            refine UptoW.rest 1 19 (by rfl) (by kernel_rfl) ?_
            simp only [List.take, List.drop, putOps, Act.put, List.setIfInBounds_toArray, List.set_cons_zero, List.set_cons_succ, Nat.reduceAdd, f0, f1, f2, f3, f4, f5, f6, f7, f8, f9, f10, f11, f12, f13, f14, f15, f16, f17, f18]
            clear f0 f1 f2 f3 f4 f5 f6 f7 f8 f9 f10 f11 f12 f13 f14 f15 f16 f17 f18 hf hp
            have HBZ := hide hb
            have zf : wz.frozen? ⟨G2.hh, P, none⟩ = false := (hb.frozen (p := ⟨G2.hh, P, none⟩) (lt_of_cell qh)).trans qf
            have zh := (hb.cell (p := ⟨G2.hh, P, none⟩) (lt_of_cell qh)).trans qh
            clear hb
            go_upto_region 6 with fail
            have hm4 := (HM3.out.below HBZ.out).instead hPl (by rw [HT.out.2.2.1]; exact HK1.out.lp) ⟨xa, xn, xc⟩ xs (HX3.out.below HBZ.out) HXF.out HA2.out HB2.out
            have hx4 : Num (wz.setCell ⟨G2.hh, P, none⟩ (Sl.v ⟨xa, xn, xc⟩)) ⟨xa, xn, xc⟩ xs := (HX3.out.below HBZ.out).keep fun b hO => Below.heap_setCell _ _ _ _ ((HM3.out.rowH.keep (HBZ.out.block _ HM3.out.rowH.lt)).ne (HX3.out.below HBZ.out) hO)
            unfold Sl.v at hm4 hx4
            simp only at hm4 hx4
            have hw4 : Wr F W (wz.setCell ⟨G2.hh, P, none⟩ (.slice xa xn xc)) := (HW3.out.below HBZ.out).set HM3.out.fhh _
            obtain ⟨V4, hV4⟩ : ∃ V, V = wz.setCell ⟨G2.hh, P, none⟩ (.slice xa xn xc) := ⟨_, rfl⟩
            rw [← hV4] at hm4 hx4 hw4 ⊢
            have HM4 := hide hm4
            have HX4 := hide hx4
            have HW4 := hide hw4
            obtain ⟨⟨-, -, -, -, -⟩, ⟨-, -, -, m10, -⟩, m0, mf⟩ := mb_cells hm4
            have mf10 := mf 10
            rw [show ({ t1 with parts := t1.parts.set P xs } : St).taken = T from HT.out.1.trans HTT.out.symm] at m10
            clear hm4 hx4 hw4 hV4 mf zf zh
            have wT : wrap64 ((T : Int) + 1) = (T : Int) + 1 := by (have h30 := notN_le (d := d) h16; exact wrap_small (by omega) (by omega))
            go_wp2
            go_roundw
            case rel =>
              have hsm : sumsB d n t.taken = false := by rw [← HTT.out]; exact HSM.out
              refine ⟨useM d n me t xs, { G2 with Sh := upS G2.Sh P ⟨xa, xn, xc⟩, Ss := if d = 4 then G2.Ss else upS G2.Ss P ⟨xa, xn, xc⟩ }, ?_, HK1.out.use xs HLS.out, ?_, ?_⟩
              rotate_left
              · rw [HD.out]
                exact drainA_some d n me t xs HLS.out (by rw [← HTT.out]; exact hlt)
              · exact HW4.out.set HM3.out.fg _
              · rw [HTT.out]
                refine use_end HM4.out xs HT.out.1 HT.out.2.1 HT.out.2.2.2 (by rw [HE.out]) ?_ HNO2.out (fun e k hk1 hk2 => ?_)
                · show t1.parts.set P xs = _
                  rw [HT.out.2.2.1, hsm, ← HTT.out, HPT.out]
                  rfl
                · have ek : k = P := by exact absurd e h4
                  show Num V4 (upS G2.Sh P ⟨xa, xn, xc⟩ k) (prt (t1.parts.set P xs) k)
                  rw [prt_set (by rw [HT.out.2.2.1, HK1.out.lp]; exact hPl), if_pos ek]
                  unfold upS
                  rw [if_pos ek]
                  exact HX4.out
            case measure => exact measure_less (by rw [HTT.out]; exact HC10.out) hlt m10
        | true =>
          have hu := hul.1 hsm
          have hd3 : d ≠ 3 := fun e => by rw [e] at hsm; simp [sumsB] at hsm
          clear hul
          have hr := round_any g F d n me t1 G2 V1 HM1.out n2 h16 T hlt
          rw [hu] at hr
          have HSM := hide hsm
          clear hsm
          unfold fv pm at hr
          have HR := hide hr
          clear hr hu
          go_upto_region 4 with (first | (go_at_call 33; refine HR.out.mono ?_; rintro e w1 ⟨rfl, hb⟩; have HBR := hide hb; clear hb))
          obtain ⟨V2, hV2⟩ : ∃ V, V = w1.alloc (.cells #[.func (.func (farF d (T / (n - 1)))) #[] #[], .func (.func (pceF d (T / (n - 1)))) #[] #[], .func (.func 44) #[] #[]] 88) := ⟨_, rfl⟩
          rw [← hV2]
          have hb2 : Below V1.heap.size V1 V2 := by rw [hV2]; exact HBR.out.alloc HBR.out.size _
          have hm2 : MbAt V2 F g d n me t1 G2 := HM1.out.below hb2
          have r2 : V2.cell? ⟨w1.heap.size, 2, none⟩ = some (.func (.func 44) #[] #[]) := by rw [hV2]; exact box_cell w1 _ _ 2 _ rfl
          have HB2' := hide hb2
          have HM2 := hide hm2
          have cl := mb_cells hm2
          obtain ⟨⟨-, -, -, -, -, a5, -⟩, ⟨-, -, -, a10, -, -, a13⟩, a0, -⟩ := cl
          rw [HT.out.1, ← HTT.out] at a10
          unfold fv at a5
          rw [show plcF d = 51 from hp] at a5
          have b5 : ∀ p, (gw V2 p).cell? ⟨g, 5, none⟩ = some (.func (.func 51) #[] #[]) := fun p => gw_cell a5 p
          have b10 : ∀ p, (gw V2 p).cell? ⟨g, 10, none⟩ = some (.int .i64 (T : Int)) := fun p => gw_cell a10 p
          have HC : Hid (∀ p, MbAt (gw V2 p) F g d n me t1 G2) := fun p => hm2.below (gw_below _ _)
          have cs13 : V2.cell? ⟨g, 13, none⟩ = some (.slice (some ⟨G2.hh, 0, none⟩) n n) := a13
          have HC13 := hide cs13
          have HR2 := hide r2
          clear a13 cs13 r2 hV2 hb2 hm2 a5 a10 e10 y0 hp
          have ine : Nonempty GwP := ⟨⟨#[], 0⟩⟩
          refine wp_region_gw (by kernel_rfl) (by kernel_rfl) ?_
          repeat (quiet_step (first | (go_at_call 58; exact Calls.gw_of (comes_any g F d n me t1 G2 _ (HC.out _) d1 d4 n2 h16 hme T hlt)) | (go_at_call 51; exact Calls.gw_same (k8_any _ _ _))))
          refine wpQuiet_nil ?_
          intro _ hw'
          obtain ⟨pq, hw''⟩ := hw'
          subst hw''
          clear b5 b10
          go_upto_region 5 with fail
          obtain ⟨V3, hV3⟩ : ∃ V, V = gw V2 pq := ⟨_, rfl⟩
          rw [← hV3]
          obtain ⟨P, hP⟩ : ∃ P, P = sendN d n (fromN d n me T) T := ⟨_, rfl⟩
          rw [← hP]
          have hPt : takeN d n me T = P := by rw [hP]; unfold takeN; rw [if_neg h4]
          have hPl : P < n := by rw [← hPt]; exact takeN_lt (by omega)
          have hm3 : MbAt V3 F g d n me t1 G2 := by rw [hV3]; exact HC.out pq
          have hb3 : Below V1.heap.size V1 V3 := by rw [hV3]; exact bl_on HB2'.out (gw_below _ _)
          have hw3 : Wr F W V3 := HW1.out.below hb3
          have hx3 : Num V3 ⟨xa, xn, xc⟩ xs := HX1.out.below hb3
          have q2 : V3.cell? ⟨w1.heap.size, 2, none⟩ = some (.func (.func 44) #[] #[]) := by rw [hV3]; exact gw_cell HR2.out pq
          have q13 : V3.cell? ⟨g, 13, none⟩ = some (.slice (some ⟨G2.hh, 0, none⟩) n n) := by rw [hV3]; exact gw_cell HC13.out pq
          have qh : V3.cell? ⟨G2.hh, P, none⟩ = some (.slice (G2.Sh P).a (G2.Sh P).n (G2.Sh P).c) := hm3.rowH.cell hPl
          have qf : V3.frozen? ⟨G2.hh, P, none⟩ = false := hm3.rowH.frozen P
          have HM3 := hide hm3
          have HW3 := hide hw3
          have HX3 := hide hx3
          have HPT := hide hPt
          have HPP := hide hP
          have hPz : (P : Int) < (n : Int) := by omega
          clear hV3 hb3 hw3 hx3 hm3 hPt hP HC
          have ng : g ≠ G2.hh := fun e => by
            obtain ⟨cur, hc, _⟩ := HM3.out.rowH
            have hb := HM3.out.blk
            rw [e, hc] at hb
            simp at hb
          have nr : w1.heap.size ≠ G2.hh := fun e => by
            have h5 := HM1.out.rowH.lt
            have h6 := HBR.out.size
            omega
          have hnum : Num V3 (G2.Sh P) (prt t1.parts P) := (HM3.out.has P hPl).1 (.inl h4)
          have hlen : (G2.Sh P).n = xn := by
            rw [← hnum.len, HT.out.2.2.1]
            have h5 := HK1.out.fit hd3 t.taken xs (Nat.le_refl _) HLS.out
            rw [← HTT.out, HPT.out] at h5
            rw [← h5]
            exact HX3.out.len
          have h65 : xn ≤ 65536 := by rw [show xn = xs.length from HX3.out.len.symm]; exact HK1.out.esmall _ _ HLS.out
          have hadd := added_any (G2.Sh P) ⟨xa, xn, xc⟩ _ _ V3.drew (hnum.below (below_draws (Below.refl _ _) 1)) (HX3.out.below (below_draws (Below.refl _ _) 1)) hlen (HA2.out P hPl).symm h65
          unfold Sl.v at hadd
          simp only at hadd
          have HADD := hide hadd
          have HNUM := hide hnum
          clear hadd hnum hlen h65
          have nog : ¬ (G2.Sh P).On g := fun hO => by
            obtain ⟨cur, hc⟩ := HNUM.out.blk g hO
            have hb := HM3.out.blk
            rw [hc] at hb
            simp at hb
          have noh : ¬ (G2.Sh P).On G2.hh := fun hO => HM3.out.rowH.ne HNUM.out hO rfl
          have nor : ¬ (G2.Sh P).On w1.heap.size := fun hO => by
            have h5 := (HNUM.out.blk _ hO)
            have h6 := ((HM1.out.has P hPl).1 (.inl h4)).lt hO
            have h7 := HBR.out.size
            omega
          have HNOG := hide nog
          have HNOH := hide noh
          have HNOR := hide nor
          clear nog noh nor
          go_region_held3 (fun w' => w'.cell? ⟨g, 13, none⟩ = some (.slice (some ⟨G2.hh, 0, none⟩) n n) ∧ w'.cell? ⟨w1.heap.size, 2, none⟩ = some (.func (.func 44) #[] #[]) ∧ w'.cell? ⟨G2.hh, P, none⟩ = some (.slice (G2.Sh P).a (G2.Sh P).n (G2.Sh P).c)) (refine ⟨?_, ?_, ?_⟩ <;> with_reducible (first | assumption | (apply drew_cell; assumption) | (refine set_ne_cell ?_ ?_ <;> assumption) | (refine set_same_cell ?_; assumption))) ((go_at_call 44; refine HADD.out.mono ?_; rintro e w4 ⟨rfl, hwr, hn4⟩; have k13 : w4.cell? ⟨g, 13, none⟩ = some (.slice (some ⟨G2.hh, 0, none⟩) n n) := (World.cell?_of_block (w := V3.drew) (hwr.block g HNOG.out)).trans q13; have k2 : w4.cell? ⟨w1.heap.size, 2, none⟩ = some (.func (.func 44) #[] #[]) := (World.cell?_of_block (w := V3.drew) (hwr.block _ HNOR.out)).trans q2; have kh : w4.cell? ⟨G2.hh, P, none⟩ = some (.slice (G2.Sh P).a (G2.Sh P).n (G2.Sh P).c) := (World.cell?_of_block (w := V3.drew) (hwr.block _ HNOH.out)).trans qh; have kf : w4.frozen? ⟨G2.hh, P, none⟩ = false := (frozen_of_block (w := V3.drew) (hwr.block _ HNOH.out)).trans qf; have HWR := hide hwr; have HN4 := hide hn4; clear hwr hn4))
          rw [set_same kh]
          have hm4 := (HM3.out.below (below_draws (Below.refl _ _) 1)).added h4 hPl (by rw [HT.out.2.2.1]; exact HK1.out.lp) HWR.out _ HN4.out
          have HM4 := hide hm4
          obtain ⟨⟨-, -, -, -, -⟩, ⟨-, -, -, m10, -⟩, m0, mf⟩ := mb_cells hm4
          have mf10 := mf 10
          rw [show ({ t1 with parts := t1.parts.set P (addW (prt t1.parts P) xs) } : St).taken = T from HT.out.1.trans HTT.out.symm] at m10
          clear hm4 mf kh kf k13 k2
          have wT : wrap64 ((T : Int) + 1) = (T : Int) + 1 := by (have h30 := notN_le (d := d) h16; exact wrap_small (by omega) (by omega))
          go_wp2
          go_roundw
          case rel =>
            have hsm : sumsB d n t.taken = true := by rw [← HTT.out]; exact HSM.out
            refine ⟨useM d n me t xs, G2, ?_, HK1.out.use xs HLS.out, ?_, ?_⟩
            · rw [HTT.out]
              refine use_end HM4.out xs HT.out.1 HT.out.2.1 HT.out.2.2.2 (by rw [HE.out]) ?_ HNO2.out (fun e => absurd e h4)
              show t1.parts.set P _ = _
              rw [HT.out.2.2.1, if_pos hsm, ← HTT.out, HPT.out]
            · rw [HD.out]
              exact drainA_some d n me t xs HLS.out (by rw [← HTT.out]; exact hlt)
            · exact ((HW3.out.draws 1).wrote HWR.out (fun b hO => ((HM3.out.has P hPl).2 b hO).1)).set HM3.out.fg _
          case measure => exact measure_less (by rw [HTT.out]; exact HC10.out) hlt m10
end Go.Proofs.Yticcoacoepajpaa.V
