/-
  order.inTurn: its contract. Statements that do what is done at spots. Towards order.Run: memory, its box, spots beside it.
-/
import Derived.Test.YtoidgdbgpbcebaaK36
import Derived.Test.YtoidgdbgpbcebaaK25
import Derived.Test.YtoidgdbgpbcebaaK24
import Derived.Test.YtoidgdbgpbcebaaK11
namespace Go.Proofs.Ytoidgdbgpbcebaa.V
open Go Go.Shelf Go.RowKit Go.Lib Go.Sort Go.Proofs Go.Proofs.Ytoidgdbgpbcebaa.S
set_option linter.unusedVariables false

theorem stab_pt {T : Tms} {L L' : List PT} (hp : L.Perm L') (hc : ∀ τ, L.filter (fun x => eq8 x.1.tm τ) = L'.filter (fun x => eq8 x.1.tm τ)) (ht : ∀ x ∈ L, x.1.tm = spT T x.2) : Stab T (L.map (·.2)) (L'.map (·.2)) := by
  refine ⟨hp.map _, fun τ => ?_⟩
  have e : ∀ M : List PT, (∀ x ∈ M, x.1.tm = spT T x.2) → (M.map (·.2)).filter (fun y => eq8 (spT T y) τ) = (M.filter (fun x => eq8 x.1.tm τ)).map (·.2) := fun M hM => by
    rw [List.filter_map]
    congr 1
    refine List.filter_congr fun x hx => ?_
    show eq8 (spT T x.2) τ = _
    rw [← hM x hx]
  rw [e L ht, e L' (fun x hx => ht x (hp.mem_iff.2 hx)), hc]
set_option maxRecDepth 100000 in
set_option maxHeartbeats 8000000 in
theorem inTurn_any (T : Tms) (mix : List Int) (xa : Option Addr) (xl xc : Nat) (g cap : Nat) (L : List PT) (w : World) (hne : L ≠ []) (h : RowS w g L.length (wds L)) (hx : Ints w xa xl mix) (hxg : 0 < xl → ∀ b o, xa = some ⟨b, o, none⟩ → b ≠ g) (hcap : L.length ≤ cap) (hc9 : cap ≤ 9223372036854775807) (hsz : L.length ≤ 100000) (htm : ∀ x ∈ L, x.1.tm = spT T x.2) :
    Calls Try.prog 19 #[.slice (some ⟨g, 0, none⟩) L.length cap, .slice xa xl xc] w fun e w' => ∃ (hh : Nat) (D : List PT), e = .returned (.slice (some ⟨hh, 0, none⟩) L.length L.length) ∧ w.heap.size ≤ hh ∧ RowS w' hh L.length (wds D) ∧ D.map (·.2) = playL T mix L.length 0 (L.map (·.2)) ∧ D.Perm L ∧ Rw g w w' := by
  have HS := hide (sort_any g cap L w h (by omega))
  have hgw := h.lt
  have HX := hide hx
  have HXG : Hid (0 < xl → ∀ b o, xa = some ⟨b, o, none⟩ → b ≠ g ∧ b < w.heap.size) := fun q b o e => by
    refine ⟨hxg q b o e, ?_⟩
    obtain ⟨b2, off, e2, h5⟩ := hx.2.2.2.resolve_left (by omega)
    rw [e] at e2
    cases e2
    exact lt_of_cell (h5 0 q)
  have HTM := hide htm
  have hLpos := List.length_pos_iff.2 hne
  obtain ⟨n, hn⟩ : ∃ n, n = L.length := ⟨_, rfl⟩
  have HN := hide hn
  rw [← hn] at HS hcap hsz hLpos ⊢
  obtain ⟨C, hC⟩ : ∃ C, C = playL T mix n 0 (L.map (·.2)) := ⟨_, rfl⟩
  rw [← hC]
  have HCC := hide hC
  clear h hx hxg htm hne hn hC
  obtain ⟨i0, hi, hz0, hz1, hz2⟩ := info_parts info_T
  go_enter Try.func19, Try.ntmps19
  go_wp2_with fail
  refine HS.out.mono ?_
  rintro e w1 ⟨rfl, L', hrow, hrw, hperm, hcls, hsort⟩
  have HR1 := hide hrow
  have HRW1 := hide hrw
  have HSORT := hide hsort
  have HPERM := hide hperm
  have HST := hide (stab_pt hperm hcls HTM.out)
  have hl' : L'.length = n := by rw [← hperm.length_eq]; exact HN.out.symm
  clear hrow hrw hsort hperm hcls HS
  go_wp2_with fail
  refine (picker_any xa xl xc w1).mono ?_
  rintro e w2 ⟨rfl, hbx, hask, hb2, hz2'⟩
  have HBX := hide hbx
  have HASK := hide hask
  have HB2 := hide hb2
  have HR2 := hide (HR1.out.below hb2)
  clear hbx hask hb2
  go_wp2_with (first | (at_make; refine wpList_make_own _ rfl _ _ 48 rfl w2.heap.size 59 i0 (.agg twD.cs) 15 Try.underlying48 hi hz0 hz1 .i64 .i64 _ n rfl rfl rfl (by rw [hz2]; omega) (by unfold maxLen; omega) (Nat.le_refl _) ?_; intro w3 hown hgr) | fail)
  obtain ⟨N, hN⟩ : ∃ N, N = w1.heap.size := ⟨_, rfl⟩
  obtain ⟨hh, hhh⟩ : ∃ hh, hh = w2.heap.size := ⟨_, rfl⟩
  rw [← hN] at HBX HASK hz2'
  rw [← hhh] at hown hz2'
  rw [← hN, ← hhh]
  have HP : Hid (Places w g N hh xa xl) := ⟨hgw, by rw [hN]; exact HRW1.out.grown.size, by omega, HXG.out⟩
  have B3 : Below w2.heap.size w2 w3 := ⟨hgr.os, hgr.tape, hgr.output, hgr.size, fun i hi => hgr.block i hi (by simp)⟩
  have HR3 := hide (HR2.out.below B3)
  have HM3 : Hid (MS w w3 g N hh n xa xl xc mix []) := by
    refine ⟨⟨?_, fun j hj => by simp at hj⟩, ?_, ?_, ?_, ?_⟩
    · rcases hown.2 with ⟨e, _⟩ | ⟨g', cp, cur, e, _, e2, _, _, e5, _⟩
      · cases e
      · cases e
        exact ⟨cur, e2, by omega⟩
    · have e : askT mix ([] : List PT).length = 0 := by unfold askT; simp
      rw [e]
      exact (B3.block _ (lt_of_heap HASK.out)).trans HASK.out
    · exact (World.cell?_of_block (a := ⟨N, 0, none⟩) (B3.block N (lt_of_cell HBX.out))).trans HBX.out
    · exact ((ints_rw HX.out HRW1.out (fun q b o e => (HXG.out q b o e).1)).below HB2.out).below B3
    · exact (HRW1.out.trans (Rw.of_below HR1.out.lt HB2.out)).trans (Rw.of_below HR2.out.lt B3)
  have HT3 : Hid (TS T mix L [] [] L' C) := by
    refine ⟨?_, by simpa using HPERM.out.symm, HTM.out⟩
    rw [HCC.out, play_stab T mix n 0 _ _ HST.out]
    simp [hl']
  have HF3 : Hid (RowF w3 g n [] L' 0 0 (wds L')) := ⟨HR3.out, fun j hj => by simp at hj, fun j _ => by rw [Nat.zero_add], Nat.le_refl _, by omega⟩
  clear hown hgr B3 HB2 HBX HASK HR1 HR2 HR3 HST HX hN hhh HXG HTM HRW1 hz2' hi hz0 hz1 hz2 hgw
  have eP : ∀ args w, (callFunc 79 args).run Try.prog w = .ok (.enter 79 args) w := enters_of Try.func79 (by kernel_rfl) rfl
  have HAT := hide (fun (us : Nat → TW) (o m c : Nat) (W : World) (h : RowS W g n us) => atOnce_any g n us o m c W h)
  go_loopg [0, 6] n (fun kx va vo wr => ∃ (A : Option Addr) (o c : Nat) (D R : List PT) (us : Nat → TW), va = .slice A R.length c ∧ vo = .slice (some ⟨hh, 0, none⟩) D.length n ∧ Hid (0 < R.length → A = some ⟨g, o * 15, none⟩) ∧ R.length ≤ c ∧ c ≤ 9223372036854775807 ∧ D.length + R.length = n ∧ R.length ≤ kx ∧ Hid (MS w wr g N hh n xa xl xc mix D) ∧ Hid (RowF wr g n [] R o o us) ∧ Hid (TS T mix L D [] R C) ∧ Hid (R.Pairwise (fun a b => befB b.1.tm a.1.tm = false)))
  case atStart => exact ⟨some ⟨g, 0, none⟩, 0, cap, [], L', wds L', by rw [hl'], rfl, fun _ => by rw [Nat.zero_mul], by omega, hc9, by simpa using hl', by omega, HM3, HF3, HT3, HSORT⟩
  case round =>
    clear HM3 HF3 HT3 HSORT HPERM hl'
    obtain ⟨A, o, c, D, R, us, rfl, rfl, HA, hRc, hcm, hDR, hRk, HM, HF, HT, HSO⟩ := hrel
    obtain ⟨rl, hrl⟩ : ∃ rl, rl = R.length := ⟨_, rfl⟩
    obtain ⟨dl, hdl⟩ : ∃ dl, dl = D.length := ⟨_, rfl⟩
    have HRL := hide hrl
    have HDL := hide hdl
    rw [← hrl] at HA hRc hDR hRk ⊢
    rw [← hdl] at hDR ⊢
    have hall := HF.out.all
    rw [← hrl] at hall
    clear hrl hdl
    by_cases hR : 0 < rl
    · have hA := HA.out hR
      subst hA
      have hRz : (rl : Int) > 0 := by omega
      have hRz' : (0 : Int) < (rl : Int) := by omega
      clear HA
      go_wp2_with fail
      refine (HAT.out us o rl c wr HF.out.row (by omega) hR (by omega)).mono ?_
      rintro e w4 ⟨⟨k, rfl, hk0, hkR, ht1, ht2⟩, hb4⟩
      have HM4 := hide (HM.out.below HP.out hb4)
      have hrest := HF.out.rest
      have e0 : us o = wds R 0 := by have := hrest 0 (by rw [← HRL.out]; exact hR); rwa [Nat.add_zero] at this
      have hsp := split_times HSO.out (k := k) hk0 (by rw [← HRL.out]; exact hkR) (fun j hj => by have := ht1 j hj; rw [hrest j (by rw [← HRL.out]; omega), e0] at this; exact this) (fun hj => by have := ht2 (by rw [HRL.out]; exact hj); rw [hrest k hj, e0] at this; exact this)
      obtain ⟨R2, hR2⟩ : ∃ R2, R2 = R.drop k := ⟨_, rfl⟩
      obtain ⟨τ, hτ⟩ : ∃ τ, τ = (wds R 0).tm := ⟨_, rfl⟩
      rw [← hR2, ← hτ] at hsp
      have HSP2 := hide hsp.2
      have hFk : (R.take k).length = k := by rw [List.length_take, ← HRL.out]; omega
      have hR2l : R2.length = rl - k := by rw [hR2, List.length_drop, ← HRL.out]
      have HTF : Hid (TS T mix L D (R.take k) R2 C) := by rw [hR2]; exact HT.out.next k
      have HRF : Hid (RowF w4 g n (R.take k) R2 o (o + k) us) := by
        refine ⟨HF.out.row.below hb4, fun j hj => ?_, fun j hj => ?_, by rw [hFk]; exact Nat.le_refl _, by omega⟩
        · rw [hFk] at hj
          rw [hrest j (by rw [← HRL.out]; omega)]
          unfold wds
          rw [List.getElem?_take, if_pos hj]
        · rw [hR2l] at hj
          rw [Nat.add_assoc, hrest (k + j) (by rw [← HRL.out]; omega), hR2]
          unfold wds
          rw [List.getElem?_drop]
      have HSO2 : Hid (R2.Pairwise (fun a b => befB b.1.tm a.1.tm = false)) := by rw [hR2]; exact HSO.out.sublist (List.drop_sublist k R)
      have HSP1 : Hid (∀ x ∈ R.take k, eq8 x.1.tm τ = true) := hsp.1
      have hkz : (k : Int) ≤ (c : Int) := by omega
      have hkc : k ≤ c := by omega
      obtain ⟨F0, hF0⟩ : ∃ F0, F0 = R.take k := ⟨_, rfl⟩
      rw [← hF0] at hFk HTF HRF HSP1
      clear ht1 ht2 hb4 HM HF HT HSO hrest e0 hsp hR2 hτ hF0 hRz hRz'
      go_wp2_with fail
      go_loopg [8, 6] k (fun kx vl vo wr => ∃ (D2 F : List PT) (us2 : Nat → TW), vl = .slice (some ⟨g, o * 15, none⟩) F.length c ∧ vo = .slice (some ⟨hh, 0, none⟩) D2.length n ∧ F.length ≤ k ∧ F.length ≤ kx ∧ D2.length + F.length + (rl - k) = n ∧ Hid (MS w wr g N hh n xa xl xc mix D2) ∧ Hid (RowF wr g n F R2 o (o + k) us2) ∧ Hid (TS T mix L D2 F R2 C) ∧ Hid (∀ x ∈ F, eq8 x.1.tm τ = true))
      case atStart => exact ⟨D, F0, us, by rw [hFk], by rw [← HDL.out], by omega, by omega, by rw [hFk, ← HDL.out]; omega, HM4, HRF, HTF, HSP1⟩
      case round =>
        clear HM4 HRF HTF HSP1 hFk
        obtain ⟨D2, F, us2, rfl, rfl, hFk, hFx, hcnt, HM, HRF, HTF, HSP1⟩ := hrel
        obtain ⟨fl, hfl⟩ : ∃ fl, fl = F.length := ⟨_, rfl⟩
        obtain ⟨d2, hd2⟩ : ∃ d2, d2 = D2.length := ⟨_, rfl⟩
        have HFL := hide hfl
        have HD2 := hide hd2
        rw [← hfl] at hFk hFx hcnt ⊢
        rw [← hd2] at hcnt ⊢
        have hfit := HRF.out.fit
        rw [← hfl] at hfit
        by_cases hf0 : 0 < fl
        · have hFz : (fl : Int) > 0 := by omega
          have hFz' : (0 : Int) < (fl : Int) := by omega
          have hFne : F ≠ [] := List.length_pos_iff.1 (by rw [← hfl]; exact hf0)
          have hask := HM.out.ask
          rw [← hd2] at hask
          have hp := pick1 N (N + 1) xa xl xc mix d2 fl wr HM.out.bx HM.out.mix_ hask hf0 (by omega) (by omega)
          obtain ⟨q, hq⟩ : ∃ q, q = pickK mix d2 fl := ⟨_, rfl⟩
          have hqf : q < fl := by rw [hq]; exact pickK_lt mix d2 hf0
          rw [← hq] at hp
          have HPK : Hid (q = pickK mix D2.length F.length) := by rw [Hid, ← hd2, ← hfl]; exact hq
          clear hask hq hfl hd2
          go_wp2_with fail
          refine hp.mono ?_
          rintro e wp ⟨rfl, hap, hrwp⟩
          obtain ⟨x, hxx⟩ : ∃ x, x = F[q]?.getD ptD := ⟨_, rfl⟩
          have hPg := HP.out.gN
          have hPN := HP.out.N0
          have hPh := HP.out.hN
          have hrp := HRF.out.row.rw_ hrwp (by omega)
          have hcs : ∀ i, i < 15 → wp.cell? ⟨g, o * 15 + q * 15 + i, none⟩ = x.1.cs[i]? := by
            have h1 := hrp.tat (o := o) (j := q) (by omega)
            rw [HRF.out.front q (by rw [← HFL.out]; exact hqf)] at h1
            rw [hxx]
            exact h1
          have c0 : wp.cell? ⟨g, o * 15 + q * 15, none⟩ = some (.int .i64 x.1.stm) := hcs 0 (by omega)
          have cz0 := lt_of_cell c0
          have c1 : wp.cell? ⟨g, o * 15 + q * 15 + 1, none⟩ = some (.slice x.1.xa x.1.xl x.1.xc) := hcs 1 (by omega)
          have cz1 := lt_of_cell c1
          have c2 : wp.cell? ⟨g, o * 15 + q * 15 + 2, none⟩ = some (.int .i64 (x.1.tm 0)) := hcs 2 (by omega)
          have cz2 := lt_of_cell c2
          have c3 : wp.cell? ⟨g, o * 15 + q * 15 + 3, none⟩ = some (.int .i64 (x.1.tm 1)) := hcs 3 (by omega)
          have cz3 := lt_of_cell c3
          have c4 : wp.cell? ⟨g, o * 15 + q * 15 + 4, none⟩ = some (.int .i64 (x.1.tm 2)) := hcs 4 (by omega)
          have cz4 := lt_of_cell c4
          have c5 : wp.cell? ⟨g, o * 15 + q * 15 + 5, none⟩ = some (.int .i64 (x.1.tm 3)) := hcs 5 (by omega)
          have cz5 := lt_of_cell c5
          have c6 : wp.cell? ⟨g, o * 15 + q * 15 + 6, none⟩ = some (.int .i64 (x.1.tm 4)) := hcs 6 (by omega)
          have cz6 := lt_of_cell c6
          have c7 : wp.cell? ⟨g, o * 15 + q * 15 + 7, none⟩ = some (.int .i64 (x.1.tm 5)) := hcs 7 (by omega)
          have cz7 := lt_of_cell c7
          have c8 : wp.cell? ⟨g, o * 15 + q * 15 + 8, none⟩ = some (.int .i64 (x.1.tm 6)) := hcs 8 (by omega)
          have cz8 := lt_of_cell c8
          have c9 : wp.cell? ⟨g, o * 15 + q * 15 + 9, none⟩ = some (.int .i64 (x.1.tm 7)) := hcs 9 (by omega)
          have cz9 := lt_of_cell c9
          have c10 : wp.cell? ⟨g, o * 15 + q * 15 + 10, none⟩ = some (.int .i64 x.1.kd) := hcs 10 (by omega)
          have cz10 := lt_of_cell c10
          have c11 : wp.cell? ⟨g, o * 15 + q * 15 + 11, none⟩ = some (.int .i64 x.1.va) := hcs 11 (by omega)
          have cz11 := lt_of_cell c11
          have c12 : wp.cell? ⟨g, o * 15 + q * 15 + 12, none⟩ = some (.int .i64 x.1.pu.arr) := hcs 12 (by omega)
          have cz12 := lt_of_cell c12
          have c13 : wp.cell? ⟨g, o * 15 + q * 15 + 13, none⟩ = some (.int .i64 x.1.pu.pos) := hcs 13 (by omega)
          have cz13 := lt_of_cell c13
          have c14 : wp.cell? ⟨g, o * 15 + q * 15 + 14, none⟩ = some (.slice x.1.ga x.1.gl x.1.gc) := hcs 14 (by omega)
          have cz14 := lt_of_cell c14
          have hbA : Below wp.heap.size wp (wp.alloc (.cells x.1.cs 59)) := bl_new _
          have HOW := hide ((HM.out.out.rw_ hrwp (by omega)).below hbA)
          have HNX := hide (World.alloc_heap_new wp (.cells x.1.cs 59))
          have HMA : Hid (MS w ((wp.alloc (.cells x.1.cs 59)).setCells hh (d2 * 15) (twCs x.1)) g N hh n xa xl xc mix (D2 ++ [x])) := by
            have := HM.out.asked HP.out hrwp (by rw [← HD2.out]; exact hap) x (by rw [← HD2.out]; omega) hbA
            rw [← HD2.out] at this
            exact this
          have hRA : RowS ((wp.alloc (.cells x.1.cs 59)).setCells hh (d2 * 15) (twCs x.1)) g n us2 := (hrp.below hbA).rw_ (Rw.set _ _ _ HOW.out.lt) (by omega)
          have HDE := hide (delete_any g n us2 o fl c q _ hRA (by omega) hqf (by omega) hcm)
          have HRFA : Hid (∀ V, RowS V g n (outU us2 o q fl) → RowF V g n (F.eraseIdx q) R2 o (o + k) (outU us2 o q fl)) := fun V hV => by
            have := HRF.out.del (k := q) (by rw [← HFL.out]; exact hqf) (V := V) (by rw [← HFL.out]; exact hV)
            rw [← HFL.out] at this
            exact this
          have HTN : Hid (TS T mix L (D2 ++ [x]) (F.eraseIdx q) R2 C) := by
            have := HTF.out.pick hFne HSP1.out HSP2.out
            rw [← HPK.out, ← hxx] at this
            exact this
          have HSPN : Hid (∀ y ∈ F.eraseIdx q, eq8 y.1.tm τ = true) := fun y hy => HSP1.out y (List.mem_of_mem_eraseIdx hy)
          have hel : (F.eraseIdx q).length = fl - 1 := by rw [List.length_eraseIdx, if_pos (by rw [← HFL.out]; exact hqf), ← HFL.out]
          have hql : (q : Int) < (fl : Int) := by omega
          have hdn : d2 < n := by omega
          clear hap hrwp hrp hcs hbA hRA hxx HRF HTF HSP1 HM hFne hp
          go_wp2_with (first | (at_builtin; refine app_out rfl (.tmp 32) (.tmp 37) rfl hh n D2 x HOW.out (by rw [← HD2.out]; rfl) wp.heap.size rfl HNX.out (by rw [← HD2.out]; exact hdn) ?_; rw [← HD2.out]) | fail)
          refine HDE.out.mono ?_
          rintro e w6 ⟨rfl, hrow6, hrw6⟩
          have HM6 := hide (HMA.out.rowg HP.out hrw6)
          have HF6 := hide (HRFA.out w6 hrow6)
          clear hrow6 hrw6 HMA HRFA HDE HOW HNX
          clear c0 cz0 c1 cz1 c2 cz2 c3 cz3 c4 cz4 c5 cz5 c6 cz6 c7 cz7 c8 cz8 c9 cz9 c10 cz10 c11 cz11 c12 cz12 c13 cz13 c14 cz14
          go_wp2_with fail
          go_roundg (fl - 1)
          case measure => omega
          case rel => exact ⟨D2 ++ [x], F.eraseIdx q, _, by rw [hel], by rw [List.length_append, ← HD2.out]; rfl, by omega, by omega, by rw [List.length_append, ← HD2.out, hel]; simp only [List.length_cons, List.length_nil]; omega, HM6, HF6, HTN, HSPN⟩
        · have hFz : ¬ (fl : Int) > 0 := by omega
          have hFz' : ¬ (0 : Int) < (fl : Int) := by omega
          have hFe : F = [] := List.eq_nil_of_length_eq_zero (by rw [← hfl]; omega)
          have hfl0 : fl = 0 := by omega
          have HTE : Hid (TS T mix L D2 [] R2 C) := by have := HTF.out; rw [hFe] at this; exact this
          have HRE : Hid (RowF wr g n [] R2 (o + k) (o + k) us2) := ⟨HRF.out.row, fun j hj => by simp at hj, HRF.out.rest, Nat.le_refl _, HRF.out.all⟩
          have hkr : (k : Int) ≤ (rl : Int) := by omega
          have hkr' : k ≤ rl := by omega
          clear hfl hd2 HFL hFe HTF HRF
          subst hfl0
          by_cases hck : c = k
          · subst hck
            go_wp2_with fail
            go_roundg (rl - c)
            case measure => omega
            case rel => exact ⟨some ⟨g, o * 15, none⟩, o + c, 0, D2, R2, us2, by rw [hR2l]; first | rfl | (congr 1; omega), by rw [← HD2.out], fun h9 => absurd h9 (by omega), by omega, by omega, by rw [hR2l, ← HD2.out]; omega, by rw [hR2l]; exact Nat.le_refl _, HM, HRE, HTE, HSO2⟩
          · have hckb : ¬ c = k := hck
            go_wp2_with fail
            go_roundg (rl - k)
            case measure => omega
            case rel => exact ⟨_, o + k, c - k, D2, R2, us2, by rw [hR2l], by rw [← HD2.out], fun h9 => by rw [Nat.add_mul], by omega, by omega, by rw [hR2l, ← HD2.out]; omega, by rw [hR2l]; exact Nat.le_refl _, HM, HRE, HTE, HSO2⟩
    · have hRz : ¬ (rl : Int) > 0 := by omega
      have hRz' : ¬ (0 : Int) < (rl : Int) := by omega
      have hrl0 : rl = 0 := by omega
      have hRe : R = [] := List.eq_nil_of_length_eq_zero (by rw [← HRL.out]; exact hrl0)
      have HTE : Hid (TS T mix L D [] [] C) := by have := HT.out; rw [hRe] at this; exact this
      clear HRL hRe HT HF HA HSO
      subst hrl0
      go_wp2_with fail
      go_ret
      obtain ⟨t1, t2⟩ := HTE.out.done
      have hdn : dl = n := by omega
      refine ⟨hh, by rw [hdn]; rfl, ?_, D, HM.out.out.full (by rw [← HDL.out]; omega), t1, t2, HM.out.rw_⟩
      have h1 := HP.out.N0
      have h2 := HP.out.hN
      omega
end Go.Proofs.Ytoidgdbgpbcebaa.V
namespace Go.Proofs.Ytoidgdbgpbcebaa.V
open Go Go.RowKit
set_option linter.unusedVariables false

set_option maxRecDepth 100000 in
set_option maxHeartbeats 4000000 in
theorem eachTS (a : Option Addr) (len cap : Nat) (qs : Nat → TW) (g : Nat) (bs : Array Value) (eg : ∀ args w, (callFunc g args).run Try.prog w = .ok (.enter g args) w) (Q : Nat → SW → World → Prop) (w : World) (hlen : len * 128 ≤ 281474976710656)
    (hin : len = 0 ∨ ∃ b off, a = some ⟨b, off, none⟩ ∧ ∀ j, j < len → w.cell? ⟨b, off + j * 15, none⟩ = some (.int .i64 (qs j).stm) ∧ w.cell? ⟨b, off + j * 15 + 1, none⟩ = some (.slice (qs j).xa (qs j).xl (qs j).xc) ∧ w.cell? ⟨b, off + j * 15 + 2, none⟩ = some (.int .i64 ((qs j).tm 0)) ∧ w.cell? ⟨b, off + j * 15 + 3, none⟩ = some (.int .i64 ((qs j).tm 1)) ∧ w.cell? ⟨b, off + j * 15 + 4, none⟩ = some (.int .i64 ((qs j).tm 2)) ∧ w.cell? ⟨b, off + j * 15 + 5, none⟩ = some (.int .i64 ((qs j).tm 3)) ∧ w.cell? ⟨b, off + j * 15 + 6, none⟩ = some (.int .i64 ((qs j).tm 4)) ∧ w.cell? ⟨b, off + j * 15 + 7, none⟩ = some (.int .i64 ((qs j).tm 5)) ∧ w.cell? ⟨b, off + j * 15 + 8, none⟩ = some (.int .i64 ((qs j).tm 6)) ∧ w.cell? ⟨b, off + j * 15 + 9, none⟩ = some (.int .i64 ((qs j).tm 7)) ∧ w.cell? ⟨b, off + j * 15 + 10, none⟩ = some (.int .i64 (qs j).kd) ∧ w.cell? ⟨b, off + j * 15 + 11, none⟩ = some (.int .i64 (qs j).va) ∧ w.cell? ⟨b, off + j * 15 + 12, none⟩ = some (.int .i64 (qs j).pu.arr) ∧ w.cell? ⟨b, off + j * 15 + 13, none⟩ = some (.int .i64 (qs j).pu.pos) ∧ w.cell? ⟨b, off + j * 15 + 14, none⟩ = some (.slice (qs j).ga (qs j).gl (qs j).gc))
    (hcall : ∀ (j : Nat) (W : World), j < len → Below w.heap.size w W → w.heap.size < W.heap.size → Calls Try.prog g (#[(qs j).v] ++ bs) W fun e w' => (∃ u : SW, e = .returned u.v ∧ Lies W.heap.size (Q j u) w') ∧ Below W.heap.size W w') :
    Calls Try.prog 20 #[.slice a len cap, .func (.func g) #[] bs] w fun e w' => (∃ us : Nat → SW, e = .returned (.slice (some ⟨w.heap.size, 0, none⟩) len len) ∧ OutS8 w' w.heap.size len us len ∧ ∀ j, j < len → Lies (w.heap.size + 1) (Q j (us j)) w') ∧ Below w.heap.size w w' := by
  have HIN := hide hin
  have HCALL := hide hcall
  obtain ⟨i0, hi, hz0, hz1, hz2⟩ := info_parts info_S
  have hmk : ∀ W : World, (Instr.makeSlice 23 (.int .i64 (len : Int)) (.int .i64 (len : Int))).run Try.prog W = .ok (.slice (some ⟨W.heap.size, 0, none⟩) len len) (W.alloc (.cells (madeCells #[.slice none 0 0, .slice none 0 0, .int .i64 0, .int .i64 0, .int .i64 0, .slice none 0 0, .int .i64 0, .slice none 0 0] (len * 8)) 71)) := fun W => by
    have := run_make (P := Try.prog) W 23 71 i0 (.agg #[.slice none 0 0, .slice none 0 0, .int .i64 0, .int .i64 0, .int .i64 0, .slice none 0 0, .int .i64 0, .slice none 0 0]) Try.underlying23 hi hz0 .i64 .i64 len len (by omega) (by omega) (by rw [hz2]; omega) (by omega)
    simpa [hz1, Value.cells] using this
  have HROW : Hid (OutS8 (w.alloc (.cells (madeCells #[.slice none 0 0, .slice none 0 0, .int .i64 0, .int .i64 0, .int .i64 0, .slice none 0 0, .int .i64 0, .slice none 0 0] (len * 8)) 71)) w.heap.size len (fun _ => swD) 0) := ⟨fun i => (#[.slice none 0 0, .slice none 0 0, .int .i64 0, .int .i64 0, .int .i64 0, .slice none 0 0, .int .i64 0, .slice none 0 0] : Array Value)[i % 8]!, ⟨_, World.alloc_heap_new _ _, size_madeCells _ _, fun i hi => by simp [madeCells, hi]⟩, fun j hj => by omega⟩
  have HB0 : Hid (Below w.heap.size w (w.alloc (.cells (madeCells #[.slice none 0 0, .slice none 0 0, .int .i64 0, .int .i64 0, .int .i64 0, .slice none 0 0, .int .i64 0, .slice none 0 0] (len * 8)) 71))) := bl_new _
  clear hin hcall hi hz0 hz1 hz2
  go_enter Try.func20, Try.ntmps20
  go_wp2_with fail
  clear hmk
  go_loopw [13] (fun i wr => ∃ k : Nat, k ≤ len ∧ i = .int .i64 k ∧ (∃ us, OutS8 wr w.heap.size len us k ∧ ∀ j, j < k → Lies (w.heap.size + 1) (Q j (us j)) wr) ∧ Below w.heap.size w wr) (fun i _ => len - (intOf i).toNat)
  case atStart => exact ⟨0, Nat.zero_le _, rfl, ⟨_, HROW.out, fun j hj => by omega⟩, HB0.out⟩
  case round =>
    obtain ⟨k, hk, rfl, ⟨us, hT, hL⟩, hB⟩ := hrel
    have HT := hide hT
    have HL := hide hL
    have HB := hide hB
    clear HROW HB0 hL
    by_cases hlt : k < len
    · obtain ⟨b, off, rfl, hat⟩ := HIN.out.resolve_left (by omega)
      obtain ⟨c0, c1, c2, c3, c4, c5, c6, c7, c8, c9, c10, c11, c12, c13, c14⟩ := hat k hlt
      have HC0 := hide (HCALL.out k)
      obtain ⟨q, hq⟩ : ∃ q, q = qs k := ⟨_, rfl⟩
      rw [← hq] at HC0 c0 c1 c2 c3 c4 c5 c6 c7 c8 c9 c10 c11 c12 c13 c14
      have c0' := (HB.out.cell (p := ⟨b, off + k * 15, none⟩) (lt_of_cell c0)).trans c0
      have z0 := lt_of_cell c0'
      have c1' := (HB.out.cell (p := ⟨b, off + k * 15 + 1, none⟩) (lt_of_cell c1)).trans c1
      have z1 := lt_of_cell c1'
      have c2' := (HB.out.cell (p := ⟨b, off + k * 15 + 2, none⟩) (lt_of_cell c2)).trans c2
      have z2 := lt_of_cell c2'
      have c3' := (HB.out.cell (p := ⟨b, off + k * 15 + 3, none⟩) (lt_of_cell c3)).trans c3
      have z3 := lt_of_cell c3'
      have c4' := (HB.out.cell (p := ⟨b, off + k * 15 + 4, none⟩) (lt_of_cell c4)).trans c4
      have z4 := lt_of_cell c4'
      have c5' := (HB.out.cell (p := ⟨b, off + k * 15 + 5, none⟩) (lt_of_cell c5)).trans c5
      have z5 := lt_of_cell c5'
      have c6' := (HB.out.cell (p := ⟨b, off + k * 15 + 6, none⟩) (lt_of_cell c6)).trans c6
      have z6 := lt_of_cell c6'
      have c7' := (HB.out.cell (p := ⟨b, off + k * 15 + 7, none⟩) (lt_of_cell c7)).trans c7
      have z7 := lt_of_cell c7'
      have c8' := (HB.out.cell (p := ⟨b, off + k * 15 + 8, none⟩) (lt_of_cell c8)).trans c8
      have z8 := lt_of_cell c8'
      have c9' := (HB.out.cell (p := ⟨b, off + k * 15 + 9, none⟩) (lt_of_cell c9)).trans c9
      have z9 := lt_of_cell c9'
      have c10' := (HB.out.cell (p := ⟨b, off + k * 15 + 10, none⟩) (lt_of_cell c10)).trans c10
      have z10 := lt_of_cell c10'
      have c11' := (HB.out.cell (p := ⟨b, off + k * 15 + 11, none⟩) (lt_of_cell c11)).trans c11
      have z11 := lt_of_cell c11'
      have c12' := (HB.out.cell (p := ⟨b, off + k * 15 + 12, none⟩) (lt_of_cell c12)).trans c12
      have z12 := lt_of_cell c12'
      have c13' := (HB.out.cell (p := ⟨b, off + k * 15 + 13, none⟩) (lt_of_cell c13)).trans c13
      have z13 := lt_of_cell c13'
      have c14' := (HB.out.cell (p := ⟨b, off + k * 15 + 14, none⟩) (lt_of_cell c14)).trans c14
      have z14 := lt_of_cell c14'
      have hRl := hT.lt
      have B2 : Below wr.heap.size wr (wr.alloc (.cells #[.int .i64 q.stm, .slice q.xa q.xl q.xc, .int .i64 (q.tm 0), .int .i64 (q.tm 1), .int .i64 (q.tm 2), .int .i64 (q.tm 3), .int .i64 (q.tm 4), .int .i64 (q.tm 5), .int .i64 (q.tm 6), .int .i64 (q.tm 7), .int .i64 q.kd, .int .i64 q.va, .int .i64 q.pu.arr, .int .i64 q.pu.pos, .slice q.ga q.gl q.gc] 59)) := bl_new _
      have HC := hide (HC0.out (wr.alloc (.cells #[.int .i64 q.stm, .slice q.xa q.xl q.xc, .int .i64 (q.tm 0), .int .i64 (q.tm 1), .int .i64 (q.tm 2), .int .i64 (q.tm 3), .int .i64 (q.tm 4), .int .i64 (q.tm 5), .int .i64 (q.tm 6), .int .i64 (q.tm 7), .int .i64 q.kd, .int .i64 q.va, .int .i64 q.pu.arr, .int .i64 q.pu.pos, .slice q.ga q.gl q.gc] 59)) hlt (bl_on HB.out B2) (by rw [World.size_alloc]; omega))
      have HB2 := hide B2
      unfold TW.v  TW.cs at HC
      clear hat hq B2 hT hB HC0 c0 c1 c2 c3 c4 c5 c6 c7 c8 c9 c10 c11 c12 c13 c14
      go_wp2_with fail
      refine HC.out.mono ?_
      rintro e w2 ⟨⟨u, rfl, hl⟩, hb2⟩
      have T2 := HT.out.below (bl_on HB2.out hb2)
      obtain ⟨f, r1, r2⟩ := T2
      have d0 := r1.cell (i := k * 8) (by omega)
      have y0 := r1.frozen (k * 8)
      have d1 := r1.cell (i := k * 8 + 1) (by omega)
      have y1 := r1.frozen (k * 8 + 1)
      have d2 := r1.cell (i := k * 8 + 2) (by omega)
      have y2 := r1.frozen (k * 8 + 2)
      have d3 := r1.cell (i := k * 8 + 3) (by omega)
      have y3 := r1.frozen (k * 8 + 3)
      have d4 := r1.cell (i := k * 8 + 4) (by omega)
      have y4 := r1.frozen (k * 8 + 4)
      have d5 := r1.cell (i := k * 8 + 5) (by omega)
      have y5 := r1.frozen (k * 8 + 5)
      have d6 := r1.cell (i := k * 8 + 6) (by omega)
      have y6 := r1.frozen (k * 8 + 6)
      have d7 := r1.cell (i := k * 8 + 7) (by omega)
      have y7 := r1.frozen (k * 8 + 7)
      have z3 := r1.lt
      have hsz := HB.out.size
      have HT2 := hide (OutS8.snoc ⟨f, r1, r2⟩ u)
      have HLn := hide (hl.mono (N := w.heap.size + 1) (by rw [World.size_alloc]; omega))
      have HLo := hide (fun j (hj : j < k) => (HL.out j hj).below (bl_on HB2.out hb2))
      have HBb := hide (bl_on HB.out (bl_on HB2.out hb2))
      clear hb2 r1 r2 hl
      try unfold SW.v  SW.cs
      go_wp2_with fail
      go_roundw
      case rel =>
        refine ⟨k + 1, by omega, by go_num, ⟨_, HT2.out, fun j hj => ?_⟩, ((((((((HBb.out.setCell (p := ⟨w.heap.size, k * 8, none⟩) (Nat.le_refl _) _).setCell (p := ⟨w.heap.size, k * 8 + 1, none⟩) (Nat.le_refl _) _).setCell (p := ⟨w.heap.size, k * 8 + 2, none⟩) (Nat.le_refl _) _).setCell (p := ⟨w.heap.size, k * 8 + 3, none⟩) (Nat.le_refl _) _).setCell (p := ⟨w.heap.size, k * 8 + 4, none⟩) (Nat.le_refl _) _).setCell (p := ⟨w.heap.size, k * 8 + 5, none⟩) (Nat.le_refl _) _).setCell (p := ⟨w.heap.size, k * 8 + 6, none⟩) (Nat.le_refl _) _).setCell (p := ⟨w.heap.size, k * 8 + 7, none⟩) (Nat.le_refl _) _)⟩
        by_cases e : k = j
        · subst e
          simp only [if_true]
          have hl := HLn.out
          exact (((((((((hl).set (p := ⟨w.heap.size, k * 8, none⟩) (by simp only; omega) _).set (p := ⟨w.heap.size, k * 8 + 1, none⟩) (by simp only; omega) _).set (p := ⟨w.heap.size, k * 8 + 2, none⟩) (by simp only; omega) _).set (p := ⟨w.heap.size, k * 8 + 3, none⟩) (by simp only; omega) _).set (p := ⟨w.heap.size, k * 8 + 4, none⟩) (by simp only; omega) _).set (p := ⟨w.heap.size, k * 8 + 5, none⟩) (by simp only; omega) _).set (p := ⟨w.heap.size, k * 8 + 6, none⟩) (by simp only; omega) _).set (p := ⟨w.heap.size, k * 8 + 7, none⟩) (by simp only; omega) _)
        · simp only [if_neg (fun e' : j = k => e e'.symm)]
          have hl := HLo.out j (by omega)
          exact (((((((((hl).set (p := ⟨w.heap.size, k * 8, none⟩) (by simp only; omega) _).set (p := ⟨w.heap.size, k * 8 + 1, none⟩) (by simp only; omega) _).set (p := ⟨w.heap.size, k * 8 + 2, none⟩) (by simp only; omega) _).set (p := ⟨w.heap.size, k * 8 + 3, none⟩) (by simp only; omega) _).set (p := ⟨w.heap.size, k * 8 + 4, none⟩) (by simp only; omega) _).set (p := ⟨w.heap.size, k * 8 + 5, none⟩) (by simp only; omega) _).set (p := ⟨w.heap.size, k * 8 + 6, none⟩) (by simp only; omega) _).set (p := ⟨w.heap.size, k * 8 + 7, none⟩) (by simp only; omega) _)
      case measure => simp [intOf]; omega
    · obtain rfl : k = len := by omega
      clear hT hB
      go_wp2_with fail
      go_ret
      exact ⟨⟨us, rfl, HT.out, HL.out⟩, HB.out⟩

theorem stmts_any (h n o m c : Nat) (us : Nat → TW) (ps : Nat → Sp) (w : World) (hr : RowS w h n us) (ho : o + m ≤ n) (hm : m ≤ 1000000) (hg : ∀ j, j < m → TG w (us (o + j)) (ps j) ∧ SpB (ps j) ∧ (us (o + j)).gl ≤ 1000) :
    Calls Try.prog 20 #[.slice (some ⟨h, o * 15, none⟩) m c, .func (.func 21) #[] #[]] w fun e w' => (e = .returned (.slice (some ⟨w.heap.size, 0, none⟩) m m) ∧ Lies w.heap.size (fun V => Stms V (some ⟨w.heap.size, 0, none⟩) m ((List.range m).map (fun j => stmOf (ps j)))) w') ∧ Below w.heap.size w w' := by
  refine (eachTS (some ⟨h, o * 15, none⟩) m c (fun j => us (o + j)) 21 #[] (enters_of Try.func21 (by kernel_rfl) rfl) (fun j u V => SG V u (stmOf (ps j))) w (by omega) (.inr ⟨h, o * 15, rfl, fun j hj => ?_⟩) (fun j W hj hb _ => ?_)).mono ?_
  · have hc := hr.tat (o := o) (j := j) (by omega)
    exact ⟨hc 0 (by omega), hc 1 (by omega), hc 2 (by omega), hc 3 (by omega), hc 4 (by omega), hc 5 (by omega), hc 6 (by omega), hc 7 (by omega), hc 8 (by omega), hc 9 (by omega), hc 10 (by omega), hc 11 (by omega), hc 12 (by omega), hc 13 (by omega), hc 14 (by omega)⟩
  · obtain ⟨g1, g2, g3⟩ := hg j hj
    exact stmt1 (ps j) (us (o + j)) W (g1.below hb) g2 g3
  rintro e w' ⟨⟨vs, rfl, k1, k2⟩, hb'⟩
  refine ⟨⟨rfl, fun V hV => ?_⟩, hb'⟩
  have e1 := (k1.lies (Nat.le_refl _)) V hV
  refine stms_out e1 (by simp) (by omega) (fun j hj => ?_)
  have e2 : ((List.range m).map (fun j => stmOf (ps j)))[j]?.getD stmD = stmOf (ps j) := by simp [hj]
  rw [e2]
  exact ((k2 j hj).mono (Nat.le_refl _)) V (hV.mono (by omega))
end Go.Proofs.Ytoidgdbgpbcebaa.V
namespace Go.Proofs.Ytoidgdbgpbcebaa.V
open Go Go.RowKit
set_option linter.unusedVariables false

/-- Block OB alone may have another cell. -/
def ButFor (OB : Nat) (W V : World) : Prop := W.heap.size ≤ V.heap.size ∧ ∀ b, b < W.heap.size → b ≠ OB → V.heap[b]? = W.heap[b]?
theorem ButFor.refl (OB : Nat) (W : World) : ButFor OB W W := ⟨Nat.le_refl _, fun _ _ _ => rfl⟩
theorem ButFor.trans {OB : Nat} {W V U : World} (h : ButFor OB W V) (k : ButFor OB V U) : ButFor OB W U := ⟨Nat.le_trans h.1 k.1, fun b hb hn => (k.2 b (Nat.lt_of_lt_of_le hb h.1) hn).trans (h.2 b hb hn)⟩
theorem ButFor.below {OB : Nat} {W V : World} (h : Below W.heap.size W V) : ButFor OB W V := ⟨h.size, fun b hb _ => h.block b hb⟩
theorem ButFor.set {OB : Nat} (W : World) (v : Value) : ButFor OB W (W.setCell ⟨OB, 0, none⟩ v) := ⟨by rw [World.size_setCell]; exact Nat.le_refl _, fun b _ hn => Below.heap_setCell _ ⟨OB, 0, none⟩ _ b hn⟩
/-- A box with a list of arrays. -/
def MBox (W : World) (OB : Nat) (A : Option Addr) (n c : Nat) : Prop := W.heap[OB]? = some (.cells #[.slice A n c] 28 (0, 0))
theorem MBox.cell {W : World} {OB n c : Nat} {A : Option Addr} (h : MBox W OB A n c) : W.cell? ⟨OB, 0, none⟩ = some (.slice A n c) := by
  unfold MBox at h
  simp [World.cell?, h]
theorem MBox.free {W : World} {OB n c : Nat} {A : Option Addr} (h : MBox W OB A n c) : W.frozen? ⟨OB, 0, none⟩ = false := by
  unfold MBox at h
  simp [World.frozen?, h]
theorem MBox.lt {W : World} {OB n c : Nat} {A : Option Addr} (h : MBox W OB A n c) : OB < W.heap.size := lt_of_heap h
theorem MBox.below {W V : World} {OB n c : Nat} {A : Option Addr} (h : MBox W OB A n c) (hb : Below W.heap.size W V) : MBox V OB A n c := (hb.block OB h.lt).trans h
theorem MBox.put {W : World} {OB n c : Nat} {A : Option Addr} (h : MBox W OB A n c) (A' : Option Addr) (n' c' : Nat) : MBox (W.setCell ⟨OB, 0, none⟩ (.slice A' n' c')) OB A' n' c' := by
  unfold MBox at *
  unfold World.setCell
  simp only [Array.getElem?_modify, h]
  simp
theorem MBox.num {W : World} {OB n c : Nat} {A : Option Addr} (h : MBox W OB A n c) {b o : Nat} {x : Int} (hc : W.cell? ⟨b, o, none⟩ = some (.int .i64 x)) : b ≠ OB := by
  intro e
  subst e
  unfold MBox at h
  unfold World.cell? at hc
  rw [h] at hc
  simp only [Option.isSome_none, Bool.false_eq_true, if_false] at hc
  rcases o with _ | o
  · simp at hc
  · simp at hc
theorem ints_but {W V : World} {OB n c : Nat} {A : Option Addr} (h : MBox W OB A n c) (hk : ButFor OB W V) {xa : Option Addr} {xl : Nat} {xs : List Int} (hx : Ints W xa xl xs) : Ints V xa xl xs := by
  obtain ⟨h1, h2, h3, h4⟩ := hx
  refine ⟨h1, h2, h3, ?_⟩
  rcases h4 with e | ⟨b, off, e, h5⟩
  · exact .inl e
  · exact .inr ⟨b, off, e, fun j hj => (World.cell?_of_block (w := W) (w' := V) (a := ⟨b, off + j, none⟩) (hk.2 b (lt_of_cell (h5 j hj)) (h.num (h5 j hj)))).trans (h5 j hj)⟩
theorem TG.but {W V : World} {OB n c : Nat} {A : Option Addr} (h : MBox W OB A n c) (hk : ButFor OB W V) {q : TW} {p : Sp} (hg : TG W q p) : TG V q p := by
  refine ⟨hg.stm, ⟨ints_but h hk hg.pt.1, hg.pt.2⟩, hg.tm, hg.kd, hg.va, hg.put, ?_, hg.cap, fun b o e => ?_⟩
  · obtain ⟨h1, h2, h3⟩ := hg.gets
    refine ⟨h1, h2, ?_⟩
    rcases h3 with e | ⟨b, off, e, h5⟩
    · exact .inl e
    · exact .inr ⟨b, off, e, fun j hj => ⟨(World.cell?_of_block (w := W) (w' := V) (a := ⟨b, off + j * 2, none⟩) (hk.2 b (lt_of_cell (h5 j hj).1) (h.num (h5 j hj).1))).trans (h5 j hj).1, (World.cell?_of_block (w := W) (w' := V) (a := ⟨b, off + j * 2 + 1, none⟩) (hk.2 b (lt_of_cell (h5 j hj).1) (h.num (h5 j hj).1))).trans (h5 j hj).2⟩⟩
  · obtain ⟨cur, fz, h1⟩ := hg.num b o e
    refine ⟨cur, fz, (hk.2 b (lt_of_heap h1) (fun k => ?_)).trans h1⟩
    subst k
    unfold MBox at h
    rw [h1] at h
    simp only [Option.some.injEq, Obj.cells.injEq] at h
    exact absurd h.2.1 (by decide)
theorem RowS.but {W V : World} {OB g n : Nat} {us : Nat → TW} (h : RowS W g n us) (hk : ButFor OB W V) (hne : g ≠ OB) : RowS V g n us := by
  obtain ⟨cur, e⟩ := h.blk
  have e2 := hk.2 g h.lt hne
  exact ⟨⟨cur, e2.trans e⟩, fun j hj i hi => (World.cell?_of_block (w := W) (w' := V) (a := ⟨g, j * 15 + i, none⟩) e2).trans (h.at_ j hj i hi)⟩
/-- nest.Run where nothing is wrong; the list that it hands back may be put into a box that was there. -/
theorem nestRun_put (za : Option Addr) (zl zc : Nat) (zs : List Int) (ta : Option Addr) (tl tc : Nat) (ss : List Stm) (a : Option Addr) (len cap : Nat) (L : Mem) (w : World) (hz : Ints w za zl zs) (hs : Stms w ta tl ss) (hA : MemA w a len L) (hb24 : 24 * len ≤ 281474976710656) (hE : runE zs ss L = 0) (OB n0 c0 : Nat) (hB : MBox w OB a n0 c0) :
    Calls Try.prog 13 #[.agg #[.slice za zl zc, .slice ta tl tc], .slice a len cap] w fun e w' => (∃ A, e = .returned (.tuple #[.slice A len len, .int .i64 0]) ∧ MemA w' A len (runM ss L) ∧ MemA (w'.setCell ⟨OB, 0, none⟩ (.slice A len len)) A len (runM ss L)) ∧ Below w.heap.size w w' := by
  refine (callsIn_wide.1 (nestRun_ok za zl zc zs ta tl tc ss a len cap L w hz hs hA hb24 hE)).mono ?_
  rintro e w' ⟨⟨R, G, C, rfl, hM⟩, hb⟩
  have hlen : (runM ss L).length = len := by rw [runM_len]; exact hA.1
  have hm := hM.memA hlen hA.2.1
  refine ⟨⟨_, rfl, hm, ?_⟩, hb⟩
  obtain ⟨m1, m2, m3⟩ := hm
  refine ⟨m1, m2, ?_⟩
  rcases hM.head with h0 | ⟨b, off, e, h1⟩
  · exact .inl (by omega)
  · cases e
    by_cases hl0 : len = 0
    · exact .inl hl0
    · refine .inr ⟨R, 0, rfl, fun i hi => ?_⟩
      have hBw := hB.below hb
      have hOl := hB.lt
      have hRO : R ≠ OB := by
        intro k
        obtain ⟨c1, c2⟩ := h1 0 (by omega)
        rw [k] at c1
        have c3 := hBw.cell
        rw [show (0 : Nat) + 0 = 0 from rfl, c3] at c1
        obtain ⟨a0, o0, ha0, h5⟩ := hA.at (by omega)
        obtain ⟨x, l, c, h6, _⟩ := h5 0 (by omega)
        have h7 := lt_of_cell h6
        rw [ha0] at c1
        simp only [Option.some.injEq, Value.slice.injEq, Addr.mk.injEq] at c1
        have h8 := hM.lo 0 (by omega)
        simp only at h7
        omega
      obtain ⟨c1, c2⟩ := h1 i (by omega)
      have hG := hM.lo i (by omega)
      have hrow := (hM.rows i (by omega)).setO (p := ⟨OB, 0, none⟩) (by show G i ≠ OB; omega) (.slice (some ⟨R, 0, none⟩) len len)
      refine ⟨some ⟨G i, 0, none⟩, _, C i, (World.cell?_setCell_other _ _ _ _ (by intro k; simp only [Addr.mk.injEq] at k; exact hRO k.1.symm)).trans c1, hrow.ints (fun j => hM.bd i j) (by have := hM.small i; omega), ?_, fun k => by cases k⟩
      obtain ⟨cur, _, k2, k3, _⟩ := hM.rows i (by omega)
      omega
end Go.Proofs.Ytoidgdbgpbcebaa.V
