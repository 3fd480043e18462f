/-
  Contract: adjointref2.padEntry. Contracts: adjointref2.entry, kind by kind. adjointlaw2.back: the kind Turn.
-/
import Derived.Test.YteoobeldmicjhaaGreatPAKArrayAdjoint50
import Derived.BigQuiet
import Derived.Test.YteoobeldmicjhaaGreatPAKArrayAdjoint20
import Derived.Test.YteoobeldmicjhaaGreatPAKArrayAdjoint22
namespace Go.Proofs.YteoobeldmicjhaaGreat.V
set_option maxRecDepth 20000
open Go.RowKit

/-- An index that a Pad puts an entry at. -/
def padOk (at' lo st ds : List Int) (k : Nat) : Prop := 0 ≤ at'[k]?.getD 0 - lo[k]?.getD 0 ∧ (at'[k]?.getD 0 - lo[k]?.getD 0) % st[k]?.getD 0 = 0 ∧ (at'[k]?.getD 0 - lo[k]?.getD 0) / st[k]?.getD 0 < ds[k]?.getD 0

set_option maxRecDepth 100000 in
set_option maxHeartbeats 4000000 in
theorem rpadE_any (x : Int) (vd va vh : Value) (la : Option Addr) (ll lc : Nat) (lo : List Int) (ta : Option Addr) (tl tc : Nat) (st : List Int) (da : Option Addr) (dl dc : Nat) (ds : List Int) (xa : Option Addr) (n xc : Nat) (xs : List Int) (aa : Option Addr) (al ac : Nat) (at' : List Int) (w : World) (V : Int)
    (hlo : Ints w la ll lo) (hst : Ints w ta tl st) (hd : Ints w da dl ds) (hdc : dl ≤ dc) (hx : Ints w xa n xs) (hat : Ints w aa al at') (h6 : al ≤ 6) (hal : al ≤ dl) (hll : al ≤ ll) (htl : al ≤ tl) (hbd : ∀ i, i < al → 0 ≤ at'[i]?.getD 0 ∧ at'[i]?.getD 0 ≤ 4096 ∧ 0 ≤ lo[i]?.getD 0 ∧ lo[i]?.getD 0 ≤ 4096 ∧ 1 ≤ st[i]?.getD 0)
    (hin : (∀ k, k < al → padOk at' lo st ds k) → ∃ p : Nat, p < n ∧ placeN ds (fillF (fun j => (at'[j]?.getD 0 - lo[j]?.getD 0) / st[j]?.getD 0) al al) = p ∧ V = xs[p]?.getD 0) (hout : ∀ k, k < al → ¬ padOk at' lo st ds k → V = 0) :
    Calls Tryz.prog 34 #[.agg #[.int .i64 14, vd, va, .slice la ll lc, vh, .slice ta tl tc, .int .i64 x], .agg #[.slice da dl dc, .slice xa n xc], .slice aa al ac] w fun e w' => e = .returned (.int .i64 V) ∧ Below w.heap.size w w' := by
  have hml := hlo.2.1
  have hms := hst.2.1
  have hmd := hd.2.1
  have hma := hat.2.1
  have HLO := hide hlo
  have HST := hide hst
  have HD := hide hd
  have HX := hide hx
  have HAT := hide hat
  have HBD := hide hbd
  have HIN := hide hin
  have HOUT := hide hout
  have hmk := run_make_row' (P := Tryz.prog) 22 3 (.int .i64 0) 8 Tryz.underlying22 info_int rfl .i64 .i64 al (by omega) (by omega)
  have HB2 := hide (((Below.refl w.heap.size w).alloc (Nat.le_refl _) (.cells #[.int .i64 14, vd, va, .slice la ll lc, vh, .slice ta tl tc, .int .i64 x] 31)).alloc (by simp) (.cells #[.slice da dl dc, .slice xa n xc] 25))
  have HOP := hide ((OpAt.new w 14 vd va (.slice la ll lc) vh (.slice ta tl tc) x).alloc (.cells #[.slice da dl dc, .slice xa n xc] 25))
  have har := ArrAt.new (w.alloc (.cells #[.int .i64 14, vd, va, .slice la ll lc, vh, .slice ta tl tc, .int .i64 x] 31)) (.slice da dl dc) (.slice xa n xc)
  simp only [World.size_alloc] at har
  have HAR := hide har
  obtain ⟨o0, o1, o2, o3, o4, o5, o6⟩ := HOP.out.cells
  obtain ⟨⟨r0, r1⟩, _⟩ := HAR.out.cells
  clear har hlo hst hd hx hat hbd hin hout
  go_enter Tryz.func34, Tryz.ntmps34
  go_wp2
  go_loopw [16] (fun i wr => ∃ k : Nat, k ≤ al ∧ i = .int .i64 k ∧ (∀ j, j < k → padOk at' lo st ds j) ∧ RowI wr (w.heap.size + 1 + 1) al (fillF (fun j => (at'[j]?.getD 0 - lo[j]?.getD 0) / st[j]?.getD 0) al k) ∧ OpAt wr w.heap.size 14 vd va (.slice la ll lc) vh (.slice ta tl tc) x ∧ ArrAt wr (w.heap.size + 1) (.slice da dl dc) (.slice xa n xc) ∧ Below w.heap.size w wr) (fun i _ => al - (intOf i).toNat)
  case atStart =>
    refine ⟨0, Nat.zero_le _, rfl, fun j hj => by omega, ?_, HOP.out.alloc _, HAR.out.alloc _, HB2.out.alloc HB2.out.size _⟩
    have := World.rowIs_made ((w.alloc (.cells #[.int .i64 14, vd, va, .slice la ll lc, vh, .slice ta tl tc, .int .i64 x] 31)).alloc (.cells #[.slice da dl dc, .slice xa n xc] 25)) (.int .i64 0) al 3
    simp only [World.size_alloc] at this
    exact this.congr (fun j _ => by rw [fillF_zero])
  case round =>
    obtain ⟨k, hk, rfl, hok, hrow, hop, har, hB⟩ := hrel
    have HK := hide hok
    have HR := hide hrow
    have HO := hide hop
    have HA := hide har
    have HB := hide hB
    clear hok hrow hop har hB o0 o1 o2 o3 o4 o5 o6 r0 r1
    have hG := HA.out.lt
    by_cases hlt : k < al
    · obtain ⟨ba, offa, rfl, _, hca⟩ := (HAT.out.below HB.out).at (by omega)
      have ya := hca k (by omega)
      obtain ⟨bl, offl, rfl, _, hcl⟩ := (HLO.out.below HB.out).at (by omega)
      have yl := hcl k (by omega)
      obtain ⟨bs, offs, rfl, _, hcs⟩ := (HST.out.below HB.out).at (by omega)
      have ys := hcs k (by omega)
      obtain ⟨bd, offd, rfl, _, hcd⟩ := (HD.out.below HB.out).at (by omega)
      have yd := hcd k (by omega)
      have hbk := HBD.out k hlt
      have hpk : padOk at' lo st ds k ↔ (0 ≤ at'[k]?.getD 0 - lo[k]?.getD 0 ∧ (at'[k]?.getD 0 - lo[k]?.getD 0) % st[k]?.getD 0 = 0 ∧ (at'[k]?.getD 0 - lo[k]?.getD 0) / st[k]?.getD 0 < ds[k]?.getD 0) := Iff.rfl
      have HFS := hide (fillF_succ (fun j => (at'[j]?.getD 0 - lo[j]?.getD 0) / st[j]?.getD 0) al k)
      generalize at'[k]?.getD 0 = X at *
      generalize lo[k]?.getD 0 = Y at *
      generalize st[k]?.getD 0 = T at *
      generalize ds[k]?.getD 0 = D at *
      obtain ⟨M, hM⟩ : ∃ M, M = X - Y := ⟨_, rfl⟩
      rw [← hM] at hpk HFS
      have w1 : IntKind.i64.wrap (X - Y) = M := by rw [hM]; exact wrap_in _ (by omega) (by omega)
      have HPK := hide hpk
      obtain ⟨o0, o1, o2, o3, o4, o5, o6⟩ := HO.out.cells
      obtain ⟨⟨r0, r1⟩, _⟩ := HA.out.cells
      have hqn : k < al := hlt
      have hr1 := HR.out.cell hqn
      have hf := HR.out.frozen k
      have i1 : (0 : Int) ≤ (k : Int) := Int.natCast_nonneg _
      have i2 : (k : Int) < (al : Int) := by omega
      have i3 : (k : Int) < (ll : Int) := by omega
      have i4 : (k : Int) < (tl : Int) := by omega
      have i5 : (k : Int) < (dl : Int) := by omega
      have n1 : T ≠ 0 := by omega
      have t2 : 1 ≤ T := by omega
      have m4 : M ≤ 4096 := by omega
      have HQL : Hid (k < (fillF (fun j => (at'[j]?.getD 0 - lo[j]?.getD 0) / st[j]?.getD 0) al k).length) := by rw [Hid, fillF_length]; exact hqn
      clear hca hcl hcs hcd hpk hbk hM
      by_cases c1 : M < 0
      · have q1 : decide (M < 0) = true := by simp [c1]
        have hv := HOUT.out k hlt (fun h => by have := HPK.out.1 h; omega)
        have HV := hide hv
        clear hv c1
        go_wp2
        go_quiet (fail)
        go_wp2
        go_ret
        rw [HV.out]
        exact ⟨rfl, Below.on HB.out (below_drewN _ _)⟩
      · have q1 : decide (M < 0) = false := by simp; omega
        have q2 : 0 ≤ M := by omega
        have e1 : M.tmod T = M % T := Int.tmod_eq_emod_of_nonneg q2
        have e2 : M.tdiv T = M / T := Int.tdiv_eq_ediv_of_nonneg q2
        have HC1 := hide e1
        have HC2 := hide e2
        clear e1 e2 c1
        by_cases c2 : M % T = 0
        · have q3 : (M.tmod T != 0) = false := by rw [HC1.out, c2]; rfl
          have HM0 := hide c2
          clear c2
          obtain ⟨Qt, hQt⟩ : ∃ Qt, Qt = M / T := ⟨_, rfl⟩
          have hq0 : 0 ≤ Qt := by rw [hQt]; exact Int.ediv_nonneg q2 (by omega)
          have hq1 : Qt ≤ M := by rw [hQt]; exact Int.ediv_le_self _ q2
          have w2 : IntKind.i64.wrap (M.tdiv T) = Qt := by rw [HC2.out, ← hQt]; exact wrap_in _ (by omega) (by omega)
          rw [← hQt] at HPK HFS
          clear hQt
          by_cases c3 : D ≤ Qt
          · have q4 : decide (D ≤ Qt) = true := by simp [c3]
            have hv := HOUT.out k hlt (fun h => by have := (HPK.out.1 h).2.2; omega)
            have HV := hide hv
            clear hv c3
            go_wp2
            go_quiet (fail)
            go_wp2
            go_ret
            rw [HV.out]
            exact ⟨rfl, Below.on HB.out (below_drewN _ _)⟩
          · have q4 : decide (D ≤ Qt) = false := by simp; omega
            have HPY := hide (HPK.out.2 ⟨q2, HM0.out, by omega⟩)
            clear c3
            go_wp2
            go_quiet (fail)
            go_wp2
            go_roundw
            case rel =>
              refine ⟨k + 1, by omega, by go_num, fun j hj => ?_, World.rowIs.congr (World.rowIs.set (RowI.below HR.out (below_drewN _ _)) k (.int .i64 Qt)) (fun j _ => ?_), (HO.out.below (below_drewN _ _)).set (p := ⟨(w.heap.size + 1 + 1), k, none⟩) (by simp; omega) _, (HA.out.below (below_drewN _ _)).set (p := ⟨(w.heap.size + 1 + 1), k, none⟩) (by simp) _, (Below.on HB.out (below_drewN _ _)).setCell (p := ⟨(w.heap.size + 1 + 1), k, none⟩) (by simp; omega) _⟩
              · by_cases e : j = k
                · rw [e]; exact HPY.out
                · exact HK.out j (by omega)
              · rw [HFS.out]
                by_cases e : j = k
                · subst e
                  rw [if_pos rfl, List.getElem?_set_self HQL.out]
                  rfl
                · rw [if_neg e, List.getElem?_set_ne (fun h => e h.symm)]
            case measure => simp [intOf]; omega
        · obtain ⟨RM, hRM⟩ : ∃ RM, M.tmod T = RM := ⟨_, rfl⟩
          have q3 : (RM != 0) = true := by rw [← hRM, HC1.out]; simp [c2]
          have hv := HOUT.out k hlt (fun h => c2 (HPK.out.1 h).2.1)
          have HV := hide hv
          clear hv c2
          go_wp2
          go_quiet (fail)
          go_wp2
          go_ret
          rw [HV.out]
          exact ⟨rfl, Below.on HB.out (below_drewN _ _)⟩
    · obtain rfl : al = k := by omega
      obtain ⟨⟨r0, r1⟩, _⟩ := HA.out.cells
      obtain ⟨p, hpn, hpp, hv⟩ := HIN.out HK.out
      have HPP := hide hpp
      have HV := hide hv
      have hin : Ints wr (some ⟨(w.heap.size + 1 + 1), 0, none⟩) al (fillF (fun j => (at'[j]?.getD 0 - lo[j]?.getD 0) / st[j]?.getD 0) al al) := ints_of_rowI HR.out (by rw [fillF_length]) (by omega) (fillF_bd' (fun j hj => by have h1 := HBD.out j hj; have h2 := (HK.out j hj).1; have h3 := Int.ediv_nonneg h2 (show 0 ≤ st[j]?.getD 0 by omega); have h4 := Int.ediv_le_self (st[j]?.getD 0) h2; constructor <;> omega) _)
      have HIS := hide hin
      clear hin hpp hv
      go_wp2_with (go_at_call 32; refine (rget_any _ _ _ ds _ _ _ xs _ _ _ (fillF (fun j => (at'[j]?.getD 0 - lo[j]?.getD 0) / st[j]?.getD 0) al al) _ p (HD.out.below HB.out) hdc (HX.out.below HB.out) HIS.out HPP.out hpn).mono ?_; rintro e w9 ⟨rfl, hb⟩; have HB9 := hide (Below.on HB.out hb); clear hb)
      go_ret
      rw [HV.out]
      exact ⟨rfl, HB9.out⟩
end Go.Proofs.YteoobeldmicjhaaGreat.V
namespace Go.Proofs.YteoobeldmicjhaaGreat.V
set_option maxRecDepth 20000
open Go.RowKit

set_option maxRecDepth 100000 in
set_option maxHeartbeats 1000000 in
theorem rentry_view9 (x : Int) (vd va vl vh vs : Value) (b off cap : Nat) (da : Option Addr) (dl dc : Nat) (xa : Option Addr) (n1 xc : Nat) (aa : Option Addr) (al ac : Nat) (nn v : Int) (w : World)
    (h0 : w.cell? ⟨b, off, none⟩ = some (.slice da dl dc)) (h1 : w.cell? ⟨b, off + 1, none⟩ = some (.slice xa n1 xc))
    (hC : ∀ W, Below w.heap.size w W → Calls Tryz.prog 39 #[.agg #[.int .i64 9, vd, va, vl, vh, vs, .int .i64 x], .agg #[.slice da dl dc, .slice xa n1 xc], .slice aa al ac] W fun e w' => e = .returned (.int .i64 v) ∧ Below W.heap.size W w') :
    Calls Tryz.prog 19 #[.agg #[.int .i64 9, vd, va, vl, vh, vs, .int .i64 x], .slice (some ⟨b, off, none⟩) 1 cap, .slice aa al ac, .int .i64 nn] w fun e w' => e = .returned (.int .i64 v) ∧ Below w.heap.size w w' := by
  have HB1 := hide ((Below.refl w.heap.size w).alloc (Nat.le_refl _) (.cells #[.int .i64 9, vd, va, vl, vh, vs, .int .i64 x] 31))
  have HOP := hide (OpAt.new w 9 vd va vl vh vs x)
  obtain ⟨o0, o1, o2, o3, o4, o5, o6⟩ := HOP.out.cells
  have k0 := (HB1.out.cell (p := ⟨b, off, none⟩) (lt_of_cell h0)).trans h0
  have k1 := (HB1.out.cell (p := ⟨b, off + 1, none⟩) (lt_of_cell h1)).trans h1
  have HC := hide hC
  clear hC h0 h1
  go_enter Tryz.func19, Tryz.ntmps19
  go_wp2_with fail
  refine region_made 6 6 [fIs (.agg #[.int .i64 9, vd, va, vl, vh, vs, .int .i64 x]), fIs (.slice (some ⟨b, off, none⟩) 1 cap), fIs (.pointer (some ⟨b, off, none⟩)), fIs (.agg #[.slice da dl dc, .slice xa n1 xc]), fIs (.slice aa al ac), fIs (.int .i64 v)] (by kernel_rfl) (by kernel_rfl) (by kernel_rfl) (fun _ ⟨_, _⟩ ⟨_, _⟩ _ e h => by cases e; exact h) ⟨fIs_good _, fIs_good _, fIs_good _, fIs_good _, fIs_good _, fIs_good _, trivial⟩ ?mk ?rest
  case mk =>
    refine ⟨fun u wz hb hd => ?_, fun u wz hb hd => ?_, fun u wz hb hd => ?_, fun u wz hb hd => ?_, fun u wz hb hd => ?_, fun u wz hb hd => ?_, trivial⟩
    all_goals simp only [Act.put, List.setIfInBounds_toArray, List.set_cons_zero, List.set_cons_succ]
    · have o0' := (hb.cell (p := ⟨w.heap.size, 0, none⟩) (lt_of_cell o0)).trans o0
      have o1' := (hb.cell (p := ⟨w.heap.size, 1, none⟩) (lt_of_cell o1)).trans o1
      have o2' := (hb.cell (p := ⟨w.heap.size, 2, none⟩) (lt_of_cell o2)).trans o2
      have o3' := (hb.cell (p := ⟨w.heap.size, 3, none⟩) (lt_of_cell o3)).trans o3
      have o4' := (hb.cell (p := ⟨w.heap.size, 4, none⟩) (lt_of_cell o4)).trans o4
      have o5' := (hb.cell (p := ⟨w.heap.size, 5, none⟩) (lt_of_cell o5)).trans o5
      have o6' := (hb.cell (p := ⟨w.heap.size, 6, none⟩) (lt_of_cell o6)).trans o6
      go_simp
      exact ⟨rfl, Below.refl _ _, fun h => by cases h⟩
    · go_simp
      exact ⟨rfl, Below.refl _ _, fun h => by cases h⟩
    · have e1 : u 1 = .slice (some ⟨b, off, none⟩) 1 cap := hd 1 (by omega) (by kernel_rfl)
      rw [e1]
      go_simp
      exact ⟨rfl, Below.refl _ _, fun h => by cases h⟩
    · have e2 : u 2 = .pointer (some ⟨b, off, none⟩) := hd 2 (by omega) (by kernel_rfl)
      rw [e2]
      have k0' := (hb.cell (p := ⟨b, off, none⟩) (lt_of_cell k0)).trans k0
      have k1' := (hb.cell (p := ⟨b, off + 1, none⟩) (lt_of_cell k1)).trans k1
      go_simp
      exact ⟨rfl, Below.refl _ _, fun h => by cases h⟩
    · go_simp
      exact ⟨rfl, Below.refl _ _, fun h => by cases h⟩
    · have e0 : u 0 = .agg #[.int .i64 9, vd, va, vl, vh, vs, .int .i64 x] := hd 0 (by omega) (by kernel_rfl)
      have e3 : u 3 = .agg #[.slice da dl dc, .slice xa n1 xc] := hd 3 (by omega) (by kernel_rfl)
      have e4 : u 4 = .slice aa al ac := hd 4 (by omega) (by kernel_rfl)
      rw [e0, e3, e4]
      go_simp
      refine (HC.out wz (Below.on HB1.out hb)).mono ?_
      rintro e w2 ⟨rfl, hb2⟩
      exact ⟨rfl, hb2, fun h => by cases h⟩
  case rest =>
    intro u wz hb hf hp
    have f0 : u 0 = .agg #[.int .i64 9, vd, va, vl, vh, vs, .int .i64 x] := hf 0 (by omega)
    have f1 : u 1 = .slice (some ⟨b, off, none⟩) 1 cap := hf 1 (by omega)
    have f2 : u 2 = .pointer (some ⟨b, off, none⟩) := hf 2 (by omega)
    have f3 : u 3 = .agg #[.slice da dl dc, .slice xa n1 xc] := hf 3 (by omega)
    have f4 : u 4 = .slice aa al ac := hf 4 (by omega)
    have f5 : u 5 = .int .i64 v := hf 5 (by omega)
    refine UptoW.rest 1 6 (by rfl) (by kernel_rfl) ?_
    simp only [List.take, List.drop, putOps, Act.put, List.setIfInBounds_toArray, List.set_cons_zero, List.set_cons_succ, Nat.reduceAdd, f0, f1, f2, f3, f4, f5]
    clear f0 f1 f2 f3 f4 f5 hf hp
    have HBz := hide (Below.on HB1.out hb)
    refine wpList_plain rfl (fun K hK => ?_)
    go_simp
    refine hK _ _ (wpList_nil ?_)
    clear hK K hb k0 k1 o0 o1 o2 o3 o4 o5 o6
    go_wp2
    go_ret
    exact ⟨rfl, HBz.out⟩

set_option maxRecDepth 100000 in
set_option maxHeartbeats 1000000 in
theorem rentry_view11 (x : Int) (vd va vl vh vs : Value) (b off cap : Nat) (da : Option Addr) (dl dc : Nat) (xa : Option Addr) (n1 xc : Nat) (aa : Option Addr) (al ac : Nat) (nn v : Int) (w : World)
    (h0 : w.cell? ⟨b, off, none⟩ = some (.slice da dl dc)) (h1 : w.cell? ⟨b, off + 1, none⟩ = some (.slice xa n1 xc))
    (hC : ∀ W, Below w.heap.size w W → Calls Tryz.prog 39 #[.agg #[.int .i64 11, vd, va, vl, vh, vs, .int .i64 x], .agg #[.slice da dl dc, .slice xa n1 xc], .slice aa al ac] W fun e w' => e = .returned (.int .i64 v) ∧ Below W.heap.size W w') :
    Calls Tryz.prog 19 #[.agg #[.int .i64 11, vd, va, vl, vh, vs, .int .i64 x], .slice (some ⟨b, off, none⟩) 1 cap, .slice aa al ac, .int .i64 nn] w fun e w' => e = .returned (.int .i64 v) ∧ Below w.heap.size w w' := by
  have HB1 := hide ((Below.refl w.heap.size w).alloc (Nat.le_refl _) (.cells #[.int .i64 11, vd, va, vl, vh, vs, .int .i64 x] 31))
  have HOP := hide (OpAt.new w 11 vd va vl vh vs x)
  obtain ⟨o0, o1, o2, o3, o4, o5, o6⟩ := HOP.out.cells
  have k0 := (HB1.out.cell (p := ⟨b, off, none⟩) (lt_of_cell h0)).trans h0
  have k1 := (HB1.out.cell (p := ⟨b, off + 1, none⟩) (lt_of_cell h1)).trans h1
  have HC := hide hC
  clear hC h0 h1
  go_enter Tryz.func19, Tryz.ntmps19
  go_wp2_with fail
  refine region_made 6 6 [fIs (.agg #[.int .i64 11, vd, va, vl, vh, vs, .int .i64 x]), fIs (.slice (some ⟨b, off, none⟩) 1 cap), fIs (.pointer (some ⟨b, off, none⟩)), fIs (.agg #[.slice da dl dc, .slice xa n1 xc]), fIs (.slice aa al ac), fIs (.int .i64 v)] (by kernel_rfl) (by kernel_rfl) (by kernel_rfl) (fun _ ⟨_, _⟩ ⟨_, _⟩ _ e h => by cases e; exact h) ⟨fIs_good _, fIs_good _, fIs_good _, fIs_good _, fIs_good _, fIs_good _, trivial⟩ ?mk ?rest
  case mk =>
    refine ⟨fun u wz hb hd => ?_, fun u wz hb hd => ?_, fun u wz hb hd => ?_, fun u wz hb hd => ?_, fun u wz hb hd => ?_, fun u wz hb hd => ?_, trivial⟩
    all_goals simp only [Act.put, List.setIfInBounds_toArray, List.set_cons_zero, List.set_cons_succ]
    · have o0' := (hb.cell (p := ⟨w.heap.size, 0, none⟩) (lt_of_cell o0)).trans o0
      have o1' := (hb.cell (p := ⟨w.heap.size, 1, none⟩) (lt_of_cell o1)).trans o1
      have o2' := (hb.cell (p := ⟨w.heap.size, 2, none⟩) (lt_of_cell o2)).trans o2
      have o3' := (hb.cell (p := ⟨w.heap.size, 3, none⟩) (lt_of_cell o3)).trans o3
      have o4' := (hb.cell (p := ⟨w.heap.size, 4, none⟩) (lt_of_cell o4)).trans o4
      have o5' := (hb.cell (p := ⟨w.heap.size, 5, none⟩) (lt_of_cell o5)).trans o5
      have o6' := (hb.cell (p := ⟨w.heap.size, 6, none⟩) (lt_of_cell o6)).trans o6
      go_simp
      exact ⟨rfl, Below.refl _ _, fun h => by cases h⟩
    · go_simp
      exact ⟨rfl, Below.refl _ _, fun h => by cases h⟩
    · have e1 : u 1 = .slice (some ⟨b, off, none⟩) 1 cap := hd 1 (by omega) (by kernel_rfl)
      rw [e1]
      go_simp
      exact ⟨rfl, Below.refl _ _, fun h => by cases h⟩
    · have e2 : u 2 = .pointer (some ⟨b, off, none⟩) := hd 2 (by omega) (by kernel_rfl)
      rw [e2]
      have k0' := (hb.cell (p := ⟨b, off, none⟩) (lt_of_cell k0)).trans k0
      have k1' := (hb.cell (p := ⟨b, off + 1, none⟩) (lt_of_cell k1)).trans k1
      go_simp
      exact ⟨rfl, Below.refl _ _, fun h => by cases h⟩
    · go_simp
      exact ⟨rfl, Below.refl _ _, fun h => by cases h⟩
    · have e0 : u 0 = .agg #[.int .i64 11, vd, va, vl, vh, vs, .int .i64 x] := hd 0 (by omega) (by kernel_rfl)
      have e3 : u 3 = .agg #[.slice da dl dc, .slice xa n1 xc] := hd 3 (by omega) (by kernel_rfl)
      have e4 : u 4 = .slice aa al ac := hd 4 (by omega) (by kernel_rfl)
      rw [e0, e3, e4]
      go_simp
      refine (HC.out wz (Below.on HB1.out hb)).mono ?_
      rintro e w2 ⟨rfl, hb2⟩
      exact ⟨rfl, hb2, fun h => by cases h⟩
  case rest =>
    intro u wz hb hf hp
    have f0 : u 0 = .agg #[.int .i64 11, vd, va, vl, vh, vs, .int .i64 x] := hf 0 (by omega)
    have f1 : u 1 = .slice (some ⟨b, off, none⟩) 1 cap := hf 1 (by omega)
    have f2 : u 2 = .pointer (some ⟨b, off, none⟩) := hf 2 (by omega)
    have f3 : u 3 = .agg #[.slice da dl dc, .slice xa n1 xc] := hf 3 (by omega)
    have f4 : u 4 = .slice aa al ac := hf 4 (by omega)
    have f5 : u 5 = .int .i64 v := hf 5 (by omega)
    refine UptoW.rest 1 6 (by rfl) (by kernel_rfl) ?_
    simp only [List.take, List.drop, putOps, Act.put, List.setIfInBounds_toArray, List.set_cons_zero, List.set_cons_succ, Nat.reduceAdd, f0, f1, f2, f3, f4, f5]
    clear f0 f1 f2 f3 f4 f5 hf hp
    have HBz := hide (Below.on HB1.out hb)
    refine wpList_plain rfl (fun K hK => ?_)
    go_simp
    refine hK _ _ (wpList_nil ?_)
    clear hK K hb k0 k1 o0 o1 o2 o3 o4 o5 o6
    go_wp2
    go_ret
    exact ⟨rfl, HBz.out⟩

set_option maxRecDepth 100000 in
set_option maxHeartbeats 1000000 in
theorem rentry_view13 (x : Int) (vd va vl vh vs : Value) (b off cap : Nat) (da : Option Addr) (dl dc : Nat) (xa : Option Addr) (n1 xc : Nat) (aa : Option Addr) (al ac : Nat) (nn v : Int) (w : World)
    (h0 : w.cell? ⟨b, off, none⟩ = some (.slice da dl dc)) (h1 : w.cell? ⟨b, off + 1, none⟩ = some (.slice xa n1 xc))
    (hC : ∀ W, Below w.heap.size w W → Calls Tryz.prog 39 #[.agg #[.int .i64 13, vd, va, vl, vh, vs, .int .i64 x], .agg #[.slice da dl dc, .slice xa n1 xc], .slice aa al ac] W fun e w' => e = .returned (.int .i64 v) ∧ Below W.heap.size W w') :
    Calls Tryz.prog 19 #[.agg #[.int .i64 13, vd, va, vl, vh, vs, .int .i64 x], .slice (some ⟨b, off, none⟩) 1 cap, .slice aa al ac, .int .i64 nn] w fun e w' => e = .returned (.int .i64 v) ∧ Below w.heap.size w w' := by
  have HB1 := hide ((Below.refl w.heap.size w).alloc (Nat.le_refl _) (.cells #[.int .i64 13, vd, va, vl, vh, vs, .int .i64 x] 31))
  have HOP := hide (OpAt.new w 13 vd va vl vh vs x)
  obtain ⟨o0, o1, o2, o3, o4, o5, o6⟩ := HOP.out.cells
  have k0 := (HB1.out.cell (p := ⟨b, off, none⟩) (lt_of_cell h0)).trans h0
  have k1 := (HB1.out.cell (p := ⟨b, off + 1, none⟩) (lt_of_cell h1)).trans h1
  have HC := hide hC
  clear hC h0 h1
  go_enter Tryz.func19, Tryz.ntmps19
  go_wp2_with fail
  refine region_made 6 6 [fIs (.agg #[.int .i64 13, vd, va, vl, vh, vs, .int .i64 x]), fIs (.slice (some ⟨b, off, none⟩) 1 cap), fIs (.pointer (some ⟨b, off, none⟩)), fIs (.agg #[.slice da dl dc, .slice xa n1 xc]), fIs (.slice aa al ac), fIs (.int .i64 v)] (by kernel_rfl) (by kernel_rfl) (by kernel_rfl) (fun _ ⟨_, _⟩ ⟨_, _⟩ _ e h => by cases e; exact h) ⟨fIs_good _, fIs_good _, fIs_good _, fIs_good _, fIs_good _, fIs_good _, trivial⟩ ?mk ?rest
  case mk =>
    refine ⟨fun u wz hb hd => ?_, fun u wz hb hd => ?_, fun u wz hb hd => ?_, fun u wz hb hd => ?_, fun u wz hb hd => ?_, fun u wz hb hd => ?_, trivial⟩
    all_goals simp only [Act.put, List.setIfInBounds_toArray, List.set_cons_zero, List.set_cons_succ]
    · have o0' := (hb.cell (p := ⟨w.heap.size, 0, none⟩) (lt_of_cell o0)).trans o0
      have o1' := (hb.cell (p := ⟨w.heap.size, 1, none⟩) (lt_of_cell o1)).trans o1
      have o2' := (hb.cell (p := ⟨w.heap.size, 2, none⟩) (lt_of_cell o2)).trans o2
      have o3' := (hb.cell (p := ⟨w.heap.size, 3, none⟩) (lt_of_cell o3)).trans o3
      have o4' := (hb.cell (p := ⟨w.heap.size, 4, none⟩) (lt_of_cell o4)).trans o4
      have o5' := (hb.cell (p := ⟨w.heap.size, 5, none⟩) (lt_of_cell o5)).trans o5
      have o6' := (hb.cell (p := ⟨w.heap.size, 6, none⟩) (lt_of_cell o6)).trans o6
      go_simp
      exact ⟨rfl, Below.refl _ _, fun h => by cases h⟩
    · go_simp
      exact ⟨rfl, Below.refl _ _, fun h => by cases h⟩
    · have e1 : u 1 = .slice (some ⟨b, off, none⟩) 1 cap := hd 1 (by omega) (by kernel_rfl)
      rw [e1]
      go_simp
      exact ⟨rfl, Below.refl _ _, fun h => by cases h⟩
    · have e2 : u 2 = .pointer (some ⟨b, off, none⟩) := hd 2 (by omega) (by kernel_rfl)
      rw [e2]
      have k0' := (hb.cell (p := ⟨b, off, none⟩) (lt_of_cell k0)).trans k0
      have k1' := (hb.cell (p := ⟨b, off + 1, none⟩) (lt_of_cell k1)).trans k1
      go_simp
      exact ⟨rfl, Below.refl _ _, fun h => by cases h⟩
    · go_simp
      exact ⟨rfl, Below.refl _ _, fun h => by cases h⟩
    · have e0 : u 0 = .agg #[.int .i64 13, vd, va, vl, vh, vs, .int .i64 x] := hd 0 (by omega) (by kernel_rfl)
      have e3 : u 3 = .agg #[.slice da dl dc, .slice xa n1 xc] := hd 3 (by omega) (by kernel_rfl)
      have e4 : u 4 = .slice aa al ac := hd 4 (by omega) (by kernel_rfl)
      rw [e0, e3, e4]
      go_simp
      refine (HC.out wz (Below.on HB1.out hb)).mono ?_
      rintro e w2 ⟨rfl, hb2⟩
      exact ⟨rfl, hb2, fun h => by cases h⟩
  case rest =>
    intro u wz hb hf hp
    have f0 : u 0 = .agg #[.int .i64 13, vd, va, vl, vh, vs, .int .i64 x] := hf 0 (by omega)
    have f1 : u 1 = .slice (some ⟨b, off, none⟩) 1 cap := hf 1 (by omega)
    have f2 : u 2 = .pointer (some ⟨b, off, none⟩) := hf 2 (by omega)
    have f3 : u 3 = .agg #[.slice da dl dc, .slice xa n1 xc] := hf 3 (by omega)
    have f4 : u 4 = .slice aa al ac := hf 4 (by omega)
    have f5 : u 5 = .int .i64 v := hf 5 (by omega)
    refine UptoW.rest 1 6 (by rfl) (by kernel_rfl) ?_
    simp only [List.take, List.drop, putOps, Act.put, List.setIfInBounds_toArray, List.set_cons_zero, List.set_cons_succ, Nat.reduceAdd, f0, f1, f2, f3, f4, f5]
    clear f0 f1 f2 f3 f4 f5 hf hp
    have HBz := hide (Below.on HB1.out hb)
    refine wpList_plain rfl (fun K hK => ?_)
    go_simp
    refine hK _ _ (wpList_nil ?_)
    clear hK K hb k0 k1 o0 o1 o2 o3 o4 o5 o6
    go_wp2
    go_ret
    exact ⟨rfl, HBz.out⟩

set_option maxRecDepth 100000 in
set_option maxHeartbeats 1000000 in
theorem rentry_view15 (x : Int) (vd va vl vh vs : Value) (b off cap : Nat) (da : Option Addr) (dl dc : Nat) (xa : Option Addr) (n1 xc : Nat) (aa : Option Addr) (al ac : Nat) (nn v : Int) (w : World)
    (h0 : w.cell? ⟨b, off, none⟩ = some (.slice da dl dc)) (h1 : w.cell? ⟨b, off + 1, none⟩ = some (.slice xa n1 xc))
    (hC : ∀ W, Below w.heap.size w W → Calls Tryz.prog 39 #[.agg #[.int .i64 15, vd, va, vl, vh, vs, .int .i64 x], .agg #[.slice da dl dc, .slice xa n1 xc], .slice aa al ac] W fun e w' => e = .returned (.int .i64 v) ∧ Below W.heap.size W w') :
    Calls Tryz.prog 19 #[.agg #[.int .i64 15, vd, va, vl, vh, vs, .int .i64 x], .slice (some ⟨b, off, none⟩) 1 cap, .slice aa al ac, .int .i64 nn] w fun e w' => e = .returned (.int .i64 v) ∧ Below w.heap.size w w' := by
  have HB1 := hide ((Below.refl w.heap.size w).alloc (Nat.le_refl _) (.cells #[.int .i64 15, vd, va, vl, vh, vs, .int .i64 x] 31))
  have HOP := hide (OpAt.new w 15 vd va vl vh vs x)
  obtain ⟨o0, o1, o2, o3, o4, o5, o6⟩ := HOP.out.cells
  have k0 := (HB1.out.cell (p := ⟨b, off, none⟩) (lt_of_cell h0)).trans h0
  have k1 := (HB1.out.cell (p := ⟨b, off + 1, none⟩) (lt_of_cell h1)).trans h1
  have HC := hide hC
  clear hC h0 h1
  go_enter Tryz.func19, Tryz.ntmps19
  go_wp2_with fail
  refine region_made 6 6 [fIs (.agg #[.int .i64 15, vd, va, vl, vh, vs, .int .i64 x]), fIs (.slice (some ⟨b, off, none⟩) 1 cap), fIs (.pointer (some ⟨b, off, none⟩)), fIs (.agg #[.slice da dl dc, .slice xa n1 xc]), fIs (.slice aa al ac), fIs (.int .i64 v)] (by kernel_rfl) (by kernel_rfl) (by kernel_rfl) (fun _ ⟨_, _⟩ ⟨_, _⟩ _ e h => by cases e; exact h) ⟨fIs_good _, fIs_good _, fIs_good _, fIs_good _, fIs_good _, fIs_good _, trivial⟩ ?mk ?rest
  case mk =>
    refine ⟨fun u wz hb hd => ?_, fun u wz hb hd => ?_, fun u wz hb hd => ?_, fun u wz hb hd => ?_, fun u wz hb hd => ?_, fun u wz hb hd => ?_, trivial⟩
    all_goals simp only [Act.put, List.setIfInBounds_toArray, List.set_cons_zero, List.set_cons_succ]
    · have o0' := (hb.cell (p := ⟨w.heap.size, 0, none⟩) (lt_of_cell o0)).trans o0
      have o1' := (hb.cell (p := ⟨w.heap.size, 1, none⟩) (lt_of_cell o1)).trans o1
      have o2' := (hb.cell (p := ⟨w.heap.size, 2, none⟩) (lt_of_cell o2)).trans o2
      have o3' := (hb.cell (p := ⟨w.heap.size, 3, none⟩) (lt_of_cell o3)).trans o3
      have o4' := (hb.cell (p := ⟨w.heap.size, 4, none⟩) (lt_of_cell o4)).trans o4
      have o5' := (hb.cell (p := ⟨w.heap.size, 5, none⟩) (lt_of_cell o5)).trans o5
      have o6' := (hb.cell (p := ⟨w.heap.size, 6, none⟩) (lt_of_cell o6)).trans o6
      go_simp
      exact ⟨rfl, Below.refl _ _, fun h => by cases h⟩
    · go_simp
      exact ⟨rfl, Below.refl _ _, fun h => by cases h⟩
    · have e1 : u 1 = .slice (some ⟨b, off, none⟩) 1 cap := hd 1 (by omega) (by kernel_rfl)
      rw [e1]
      go_simp
      exact ⟨rfl, Below.refl _ _, fun h => by cases h⟩
    · have e2 : u 2 = .pointer (some ⟨b, off, none⟩) := hd 2 (by omega) (by kernel_rfl)
      rw [e2]
      have k0' := (hb.cell (p := ⟨b, off, none⟩) (lt_of_cell k0)).trans k0
      have k1' := (hb.cell (p := ⟨b, off + 1, none⟩) (lt_of_cell k1)).trans k1
      go_simp
      exact ⟨rfl, Below.refl _ _, fun h => by cases h⟩
    · go_simp
      exact ⟨rfl, Below.refl _ _, fun h => by cases h⟩
    · have e0 : u 0 = .agg #[.int .i64 15, vd, va, vl, vh, vs, .int .i64 x] := hd 0 (by omega) (by kernel_rfl)
      have e3 : u 3 = .agg #[.slice da dl dc, .slice xa n1 xc] := hd 3 (by omega) (by kernel_rfl)
      have e4 : u 4 = .slice aa al ac := hd 4 (by omega) (by kernel_rfl)
      rw [e0, e3, e4]
      go_simp
      refine (HC.out wz (Below.on HB1.out hb)).mono ?_
      rintro e w2 ⟨rfl, hb2⟩
      exact ⟨rfl, hb2, fun h => by cases h⟩
  case rest =>
    intro u wz hb hf hp
    have f0 : u 0 = .agg #[.int .i64 15, vd, va, vl, vh, vs, .int .i64 x] := hf 0 (by omega)
    have f1 : u 1 = .slice (some ⟨b, off, none⟩) 1 cap := hf 1 (by omega)
    have f2 : u 2 = .pointer (some ⟨b, off, none⟩) := hf 2 (by omega)
    have f3 : u 3 = .agg #[.slice da dl dc, .slice xa n1 xc] := hf 3 (by omega)
    have f4 : u 4 = .slice aa al ac := hf 4 (by omega)
    have f5 : u 5 = .int .i64 v := hf 5 (by omega)
    refine UptoW.rest 1 6 (by rfl) (by kernel_rfl) ?_
    simp only [List.take, List.drop, putOps, Act.put, List.setIfInBounds_toArray, List.set_cons_zero, List.set_cons_succ, Nat.reduceAdd, f0, f1, f2, f3, f4, f5]
    clear f0 f1 f2 f3 f4 f5 hf hp
    have HBz := hide (Below.on HB1.out hb)
    refine wpList_plain rfl (fun K hK => ?_)
    go_simp
    refine hK _ _ (wpList_nil ?_)
    clear hK K hb k0 k1 o0 o1 o2 o3 o4 o5 o6
    go_wp2
    go_ret
    exact ⟨rfl, HBz.out⟩

set_option maxRecDepth 100000 in
set_option maxHeartbeats 1000000 in
theorem rentry_pad (x : Int) (vd va vl vh vs : Value) (b off cap : Nat) (da : Option Addr) (dl dc : Nat) (xa : Option Addr) (n1 xc : Nat) (aa : Option Addr) (al ac : Nat) (nn v : Int) (w : World)
    (h0 : w.cell? ⟨b, off, none⟩ = some (.slice da dl dc)) (h1 : w.cell? ⟨b, off + 1, none⟩ = some (.slice xa n1 xc))
    (hC : ∀ W, Below w.heap.size w W → Calls Tryz.prog 34 #[.agg #[.int .i64 14, vd, va, vl, vh, vs, .int .i64 x], .agg #[.slice da dl dc, .slice xa n1 xc], .slice aa al ac] W fun e w' => e = .returned (.int .i64 v) ∧ Below W.heap.size W w') :
    Calls Tryz.prog 19 #[.agg #[.int .i64 14, vd, va, vl, vh, vs, .int .i64 x], .slice (some ⟨b, off, none⟩) 1 cap, .slice aa al ac, .int .i64 nn] w fun e w' => e = .returned (.int .i64 v) ∧ Below w.heap.size w w' := by
  have HB1 := hide ((Below.refl w.heap.size w).alloc (Nat.le_refl _) (.cells #[.int .i64 14, vd, va, vl, vh, vs, .int .i64 x] 31))
  have HOP := hide (OpAt.new w 14 vd va vl vh vs x)
  obtain ⟨o0, o1, o2, o3, o4, o5, o6⟩ := HOP.out.cells
  have k0 := (HB1.out.cell (p := ⟨b, off, none⟩) (lt_of_cell h0)).trans h0
  have k1 := (HB1.out.cell (p := ⟨b, off + 1, none⟩) (lt_of_cell h1)).trans h1
  have HC := hide hC
  clear hC h0 h1
  go_enter Tryz.func19, Tryz.ntmps19
  go_wp2_with fail
  refine region_made 6 6 [fIs (.agg #[.int .i64 14, vd, va, vl, vh, vs, .int .i64 x]), fIs (.slice (some ⟨b, off, none⟩) 1 cap), fIs (.pointer (some ⟨b, off, none⟩)), fIs (.agg #[.slice da dl dc, .slice xa n1 xc]), fIs (.slice aa al ac), fIs (.int .i64 v)] (by kernel_rfl) (by kernel_rfl) (by kernel_rfl) (fun _ ⟨_, _⟩ ⟨_, _⟩ _ e h => by cases e; exact h) ⟨fIs_good _, fIs_good _, fIs_good _, fIs_good _, fIs_good _, fIs_good _, trivial⟩ ?mk ?rest
  case mk =>
    refine ⟨fun u wz hb hd => ?_, fun u wz hb hd => ?_, fun u wz hb hd => ?_, fun u wz hb hd => ?_, fun u wz hb hd => ?_, fun u wz hb hd => ?_, trivial⟩
    all_goals simp only [Act.put, List.setIfInBounds_toArray, List.set_cons_zero, List.set_cons_succ]
    · have o0' := (hb.cell (p := ⟨w.heap.size, 0, none⟩) (lt_of_cell o0)).trans o0
      have o1' := (hb.cell (p := ⟨w.heap.size, 1, none⟩) (lt_of_cell o1)).trans o1
      have o2' := (hb.cell (p := ⟨w.heap.size, 2, none⟩) (lt_of_cell o2)).trans o2
      have o3' := (hb.cell (p := ⟨w.heap.size, 3, none⟩) (lt_of_cell o3)).trans o3
      have o4' := (hb.cell (p := ⟨w.heap.size, 4, none⟩) (lt_of_cell o4)).trans o4
      have o5' := (hb.cell (p := ⟨w.heap.size, 5, none⟩) (lt_of_cell o5)).trans o5
      have o6' := (hb.cell (p := ⟨w.heap.size, 6, none⟩) (lt_of_cell o6)).trans o6
      go_simp
      exact ⟨rfl, Below.refl _ _, fun h => by cases h⟩
    · go_simp
      exact ⟨rfl, Below.refl _ _, fun h => by cases h⟩
    · have e1 : u 1 = .slice (some ⟨b, off, none⟩) 1 cap := hd 1 (by omega) (by kernel_rfl)
      rw [e1]
      go_simp
      exact ⟨rfl, Below.refl _ _, fun h => by cases h⟩
    · have e2 : u 2 = .pointer (some ⟨b, off, none⟩) := hd 2 (by omega) (by kernel_rfl)
      rw [e2]
      have k0' := (hb.cell (p := ⟨b, off, none⟩) (lt_of_cell k0)).trans k0
      have k1' := (hb.cell (p := ⟨b, off + 1, none⟩) (lt_of_cell k1)).trans k1
      go_simp
      exact ⟨rfl, Below.refl _ _, fun h => by cases h⟩
    · go_simp
      exact ⟨rfl, Below.refl _ _, fun h => by cases h⟩
    · have e0 : u 0 = .agg #[.int .i64 14, vd, va, vl, vh, vs, .int .i64 x] := hd 0 (by omega) (by kernel_rfl)
      have e3 : u 3 = .agg #[.slice da dl dc, .slice xa n1 xc] := hd 3 (by omega) (by kernel_rfl)
      have e4 : u 4 = .slice aa al ac := hd 4 (by omega) (by kernel_rfl)
      rw [e0, e3, e4]
      go_simp
      refine (HC.out wz (Below.on HB1.out hb)).mono ?_
      rintro e w2 ⟨rfl, hb2⟩
      exact ⟨rfl, hb2, fun h => by cases h⟩
  case rest =>
    intro u wz hb hf hp
    have f0 : u 0 = .agg #[.int .i64 14, vd, va, vl, vh, vs, .int .i64 x] := hf 0 (by omega)
    have f1 : u 1 = .slice (some ⟨b, off, none⟩) 1 cap := hf 1 (by omega)
    have f2 : u 2 = .pointer (some ⟨b, off, none⟩) := hf 2 (by omega)
    have f3 : u 3 = .agg #[.slice da dl dc, .slice xa n1 xc] := hf 3 (by omega)
    have f4 : u 4 = .slice aa al ac := hf 4 (by omega)
    have f5 : u 5 = .int .i64 v := hf 5 (by omega)
    refine UptoW.rest 1 6 (by rfl) (by kernel_rfl) ?_
    simp only [List.take, List.drop, putOps, Act.put, List.setIfInBounds_toArray, List.set_cons_zero, List.set_cons_succ, Nat.reduceAdd, f0, f1, f2, f3, f4, f5]
    clear f0 f1 f2 f3 f4 f5 hf hp
    have HBz := hide (Below.on HB1.out hb)
    refine wpList_plain rfl (fun K hK => ?_)
    go_simp
    refine hK _ _ (wpList_nil ?_)
    clear hK K hb k0 k1 o0 o1 o2 o3 o4 o5 o6
    go_wp2
    go_ret
    exact ⟨rfl, HBz.out⟩

set_option maxRecDepth 100000 in
set_option maxHeartbeats 1000000 in
theorem rentry_reform (x : Int) (vd va vl vh vs : Value) (b off cap : Nat) (da : Option Addr) (dl dc : Nat) (xa : Option Addr) (n1 xc : Nat) (xs : List Int) (at' : Value) (nn : Nat) (w : World)
    (h0 : w.cell? ⟨b, off, none⟩ = some (.slice da dl dc)) (h1 : w.cell? ⟨b, off + 1, none⟩ = some (.slice xa n1 xc)) (hx : Ints w xa n1 xs) (hn : nn < n1) :
    Calls Tryz.prog 19 #[.agg #[.int .i64 12, vd, va, vl, vh, vs, .int .i64 x], .slice (some ⟨b, off, none⟩) 1 cap, at', .int .i64 nn] w fun e w' => e = .returned (.int .i64 (xs[nn]?.getD 0)) ∧ Below w.heap.size w w' := by
  have HB1 := hide ((Below.refl w.heap.size w).alloc (Nat.le_refl _) (.cells #[.int .i64 12, vd, va, vl, vh, vs, .int .i64 x] 31))
  have HOP := hide (OpAt.new w 12 vd va vl vh vs x)
  obtain ⟨o0, o1, o2, o3, o4, o5, o6⟩ := HOP.out.cells
  have k0 := (HB1.out.cell (p := ⟨b, off, none⟩) (lt_of_cell h0)).trans h0
  have k1 := (HB1.out.cell (p := ⟨b, off + 1, none⟩) (lt_of_cell h1)).trans h1
  have hm := hx.2.1
  obtain ⟨b1, off1, rfl, _, hc⟩ := (hx.below HB1.out).at (by omega)
  have y1 := hc nn hn
  have i1 : (0 : Int) ≤ (nn : Int) := Int.natCast_nonneg _
  have i2 : (nn : Int) < (n1 : Int) := by omega
  clear hc hx h0 h1
  go_enter Tryz.func19, Tryz.ntmps19
  go_wp2
  go_ret
  exact ⟨rfl, HB1.out⟩

end Go.Proofs.YteoobeldmicjhaaGreat.V
namespace Go.Proofs.YteoobeldmicjhaaGreat.V
set_option maxRecDepth 20000
open Go.RowKit

/-- The numbers from 0 on. -/
def iotaL (n : Nat) : List Int := (List.range n).map fun k : Nat => (k : Int)
theorem iotaL_at (n k : Nat) (h : k < n) : (iotaL n)[k]?.getD 0 = (k : Int) := by simp [iotaL, h]
theorem list_ext_at {xs ys : List Int} (hl : xs.length = ys.length) (h : ∀ k, k < ys.length → xs[k]?.getD 0 = ys[k]?.getD 0) : xs = ys := by
  refine List.ext_getElem hl (fun k h1 h2 => ?_)
  have := h k h2
  simpa [h1, h2] using this
theorem set_inv {ps : List Int} {n : Nat} (hp : PermOk ps n) : setAll (List.replicate n 0) ps (iotaL n) n = invL ps := by
  have h1 := setAll_inv (at' := iotaL n) hp
  rw [hp.1] at h1
  rw [h1]
  refine list_ext_at (by rw [taken_length]) (fun k hk => ?_)
  have hq := invL_perm hp
  rw [invL_length, hp.1] at hk
  obtain ⟨h0, h2, _⟩ := hq.2 k hk
  obtain ⟨m, hm⟩ : ∃ m : Nat, (invL ps)[k]?.getD 0 = (m : Int) := ⟨((invL ps)[k]?.getD 0).toNat, by omega⟩
  rw [taken_getD (iotaL n) (invL ps) k m (by rw [invL_length, hp.1]; exact hk) hm, hm, iotaL_at n m (by omega)]

set_option maxRecDepth 100000 in
set_option maxHeartbeats 2000000 in
theorem back_11 (ea : Option Addr) (el ec : Nat) (pa : Option Addr) (pl pc : Nat) (la : Option Addr) (ll lc : Nat) (ha : Option Addr) (hl hc : Nat) (ta : Option Addr) (tl tc : Nat) (x : Int) (da : Option Addr) (dl dc : Nat) (ps : List Int) (w : World) (hp : Ints w pa pl ps) (hperm : PermOk ps pl) (h6 : pl ≤ 6) :
    Calls Tryz.prog 14 #[.agg #[.int .i64 11, .slice ea el ec, .slice pa pl pc, .slice la ll lc, .slice ha hl hc, .slice ta tl tc, .int .i64 x], .slice da dl dc] w fun e w' => (∃ (X : Option Addr) (n c : Nat), e = .returned (.agg #[.int .i64 11, .slice none 0 0, .slice X n c, .slice none 0 0, .slice none 0 0, .slice none 0 0, .int .i64 0]) ∧ Lst w' X n c (invL ps)) ∧ Below w.heap.size w w' := by
  have HB1 := (Below.refl w.heap.size w).alloc (Nat.le_refl _) (.cells #[.int .i64 11, .slice ea el ec, .slice pa pl pc, .slice la ll lc, .slice ha hl hc, .slice ta tl tc, .int .i64 x] 31)
  have HB2 := hide (HB1.alloc HB1.size (.cells #[.int .i64 0, .slice none 0 0, .slice none 0 0, .slice none 0 0, .slice none 0 0, .slice none 0 0, .int .i64 0] 31))
  have HOP := hide ((OpAt.new w 11 (.slice ea el ec) (.slice pa pl pc) (.slice la ll lc) (.slice ha hl hc) (.slice ta tl tc) x).alloc (.cells #[.int .i64 0, .slice none 0 0, .slice none 0 0, .slice none 0 0, .slice none 0 0, .slice none 0 0, .int .i64 0] 31))
  have hrs := OpAt.new (w.alloc (.cells #[.int .i64 11, .slice ea el ec, .slice pa pl pc, .slice la ll lc, .slice ha hl hc, .slice ta tl tc, .int .i64 x] 31)) 0 (.slice none 0 0) (.slice none 0 0) (.slice none 0 0) (.slice none 0 0) (.slice none 0 0) 0
  simp only [World.size_alloc] at hrs
  have HRS := hide hrs
  obtain ⟨o0, o1, o2, o3, o4, o5, o6⟩ := HOP.out.cells
  clear hrs HB1
  have HPP := hide (hp.below HB2.out)
  have HPM := hide hperm
  have HPL := hide hp.1
  have hpm := hp.2.1
  have hmk := run_make_row' (P := Tryz.prog) 22 3 (.int .i64 0) 8 Tryz.underlying22 info_int rfl .i64 .i64 pl (by omega) (by omega)
  have hob := HOP.out.alloc (.cells (madeCells #[.int .i64 0] pl) 3)
  obtain ⟨q0, q1, q2, q3, q4, q5, q6⟩ := hob.cells
  clear hp hperm hob
  go_enter Tryz.func14, Tryz.ntmps14
  go_wp2
  obtain ⟨W2, hW2⟩ : ∃ W2, W2 = ((w.alloc (.cells #[.int .i64 11, .slice ea el ec, .slice pa pl pc, .slice la ll lc, .slice ha hl hc, .slice ta tl tc, .int .i64 x] 31)).alloc (.cells #[.int .i64 0, .slice none 0 0, .slice none 0 0, .slice none 0 0, .slice none 0 0, .slice none 0 0, .int .i64 0] 31)) := ⟨_, rfl⟩
  have hs2 : W2.heap.size = w.heap.size + 2 := by rw [hW2]; simp
  have hs2' : w.heap.size + 1 + 1 = W2.heap.size := by omega
  rw [← hW2] at HB2 HOP HRS HPP ⊢
  rw [hs2']
  have HS2 := hide hs2
  clear hs2 hs2' hW2 o0 o1 o2 o3 o4 o5 o6 q0 q1 q2 q3 q4 q5 q6 hmk
  go_loopw [98] (fun i wr => ∃ k : Nat, k ≤ pl ∧ i = .int .i64 k ∧ wr.rowIs W2.heap.size 3 pl (fun j => .int .i64 ((setAll (List.replicate pl 0) ps (iotaL pl) k)[j]?.getD 0)) ∧ Below W2.heap.size W2 wr) (fun i _ => pl - (intOf i).toNat)
  case atStart => exact ⟨0, Nat.zero_le _, rfl, (World.rowIs_made W2 (.int .i64 0) pl 3).congr (fun j _ => by rw [setAll, repl0_at]), (Below.refl _ _).alloc (Nat.le_refl _) _⟩
  case round =>
    obtain ⟨k, hk, rfl, hrow, hB⟩ := hrel
    have HR := hide hrow
    have HB := hide hB
    have HOR := hide (HOP.out.below hB)
    have HPR := hide (HPP.out.below hB)
    have hrr := HRS.out.below hB
    have HRR := hide hrr
    obtain ⟨o0, o1, o2, o3, o4, o5, o6⟩ := HOR.out.cells
    clear hrow hB hrr
    by_cases hlt : k < pl
    · obtain ⟨pb, po, hpa, _, hpc⟩ := HPR.out.at (by omega)
      subst hpa
      have cj := hpc k hlt
      obtain ⟨h0, h1, _⟩ := HPM.out.2 k hlt
      obtain ⟨m, hm⟩ : ∃ m : Nat, ps[k]?.getD 0 = (m : Int) := ⟨(ps[k]?.getD 0).toNat, by omega⟩
      rw [hm] at cj h0 h1
      have HM := hide hm
      have hml : m < pl := by omega
      have hr := HR.out.cell (i := m) (by omega)
      have hf := HR.out.frozen m
      clear hpc hm
      go_wp2
      go_roundw
      case rel =>
        refine ⟨k + 1, by omega, by go_num, (HR.out.set m (.int .i64 (k : Int))).congr (fun j hj => ?_), HB.out.setCell (p := ⟨W2.heap.size, m, none⟩) (Nat.le_refl _) _⟩
        rw [setAll, HM.out, Int.toNat_natCast, iotaL_at pl k hlt]
        by_cases e : j = m
        · subst e
          rw [if_pos rfl]
          have : j < (setAll (List.replicate pl 0) ps (iotaL pl) k).length := by rw [setAll_length]; simp; omega
          simp [this]
        · rw [if_neg e, List.getElem?_set_ne (fun h => e h.symm)]
      case measure => simp [intOf]; omega
    · have hkp : k = pl := by omega
      have hs2 := HS2.out
      have hi := set_inv HPM.out
      have hrow := HR.out
      rw [hkp, hi] at hrow
      have hlst : Lst wr (some ⟨W2.heap.size, 0, none⟩) pl pl (invL ps) := ⟨ints_of_rowI hrow (by rw [invL_length, HPL.out]) (by omega) (fun x hx => by
        obtain ⟨j, hj, e⟩ := List.getElem_of_mem hx
        have hj' : j < pl := by rw [invL_length, HPL.out] at hj; exact hj
        have := (invL_perm HPM.out).2 j hj'
        simp [hj] at this
        omega), Nat.le_refl _, fun e => by cases e⟩
      obtain ⟨y0, y1, y2, y3, y4, y5, y6⟩ := HRR.out.cells
      have z0 := op7_frozen HRR.out 0
      have z1 := op7_frozen HRR.out 1
      have z2 := op7_frozen HRR.out 2
      have z3 := op7_frozen HRR.out 3
      have z4 := op7_frozen HRR.out 4
      have z5 := op7_frozen HRR.out 5
      have z6 := op7_frozen HRR.out 6
      have HBF := hide (op7_below (b := w.heap.size + 1) (Below.on HB2.out HB.out) (by omega) (.int .i64 11) (.slice none 0 0) (.slice (some ⟨W2.heap.size, 0, none⟩) pl pl) (.slice none 0 0) (.slice none 0 0) (.slice none 0 0) (.int .i64 0))
      have HXF := hide (op7_lst (b := w.heap.size + 1) hlst (fun g o e => by cases e; omega) (.int .i64 11) (.slice none 0 0) (.slice (some ⟨W2.heap.size, 0, none⟩) pl pl) (.slice none 0 0) (.slice none 0 0) (.slice none 0 0) (.int .i64 0))
      clear hlst hrow hi hs2
      go_wp2
      have hput := op7_put HRR.out 11 (.slice none 0 0) (.slice (some ⟨W2.heap.size, 0, none⟩) pl pl) (.slice none 0 0) (.slice none 0 0) (.slice none 0 0) 0
      obtain ⟨u0, u1, u2, u3, u4, u5, u6⟩ := hput.cells
      exact bodyPost_ret (v := .agg #[.int .i64 11, .slice none 0 0, .slice (some ⟨W2.heap.size, 0, none⟩) pl pl, .slice none 0 0, .slice none 0 0, .slice none 0 0, .int .i64 0]) (by simp [results, Tryz.results14, go_sem, u0, u1, u2, u3, u4, u5, u6]) rfl ⟨⟨_, _, _, rfl, HXF.out⟩, HBF.out⟩

end Go.Proofs.YteoobeldmicjhaaGreat.V
