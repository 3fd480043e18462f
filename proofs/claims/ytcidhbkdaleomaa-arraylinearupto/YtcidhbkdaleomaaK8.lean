/-
  Contract: adjointref1.Turn. Contract: adjointref1.Turn, whatever it is asked.
-/
import Derived.Test.YtcidhbkdaleomaaK6
import Derived.Test.YtcidhbkdaleomaaK7
import Derived.Deep.RegionLaw
import Derived.Deep.DeepCutAuto
import Derived.Deep.AppendLies
namespace Go.Proofs.Ytcidhbkdaleomaa.V
set_option maxRecDepth 20000
open Go.RowKit

theorem taken_take_succ (xs ps : List Int) (k m : Nat) (h : k < ps.length) (hm : ps[k]?.getD 0 = (m : Int)) : ((taken xs ps).take (k + 1)).map (Value.int .i64) = ((taken xs ps).take k).map (Value.int .i64) ++ [.int .i64 (xs[m]?.getD 0)] := by
  rw [take_succ_getD (taken xs ps) k (by rw [taken_length]; exact h), List.map_append, taken_getD xs ps k m h hm]
  simp

/-- The answer on its way: a View's block, whose two lists are rows of the call's own. -/
def OutAt (w wr : World) (C : Nat) (s : Int) (k : Nat) (X : Option Addr) (c : Nat) (ds : List Int) (Y : Option Addr) (d : Nat) (ss : List Int) : Prop :=
  ViewAt wr C (.int .i64 s) (.slice X k c) (.slice Y k d) ∧ wr.ownsRow w.heap.size 3 1 (.slice X k c) k (ds.map (Value.int .i64)) ∧ wr.ownsRow w.heap.size 3 1 (.slice Y k d) k (ss.map (Value.int .i64)) ∧
    ((Value.slice X k c).ownBlock = none ∨ (Value.slice X k c).ownBlock ≠ (Value.slice Y k d).ownBlock)

theorem view_ne_row {w : World} {C : Nat} {c0 c1 c2 : Value} (h : ViewAt w C c0 c1 c2) {B n : Nat} {v : Value} {xs : List Value} (ho : w.ownsRow B 3 1 v n xs) : some C ≠ v.ownBlock := by
  rcases ho.2 with ⟨rfl, _⟩ | ⟨g, cap, cur, rfl, _, hgb, _⟩
  · simp [Value.ownBlock]
  · intro e'
    obtain rfl : C = g := by simpa [Value.ownBlock] using e'
    unfold ViewAt at h
    rw [h] at hgb
    simp at hgb
theorem ViewAt.grown {w w2 : World} {C : Nat} {c0 c1 c2 : Value} (h : ViewAt w C c0 c1 c2) {B n : Nat} {v : Value} {xs : List Value} {o : Obj} (ho : w.ownsRow B 3 1 v n xs) (hg : (w.alloc o).drew.grownBy w2 v.ownBlock) : ViewAt w2 C c0 c1 c2 :=
  (hg.block C (by show C < (w.alloc o).heap.size; have := h.lt; simp; omega) (view_ne_row h ho)).trans (h.alloc o)
theorem grown_below {w wr w2 : World} {n : Nat} {v : Value} {xs : List Value} {o : Obj} (hB : Below w.heap.size w wr) (ho : wr.ownsRow w.heap.size 3 1 v n xs) (hg : (wr.alloc o).drew.grownBy w2 v.ownBlock) : Below w.heap.size w w2 := by
  refine (hB.alloc hB.size o).drew.grown hg (by have := hB.size; show _ ≤ (wr.alloc o).heap.size; simp; omega) (fun j e => ?_)
  exact (ho.lt j e).1
theorem own_grown {w w2 : World} {B m : Nat} {v u : Value} {ys : List Value} {o : Obj} (hu : w.ownsRow B 3 1 u m ys) (hg : (w.alloc o).drew.grownBy w2 v.ownBlock) (hap : u.ownBlock = none ∨ u.ownBlock ≠ v.ownBlock) : w2.ownsRow B 3 1 u m ys :=
  (hu.alloc o).drew.kept hg hap
theorem apart_sym {v u : Value} (h : v.ownBlock = none ∨ v.ownBlock ≠ u.ownBlock) : u.ownBlock = none ∨ u.ownBlock ≠ v.ownBlock := by
  rcases h with h | h
  · cases e : u.ownBlock with
    | none => exact .inl rfl
    | some g => exact .inr (by rw [h]; simp)
  · exact .inr (Ne.symm h)
theorem new_apart {w : World} {B n g : Nat} {v u : Value} {ys : List Value} (h : v.ownBlock = none ∨ v.ownBlock ≠ u.ownBlock) (hu : w.ownsRow B 3 1 u n ys) (hat : v.ownBlock = some g ∨ g = w.heap.size + 1) : some g ≠ u.ownBlock := by
  intro e
  rcases hat with hat | hat
  · rcases h with h | h
    · rw [h] at hat; cases hat
    · exact h (by rw [hat, e])
  · have := (hu.lt g e.symm).2
    omega
theorem own_le {w : World} {B n c : Nat} {X : Option Addr} {xs : List Value} (h : w.ownsRow B 3 1 (.slice X n c) n xs) : n ≤ c := by
  rcases h.2 with ⟨h1, h2⟩ | ⟨g, cap, cur, h1, _, _, h2, _⟩
  · omega
  · cases h1; exact h2
theorem ints_of_own' {w : World} {B n c : Nat} {X : Option Addr} {xs : List Int} (h : w.ownsRow B 3 1 (.slice X n c) n (xs.map (Value.int .i64))) (hl : xs.length = n) (hm : n ≤ 9223372036854775807) (hb : ∀ x ∈ xs, -9223372036854775808 ≤ x ∧ x ≤ 9223372036854775807) : Ints w X n xs := by
  rcases h.2 with ⟨h1, h2⟩ | ⟨g, cap, cur, h1, _⟩
  · exact ⟨hl, hm, hb, .inl h2⟩
  · cases h1; exact ints_of_own h hl hm hb
theorem own_view_set {w : World} {C : Nat} {c0 c1 c2 : Value} (h : ViewAt w C c0 c1 c2) {B n : Nat} {v : Value} {xs : List Value} (ho : w.ownsRow B 3 1 v n xs) (i : Nat) (u : Value) : (w.setCell ⟨C, i, none⟩ u).ownsRow B 3 1 v n xs :=
  ownsRow_setCell_other ho (fun e => view_ne_row h ho e.symm) u
theorem ViewAt.set1 {w : World} {C : Nat} {c0 c1 c2 : Value} (h : ViewAt w C c0 c1 c2) (u : Value) : ViewAt (w.setCell ⟨C, 1, none⟩ u) C c0 u c2 := by
  unfold ViewAt at *
  simp [World.setCell, Array.getElem?_modify, h]
theorem ViewAt.set2 {w : World} {C : Nat} {c0 c1 c2 : Value} (h : ViewAt w C c0 c1 c2) (u : Value) : ViewAt (w.setCell ⟨C, 2, none⟩ u) C c0 c1 u := by
  unfold ViewAt at *
  simp [World.setCell, Array.getElem?_modify, h]
theorem ViewAt.set0 {w : World} {C : Nat} {c0 c1 c2 : Value} (h : ViewAt w C c0 c1 c2) (u : Value) : ViewAt (w.setCell ⟨C, 0, none⟩ u) C u c1 c2 := by
  unfold ViewAt at *
  simp [World.setCell, Array.getElem?_modify, h]

theorem own_set3 {w : World} {C : Nat} {c0 c1 c2 : Value} (h : ViewAt w C c0 c1 c2) {B n : Nat} {v : Value} {xs : List Value} (ho : w.ownsRow B 3 1 v n xs) {x y z : Value} : (((w.setCell ⟨C, 0, none⟩ x).setCell ⟨C, 1, none⟩ y).setCell ⟨C, 2, none⟩ z).ownsRow B 3 1 v n xs :=
  own_view_set ((h.set0 x).set1 y) (own_view_set (h.set0 x) (own_view_set h ho 0 x) 1 y) 2 z

set_option maxRecDepth 100000 in
set_option maxHeartbeats 4000000 in
theorem rturn_ok (s : Int) (da : Option Addr) (dl dc : Nat) (ds : List Int) (sa : Option Addr) (sc : Nat) (ss : List Int) (a : Option Addr) (cap : Nat) (ps : List Int) (w : World)
    (hd : Ints w da dl ds) (hs : Ints w sa dl ss) (hp : Ints w a dl ps) (hW : wrongE s ds ss = 0) (hP : PermOk ps dl) (h6 : dl ≤ 6) :
    Calls Try.prog 83 #[.agg #[.int .i64 s, .slice da dl dc, .slice sa dl sc], .slice a dl cap] w fun e w' => Gives e w' s (taken ds ps) (taken ss ps) 0 ∧ Below w.heap.size w w' := by
  have HD := hide hd
  have HS := hide hs
  have HP := hide hp
  have HW := hide hW
  have HPO := hide hP
  have HPA := hide ((perm_iff hP.1).1 hP.2)
  clear hd hs hp hW hP
  have hb2 : Below w.heap.size w ((w.alloc (.cells #[.int .i64 s, .slice da dl dc, .slice sa dl sc] 62)).alloc (.cells #[.int .i64 0, .slice none 0 0, .slice none 0 0] 62)) := ((Below.refl _ _).alloc (Nat.le_refl _) _).alloc (by simp) _
  have HB2 := hide hb2
  clear hb2
  obtain ⟨i0, hi, hz0, hz1, hz2⟩ := info_parts info_int
  have HI := hide hi
  have HZ0 := hide hz0
  have HZ1 := hide hz1
  have HZ2 := hide hz2
  clear hi hz0 hz1 hz2
  go_enter Try.func83, Try.ntmps83
  go_wp2_with fail
  refine (rwrong_any _ _ _ _ ds _ _ _ ss _ (HD.out.below HB2.out) (HS.out.below HB2.out)).mono ?_
  rintro e w1 ⟨rfl, hb⟩
  rw [HW.out]
  have HB := hide (Below.on HB2.out hb)
  have hV1 : ViewAt w1 w.heap.size (.int .i64 s) (.slice da dl dc) (.slice sa dl sc) := ((ViewAt.new w _ _ _).alloc _).below hb
  have hR1 : ViewAt w1 (w.heap.size + 1) (.int .i64 0) (.slice none 0 0) (.slice none 0 0) := by
    have := (ViewAt.new (w.alloc (.cells #[.int .i64 s, .slice da dl dc, .slice sa dl sc] 62)) (.int .i64 0) (.slice none 0 0) (.slice none 0 0)).below hb
    simpa using this
  have HV1 := hide hV1
  have HR1 := hide hR1
  obtain ⟨⟨v0, v1, v2⟩, _⟩ := hV1.cells
  clear hb hV1 hR1
  go_wp2_with fail
  go_loop [27] (fun i => ∃ k : Nat, k ≤ dl ∧ i = .int .i64 k) (fun i => dl - (intOf i).toNat)
  case atStart => exact ⟨0, Nat.zero_le _, rfl⟩
  case round =>
    obtain ⟨k, hk, rfl⟩ := hrel
    by_cases hlt : k < dl
    · have hmem : ps.any (fun x => x == (k : Int)) = true := by rw [List.any_eq_true]; exact ⟨_, HPA.out k hlt, by simp⟩
      have HM := hide hmem
      clear hmem
      go_wp2_with (go_at_call 104; refine (has_any _ _ _ ps _ _ (HP.out.below HB.out)).mono ?_; rintro e w' ⟨rfl, hw'⟩; obtain rfl := hw'.symm; rw [HM.out])
      go_round
      case rel => exact ⟨k + 1, by omega, by go_num⟩
      case measure => simp [intOf]; omega
    · go_wp2_with fail
      have hC : ViewAt (w1.alloc (.cells #[.int .i64 s, .slice none 0 0, .slice none 0 0] 62)) w1.heap.size (.int .i64 s) (.slice none 0 0) (.slice none 0 0) := ViewAt.new w1 _ _ _
      go_loopw [41] (fun i wr => ∃ k : Nat, k ≤ dl ∧ i = .int .i64 k ∧ ∃ (X : Option Addr) (c : Nat) (Y : Option Addr) (d : Nat), OutAt w wr w1.heap.size s k X c ((taken ds ps).take k) Y d ((taken ss ps).take k) ∧ (ViewAt wr w.heap.size (.int .i64 s) (.slice da dl dc) (.slice sa dl sc) ∧ ViewAt wr (w.heap.size + 1) (.int .i64 0) (.slice none 0 0) (.slice none 0 0)) ∧ Below w.heap.size w wr) (fun i _ => dl - (intOf i).toNat)
      case atStart =>
        exact ⟨0, Nat.zero_le _, rfl, none, 0, none, 0, ⟨hC, World.ownsRow_nil _ _ _ _, World.ownsRow_nil _ _ _ _, .inl rfl⟩, ⟨HV1.out.alloc _, HR1.out.alloc _⟩, HB.out.alloc HB.out.size _⟩
      case round =>
        clear hlt hk hC
        obtain ⟨m, hm, rfl, X, c, Y, d, ⟨hO, hX, hY, hap⟩, ⟨hv, hr⟩, hB⟩ := hrel
        have HO := hide hO
        have HX := hide hX
        have HY := hide hY
        have HAP := hide hap
        have HV := hide hv
        have HR := hide hr
        have HBw := hide hB
        clear hO hX hY hap hv hr hB
        by_cases hlt : m < dl
        · obtain ⟨pb, poff, rfl, hpb, hpc⟩ := HP.out.at (by omega)
          obtain ⟨db, doff, rfl, hdb, hdc⟩ := HD.out.at (by omega)
          obtain ⟨sb, soff, rfl, hsb, hsc⟩ := HS.out.at (by omega)
          have hpo := HPO.out.2 m hlt
          obtain ⟨q, hq⟩ : ∃ q : Nat, ps[m]?.getD 0 = (q : Int) := ⟨(ps[m]?.getD 0).toNat, by omega⟩
          have hqlt : q < dl := by omega
          have cp : wr.cell? ⟨pb, poff + m, none⟩ = some (.int .i64 (q : Int)) := by rw [← hq]; exact (HBw.out.cell (p := ⟨pb, poff + m, none⟩) hpb).trans (hpc m hlt)
          have cd : wr.cell? ⟨db, doff + q, none⟩ = some (.int .i64 (ds[q]?.getD 0)) := (HBw.out.cell (p := ⟨db, doff + q, none⟩) hdb).trans (hdc q hqlt)
          have HSC := hide (hsc q hqlt)
          have HDC := hide (hdc q hqlt)
          have HPL : Hid (m < ps.length) := by rw [Hid, HPO.out.1]; exact hlt
          have HQ := hide hq
          obtain ⟨⟨v0, v1, v2⟩, _⟩ := HV.out.cells
          obtain ⟨⟨o0, o1, o2⟩, p0, p1, p2⟩ := HO.out.cells
          have i1 : (0 : Int) ≤ (q : Int) := Int.natCast_nonneg _
          have i2 : (q : Int) < (dl : Int) := by omega
          have hCl := HO.out.lt
          have hBl := HV.out.lt
          clear hpc hdc hsc hq hpo
          go_wp2_with fail
          go_cut [] (fun wc => ∃ (g1 c1 : Nat), ViewAt wc w1.heap.size (.int .i64 s) (.slice (some ⟨g1, 0, none⟩) (m + 1) c1) (.slice Y m d) ∧ (wc.ownsRow w.heap.size 3 1 (.slice (some ⟨g1, 0, none⟩) (m + 1) c1) (m + 1) (((taken ds ps).take (m + 1)).map (Value.int .i64)) ∧ wc.ownsRow w.heap.size 3 1 (.slice Y m d) m (((taken ss ps).take m).map (Value.int .i64)) ∧ some g1 ≠ (Value.slice Y m d).ownBlock) ∧ (ViewAt wc w.heap.size (.int .i64 s) (.slice (some ⟨db, doff, none⟩) dl dc) (.slice (some ⟨sb, soff, none⟩) dl sc) ∧ ViewAt wc (w.heap.size + 1) (.int .i64 0) (.slice none 0 0) (.slice none 0 0)) ∧ Below w.heap.size w wc)
          case first =>
            go_region_law ((refine step_append_lies _ (by rfl) _ _ _ (by rfl) w.heap.size 3 i0 _ 1 8 Try.underlying22 HI.out HZ0.out HZ1.out HZ2.out rfl (by omega) _ _ _ (by rfl) ((HX.out.alloc _).drew) ⟨wr.heap.size, 0, none⟩ 1 1 [.int .i64 (ds[q]?.getD 0)] (by rfl) (by rfl) (World.news_of_block (cs := #[.int .i64 (ds[q]?.getD 0)]) (t := 3) (fr := (0, 0)) (heap_alloc_new wr _)) (by simp [Value.oneCell']) (by omega) (by unfold maxLen; omega) (by omega) (by have := HBw.out.size; simp; omega) (wr.heap.size + 1) (by simp) ?_; intro g1 c1 w2 hown1 hgrow hat hlt3; have hO2 := HO.out.grown HX.out hgrow; have hV2 := HV.out.grown HX.out hgrow; have hR2 := HR.out.grown HX.out hgrow; have hB2 := grown_below HBw.out HX.out hgrow; obtain ⟨⟨a0, a1, a2⟩, b0, b1, b2⟩ := hO2.cells; obtain ⟨⟨e0, e1, e2⟩, _⟩ := hV2.cells; have cd2 : w2.cell? ⟨db, doff + q, none⟩ = some (.int .i64 (ds[q]?.getD 0)) := (hB2.cell (p := ⟨db, doff + q, none⟩) hdb).trans HDC.out; have cs2 : w2.cell? ⟨sb, soff + q, none⟩ = some (.int .i64 (ss[q]?.getD 0)) := (hB2.cell (p := ⟨sb, soff + q, none⟩) hsb).trans HSC.out; have HO2 := hide hO2; have HV2 := hide hV2; have HR2 := hide hR2; have HB2' := hide hB2; have HX2 := hide hown1; have HG2 := hide hgrow; have HAT := hide hat; have HY2 := hide (own_grown HY.out hgrow (apart_sym HAP.out)); clear hO2 hV2 hR2 hB2 hown1 hgrow hat))
            all_goals go_wp2
            all_goals go_meet
            all_goals
              have hst := taken_take_succ ds ps m q HPL.out HQ.out
              have hx := HX2.out
              rw [← hst] at hx
              refine ⟨g1, c1, HO2.out.set1 _, ⟨own_view_set HO2.out hx 1 _, own_view_set HO2.out HY2.out 1 _, new_apart HAP.out HY.out HAT.out⟩, ⟨HV2.out.set (p := ⟨w1.heap.size, 1, none⟩) (by have := HB.out.size; have := HV1.out.lt; simp; omega) _, HR2.out.set (p := ⟨w1.heap.size, 1, none⟩) (by have := HR1.out.lt; simp; omega) _⟩, HB2'.out.setCell (p := ⟨w1.heap.size, 1, none⟩) (by have := HB.out.size; simp; omega) _⟩
          case rest =>
            obtain ⟨g1, c1, hO, ⟨hX, hY, hne⟩, ⟨hv, hr⟩, hB⟩ := hcut
            clear cp cd v0 v1 v2 o0 o1 o2 p0 p1 p2 hCl hBl HO HX HY HAP HV HR HBw
            have HO := hide hO
            have HX := hide hX
            have HY := hide hY
            have HNE := hide hne
            have HV := hide hv
            have HR := hide hr
            have HBw := hide hB
            obtain ⟨⟨v0, v1, v2⟩, _⟩ := hv.cells
            obtain ⟨⟨o0, o1, o2⟩, p0, p1, p2⟩ := hO.cells
            have cs : wc.cell? ⟨sb, soff + q, none⟩ = some (.int .i64 (ss[q]?.getD 0)) := (hB.cell (p := ⟨sb, soff + q, none⟩) hsb).trans HSC.out
            have hCl := hO.lt
            have hBl := hv.lt
            clear hO hX hY hne hv hr hB
            go_wp2_with fail
            go_region_law ((refine step_append_lies _ (by rfl) _ _ _ (by rfl) w.heap.size 3 i0 _ 1 8 Try.underlying22 HI.out HZ0.out HZ1.out HZ2.out rfl (by omega) _ _ _ (by rfl) ((HY.out.alloc _).drew) ⟨wc.heap.size, 0, none⟩ 1 1 [.int .i64 (ss[q]?.getD 0)] (by rfl) (by rfl) (World.news_of_block (cs := #[.int .i64 (ss[q]?.getD 0)]) (t := 3) (fr := (0, 0)) (heap_alloc_new wc _)) (by simp [Value.oneCell']) (by omega) (by unfold maxLen; omega) (by omega) (by have := HBw.out.size; simp; omega) (wc.heap.size + 1) (by simp) ?_; intro g2 c2 w2 hown1 hgrow hat hlt3; have hO2 := HO.out.grown HY.out hgrow; have hV2 := HV.out.grown HY.out hgrow; have hR2 := HR.out.grown HY.out hgrow; have hB2 := grown_below HBw.out HY.out hgrow; obtain ⟨⟨a0, a1, a2⟩, b0, b1, b2⟩ := hO2.cells; have HO2 := hide hO2; have HV2 := hide hV2; have HR2 := hide hR2; have HB2' := hide hB2; have HY2 := hide hown1; have HAT := hide hat; have HX2 := hide (own_grown HX.out hgrow (.inr (fun e => HNE.out e))); clear hO2 hV2 hR2 hB2 hown1 hgrow hat))
            all_goals go_wp2
            all_goals go_roundw
            all_goals try (case measure => simp [intOf]; omega)
            all_goals
              have hst := taken_take_succ ss ps m q HPL.out HQ.out
              have hy := HY2.out
              rw [← hst] at hy
              have hap : (Value.slice (some ⟨g1, 0, none⟩) (m + 1) c1).ownBlock = none ∨ (Value.slice (some ⟨g1, 0, none⟩) (m + 1) c1).ownBlock ≠ (Value.slice (some ⟨g2, 0, none⟩) (m + 1) c2).ownBlock := .inr (Ne.symm (new_apart (v := .slice Y m d) (apart_sym (.inr HNE.out)) HX.out HAT.out))
              have hr : ∃ k' : Nat, k' ≤ dl ∧ Value.int .i64 ((m : Int) + 1) = .int .i64 k' ∧ ∃ (X : Option Addr) (c : Nat) (Y' : Option Addr) (d' : Nat), OutAt w (w2.setCell ⟨w1.heap.size, 2, none⟩ (.slice (some ⟨g2, 0, none⟩) (m + 1) c2)) w1.heap.size s k' X c ((taken ds ps).take k') Y' d' ((taken ss ps).take k') ∧ (ViewAt (w2.setCell ⟨w1.heap.size, 2, none⟩ (.slice (some ⟨g2, 0, none⟩) (m + 1) c2)) w.heap.size (.int .i64 s) (.slice (some ⟨db, doff, none⟩) dl dc) (.slice (some ⟨sb, soff, none⟩) dl sc) ∧ ViewAt (w2.setCell ⟨w1.heap.size, 2, none⟩ (.slice (some ⟨g2, 0, none⟩) (m + 1) c2)) (w.heap.size + 1) (.int .i64 0) (.slice none 0 0) (.slice none 0 0)) ∧ Below w.heap.size w (w2.setCell ⟨w1.heap.size, 2, none⟩ (.slice (some ⟨g2, 0, none⟩) (m + 1) c2)) :=
                ⟨m + 1, by omega, by go_num, _, _, _, _, ⟨HO2.out.set2 _, own_view_set HO2.out HX2.out 2 _, own_view_set HO2.out hy 2 _, hap⟩, ⟨HV2.out.set (p := ⟨w1.heap.size, 2, none⟩) (by have := HV1.out.lt; simp; omega) _, HR2.out.set (p := ⟨w1.heap.size, 2, none⟩) (by have := HR1.out.lt; simp; omega) _⟩, HB2'.out.setCell (p := ⟨w1.heap.size, 2, none⟩) (by have := HB.out.size; simp; omega) _⟩
              first
                | exact hr
                | (repeat apply Exists.intro
                   exact ⟨hr, rfl⟩)
        · obtain rfl : m = dl := by omega
          obtain ⟨⟨o0, o1, o2⟩, _⟩ := HO.out.cells
          obtain ⟨⟨r0, r1, r2⟩, rf0, rf1, rf2⟩ := HR.out.cells
          have e1 : (taken ds ps).take m = taken ds ps := List.take_of_length_le (by rw [taken_length, HPO.out.1]; omega)
          have e2 : (taken ss ps).take m = taken ss ps := List.take_of_length_le (by rw [taken_length, HPO.out.1]; omega)
          have hx := HX.out
          have hy := HY.out
          rw [e1] at hx
          rw [e2] at hy
          have HX' := hide hx
          have HY' := hide hy
          clear hx hy e1 e2
          go_wp2
          refine bodyPost_ret (v := .tuple #[.agg #[.int .i64 s, .slice X m c, .slice Y m d], .int .i64 0]) (by simp [results, Try.results83, go_sem, r0, r1, r2]) rfl ⟨⟨X, m, c, Y, m, d, rfl, ?_, ?_, own_le HX'.out, own_le HY'.out⟩, ?_⟩
          · exact ints_of_own' (own_set3 HR.out HX'.out) (by rw [taken_length, HPO.out.1]) (by omega) (taken_bd HD.out.2.2.1)
          · exact ints_of_own' (own_set3 HR.out HY'.out) (by rw [taken_length, HPO.out.1]) (by omega) (taken_bd HS.out.2.2.1)
          · exact ((HBw.out.setCell (p := ⟨w.heap.size + 1, 0, none⟩) (by simp) _).setCell (p := ⟨w.heap.size + 1, 1, none⟩) (by simp) _).setCell (p := ⟨w.heap.size + 1, 2, none⟩) (by simp) _
end Go.Proofs.Ytcidhbkdaleomaa.V
namespace Go.Proofs.Ytcidhbkdaleomaa.V
set_option maxRecDepth 20000
open Go.RowKit

set_option maxHeartbeats 1000000 in
theorem rturn_wrong (s : Int) (da : Option Addr) (dl dc : Nat) (ds : List Int) (sa : Option Addr) (sl sc : Nat) (ss : List Int) (a : Option Addr) (len cap : Nat) (w : World)
    (hd : Ints w da dl ds) (hs : Ints w sa sl ss) (hW : wrongE s ds ss ≠ 0) :
    Calls Try.prog 83 #[.agg #[.int .i64 s, .slice da dl dc, .slice sa sl sc], .slice a len cap] w fun e w' => e = .returned (.tuple #[.agg #[.int .i64 0, .slice none 0 0, .slice none 0 0], .int .i64 (wrongE s ds ss)]) ∧ Below w.heap.size w w' := by
  have HD := hide hd
  have HS := hide hs
  have c1 : (wrongE s ds ss != 0) = true := by simp [hW]
  clear hd hs hW
  have hb2 : Below w.heap.size w ((w.alloc (.cells #[.int .i64 s, .slice da dl dc, .slice sa sl sc] 62)).alloc (.cells #[.int .i64 0, .slice none 0 0, .slice none 0 0] 62)) := ((Below.refl _ _).alloc (Nat.le_refl _) _).alloc (by simp) _
  have HB2 := hide hb2
  clear hb2
  go_enter Try.func83, Try.ntmps83
  go_wp2_with fail
  refine (rwrong_any _ _ _ _ ds _ _ _ ss _ (HD.out.below HB2.out) (HS.out.below HB2.out)).mono ?_
  rintro e w1 ⟨rfl, hb⟩
  have HB := hide (Below.on HB2.out hb)
  obtain ⟨hc1, hf1⟩ := bcell hb
  have hz := hb.size
  simp at hz
  clear hb
  go_wp2
  refine bodyPost_ret (v := .tuple #[.agg #[.int .i64 0, .slice none 0 0, .slice none 0 0], .int .i64 (wrongE s ds ss)]) (by simp [results, Try.results83, go_sem, hc1]) rfl ⟨rfl, ?_⟩
  exact ((HB.out.setCell (p := ⟨w.heap.size + 1, 0, none⟩) (by simp) _).setCell (p := ⟨w.heap.size + 1, 1, none⟩) (by simp) _).setCell (p := ⟨w.heap.size + 1, 2, none⟩) (by simp) _

set_option maxHeartbeats 1000000 in
theorem rturn_shape (s : Int) (da : Option Addr) (dl dc : Nat) (ds : List Int) (sa : Option Addr) (sl sc : Nat) (ss : List Int) (a : Option Addr) (len cap : Nat) (ps : List Int) (w : World)
    (hd : Ints w da dl ds) (hs : Ints w sa sl ss) (hp : Ints w a len ps) (hW : wrongE s ds ss = 0) (hP : ¬ PermOk ps dl) :
    Calls Try.prog 83 #[.agg #[.int .i64 s, .slice da dl dc, .slice sa sl sc], .slice a len cap] w fun e w' => e = .returned (.tuple #[.agg #[.int .i64 0, .slice none 0 0, .slice none 0 0], .int .i64 6]) ∧ Below w.heap.size w w' := by
  have HD := hide hd
  have HS := hide hs
  have HP := hide hp
  have HW := hide hW
  have hm := hp.2.1
  have hmd := hd.2.1
  have lp := hp.1
  have hb2 : Below w.heap.size w ((w.alloc (.cells #[.int .i64 s, .slice da dl dc, .slice sa sl sc] 62)).alloc (.cells #[.int .i64 0, .slice none 0 0, .slice none 0 0] 62)) := ((Below.refl _ _).alloc (Nat.le_refl _) _).alloc (by simp) _
  have HB2 := hide hb2
  clear hb2 hd hs hp hW
  by_cases hn : len ≠ dl
  · have hn1 : ((len : Int) != (dl : Int)) = true := by simp; omega
    clear hn hP lp
    go_enter Try.func83, Try.ntmps83
    go_wp2_with fail
    refine (rwrong_any _ _ _ _ ds _ _ _ ss _ (HD.out.below HB2.out) (HS.out.below HB2.out)).mono ?_
    rintro e w1 ⟨rfl, hb⟩
    rw [HW.out]
    have HB := hide (Below.on HB2.out hb)
    obtain ⟨hc1, hf1⟩ := bcell hb
    have hz := hb.size
    simp at hz
    clear hb
    go_wp2
    refine bodyPost_ret (v := .tuple #[.agg #[.int .i64 0, .slice none 0 0, .slice none 0 0], .int .i64 6]) (by simp [results, Try.results83, go_sem, hc1]) rfl ⟨rfl, ?_⟩
    exact ((HB.out.setCell (p := ⟨w.heap.size + 1, 0, none⟩) (by simp) _).setCell (p := ⟨w.heap.size + 1, 1, none⟩) (by simp) _).setCell (p := ⟨w.heap.size + 1, 2, none⟩) (by simp) _
  obtain rfl : len = dl := by omega
  have HNO : Hid (¬ ∀ k : Nat, k < len → (k : Int) ∈ ps) := fun h => hP ⟨lp, (perm_iff lp).2 h⟩
  clear hn hP lp
  go_enter Try.func83, Try.ntmps83
  go_wp2_with fail
  refine (rwrong_any _ _ _ _ ds _ _ _ ss _ (HD.out.below HB2.out) (HS.out.below HB2.out)).mono ?_
  rintro e w1 ⟨rfl, hb⟩
  rw [HW.out]
  have HB := hide (Below.on HB2.out hb)
  have hV1 : ViewAt w1 w.heap.size (.int .i64 s) (.slice da len dc) (.slice sa sl sc) := ((ViewAt.new w _ _ _).alloc _).below hb
  have hR1 : ViewAt w1 (w.heap.size + 1) (.int .i64 0) (.slice none 0 0) (.slice none 0 0) := by
    have := (ViewAt.new (w.alloc (.cells #[.int .i64 s, .slice da len dc, .slice sa sl sc] 62)) (.int .i64 0) (.slice none 0 0) (.slice none 0 0)).below hb
    simpa using this
  obtain ⟨⟨v0, v1, v2⟩, _⟩ := hV1.cells
  obtain ⟨⟨r0, r1, r2⟩, rf0, rf1, rf2⟩ := hR1.cells
  clear hb hV1 hR1
  go_wp2_with fail
  go_loop [27] (fun i => ∃ k : Nat, k ≤ len ∧ i = .int .i64 k ∧ ∀ j : Nat, j < k → (j : Int) ∈ ps) (fun i => len - (intOf i).toNat)
  case atStart => exact ⟨0, Nat.zero_le _, rfl, fun j hj => by omega⟩
  case round =>
    obtain ⟨k, hk, rfl, hall⟩ := hrel
    have HALL := hide hall
    clear hall
    by_cases hlt : k < len
    · cases c : ps.any (fun x => x == (k : Int)) with
      | true =>
        have hin : (k : Int) ∈ ps := by
          rw [List.any_eq_true] at c
          obtain ⟨x, hx, he⟩ := c
          simp at he
          exact he ▸ hx
        have C := hide c
        have HIN := hide hin
        clear c hin
        go_wp2_with (go_at_call 104; refine (has_any _ _ _ ps _ _ (HP.out.below HB.out)).mono ?_; rintro e w' ⟨rfl, hw'⟩; obtain rfl := hw'.symm; rw [C.out])
        go_round
        case rel => exact ⟨k + 1, by omega, by go_num, fun j hj => by by_cases e : j = k; (subst e; exact HIN.out); exact HALL.out j (by omega)⟩
        case measure => simp [intOf]; omega
      | false =>
        have C := hide c
        clear c
        go_wp2_with (go_at_call 104; refine (has_any _ _ _ ps _ _ (HP.out.below HB.out)).mono ?_; rintro e w' ⟨rfl, hw'⟩; obtain rfl := hw'.symm; rw [C.out])
        refine bodyPost_ret (v := .tuple #[.agg #[.int .i64 0, .slice none 0 0, .slice none 0 0], .int .i64 6]) (by simp [results, Try.results83, go_sem, r0, r1, r2]) rfl ⟨rfl, ?_⟩
        exact ((HB.out.setCell (p := ⟨w.heap.size + 1, 0, none⟩) (by simp) _).setCell (p := ⟨w.heap.size + 1, 1, none⟩) (by simp) _).setCell (p := ⟨w.heap.size + 1, 2, none⟩) (by simp) _
    · exact absurd (fun j hj => HALL.out j (by omega)) HNO.out

theorem rturn_any (s : Int) (da : Option Addr) (dl dc : Nat) (ds : List Int) (sa : Option Addr) (sl sc : Nat) (ss : List Int) (a : Option Addr) (len cap : Nat) (ps : List Int) (w : World)
    (hd : Ints w da dl ds) (hs : Ints w sa sl ss) (hp : Ints w a len ps) :
    Calls Try.prog 83 #[.agg #[.int .i64 s, .slice da dl dc, .slice sa sl sc], .slice a len cap] w fun e w' => Gives e w' (okS (turnE s ds ss ps) s) (okL (turnE s ds ss ps) (taken ds ps)) (okL (turnE s ds ss ps) (taken ss ps)) (turnE s ds ss ps) ∧ Below w.heap.size w w' := by
  by_cases hW : wrongE s ds ss ≠ 0
  · have e : turnE s ds ss ps = wrongE s ds ss := by simp [turnE, hW]
    rw [e]
    refine (rturn_wrong s da dl dc ds sa sl sc ss a len cap w hd hs hW).mono ?_
    rintro e w' ⟨rfl, hb⟩
    simp only [okS, okL, if_neg hW]
    exact ⟨gives_none _ _, hb⟩
  replace hW : wrongE s ds ss = 0 := by simpa using hW
  obtain ⟨w1, w2, _⟩ := wrongE_ok hW
  have h6 := (sizeE_ok w1).1
  have ld := hd.1
  have ls := hs.1
  by_cases hP : PermOk ps dl
  · have e : turnE s ds ss ps = 0 := by simp [turnE, hW, ld, (permB_iff ps dl).2 hP]
    rw [e]
    obtain rfl : sl = dl := by omega
    obtain rfl : len = sl := by rw [← hp.1]; exact hP.1
    exact rturn_ok s da len dc ds sa sc ss a cap ps w hd hs hp hW hP (by omega)
  · have e : turnE s ds ss ps = 6 := by
      have : permB ps dl = false := by
        cases c : permB ps dl with
        | true => exact absurd ((permB_iff ps dl).1 c) hP
        | false => rfl
      simp [turnE, hW, ld, this]
    rw [e]
    refine (rturn_shape s da dl dc ds sa sl sc ss a len cap ps w hd hs hp hW hP).mono ?_
    rintro e w' ⟨rfl, hb⟩
    exact ⟨gives_none _ _, hb⟩
end Go.Proofs.Ytcidhbkdaleomaa.V
