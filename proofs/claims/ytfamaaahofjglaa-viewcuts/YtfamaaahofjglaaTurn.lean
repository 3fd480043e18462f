/-
  Contract: view.Turn.
-/
import Derived.Test.YtfamaaahofjglaaReached
import Derived.Test.YtfamaaahofjglaaPermutes
import Derived.BigRegion
namespace Go.Proofs.Ytfamaaahofjglaa.V
open Go.RowKit

/-- A list taken in another order. -/
def taken (xs perm : List Int) : List Int := perm.map fun k => xs[k.toNat]?.getD 0
/-- The value of a View that answers nothing. -/
def zeroV : Value := .agg #[.int .i64 0, .slice none 0 0, .slice none 0 0]

/-- A block that holds a View. -/
def ViewAt (w : World) (b : Nat) (c0 c1 c2 : Value) : Prop := w.heap[b]? = some (.cells #[c0, c1, c2] 24 (0, 0))
theorem ViewAt.lt {w : World} {b : Nat} {c0 c1 c2 : Value} (h : ViewAt w b c0 c1 c2) : b < w.heap.size := (Array.getElem?_eq_some_iff.1 h).1
theorem ViewAt.below {w w' : World} {b : Nat} {c0 c1 c2 : Value} (h : ViewAt w b c0 c1 c2) (hb : Below w.heap.size w w') : ViewAt w' b c0 c1 c2 := (hb.block b h.lt).trans h
theorem ViewAt.alloc {w : World} {b : Nat} {c0 c1 c2 : Value} (h : ViewAt w b c0 c1 c2) (o : Obj) : ViewAt (w.alloc o) b c0 c1 c2 := (Below.heap_alloc _ _ _ h.lt).trans h
theorem ViewAt.set {w : World} {b : Nat} {c0 c1 c2 : Value} (h : ViewAt w b c0 c1 c2) {p : Addr} (hne : b ≠ p.block) (u : Value) : ViewAt (w.setCell p u) b c0 c1 c2 := (Below.heap_setCell _ _ _ _ hne).trans h
theorem ViewAt.cells {w : World} {b : Nat} {c0 c1 c2 : Value} (h : ViewAt w b c0 c1 c2) : (w.cell? ⟨b, 0, none⟩ = some c0 ∧ w.cell? ⟨b, 1, none⟩ = some c1 ∧ w.cell? ⟨b, 2, none⟩ = some c2) ∧ (w.frozen? ⟨b, 0, none⟩ = false ∧ w.frozen? ⟨b, 1, none⟩ = false ∧ w.frozen? ⟨b, 2, none⟩ = false) := by
  unfold ViewAt at h
  refine ⟨⟨?_, ?_, ?_⟩, ?_, ?_, ?_⟩ <;> simp [World.cell?, World.frozen?, h]
theorem ViewAt.new (w : World) (c0 c1 c2 : Value) : ViewAt (w.alloc (.cells #[c0, c1, c2] 24)) w.heap.size c0 c1 c2 := World.alloc_heap_new w _

/-- A row on its way: the first k are as they are to be, the others as they were. -/
def onWay (xs ys : List Int) (k j : Nat) : Value := .int .i64 (if j < k then xs[j]?.getD 0 else ys[j]?.getD 0)
theorem onWay_succ (xs ys : List Int) (k j : Nat) : (if j = k then .int .i64 (xs[k]?.getD 0) else onWay xs ys k j) = onWay xs ys (k + 1) j := by
  unfold onWay
  by_cases e : j = k
  · subst e; simp
  · by_cases h : j < k
    · rw [if_neg e, if_pos h, if_pos (by omega)]
    · rw [if_neg e, if_neg h, if_neg (by omega)]
theorem onWay_all {w : World} {g t len : Nat} {xs ys : List Int} (h : w.rowIs g t len (onWay xs ys len)) : w.rowIs g t len (fun j => .int .i64 (xs[j]?.getD 0)) := h.congr (fun j hj => by simp [onWay, hj])
theorem onWay_zero {w : World} {g t len : Nat} {xs ys : List Int} (h : w.rowIs g t len (fun j => .int .i64 (ys[j]?.getD 0))) : w.rowIs g t len (onWay xs ys 0) := h.congr (fun j _ => by simp [onWay])
theorem taken_getD (xs ps : List Int) (k m : Nat) (hk : k < ps.length) (hm : ps[k]?.getD 0 = (m : Int)) : (taken xs ps)[k]?.getD 0 = xs[m]?.getD 0 := by
  have e : ps[k] = (m : Int) := by simpa [hk] using hm
  simp [taken, hk, e]
theorem taken_length (xs ps : List Int) : (taken xs ps).length = ps.length := by simp [taken]
theorem taken_bd {xs ps : List Int} (h : ∀ x ∈ xs, -9223372036854775808 ≤ x ∧ x ≤ 9223372036854775807) : ∀ x ∈ taken xs ps, -9223372036854775808 ≤ x ∧ x ≤ 9223372036854775807 := by
  intro y hy
  simp only [taken, List.mem_map] at hy
  obtain ⟨p, _, rfl⟩ := hy
  by_cases hk : p.toNat < xs.length
  · exact h _ (mem_getD xs _ hk)
  · have : xs[p.toNat]? = none := by simp; omega
    simp [this]

theorem wrongE_ok {s : Int} {ds ss : List Int} (h : wrongE s ds ss = 0) : sizeE ds = 0 ∧ ss.length = ds.length ∧ beyondB s ss = false := by
  unfold wrongE at h
  by_cases h1 : sizeE ds ≠ 0
  · rw [if_pos h1] at h; exact absurd h h1
  rw [if_neg h1] at h
  by_cases h2 : ss.length ≠ ds.length
  · rw [if_pos h2] at h; omega
  rw [if_neg h2] at h
  by_cases h3 : beyondB s ss = true
  · rw [if_pos h3] at h; omega
  exact ⟨by simpa using h1, by simpa using h2, by simpa using h3⟩
theorem turn_far {s : Int} {ds ss ps : List Int} {n : Nat} (h : wrongE s ds ss = 0) (hp : PermOk ps n) (hl : ss.length = n) : beyondB s (taken ss ps) = false := by
  obtain ⟨_, _, h3⟩ := wrongE_ok h
  simp only [beyondB, Bool.or_eq_false_iff] at h3 ⊢
  refine ⟨h3.1, ?_⟩
  rw [List.any_eq_false] at h3 ⊢
  intro x hx
  simp only [taken, List.mem_map] at hx
  obtain ⟨p, hp', rfl⟩ := hx
  obtain ⟨i, hi, he⟩ := List.getElem_of_mem hp'
  have hg := hp.2 i (by rw [← hp.1]; exact hi)
  simp [hi, he] at hg
  exact h3.2 _ (mem_getD ss _ (by omega))
theorem ints_set3 {w : World} {g len B : Nat} {xs : List Int} {a b c : Value} (h : Ints w (some ⟨g, 0, none⟩) len xs) (hne : g ≠ B) : Ints (((w.setCell ⟨B, 0, none⟩ a).setCell ⟨B, 1, none⟩ b).setCell ⟨B, 2, none⟩ c) (some ⟨g, 0, none⟩) len xs := by
  obtain ⟨h1, h2, h3, h4⟩ := h
  refine ⟨h1, h2, h3, ?_⟩
  rcases h4 with h4 | ⟨b', off, ha, hc⟩
  · exact .inl h4
  · cases ha
    have e : (((w.setCell ⟨B, 0, none⟩ a).setCell ⟨B, 1, none⟩ b).setCell ⟨B, 2, none⟩ c).heap[g]? = w.heap[g]? :=
      ((Below.heap_setCell _ ⟨B, 2, none⟩ _ g hne).trans (Below.heap_setCell _ ⟨B, 1, none⟩ _ g hne)).trans (Below.heap_setCell _ ⟨B, 0, none⟩ _ g hne)
    exact .inr ⟨_, _, rfl, fun j hj => (World.cell?_of_block (w := w) e).trans (hc j hj)⟩

set_option maxRecDepth 100000 in
set_option maxHeartbeats 4000000 in
theorem turn_ok (s : Int) (da : Option Addr) (dl dc : Nat) (ds : List Int) (sa : Option Addr) (sc : Nat) (ss : List Int) (a : Option Addr) (cap : Nat) (ps : List Int) (w : World)
    (hd : Ints w da dl ds) (hs : Ints w sa dl ss) (hp : Ints w a dl ps) (hW : wrongE s ds ss = 0) (hP : PermOk ps dl) (h6 : dl ≤ 6) :
    Calls Try.prog 17 #[.agg #[.int .i64 s, .slice da dl dc, .slice sa dl sc], .slice a dl cap] w fun e w' => (∃ g1 g2 : Nat, e = .returned (.tuple #[.agg #[.int .i64 s, .slice (some ⟨g1, 0, none⟩) dl dl, .slice (some ⟨g2, 0, none⟩) dl dl], .int .i64 0]) ∧ Ints w' (some ⟨g1, 0, none⟩) dl (taken ds ps) ∧ Ints w' (some ⟨g2, 0, none⟩) dl (taken ss ps)) ∧ Below w.heap.size w w' := by
  have HD := hide hd
  have HS := hide hs
  have HP := hide hp
  have HW := hide hW
  have HPO := hide hP
  clear hd hs hp hW hP
  have hb2 : Below w.heap.size w ((w.alloc (.cells #[.int .i64 s, .slice da dl dc, .slice sa dl sc] 24)).alloc (.cells #[.int .i64 0, .slice none 0 0, .slice none 0 0] 24)) := ((Below.refl _ _).alloc (Nat.le_refl _) _).alloc (by simp) _
  have HB2 := hide hb2
  clear hb2
  go_enter Try.func17, Try.ntmps17
  go_wp2_with fail
  refine (wrong_any _ _ _ _ ds _ _ _ ss _ (HD.out.below HB2.out) (HS.out.below HB2.out)).mono ?_
  rintro e w1 ⟨rfl, hb⟩
  rw [HW.out]
  have HB := hide (Below.on HB2.out hb)
  have hV1 : ViewAt w1 w.heap.size (.int .i64 s) (.slice da dl dc) (.slice sa dl sc) := ((ViewAt.new w _ _ _).alloc _).below hb
  have hR1 : ViewAt w1 (w.heap.size + 1) (.int .i64 0) (.slice none 0 0) (.slice none 0 0) := by
    have := (ViewAt.new (w.alloc (.cells #[.int .i64 s, .slice da dl dc, .slice sa dl sc] 24)) (.int .i64 0) (.slice none 0 0) (.slice none 0 0)).below hb
    simpa using this
  have HV1 := hide hV1
  have HR1 := hide hR1
  obtain ⟨⟨v0, v1, v2⟩, _⟩ := hV1.cells
  clear hb hV1 hR1
  go_wp2_with fail
  refine (permutes_any _ _ _ ps dl _ (HP.out.below HB.out) h6).mono ?_
  rintro e w2 ⟨⟨r, rfl, hr⟩, hb⟩
  obtain rfl : r = true := hr.2 HPO.out
  have HBa := hide (Below.on HB.out hb)
  have HV2 := hide (HV1.out.below hb)
  have HR2 := hide (HR1.out.below hb)
  obtain ⟨⟨v0', v1', v2'⟩, _⟩ := HV2.out.cells
  clear hb hr v0 v1 v2
  go_wp2_with fail
  refine (blank_any _ _ _ _ ds _ (HD.out.below HBa.out) h6).mono ?_
  rintro e w3 ⟨⟨g1, g2, rfl, ⟨hr1, hr2⟩, hne, hg1, hg2⟩, hb⟩
  have HBb := hide (Below.on HBa.out hb)
  have HV3 := hide (HV2.out.below hb)
  have HR3 := hide (HR2.out.below hb)
  have HR1' := hide hr1
  have HR2' := hide hr2
  have hlt1 := hr1.lt
  have hlt2 := hr2.lt
  have hsz := HR2.out.lt
  clear hb hr1 hr2 v0' v1' v2'
  go_wp2_with fail
  go_loopw [30] (fun i wr => ∃ k : Nat, k ≤ dl ∧ i = .int .i64 k ∧ (wr.rowIs g1 3 dl (onWay (taken ds ps) ds k) ∧ wr.rowIs g2 3 dl (onWay (taken ss ps) [] k)) ∧ (ViewAt wr w.heap.size (.int .i64 s) (.slice da dl dc) (.slice sa dl sc) ∧ ViewAt wr (w.heap.size + 1) (.int .i64 0) (.slice none 0 0) (.slice none 0 0) ∧ ViewAt wr w3.heap.size (.int .i64 s) (.slice (some ⟨g1, 0, none⟩) dl dl) (.slice (some ⟨g2, 0, none⟩) dl dl)) ∧ Below w.heap.size w wr) (fun i _ => dl - (intOf i).toNat)
  case atStart =>
    refine ⟨0, Nat.zero_le _, rfl, ⟨onWay_zero (HR1'.out.alloc _), ?_⟩, ⟨HV3.out.alloc _, HR3.out.alloc _, ViewAt.new w3 _ _ _⟩, HBb.out.alloc HBb.out.size _⟩
    exact (HR2'.out.alloc _).congr (fun j _ => by simp [onWay])
  case round =>
    obtain ⟨k, hk, rfl, ⟨hr1, hr2⟩, ⟨hv, hrr, ho⟩, hB⟩ := hrel
    have HQ1 := hide hr1
    have HQ2 := hide hr2
    have HV := hide hv
    have HRR := hide hrr
    have HO := hide ho
    have HBw := hide hB
    clear hr1 hr2 hv hrr ho hB
    by_cases hlt : k < dl
    · obtain ⟨pb, poff, rfl, hpb, hpc⟩ := HP.out.at (by omega)
      obtain ⟨db, doff, rfl, hdb, hdc⟩ := HD.out.at (by omega)
      obtain ⟨sb, soff, rfl, hsb, hsc⟩ := HS.out.at (by omega)
      have hpo := HPO.out.2 k hlt
      obtain ⟨m, hm⟩ : ∃ m : Nat, ps[k]?.getD 0 = (m : Int) := ⟨(ps[k]?.getD 0).toNat, by omega⟩
      have hmlt : m < dl := by omega
      have cp : wr.cell? ⟨pb, poff + k, none⟩ = some (.int .i64 (m : Int)) := by rw [← hm]; exact (HBw.out.cell (p := ⟨pb, poff + k, none⟩) hpb).trans (hpc k hlt)
      have cd : wr.cell? ⟨db, doff + m, none⟩ = some (.int .i64 (ds[m]?.getD 0)) := (HBw.out.cell (p := ⟨db, doff + m, none⟩) hdb).trans (hdc m hmlt)
      have cs : wr.cell? ⟨sb, soff + m, none⟩ = some (.int .i64 (ss[m]?.getD 0)) := (HBw.out.cell (p := ⟨sb, soff + m, none⟩) hsb).trans (hsc m hmlt)
      have HPL : Hid (k < ps.length) := by rw [Hid, HPO.out.1]; exact hlt
      have HM := hide hm
      obtain ⟨⟨v0, v1, v2⟩, _⟩ := HV.out.cells
      obtain ⟨⟨o0, o1, o2⟩, _⟩ := HO.out.cells
      have c1 := HQ1.out.cell hlt
      have f1 := HQ1.out.frozen k
      have c2 := HQ2.out.cell hlt
      have f2 := HQ2.out.frozen k
      have i1 : (0 : Int) ≤ (k : Int) := Int.natCast_nonneg _
      have i2 : (k : Int) < (dl : Int) := by omega
      have i3 : (0 : Int) ≤ (m : Int) := Int.natCast_nonneg _
      have i4 : (m : Int) < (dl : Int) := by omega
      clear hpc hdc hsc hm hpo
      go_wp2_with fail
      go_region
      go_wp2
      go_roundw
      case rel =>
        have hg1 : g1 ≠ w3.heap.size := by omega
        have hg2 : g2 ≠ w3.heap.size := by omega
        have e1 := taken_getD ds ps k m HPL.out HM.out
        have e2 := taken_getD ss ps k m HPL.out HM.out
        refine ⟨k + 1, by omega, by go_num, ⟨?_, ?_⟩, ⟨?_, ?_, ?_⟩, ?_⟩
        · refine ((HQ1.out.set k (.int .i64 (ds[m]?.getD 0))).setOther (a := ⟨g2, k, none⟩) hne _).congr (fun j _ => ?_)
          rw [← e1]; exact onWay_succ _ _ k j
        · refine ((HQ2.out.setOther (a := ⟨g1, k, none⟩) (Ne.symm hne) _).set k (.int .i64 (ss[m]?.getD 0))).congr (fun j _ => ?_)
          rw [← e2]; exact onWay_succ _ _ k j
        · exact (HV.out.set (p := ⟨g1, k, none⟩) (by simp; omega) _).set (p := ⟨g2, k, none⟩) (by simp; omega) _
        · exact (HRR.out.set (p := ⟨g1, k, none⟩) (by simp; omega) _).set (p := ⟨g2, k, none⟩) (by simp; omega) _
        · exact (HO.out.set (p := ⟨g1, k, none⟩) (by simp; omega) _).set (p := ⟨g2, k, none⟩) (by simp; omega) _
        · exact ((HBw.out.setCell (p := ⟨g1, k, none⟩) (by simp; omega) _).setCell (p := ⟨g2, k, none⟩) (by simp; omega) _).drew
      case measure => simp [intOf]; omega
    · obtain rfl : k = dl := by omega
      obtain ⟨⟨o0, o1, o2⟩, _⟩ := HO.out.cells
      have hfar : beyondB s (taken ss ps) = false := turn_far HW.out HPO.out (by have := HS.out.1; omega)
      have HF := hide hfar
      have hi1 : Ints wr (some ⟨g1, 0, none⟩) k (taken ds ps) := ints_of_rowI (onWay_all HQ1.out) (by rw [taken_length, HPO.out.1]) (by omega) (taken_bd HD.out.2.2.1)
      have hi2 : Ints wr (some ⟨g2, 0, none⟩) k (taken ss ps) := ints_of_rowI (onWay_all HQ2.out) (by rw [taken_length, HPO.out.1]) (by omega) (taken_bd HS.out.2.2.1)
      have HI1 := hide hi1
      have HI2 := hide hi2
      clear hfar hi1 hi2
      go_wp2_with fail
      refine (reached_any _ _ _ _ _ _ _ (taken ss ps) _ HI2.out).mono ?_
      rintro e w4 ⟨rfl, hb⟩
      rw [if_neg (by rw [HF.out]; simp)]
      have HBc := hide (Below.on HBw.out hb)
      have HRR4 := hide (HRR.out.below hb)
      have HI1' := hide (HI1.out.below hb)
      have HI2' := hide (HI2.out.below hb)
      obtain ⟨⟨r0, r1, r2⟩, rf0, rf1, rf2⟩ := HRR4.out.cells
      clear hb o0 o1 o2
      go_wp2
      refine bodyPost_ret (v := .tuple #[.agg #[.int .i64 s, .slice (some ⟨g1, 0, none⟩) k k, .slice (some ⟨g2, 0, none⟩) k k], .int .i64 0]) (by simp [results, Try.results17, go_sem, r0, r1, r2]) rfl ⟨⟨g1, g2, rfl, ?_, ?_⟩, ?_⟩
      · exact ints_set3 HI1'.out (by omega)
      · exact ints_set3 HI2'.out (by omega)
      · exact ((HBc.out.setCell (p := ⟨w.heap.size + 1, 0, none⟩) (by simp) _).setCell (p := ⟨w.heap.size + 1, 1, none⟩) (by simp) _).setCell (p := ⟨w.heap.size + 1, 2, none⟩) (by simp) _
end Go.Proofs.Ytfamaaahofjglaa.V
