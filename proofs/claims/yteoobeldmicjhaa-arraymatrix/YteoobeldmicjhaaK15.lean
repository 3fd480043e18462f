/-
  Contract: view.Cut of anything. Contract: view.Spread. Contract: Spread of anything. Plain mathematics: what a view of a view reads is what the first one reads, taken as the second one says of an array as it lies. Contract: adjointref1.Kept. Contract: adjointref1.Spread. Contract: Spread of anything.
-/
import Derived.Test.YteoobeldmicjhaaK14
import Derived.Test.YteoobeldmicjhaaK9
namespace Go.Proofs.Yteoobeldmicjhaa.V
open Go.RowKit

def lensB (n : Nat) (lo hi st : List Int) : Bool := decide (lo.length = n) && (decide (hi.length = n) && decide (st.length = n))
def cutE (s : Int) (ds ss lo hi st : List Int) : Int := if wrongE s ds ss ≠ 0 then wrongE s ds ss else if lensB ds.length lo hi st = true then (if anyBad ds lo hi st = true then 4 else if beyondB (cutAcc s ss lo ds.length) (cutS ss st) = true then 5 else 0) else 6
theorem lensB_true {n : Nat} {lo hi st : List Int} : lensB n lo hi st = true ↔ lo.length = n ∧ hi.length = n ∧ st.length = n := by simp [lensB]

set_option maxHeartbeats 1000000 in
theorem cut_wrong (s : Int) (da : Option Addr) (dl dc : Nat) (ds : List Int) (sa : Option Addr) (sl sc : Nat) (ss : List Int) (la : Option Addr) (ll lc : Nat) (ha : Option Addr) (hl hc : Nat) (ta : Option Addr) (tl tc : Nat) (w : World)
    (hd : Ints w da dl ds) (hs : Ints w sa sl ss) (hW : wrongE s ds ss ≠ 0) :
    Calls Try.prog 42 #[.agg #[.int .i64 s, .slice da dl dc, .slice sa sl sc], .slice la ll lc, .slice ha hl hc, .slice ta tl tc] w fun e w' => e = .returned (.tuple #[.agg #[.int .i64 0, .slice none 0 0, .slice none 0 0], .int .i64 (wrongE s ds ss)]) ∧ Below w.heap.size w w' := by
  have HD := hide hd
  have HS := hide hs
  have c1 : (wrongE s ds ss != 0) = true := by simp [hW]
  clear hd hs hW
  have hb2 : Below w.heap.size w ((w.alloc (.cells #[.int .i64 s, .slice da dl dc, .slice sa sl sc] 50)).alloc (.cells #[.int .i64 0, .slice none 0 0, .slice none 0 0] 50)) := ((Below.refl _ _).alloc (Nat.le_refl _) _).alloc (by simp) _
  have HB2 := hide hb2
  clear hb2
  go_enter Try.func42, Try.ntmps42
  go_wp2_with fail
  refine (wrong_any _ _ _ _ ds _ _ _ ss _ (HD.out.below HB2.out) (HS.out.below HB2.out)).mono ?_
  rintro e w1 ⟨rfl, hb⟩
  have HB := hide (Below.on HB2.out hb)
  obtain ⟨hc1, hf1⟩ := bcell hb
  have hz := hb.size
  simp at hz
  clear hb
  go_wp2
  refine bodyPost_ret (v := .tuple #[.agg #[.int .i64 0, .slice none 0 0, .slice none 0 0], .int .i64 (wrongE s ds ss)]) (by simp [results, Try.results42, go_sem, hc1]) rfl ⟨rfl, ?_⟩
  exact ((HB.out.setCell (p := ⟨w.heap.size + 1, 0, none⟩) (by simp) _).setCell (p := ⟨w.heap.size + 1, 1, none⟩) (by simp) _).setCell (p := ⟨w.heap.size + 1, 2, none⟩) (by simp) _

set_option maxHeartbeats 1000000 in
theorem cut_shape (s : Int) (da : Option Addr) (dl dc : Nat) (ds : List Int) (sa : Option Addr) (sl sc : Nat) (ss : List Int) (la : Option Addr) (ll lc : Nat) (ha : Option Addr) (hl hc : Nat) (ta : Option Addr) (tl tc : Nat) (w : World)
    (hd : Ints w da dl ds) (hs : Ints w sa sl ss) (hW : wrongE s ds ss = 0) (hP : ¬ (ll = dl ∧ hl = dl ∧ tl = dl)) :
    Calls Try.prog 42 #[.agg #[.int .i64 s, .slice da dl dc, .slice sa sl sc], .slice la ll lc, .slice ha hl hc, .slice ta tl tc] w fun e w' => e = .returned (.tuple #[.agg #[.int .i64 0, .slice none 0 0, .slice none 0 0], .int .i64 6]) ∧ Below w.heap.size w w' := by
  have HD := hide hd
  have HS := hide hs
  have HW := hide hW
  clear hd hs hW
  have hb2 : Below w.heap.size w ((w.alloc (.cells #[.int .i64 s, .slice da dl dc, .slice sa sl sc] 50)).alloc (.cells #[.int .i64 0, .slice none 0 0, .slice none 0 0] 50)) := ((Below.refl _ _).alloc (Nat.le_refl _) _).alloc (by simp) _
  have HB2 := hide hb2
  clear hb2
  have HP := hide hP
  clear hP
  go_enter Try.func42, Try.ntmps42
  go_wp2_with fail
  refine (wrong_any _ _ _ _ ds _ _ _ ss _ (HD.out.below HB2.out) (HS.out.below HB2.out)).mono ?_
  rintro e w1 ⟨rfl, hb⟩
  rw [HW.out]
  have HB := hide (Below.on HB2.out hb)
  have hV1 : ViewAt w1 w.heap.size (.int .i64 s) (.slice da dl dc) (.slice sa sl sc) := ((ViewAt.new w _ _ _).alloc _).below hb
  have hR1 : ViewAt w1 (w.heap.size + 1) (.int .i64 0) (.slice none 0 0) (.slice none 0 0) := by
    have := (ViewAt.new (w.alloc (.cells #[.int .i64 s, .slice da dl dc, .slice sa sl sc] 50)) (.int .i64 0) (.slice none 0 0) (.slice none 0 0)).below hb
    simpa using this
  obtain ⟨⟨v0, v1, v2⟩, _⟩ := hV1.cells
  obtain ⟨⟨r0, r1, r2⟩, rf0, rf1, rf2⟩ := hR1.cells
  clear hb hV1 hR1
  by_cases e1 : ll = dl
  · subst e1
    by_cases e2 : hl = ll
    · subst e2
      have e3 : ((tl : Int) != (hl : Int)) = true := by have := HP.out; simp; omega
      go_wp2
      refine bodyPost_ret (v := .tuple #[.agg #[.int .i64 0, .slice none 0 0, .slice none 0 0], .int .i64 6]) (by simp [results, Try.results42, go_sem, r0, r1, r2]) rfl ⟨rfl, below_put HB.out (by omega)⟩
    · have e2' : ((hl : Int) != (ll : Int)) = true := by simp; omega
      clear e2
      go_wp2
      refine bodyPost_ret (v := .tuple #[.agg #[.int .i64 0, .slice none 0 0, .slice none 0 0], .int .i64 6]) (by simp [results, Try.results42, go_sem, r0, r1, r2]) rfl ⟨rfl, below_put HB.out (by omega)⟩
  · have e1' : ((ll : Int) != (dl : Int)) = true := by simp; omega
    clear e1
    go_wp2
    refine bodyPost_ret (v := .tuple #[.agg #[.int .i64 0, .slice none 0 0, .slice none 0 0], .int .i64 6]) (by simp [results, Try.results42, go_sem, r0, r1, r2]) rfl ⟨rfl, below_put HB.out (by omega)⟩

theorem cut_any (s : Int) (da : Option Addr) (dl dc : Nat) (ds : List Int) (sa : Option Addr) (sl sc : Nat) (ss : List Int) (la : Option Addr) (ll lc : Nat) (lo : List Int) (ha : Option Addr) (hl hc : Nat) (hi : List Int) (ta : Option Addr) (tl tc : Nat) (st : List Int) (w : World)
    (hd : Ints w da dl ds) (hs : Ints w sa sl ss) (hlo : Ints w la ll lo) (hhi : Ints w ha hl hi) (hst : Ints w ta tl st) :
    Calls Try.prog 42 #[.agg #[.int .i64 s, .slice da dl dc, .slice sa sl sc], .slice la ll lc, .slice ha hl hc, .slice ta tl tc] w fun e w' => GivesF w da e w' (okS (cutE s ds ss lo hi st) (cutAcc s ss lo ds.length)) (okL (cutE s ds ss lo hi st) (cutD ds lo hi st)) (okL (cutE s ds ss lo hi st) (cutS ss st)) (cutE s ds ss lo hi st) ∧ Below w.heap.size w w' := by
  by_cases hW : wrongE s ds ss ≠ 0
  · have e : cutE s ds ss lo hi st = wrongE s ds ss := by simp [cutE, hW]
    rw [e]
    refine (cut_wrong s da dl dc ds sa sl sc ss la ll lc ha hl hc ta tl tc w hd hs hW).mono ?_
    rintro e w' ⟨rfl, hb⟩
    simp only [okS, okL, if_neg hW]
    exact ⟨givesF_none _ _ _ _, hb⟩
  replace hW : wrongE s ds ss = 0 := by simpa using hW
  obtain ⟨w1, w2, _⟩ := wrongE_ok hW
  have h6 := (sizeE_ok w1).1
  have ld := hd.1
  have ls := hs.1
  have l1 := hlo.1
  have l2 := hhi.1
  have l3 := hst.1
  by_cases hP : ll = dl ∧ hl = dl ∧ tl = dl
  · obtain ⟨rfl, rfl, rfl⟩ := hP
    obtain rfl : sl = tl := by omega
    refine (cut_ok s da sl dc ds sa sc ss la lc lo ha hc hi ta tc st w hd hs hlo hhi hst hW (by omega)).mono ?_
    rintro e w' ⟨h, hb⟩
    refine ⟨?_, hb⟩
    have er : lensB ds.length lo hi st = true := lensB_true.2 ⟨by omega, by omega, by omega⟩
    rw [CutPost, ← ld] at h
    by_cases hA : anyBad ds lo hi st = true
    · rw [if_pos hA] at h
      have e : cutE s ds ss lo hi st = 4 := by simp [cutE, hW, er, hA]
      rw [e]; exact h
    · rw [if_neg hA] at h
      by_cases hB : beyondB (cutAcc s ss lo ds.length) (cutS ss st) = true
      · rw [if_pos hB] at h
        have e : cutE s ds ss lo hi st = 5 := by simp [cutE, hW, er, hA, hB]
        rw [e]; exact h
      · rw [if_neg hB] at h
        have e : cutE s ds ss lo hi st = 0 := by simp [cutE, hW, er, hA, hB]
        rw [e]; exact h
  · have e : cutE s ds ss lo hi st = 6 := by
      have : lensB ds.length lo hi st = false := by
        cases c : lensB ds.length lo hi st with
        | true => exact absurd (lensB_true.1 c) (by omega)
        | false => rfl
      simp [cutE, hW, this]
    rw [e]
    refine (cut_shape s da dl dc ds sa sl sc ss la ll lc ha hl hc ta tl tc w hd hs hW hP).mono ?_
    rintro e w' ⟨rfl, hb⟩
    exact ⟨givesF_none _ _ _ _, hb⟩
end Go.Proofs.Yteoobeldmicjhaa.V
namespace Go.Proofs.Yteoobeldmicjhaa.V
open Go.RowKit

/-- The step of a new dimension, when the first i are laid. -/
def sprV (ss ps : List Int) : Nat → Nat → Int
  | 0, _ => 0
  | i + 1, j => if j = (ps[i]?.getD 0).toNat then ss[i]?.getD 0 else sprV ss ps i j
def sprS (el : Nat) (ss ps : List Int) : List Int := (List.range el).map (sprV ss ps ps.length)
def misAt (ds es ps : List Int) (k : Nat) : Bool := decide (ds[k]?.getD 0 ≠ es[(ps[k]?.getD 0).toNat]?.getD 0)
def anyMis (ds es ps : List Int) : Bool := (List.range ps.length).any (misAt ds es ps)
theorem sprS_length (el : Nat) (ss ps : List Int) : (sprS el ss ps).length = el := by simp [sprS]
theorem sprS_getD (el : Nat) (ss ps : List Int) (j : Nat) (h : j < el) : (sprS el ss ps)[j]?.getD 0 = sprV ss ps ps.length j := by simp [sprS, h]
theorem anyMis_false {ds es ps : List Int} (h : ∀ j, j < ps.length → misAt ds es ps j = false) : anyMis ds es ps = false := by
  unfold anyMis
  rw [List.any_eq_false]
  intro j hj
  rw [h j (List.mem_range.1 hj)]; simp
theorem anyMis_true {ds es ps : List Int} (k : Nat) (hk : k < ps.length) (h : misAt ds es ps k = true) : anyMis ds es ps = true := by
  unfold anyMis
  rw [List.any_eq_true]
  exact ⟨k, List.mem_range.2 hk, h⟩
theorem sprV_or (ss ps : List Int) (j : Nat) : ∀ i, i ≤ ss.length → sprV ss ps i j = 0 ∨ sprV ss ps i j ∈ ss
  | 0, _ => .inl rfl
  | i + 1, h => by
    rw [sprV]
    split
    · exact .inr (mem_getD ss i (by omega))
    · exact sprV_or ss ps j i (by omega)
theorem spr_far {s : Int} {ds ss ps : List Int} {el : Nat} (hW : wrongE s ds ss = 0) (hl : ps.length ≤ ss.length) : beyondB s (sprS el ss ps) = false := by
  obtain ⟨_, _, h3⟩ := wrongE_ok hW
  simp only [beyondB, Bool.or_eq_false_iff] at h3 ⊢
  refine ⟨h3.1, ?_⟩
  have h4 := h3.2
  rw [List.any_eq_false] at h4 ⊢
  intro x hx
  simp only [sprS, List.mem_map, List.mem_range] at hx
  obtain ⟨j, hj, rfl⟩ := hx
  rcases sprV_or ss ps j ps.length hl with h | h
  · rw [h]; simp [farB]
  · exact h4 _ h
theorem sprS_bd {s : Int} {ds ss ps : List Int} {el : Nat} (h : Small s ds ss) (hl : ps.length ≤ ss.length) : ∀ x ∈ sprS el ss ps, -9223372036854775808 ≤ x ∧ x ≤ 9223372036854775807 := by
  intro x hx
  simp only [sprS, List.mem_map, List.mem_range] at hx
  obtain ⟨j, hj, rfl⟩ := hx
  rcases sprV_or ss ps j ps.length hl with e | e
  · rw [e]; omega
  · have := h.steps _ e; omega
def SprPost (w : World) (ea : Option Addr) (s : Int) (ds ss es ps : List Int) (e : Ending) (w' : World) : Prop := if anyMis ds es ps = true then GivesF w ea e w' 0 [] [] 6 else GivesF w ea e w' s es (sprS es.length ss ps) 0

set_option maxRecDepth 100000 in
set_option maxHeartbeats 4000000 in
theorem spread_ok (s : Int) (da : Option Addr) (dl dc : Nat) (ds : List Int) (sa : Option Addr) (sc : Nat) (ss : List Int) (ea : Option Addr) (el ec : Nat) (es : List Int) (pa : Option Addr) (pc : Nat) (ps : List Int) (w : World)
    (hd : Ints w da dl ds) (hs : Ints w sa dl ss) (he : Ints w ea el es) (hp : Ints w pa dl ps) (hW : wrongE s ds ss = 0) (hE : sizeE es = 0) (hP : RiseOk ps el) (h6 : dl ≤ 6) (h6e : el ≤ 6) :
    Calls Try.prog 40 #[.agg #[.int .i64 s, .slice da dl dc, .slice sa dl sc], .slice ea el ec, .slice pa dl pc] w fun e w' => SprPost w ea s ds ss es ps e w' ∧ Below w.heap.size w w' := by
  have HSM := hide (small_of hW)
  have HD := hide hd
  have HS := hide hs
  have HE := hide he
  have HP := hide hp
  have HW := hide hW
  have HZ := hide hE
  have HPO := hide hP
  clear hd hs he hp hW hE hP
  have hb2 : Below w.heap.size w ((w.alloc (.cells #[.int .i64 s, .slice da dl dc, .slice sa dl sc] 50)).alloc (.cells #[.int .i64 0, .slice none 0 0, .slice none 0 0] 50)) := ((Below.refl _ _).alloc (Nat.le_refl _) _).alloc (by simp) _
  have HB2 := hide hb2
  clear hb2
  go_enter Try.func40, Try.ntmps40
  go_wp2_with fail
  refine (wrong_any _ _ _ _ ds _ _ _ ss _ (HD.out.below HB2.out) (HS.out.below HB2.out)).mono ?_
  rintro e w1 ⟨rfl, hb⟩
  rw [HW.out]
  have HB := hide (Below.on HB2.out hb)
  have hV1 : ViewAt w1 w.heap.size (.int .i64 s) (.slice da dl dc) (.slice sa dl sc) := ((ViewAt.new w _ _ _).alloc _).below hb
  have hR1 : ViewAt w1 (w.heap.size + 1) (.int .i64 0) (.slice none 0 0) (.slice none 0 0) := by
    have := (ViewAt.new (w.alloc (.cells #[.int .i64 s, .slice da dl dc, .slice sa dl sc] 50)) (.int .i64 0) (.slice none 0 0) (.slice none 0 0)).below hb
    simpa using this
  have HV1 := hide hV1
  have HR1 := hide hR1
  obtain ⟨⟨v0, v1, v2⟩, _⟩ := hV1.cells
  clear hb hV1 hR1
  go_wp2_with fail
  refine (size_any _ _ _ es _ (HE.out.below HB.out)).mono ?_
  rintro e w2 ⟨rfl, hw⟩
  obtain rfl := hw.symm
  clear hw
  rw [HZ.out]
  go_wp2_with fail
  refine (rises_any _ _ _ ps el _ (HP.out.below HB.out) h6e).mono ?_
  rintro e w2 ⟨⟨r, rfl, hr⟩, hw⟩
  obtain rfl := hw.symm
  obtain rfl : r = true := hr.2 HPO.out
  clear hr hw
  go_wp2_with fail
  refine (blank_any _ _ _ _ es _ (HE.out.below HB.out) h6e).mono ?_
  rintro e w3 ⟨⟨g1, g2, rfl, ⟨hr1, hr2⟩, hne, hg1, hg2⟩, hb⟩
  have HBb := hide (Below.on HB.out hb)
  have HV3 := hide (HV1.out.below hb)
  have HR3 := hide (HR1.out.below hb)
  have HR1' := hide hr1
  have HR2' := hide hr2
  have hlt1 := hr1.lt
  have hlt2 := hr2.lt
  have hsz := HR1.out.lt
  clear hb hr1 hr2 v0 v1 v2
  go_wp2_with fail
  go_loopw [49] (fun i wr => ∃ k : Nat, k ≤ dl ∧ i = .int .i64 k ∧ (∀ j, j < k → misAt ds es ps j = false) ∧ (wr.rowIs g1 3 el (fun j => .int .i64 (es[j]?.getD 0)) ∧ wr.rowIs g2 3 el (fun j => .int .i64 (sprV ss ps k j))) ∧ (ViewAt wr w.heap.size (.int .i64 s) (.slice da dl dc) (.slice sa dl sc) ∧ ViewAt wr (w.heap.size + 1) (.int .i64 0) (.slice none 0 0) (.slice none 0 0) ∧ ViewAt wr w3.heap.size (.int .i64 s) (.slice (some ⟨g1, 0, none⟩) el el) (.slice (some ⟨g2, 0, none⟩) el el)) ∧ Below w.heap.size w wr) (fun i _ => dl - (intOf i).toNat)
  case atStart =>
    refine ⟨0, Nat.zero_le _, rfl, by simp, ⟨HR1'.out.alloc _, ?_⟩, ⟨HV3.out.alloc _, HR3.out.alloc _, ViewAt.new w3 _ _ _⟩, HBb.out.alloc HBb.out.size _⟩
    exact HR2'.out.alloc _
  case round =>
    obtain ⟨k, hk, rfl, hgood, ⟨hr1, hr2⟩, ⟨hv, hrr, ho⟩, hB⟩ := hrel
    have HGD := hide hgood
    have HQ1 := hide hr1
    have HQ2 := hide hr2
    have HV := hide hv
    have HRR := hide hrr
    have HO := hide ho
    have HBw := hide hB
    clear hgood hr1 hr2 hv hrr ho hB
    by_cases hlt : k < dl
    · have hpe := HP.out.1
      have hpo := HPO.out k (by omega)
      obtain ⟨db, doff, rfl, hdb, hdc⟩ := HD.out.at (by omega)
      obtain ⟨sb, soff, rfl, hsb, hsc⟩ := HS.out.at (by omega)
      obtain ⟨eb, eoff, rfl, heb, hec⟩ := HE.out.at (by omega)
      obtain ⟨pb, poff, rfl, hpb, hpc⟩ := HP.out.at (by omega)
      obtain ⟨m, hm⟩ : ∃ m : Nat, ps[k]?.getD 0 = (m : Int) := ⟨(ps[k]?.getD 0).toNat, by omega⟩
      have hmlt : m < el := by omega
      have HM := hide hm
      obtain ⟨X, hX⟩ : ∃ X, X = ds[k]?.getD 0 := ⟨_, rfl⟩
      obtain ⟨T, hT⟩ : ∃ T, T = ss[k]?.getD 0 := ⟨_, rfl⟩
      obtain ⟨Z, hZ⟩ : ∃ Z, Z = es[m]?.getD 0 := ⟨_, rfl⟩
      have cd : wr.cell? ⟨db, doff + k, none⟩ = some (.int .i64 X) := by rw [hX]; exact (HBw.out.cell (p := ⟨db, doff + k, none⟩) hdb).trans (hdc k hlt)
      have cs : wr.cell? ⟨sb, soff + k, none⟩ = some (.int .i64 T) := by rw [hT]; exact (HBw.out.cell (p := ⟨sb, soff + k, none⟩) hsb).trans (hsc k hlt)
      have ce : wr.cell? ⟨eb, eoff + m, none⟩ = some (.int .i64 Z) := by rw [hZ]; exact (HBw.out.cell (p := ⟨eb, eoff + m, none⟩) heb).trans (hec m hmlt)
      have cp : wr.cell? ⟨pb, poff + k, none⟩ = some (.int .i64 (m : Int)) := by rw [← hm]; exact (HBw.out.cell (p := ⟨pb, poff + k, none⟩) hpb).trans (hpc k hlt)
      have hmis : misAt ds es ps k = decide (X ≠ Z) := by rw [misAt, hm, Int.toNat_natCast, ← hX, ← hZ]
      have HMIS := hide hmis
      have HT := hide hT
      have HPL : Hid (k < ps.length) := by rw [Hid]; omega
      obtain ⟨⟨v0, v1, v2⟩, _⟩ := HV.out.cells
      obtain ⟨⟨o0, o1, o2⟩, p0, p1, p2⟩ := HO.out.cells
      have c2 := HQ2.out.cell hmlt
      have f2 := HQ2.out.frozen m
      have i1 : (0 : Int) ≤ (k : Int) := Int.natCast_nonneg _
      have i2 : (k : Int) < (dl : Int) := by omega
      have i3 : (0 : Int) ≤ (m : Int) := Int.natCast_nonneg _
      have i4 : (m : Int) < (el : Int) := by omega
      clear hdc hsc hec hpc hm hpo hX hT hZ hmis hpe
      go_wp2_with fail
      by_cases hXZ : X = Z
      · subst hXZ
        go_quiet (fail)
        go_wp2_with fail
        go_region
        go_wp2
        go_roundw
        case measure => simp [intOf]; omega
        case rel =>
          refine ⟨k + 1, by omega, by go_num, ?_, ⟨?_, ?_⟩, ⟨?_, ?_, ?_⟩, ?_⟩
          · intro j hj
            by_cases e : j = k
            · subst e; rw [HMIS.out]; simp
            · exact HGD.out j (by omega)
          · exact (World.rowIs.of_block HQ1.out rfl : (wr.drewN (nq + 1)).rowIs g1 3 el _).setOther (a := ⟨g2, m, none⟩) hne _
          · refine ((World.rowIs.of_block HQ2.out rfl : (wr.drewN (nq + 1)).rowIs g2 3 el _).set m (.int .i64 T)).congr (fun j _ => ?_)
            rw [sprV, HM.out, Int.toNat_natCast, ← HT.out]
            split <;> rfl
          · exact (show ViewAt (wr.drewN (nq + 1)) _ _ _ _ from HV.out).set (p := ⟨g2, m, none⟩) (by simp; omega) _
          · exact (show ViewAt (wr.drewN (nq + 1)) _ _ _ _ from HRR.out).set (p := ⟨g2, m, none⟩) (by simp; omega) _
          · exact (show ViewAt (wr.drewN (nq + 1)) _ _ _ _ from HO.out).set (p := ⟨g2, m, none⟩) (by simp; omega) _
          · exact (below_drewN' HBw.out (nq + 1)).setCell (p := ⟨g2, m, none⟩) (by simp; omega) _
      · have q : (X != Z) = true := by simp [hXZ]
        have HXZ := hide hXZ
        clear hXZ
        obtain ⟨⟨r0, r1, r2⟩, rf0, rf1, rf2⟩ := HRR.out.cells
        go_quiet (fail)
        go_wp2
        refine bodyPost_ret (v := .tuple #[.agg #[.int .i64 0, .slice none 0 0, .slice none 0 0], .int .i64 6]) (by simp [results, Try.results40, go_sem, r0, r1, r2]) rfl ⟨?_, below_put (below_drewN' HBw.out _) (by omega)⟩
        rw [SprPost, if_pos (anyMis_true k HPL.out (by rw [HMIS.out]; simpa using HXZ.out))]
        exact givesF_none _ _ _ _
    · obtain rfl : k = dl := by omega
      obtain ⟨⟨o0, o1, o2⟩, _⟩ := HO.out.cells
      have hpe := HP.out.1
      have hnm : anyMis ds es ps = false := anyMis_false (fun j hj => HGD.out j (by omega))
      have hls : ps.length ≤ ss.length := by rw [hpe, HS.out.1]; exact Nat.le_refl _
      have hfar : beyondB s (sprS es.length ss ps) = false := spr_far HW.out hls
      have hi1 : Ints wr (some ⟨g1, 0, none⟩) el es := ints_of_rowI HQ1.out HE.out.1 (by omega) HE.out.2.2.1
      have hi2 : Ints wr (some ⟨g2, 0, none⟩) el (sprS es.length ss ps) := by
        refine ints_of_rowI (World.rowIs.congr HQ2.out (fun j hj => ?_)) (by rw [sprS_length, HE.out.1]) (by omega) (sprS_bd HSM.out hls)
        rw [sprS_getD es.length ss ps j (by rw [HE.out.1]; exact hj), hpe]
      have HNM := hide hnm
      have HF := hide hfar
      have HI1 := hide hi1
      have HI2 := hide hi2
      clear hnm hls hfar hi1 hi2 hpe
      go_wp2_with fail
      refine (reached_any _ _ _ _ _ _ _ (sprS es.length ss ps) _ HI2.out).mono ?_
      rintro e w4 ⟨rfl, hb⟩
      rw [if_neg (by rw [HF.out]; simp)]
      have HBd := hide (Below.on HBw.out hb)
      have HRR4 := hide (HRR.out.below hb)
      have HI1' := hide (HI1.out.below hb)
      have HI2' := hide (HI2.out.below hb)
      obtain ⟨⟨r0, r1, r2⟩, rf0, rf1, rf2⟩ := HRR4.out.cells
      clear hb o0 o1 o2
      go_wp2
      refine bodyPost_ret (v := .tuple #[.agg #[.int .i64 s, .slice (some ⟨g1, 0, none⟩) el el, .slice (some ⟨g2, 0, none⟩) el el], .int .i64 0]) (by simp [results, Try.results40, go_sem, r0, r1, r2]) rfl ⟨?_, below_put HBd.out (by omega)⟩
      rw [SprPost, if_neg (by rw [HNM.out]; simp)]
      exact ⟨_, _, _, _, _, _, rfl, ints_set3 (B := w.heap.size + 1) HI1'.out (by omega), ints_set3 (B := w.heap.size + 1) HI2'.out (by omega), ⟨Nat.le_refl _, Nat.le_refl _⟩, .inr (far_some (by omega)), far_some (by omega)⟩
end Go.Proofs.Yteoobeldmicjhaa.V
namespace Go.Proofs.Yteoobeldmicjhaa.V
open Go.RowKit

def sprE (s : Int) (ds ss es ps : List Int) : Int := if wrongE s ds ss ≠ 0 then wrongE s ds ss else if sizeE es ≠ 0 then sizeE es else if ps.length = ds.length ∧ riseB ps es.length = true then (if anyMis ds es ps = true then 6 else 0) else 6

set_option maxHeartbeats 1000000 in
theorem spread_wrong (s : Int) (da : Option Addr) (dl dc : Nat) (ds : List Int) (sa : Option Addr) (sl sc : Nat) (ss : List Int) (ea : Option Addr) (el ec : Nat) (_es : List Int) (pa : Option Addr) (pl pc : Nat) (w : World)
    (hd : Ints w da dl ds) (hs : Ints w sa sl ss) (hW : wrongE s ds ss ≠ 0) :
    Calls Try.prog 40 #[.agg #[.int .i64 s, .slice da dl dc, .slice sa sl sc], .slice ea el ec, .slice pa pl pc] w fun e w' => e = .returned (.tuple #[.agg #[.int .i64 0, .slice none 0 0, .slice none 0 0], .int .i64 (wrongE s ds ss)]) ∧ Below w.heap.size w w' := by
  have HD := hide hd
  have HS := hide hs
  have c1 : (wrongE s ds ss != 0) = true := by simp [hW]
  clear hd hs hW
  have hb2 : Below w.heap.size w ((w.alloc (.cells #[.int .i64 s, .slice da dl dc, .slice sa sl sc] 50)).alloc (.cells #[.int .i64 0, .slice none 0 0, .slice none 0 0] 50)) := ((Below.refl _ _).alloc (Nat.le_refl _) _).alloc (by simp) _
  have HB2 := hide hb2
  clear hb2
  go_enter Try.func40, Try.ntmps40
  go_wp2_with fail
  refine (wrong_any _ _ _ _ ds _ _ _ ss _ (HD.out.below HB2.out) (HS.out.below HB2.out)).mono ?_
  rintro e w1 ⟨rfl, hb⟩
  have HB := hide (Below.on HB2.out hb)
  obtain ⟨hc1, hf1⟩ := bcell hb
  have hz := hb.size
  simp at hz
  clear hb
  go_wp2
  refine bodyPost_ret (v := .tuple #[.agg #[.int .i64 0, .slice none 0 0, .slice none 0 0], .int .i64 (wrongE s ds ss)]) (by simp [results, Try.results40, go_sem, hc1]) rfl ⟨rfl, below_put HB.out (by omega)⟩

set_option maxHeartbeats 1000000 in
theorem spread_size (s : Int) (da : Option Addr) (dl dc : Nat) (ds : List Int) (sa : Option Addr) (sl sc : Nat) (ss : List Int) (ea : Option Addr) (el ec : Nat) (es : List Int) (pa : Option Addr) (pl pc : Nat) (w : World)
    (hd : Ints w da dl ds) (hs : Ints w sa sl ss) (he : Ints w ea el es) (hW : wrongE s ds ss = 0) (hE : sizeE es ≠ 0) :
    Calls Try.prog 40 #[.agg #[.int .i64 s, .slice da dl dc, .slice sa sl sc], .slice ea el ec, .slice pa pl pc] w fun e w' => e = .returned (.tuple #[.agg #[.int .i64 0, .slice none 0 0, .slice none 0 0], .int .i64 (sizeE es)]) ∧ Below w.heap.size w w' := by
  have HD := hide hd
  have HS := hide hs
  have HE := hide he
  have HW := hide hW
  have c1 : (sizeE es != 0) = true := by simp [hE]
  clear hd hs he hW hE
  have hb2 : Below w.heap.size w ((w.alloc (.cells #[.int .i64 s, .slice da dl dc, .slice sa sl sc] 50)).alloc (.cells #[.int .i64 0, .slice none 0 0, .slice none 0 0] 50)) := ((Below.refl _ _).alloc (Nat.le_refl _) _).alloc (by simp) _
  have HB2 := hide hb2
  clear hb2
  go_enter Try.func40, Try.ntmps40
  go_wp2_with fail
  refine (wrong_any _ _ _ _ ds _ _ _ ss _ (HD.out.below HB2.out) (HS.out.below HB2.out)).mono ?_
  rintro e w1 ⟨rfl, hb⟩
  rw [HW.out]
  have HB := hide (Below.on HB2.out hb)
  have hV1 : ViewAt w1 w.heap.size (.int .i64 s) (.slice da dl dc) (.slice sa sl sc) := ((ViewAt.new w _ _ _).alloc _).below hb
  have hR1 : ViewAt w1 (w.heap.size + 1) (.int .i64 0) (.slice none 0 0) (.slice none 0 0) := by
    have := (ViewAt.new (w.alloc (.cells #[.int .i64 s, .slice da dl dc, .slice sa sl sc] 50)) (.int .i64 0) (.slice none 0 0) (.slice none 0 0)).below hb
    simpa using this
  obtain ⟨⟨v0, v1, v2⟩, _⟩ := hV1.cells
  obtain ⟨⟨r0, r1, r2⟩, rf0, rf1, rf2⟩ := hR1.cells
  clear hb hV1 hR1
  go_wp2_with fail
  refine (size_any _ _ _ es _ (HE.out.below HB.out)).mono ?_
  rintro e w2 ⟨rfl, hw⟩
  obtain rfl := hw.symm
  clear hw
  go_wp2
  refine bodyPost_ret (v := .tuple #[.agg #[.int .i64 0, .slice none 0 0, .slice none 0 0], .int .i64 (sizeE es)]) (by simp [results, Try.results40, go_sem, r0, r1, r2]) rfl ⟨rfl, below_put HB.out (by omega)⟩

set_option maxHeartbeats 1000000 in
theorem spread_shape (s : Int) (da : Option Addr) (dl dc : Nat) (ds : List Int) (sa : Option Addr) (sl sc : Nat) (ss : List Int) (ea : Option Addr) (el ec : Nat) (es : List Int) (pa : Option Addr) (pl pc : Nat) (ps : List Int) (w : World)
    (hd : Ints w da dl ds) (hs : Ints w sa sl ss) (he : Ints w ea el es) (hp : Ints w pa pl ps) (hW : wrongE s ds ss = 0) (hE : sizeE es = 0) (h6 : el ≤ 6) (hP : ¬ (pl = dl ∧ RiseOk ps el)) :
    Calls Try.prog 40 #[.agg #[.int .i64 s, .slice da dl dc, .slice sa sl sc], .slice ea el ec, .slice pa pl pc] w fun e w' => e = .returned (.tuple #[.agg #[.int .i64 0, .slice none 0 0, .slice none 0 0], .int .i64 6]) ∧ Below w.heap.size w w' := by
  have HD := hide hd
  have HS := hide hs
  have HE := hide he
  have HW := hide hW
  have HZ := hide hE
  have HP := hide hp
  have HPO := hide hP
  clear hd hs he hp hW hE hP
  have hb2 : Below w.heap.size w ((w.alloc (.cells #[.int .i64 s, .slice da dl dc, .slice sa sl sc] 50)).alloc (.cells #[.int .i64 0, .slice none 0 0, .slice none 0 0] 50)) := ((Below.refl _ _).alloc (Nat.le_refl _) _).alloc (by simp) _
  have HB2 := hide hb2
  clear hb2
  go_enter Try.func40, Try.ntmps40
  go_wp2_with fail
  refine (wrong_any _ _ _ _ ds _ _ _ ss _ (HD.out.below HB2.out) (HS.out.below HB2.out)).mono ?_
  rintro e w1 ⟨rfl, hb⟩
  rw [HW.out]
  have HB := hide (Below.on HB2.out hb)
  have hV1 : ViewAt w1 w.heap.size (.int .i64 s) (.slice da dl dc) (.slice sa sl sc) := ((ViewAt.new w _ _ _).alloc _).below hb
  have hR1 : ViewAt w1 (w.heap.size + 1) (.int .i64 0) (.slice none 0 0) (.slice none 0 0) := by
    have := (ViewAt.new (w.alloc (.cells #[.int .i64 s, .slice da dl dc, .slice sa sl sc] 50)) (.int .i64 0) (.slice none 0 0) (.slice none 0 0)).below hb
    simpa using this
  obtain ⟨⟨v0, v1, v2⟩, _⟩ := hV1.cells
  obtain ⟨⟨r0, r1, r2⟩, rf0, rf1, rf2⟩ := hR1.cells
  clear hb hV1 hR1
  go_wp2_with fail
  refine (size_any _ _ _ es _ (HE.out.below HB.out)).mono ?_
  rintro e w2 ⟨rfl, hw⟩
  obtain rfl := hw.symm
  clear hw
  rw [HZ.out]
  by_cases e1 : pl = dl
  · subst e1
    go_wp2_with fail
    refine (rises_any _ _ _ ps el _ (HP.out.below HB.out) h6).mono ?_
    rintro e w2 ⟨⟨r, rfl, hr⟩, hw⟩
    obtain rfl := hw.symm
    obtain rfl : r = false := by
      cases r with
      | true => exact absurd (hr.1 rfl) (fun h => HPO.out ⟨by simp, h⟩)
      | false => rfl
    clear hr hw
    go_wp2
    refine bodyPost_ret (v := .tuple #[.agg #[.int .i64 0, .slice none 0 0, .slice none 0 0], .int .i64 6]) (by simp [results, Try.results40, go_sem, r0, r1, r2]) rfl ⟨rfl, below_put HB.out (by omega)⟩
  · have e1' : ((pl : Int) != (dl : Int)) = true := by simp; omega
    clear e1
    go_wp2
    refine bodyPost_ret (v := .tuple #[.agg #[.int .i64 0, .slice none 0 0, .slice none 0 0], .int .i64 6]) (by simp [results, Try.results40, go_sem, r0, r1, r2]) rfl ⟨rfl, below_put HB.out (by omega)⟩

theorem spread_any (s : Int) (da : Option Addr) (dl dc : Nat) (ds : List Int) (sa : Option Addr) (sl sc : Nat) (ss : List Int) (ea : Option Addr) (el ec : Nat) (es : List Int) (pa : Option Addr) (pl pc : Nat) (ps : List Int) (w : World)
    (hd : Ints w da dl ds) (hs : Ints w sa sl ss) (he : Ints w ea el es) (hp : Ints w pa pl ps) :
    Calls Try.prog 40 #[.agg #[.int .i64 s, .slice da dl dc, .slice sa sl sc], .slice ea el ec, .slice pa pl pc] w fun e w' => GivesF w ea e w' (okS (sprE s ds ss es ps) s) (okL (sprE s ds ss es ps) es) (okL (sprE s ds ss es ps) (sprS es.length ss ps)) (sprE s ds ss es ps) ∧ Below w.heap.size w w' := by
  by_cases hW : wrongE s ds ss ≠ 0
  · have e : sprE s ds ss es ps = wrongE s ds ss := by simp [sprE, hW]
    rw [e]
    refine (spread_wrong s da dl dc ds sa sl sc ss ea el ec es pa pl pc w hd hs hW).mono ?_
    rintro e w' ⟨rfl, hb⟩
    simp only [okS, okL, if_neg hW]
    exact ⟨givesF_none _ _ _ _, hb⟩
  replace hW : wrongE s ds ss = 0 := by simpa using hW
  by_cases hE : sizeE es ≠ 0
  · have e : sprE s ds ss es ps = sizeE es := by simp [sprE, hW, hE]
    rw [e]
    refine (spread_size s da dl dc ds sa sl sc ss ea el ec es pa pl pc w hd hs he hW hE).mono ?_
    rintro e w' ⟨rfl, hb⟩
    simp only [okS, okL, if_neg hE]
    exact ⟨givesF_none _ _ _ _, hb⟩
  replace hE : sizeE es = 0 := by simpa using hE
  obtain ⟨w1, w2, _⟩ := wrongE_ok hW
  have h6 := (sizeE_ok w1).1
  have h6e := (sizeE_ok hE).1
  have ld := hd.1
  have ls := hs.1
  have le := he.1
  have lp := hp.1
  by_cases hP : pl = dl ∧ RiseOk ps el
  · obtain ⟨rfl, hr⟩ := hP
    obtain rfl : sl = pl := by omega
    refine (spread_ok s da sl dc ds sa sc ss ea el ec es pa pc ps w hd hs he hp hW hE hr (by omega) (by omega)).mono ?_
    rintro e w' ⟨h, hb⟩
    refine ⟨?_, hb⟩
    have er : ps.length = ds.length ∧ riseB ps es.length = true := ⟨by omega, by rw [le]; exact (riseB_iff ps el).2 hr⟩
    rw [SprPost] at h
    by_cases hA : anyMis ds es ps = true
    · rw [if_pos hA] at h
      have e : sprE s ds ss es ps = 6 := by simp [sprE, hW, hE, er, hA]
      rw [e]; exact h
    · rw [if_neg hA] at h
      have e : sprE s ds ss es ps = 0 := by simp [sprE, hW, hE, er, hA]
      rw [e]; exact h
  · have e : sprE s ds ss es ps = 6 := by
      have : ¬ (ps.length = ds.length ∧ riseB ps es.length = true) := fun h => hP ⟨by omega, by have := h.2; rw [le] at this; exact (riseB_iff ps el).1 this⟩
      simp only [sprE, hW, hE, if_neg this]
      simp
    rw [e]
    refine (spread_shape s da dl dc ds sa sl sc ss ea el ec es pa pl pc ps w hd hs he hp hW hE (by omega) hP).mono ?_
    rintro e w' ⟨rfl, hb⟩
    exact ⟨givesF_none _ _ _ _, hb⟩
end Go.Proofs.Yteoobeldmicjhaa.V
namespace Go.Proofs.Yteoobeldmicjhaa.V

theorem pos_of {D : List Int} (hE : sizeE D = 0) {i : Nat} (hi : i < (prod D).toNat) : ∀ x ∈ D, 1 ≤ x := by
  rcases dims_cases hE with ⟨_, _, h⟩ | ⟨h, _⟩
  · omega
  · exact h

/-- The place of an index, and what lies there. -/
theorem place_lie : ∀ (ds ss y : List Int), ss.length = ds.length → y.length = ds.length → IdxOk ds y → 0 ≤ dotT y (stepsV ds) ds.length ∧ dotT y (stepsV ds) ds.length < prod ds ∧ lieN ds ss (dotT y (stepsV ds) ds.length) = dotT y ss ds.length
  | [], ss, y, _, _, _ => by simp [dotT, prod, lieN]
  | d :: ds, [], _, h, _, _ => by simp at h
  | d :: ds, _, [], _, h, _ => by simp at h
  | d :: ds, t :: ss, a :: y, h1, h2, hi => by
    have hpos := idxOk_pos hi
    have hpos' : ∀ x ∈ ds, 1 ≤ x := fun x hx => hpos x (by simp [hx])
    have hi' : IdxOk ds y := fun k hk => by
      have := hi (k + 1) (by simp; omega)
      simpa using this
    have ha := hi 0 (by simp)
    simp at ha
    obtain ⟨i1, i2, i3⟩ := place_lie ds ss y (by simpa using h1) (by simpa using h2) hi'
    rw [stepsV_cons hpos, List.length_cons, dotT_cons, dotT_cons, prod, lieN]
    obtain ⟨p, hp⟩ : ∃ p, dotT y (stepsV ds) ds.length = p := ⟨_, rfl⟩
    rw [hp] at i1 i2 i3 ⊢
    have hP := prod_pos ds hpos'
    have e1 : (a * prod ds + p) / prod ds = a := by rw [Int.add_comm, Int.add_mul_ediv_right _ _ (by omega), Int.ediv_eq_zero_of_lt i1 i2]; omega
    have e2 : (a * prod ds + p) % prod ds = p := by rw [Int.add_comm, Int.add_mul_emod_self_right, Int.emod_eq_of_lt i1 i2]
    have b1 : 0 ≤ a * prod ds := Int.mul_nonneg ha.1 (by omega)
    have b2 : (a + 1) * prod ds ≤ d * prod ds := Int.mul_le_mul_of_nonneg_right (by omega) (by omega)
    rw [Int.add_mul] at b2
    refine ⟨by omega, by omega, ?_⟩
    rw [e1, e2, i3]

/-- Each entry of what is made is an entry of what it is made of, whatever the steps are. -/
def ThroughP (ds D : List Int) (S : Int → List Int → Int) (T : List Int → List Int) : Prop :=
  ∀ i : Nat, i < (prod D).toNat → ∃ y : List Int, y.length = ds.length ∧ IdxOk ds y ∧ ∀ s ss, ss.length = ds.length → S s ss + lieN D (T ss) i = s + dotT y ss ds.length
/-- What the statement asks. -/
def ReadsThrough (s : Int) (ds ss D : List Int) (S : Int → List Int → Int) (T : List Int → List Int) : Prop :=
  ∀ i : Nat, i < (prod D).toNat → ∃ p : Nat, p < (prod ds).toNat ∧ (readsV (S 0 (stepsV ds)) D (T (stepsV ds)))[i]?.getD 0 = (p : Int) ∧ (readsV (S s ss) D (T ss))[i]?.getD 0 = (readsV s ds ss)[p]?.getD 0
theorem through_of {s : Int} {ds ss D : List Int} {S : Int → List Int → Int} {T : List Int → List Int} (hl : ss.length = ds.length) (h : ThroughP ds D S T) : ReadsThrough s ds ss D S T := by
  intro i hi
  obtain ⟨y, hy, hid, he⟩ := h i hi
  obtain ⟨p0, p1, p2⟩ := place_lie ds ss y hl hy hid
  obtain ⟨p, hp⟩ : ∃ p : Nat, dotT y (stepsV ds) ds.length = (p : Int) := ⟨(dotT y (stepsV ds) ds.length).toNat, by omega⟩
  rw [hp] at p0 p1 p2
  refine ⟨p, by omega, ?_, ?_⟩
  · rw [readsV_getD _ _ _ i hi, he 0 (stepsV ds) (stepsV_len ds), hp]; omega
  · rw [readsV_getD _ _ _ i hi, he s ss hl, readsV_getD s ds ss p (by omega), p2]

/-! ### Turn -/
def sumL : List Int → Int
  | [] => 0
  | x :: r => x + sumL r
theorem sumL_perm {a b : List Int} (h : a.Perm b) : sumL a = sumL b := by
  induction h with
  | nil => rfl
  | cons x _ ih => rw [sumL, sumL, ih]
  | swap x y l => simp only [sumL]; omega
  | trans _ _ ih1 ih2 => rw [ih1, ih2]
theorem sumL_append (a b : List Int) : sumL (a ++ b) = sumL a + sumL b := by
  induction a with
  | nil => simp [sumL]
  | cons x a ih => simp [sumL, ih]; omega
theorem dotT_sumL (xs ys : List Int) : ∀ n, dotT xs ys n = sumL ((List.range n).map fun k => xs[k]?.getD 0 * ys[k]?.getD 0)
  | 0 => rfl
  | n + 1 => by rw [dotT, List.range_succ, List.map_append, sumL_append, dotT_sumL xs ys n]; simp [sumL]
theorem through_turn {ds ps : List Int} (hE : sizeE ds = 0) (hp : PermOk ps ds.length) : ThroughP ds (taken ds ps) (fun s _ => s) (fun ss => taken ss ps) := by
  intro i hi
  have hl := hp.1
  have hpm := taken_perm hp
  have hpos := pos_of (by rw [sizeE_perm hpm]; exact hE) hi
  have hb := dig_bd (taken ds ps) i hpos (by omega) (by omega)
  have hdl : (dig (taken ds ps) i).length = ds.length := by rw [dig_length, taken_length, hl]
  refine ⟨taken (dig (taken ds ps) i) (invL ps), by rw [taken_length, invL_length, hl], fun k hk => ?_, fun s ss hss => ?_⟩
  · obtain ⟨j, h1, h2, h3⟩ := perm_at hp k hk
    have e1 : (taken (dig (taken ds ps) i) (invL ps))[k]?.getD 0 = (dig (taken ds ps) i)[j]?.getD 0 := taken_getD _ _ k j (by rw [invL_length]; omega) (by rw [invL_getD ps k (by omega), hl, h2])
    have e2 : (taken ds ps)[j]?.getD 0 = ds[k]?.getD 0 := taken_getD _ _ j k (by omega) h3
    have := hb j (by rw [taken_length]; omega)
    rw [e1, ← e2]; exact this
  · rw [lieN_dig _ _ _ (by rw [taken_length, taken_length]), taken_length, hl, dotT_sumL, dotT_sumL]
    congr 1
    have hpr : (ps.map Int.toNat).Perm (List.range ds.length) := by
      refine perm_range _ _ (by simp [hl]) (fun k hk => ?_)
      have := (perm_iff hp.1).1 hp.2 k hk
      simp only [List.mem_map]
      exact ⟨(k : Int), this, by simp⟩
    have h2 := sumL_perm (hpr.map (fun k => (taken (dig (taken ds ps) i) (invL ps))[k]?.getD 0 * ss[k]?.getD 0))
    rw [← h2]
    congr 1
    rw [List.map_map]
    apply List.ext_getElem?
    intro j
    by_cases hj : j < ds.length
    · have hjp : j < ps.length := by omega
      have hpj := hp.2 j hj
      obtain ⟨m, hm⟩ : ∃ m : Nat, ps[j]?.getD 0 = (m : Int) := ⟨(ps[j]?.getD 0).toNat, by omega⟩
      have hmn : m < ds.length := by omega
      obtain ⟨j', h1, h2', h3⟩ := perm_at hp m hmn
      have ejj := perm_inj hp hj h1 (hm.trans h3.symm)
      subst ejj
      have e1 : (taken (dig (taken ds ps) i) (invL ps))[m]?.getD 0 = (dig (taken ds ps) i)[j]?.getD 0 := taken_getD _ _ m j (by rw [invL_length]; omega) (by rw [invL_getD ps m (by omega), hl, h2'])
      have e2 : (taken ss ps)[j]?.getD 0 = ss[m]?.getD 0 := taken_getD _ _ j m hjp hm
      have hm' : ps[j] = (m : Int) := by simpa [hjp] using hm
      simp only [List.getElem?_map, List.getElem?_range hj, Option.map_some, List.getElem?_eq_getElem hjp, Function.comp, hm', Int.toNat_natCast, e1, e2]
    · rw [List.getElem?_eq_none (by simp; omega), List.getElem?_eq_none (by simp; omega)]

/-! ### Flip -/
theorem through_flip {ds ps : List Int} (hE : sizeE ds = 0) (hp : RiseOk ps ds.length) : ThroughP ds ds (fun s ss => flipAcc s ds ss ps ps.length) (fun ss => flipL ss ps) := by
  intro i hi
  have hpos := pos_of hE hi
  have hb := dig_bd ds i hpos (by omega) (by omega)
  refine ⟨(List.range ds.length).map fun k => if inB ps k = true then ds[k]?.getD 0 - 1 - (dig ds i)[k]?.getD 0 else (dig ds i)[k]?.getD 0, by simp, fun k hk => ?_, fun s ss hss => ?_⟩
  · have := hb k hk
    simp only [List.getElem?_map, List.getElem?_range hk, Option.map_some, Option.getD_some]
    split <;> omega
  · show flipAcc s ds ss ps ps.length + lieN ds (flipL ss ps) i = _
    rw [← rAcc_flipAcc s ds ss ps ds.length hp, lieN_dig ds _ _ (by rw [flipL_length]; exact hss)]
    have key : ∀ k, k ≤ ds.length → rAcc s ds ss ps k + dotT (dig ds i) (flipL ss ps) k = s + dotT ((List.range ds.length).map fun k => if inB ps k = true then ds[k]?.getD 0 - 1 - (dig ds i)[k]?.getD 0 else (dig ds i)[k]?.getD 0) ss k := by
      intro k
      induction k with
      | zero => intro _; simp [rAcc, dotT]
      | succ k ih =>
        intro hk
        have ih' := ih (by omega)
        have hk' : k < ds.length := by omega
        have hd := hpos _ (mem_getD ds k hk')
        rw [rAcc, dotT, dotT, flipL_getD ss ps k (by omega)]
        simp only [List.getElem?_map, List.getElem?_range hk', Option.map_some, Option.getD_some]
        by_cases c : inB ps k = true
        · rw [if_pos c, if_pos c, if_pos c]
          unfold flipTerm
          rw [if_pos (by omega)]
          simp only [Int.sub_mul, Int.mul_neg, Int.one_mul]
          omega
        · rw [if_neg c, if_neg c, if_neg c]
          omega
    exact key ds.length (Nat.le_refl _)

/-! ### Cut -/
theorem cutAcc_eq (s : Int) (ss lo : List Int) : ∀ n, cutAcc s ss lo n = s + dotT lo ss n
  | 0 => by simp [cutAcc, dotT]
  | n + 1 => by rw [cutAcc, cutAcc_eq s ss lo n, dotT]; omega
theorem kept_lt {l h t x : Int} (ht : 1 ≤ t) (hx : x < keptN l h t) : l + x * t < h := by
  unfold keptN at hx
  have h1 := Int.mul_ediv_add_emod (h - l + t - 1) t
  have h2 := Int.emod_nonneg (h - l + t - 1) (show t ≠ 0 by omega)
  have h3 : t * (x + 1) ≤ t * ((h - l + t - 1) / t) := Int.mul_le_mul_of_nonneg_left (by omega) (by omega)
  rw [Int.mul_add, Int.mul_comm t x] at h3
  omega
theorem through_cut {ds lo hi st : List Int} (hE : sizeE (cutD ds lo hi st) = 0) (hb : anyBad ds lo hi st = false) : ThroughP ds (cutD ds lo hi st) (fun s ss => cutAcc s ss lo ds.length) (fun ss => cutS ss st) := by
  intro i hi'
  have hpos := pos_of hE hi'
  have hbd := dig_bd (cutD ds lo hi st) i hpos (by omega) (by omega)
  have hcl := cutD_length ds lo hi st
  refine ⟨(List.range ds.length).map fun k => lo[k]?.getD 0 + (dig (cutD ds lo hi st) i)[k]?.getD 0 * st[k]?.getD 0, by simp, fun k hk => ?_, fun s ss hss => ?_⟩
  · have h1 := hbd k (by omega)
    rw [cutD_getD ds lo hi st k hk] at h1
    have h2 := badCut_false (of_anyBad_false hb k hk)
    have h3 := kept_lt h2.2.2.2.1 h1.2
    have h4 : 0 ≤ (dig (cutD ds lo hi st) i)[k]?.getD 0 * st[k]?.getD 0 := Int.mul_nonneg h1.1 (by omega)
    simp only [List.getElem?_map, List.getElem?_range hk, Option.map_some, Option.getD_some]
    omega
  · show cutAcc s ss lo ds.length + lieN (cutD ds lo hi st) (cutS ss st) i = _
    rw [lieN_dig _ _ _ (by rw [cutS_length, hcl]; exact hss), cutAcc_eq, hcl]
    have key : ∀ k, k ≤ ds.length → dotT lo ss k + dotT (dig (cutD ds lo hi st) i) (cutS ss st) k = dotT ((List.range ds.length).map fun k => lo[k]?.getD 0 + (dig (cutD ds lo hi st) i)[k]?.getD 0 * st[k]?.getD 0) ss k := by
      intro k
      induction k with
      | zero => intro _; simp [dotT]
      | succ k ih =>
        intro hk
        have ih' := ih (by omega)
        have hk' : k < ds.length := by omega
        rw [dotT, dotT, dotT, cutS_getD ss st k (by omega)]
        simp only [List.getElem?_map, List.getElem?_range hk', Option.map_some, Option.getD_some]
        rw [Int.add_mul, Int.mul_assoc]
        omega
    have := key ds.length (Nat.le_refl _)
    omega

/-! ### Spread -/
theorem dotT_put (x : List Int) (f g : Nat → Int) (N m : Nat) (c : Int) (hg : ∀ j, g j = if j = m then c else f j) : ∀ n, n ≤ N → dotT x ((List.range N).map g) n = dotT x ((List.range N).map f) n + if m < n then x[m]?.getD 0 * (c - f m) else 0
  | 0, _ => by simp [dotT]
  | n + 1, hn => by
    have ih := dotT_put x f g N m c hg n (by omega)
    have hn' : n < N := by omega
    rw [dotT, dotT, ih]
    simp only [List.getElem?_map, List.getElem?_range hn', Option.map_some, Option.getD_some, hg n]
    by_cases e : n = m
    · subst e
      rw [if_pos rfl, if_neg (by omega), if_pos (by omega), Int.mul_sub]
      omega
    · rw [if_neg e]
      by_cases h : m < n
      · rw [if_pos h, if_pos (by omega)]; omega
      · rw [if_neg h, if_neg (by omega)]; omega
theorem dotT_zero (x : List Int) (N : Nat) : ∀ n, n ≤ N → dotT x ((List.range N).map fun _ => (0 : Int)) n = 0
  | 0, _ => rfl
  | n + 1, hn => by
    have hn' : n < N := by omega
    rw [dotT, dotT_zero x N n (by omega)]
    simp only [List.getElem?_map, List.getElem?_range hn', Option.map_some, Option.getD_some]
    omega
theorem sprV_none {ss ps : List Int} {m : Nat} : ∀ i, (∀ k, k < i → (ps[k]?.getD 0).toNat ≠ m) → sprV ss ps i m = 0
  | 0, _ => rfl
  | i + 1, h => by rw [sprV, if_neg (fun e => h i (by omega) e.symm), sprV_none i (fun k hk => h k (by omega))]
theorem through_spread {ds es ps : List Int} (hE : sizeE es = 0) (hl : ps.length = ds.length) (hp : RiseOk ps es.length) (hm : anyMis ds es ps = false) : ThroughP ds es (fun s _ => s) (fun ss => sprS es.length ss ps) := by
  intro i hi
  have hpos := pos_of hE hi
  have hb := dig_bd es i hpos (by omega) (by omega)
  refine ⟨(List.range ds.length).map fun k => (dig es i)[(ps[k]?.getD 0).toNat]?.getD 0, by simp, fun k hk => ?_, fun s ss hss => ?_⟩
  · have h1 := hp k (by omega)
    have h2 := hb (ps[k]?.getD 0).toNat (by omega)
    have h3 : misAt ds es ps k = false := by
      unfold anyMis at hm
      rw [List.any_eq_false] at hm
      have := hm k (List.mem_range.2 (by omega))
      simpa using this
    simp [misAt] at h3
    simp only [List.getElem?_map, List.getElem?_range hk, Option.map_some, Option.getD_some]
    rw [h3]; exact h2
  · rw [lieN_dig _ _ _ (by rw [sprS_length])]
    have key : ∀ k, k ≤ ds.length → dotT (dig es i) ((List.range es.length).map (sprV ss ps k)) es.length = dotT ((List.range ds.length).map fun k => (dig es i)[(ps[k]?.getD 0).toNat]?.getD 0) ss k := by
      intro k
      induction k with
      | zero => intro _; exact dotT_zero _ _ _ (Nat.le_refl _)
      | succ k ih =>
        intro hk
        have ih' := ih (by omega)
        have hk' : k < ds.length := by omega
        have h1 := hp k (by omega)
        have hf : sprV ss ps k (ps[k]?.getD 0).toNat = 0 := sprV_none k fun j hj e => by
          have h2 := rise_lt hp j k hj (by omega)
          have h3 := hp j (by omega)
          omega
        have e := dotT_put (dig es i) (sprV ss ps k) (sprV ss ps (k + 1)) es.length (ps[k]?.getD 0).toNat (ss[k]?.getD 0) (fun j => rfl) es.length (Nat.le_refl _)
        rw [e, ih', if_pos (by omega), hf, dotT, Int.sub_zero]
        simp only [List.getElem?_map, List.getElem?_range hk', Option.map_some, Option.getD_some]
    have := key ds.length (Nat.le_refl _)
    unfold sprS
    rw [hl, this]
end Go.Proofs.Yteoobeldmicjhaa.V
namespace Go.Proofs.Yteoobeldmicjhaa.V
open Go.RowKit

theorem kept_eq {l h t : Int} {k : Nat} (h1 : h ≤ l + k * t) (h2 : (k = 0 ∧ l ≤ h) ∨ l + k * t - t < h) (ht : 1 ≤ t) : keptN l h t = (k : Int) := by
  unfold keptN
  have e : h - l + t - 1 = (h - l + t - 1 - k * t) + t * k := by rw [Int.mul_comm t]; omega
  have hr : 0 ≤ h - l + t - 1 - k * t ∧ h - l + t - 1 - k * t < t := by
    refine ⟨?_, by omega⟩
    rcases h2 with ⟨rfl, h2⟩ | h2
    · simp; omega
    · omega
  rw [e, Int.add_mul_ediv_left _ _ (by omega), Int.ediv_eq_zero_of_lt hr.1 hr.2]
  omega

end Go.Proofs.Yteoobeldmicjhaa.V
namespace Go.Proofs.Yteoobeldmicjhaa.V
open Go.RowKit

end Go.Proofs.Yteoobeldmicjhaa.V
namespace Go.Proofs.Yteoobeldmicjhaa.V
open Go.RowKit

end Go.Proofs.Yteoobeldmicjhaa.V
