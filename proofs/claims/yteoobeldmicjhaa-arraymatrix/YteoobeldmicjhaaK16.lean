/-
  Plain mathematics: the five, by number; what comes of one is right, on a view and on what lies whole. Contract: adjointlaw1.step: one of the five, by number.
-/
import Derived.Test.YteoobeldmicjhaaK15
import Derived.Test.YteoobeldmicjhaaK9
namespace Go.Proofs.Yteoobeldmicjhaa.V

/-- What the statement asks of one step. -/
def Thr (s : Int) (ds ss : List Int) (Ew S : Int) (T : List Int) (S0 : Int) (T0 D : List Int) : Prop :=
  wrongE s ds ss = 0 ∧ Ew = 0 ∧ wrongE S D T = 0 ∧ wrongE S0 D T0 = 0 ∧
  ∀ i : Nat, i < (prod D).toNat → ∃ p : Nat, p < (prod ds).toNat ∧ (readsV S0 D T0)[i]?.getD 0 = (p : Int) ∧ (readsV S D T)[i]?.getD 0 = (readsV s ds ss)[p]?.getD 0

theorem stepV_bd {ds : List Int} (h : sizeE ds = 0) (k : Nat) : 0 ≤ stepV ds k ∧ stepV ds k ≤ 65536 := by
  rcases dims_cases h with ⟨h0, _⟩ | ⟨hpos, _, hp, _⟩
  · rw [stepV_zero h0]; omega
  · rw [stepV_pos hpos]
    have := prod_drop_le ds hpos (k + 1)
    unfold beh; omega
theorem steps_bd {ds : List Int} (h : sizeE ds = 0) (k : Nat) : 0 ≤ (stepsV ds)[k]?.getD 0 ∧ (stepsV ds)[k]?.getD 0 ≤ 65536 := by
  by_cases hk : k < ds.length
  · rw [stepsV_getD' ds k hk]; exact stepV_bd h k
  · rw [List.getElem?_eq_none (by rw [stepsV_len]; omega)]; simp
theorem far_of {s : Int} {l : List Int} (h1 : -1099511627776 ≤ s ∧ s ≤ 1099511627776) (h2 : ∀ x ∈ l, -1099511627776 ≤ x ∧ x ≤ 1099511627776) : beyondB s l = false := by
  unfold beyondB
  rw [Bool.or_eq_false_iff, List.any_eq_false]
  refine ⟨by simp [farB]; omega, fun x hx => ?_⟩
  have := h2 x hx
  simp [farB]; omega
theorem wrong_of {s : Int} {ds ss : List Int} (h1 : sizeE ds = 0) (h2 : ss.length = ds.length) (h3 : beyondB s ss = false) : wrongE s ds ss = 0 := by
  unfold wrongE
  rw [if_neg (by simp [h1]), if_neg (by simp [h2]), if_neg (by rw [h3]; simp)]

theorem thr_turn {s : Int} {ds ss ps : List Int} (h : turnE s ds ss ps = 0) : Thr s ds ss (turnE 0 ds (stepsV ds) ps) s (taken ss ps) 0 (taken (stepsV ds) ps) (taken ds ps) := by
  have hp := (turn_again h).1
  have hW : wrongE s ds ss = 0 := by
    unfold turnE at h
    by_cases c : wrongE s ds ss = 0
    · exact c
    · rw [if_pos c] at h; exact absurd h c
  obtain ⟨h1, h2, h3⟩ := wrongE_ok hW
  have hww := wrong_whole h1
  refine ⟨hW, ?_, wrong_turn hW hp, wrong_turn hww hp, through_of (S := fun s _ => s) (T := fun ss => taken ss ps) h2 (through_turn h1 hp)⟩
  unfold turnE
  rw [if_neg (by simp [hww]), if_pos ((permB_iff _ _).2 hp)]

theorem flipE_parts {s : Int} {ds ss ps : List Int} (h : flipE s ds ss ps = 0) : wrongE s ds ss = 0 ∧ riseB ps ds.length = true ∧ beyondB (flipAcc s ds ss ps ps.length) (flipL ss ps) = false := by
  have hW : wrongE s ds ss = 0 := by
    unfold flipE at h
    by_cases c : wrongE s ds ss = 0
    · exact c
    · rw [if_pos c] at h; exact absurd h c
  unfold flipE at h
  rw [if_neg (by simp [hW])] at h
  have hp : riseB ps ds.length = true := by
    by_cases c : riseB ps ds.length = true
    · exact c
    · rw [if_neg c] at h; omega
  rw [if_pos hp] at h
  refine ⟨hW, hp, ?_⟩
  cases c : beyondB (flipAcc s ds ss ps ps.length) (flipL ss ps) with
  | false => rfl
  | true => rw [c] at h; simp at h
theorem flipAcc_whole {ds : List Int} (hE : sizeE ds = 0) (ps : List Int) : ∀ i : Nat, 0 ≤ flipAcc 0 ds (stepsV ds) ps i ∧ flipAcc 0 ds (stepsV ds) ps i ≤ 268435456 * i
  | 0 => by simp [flipAcc]
  | i + 1 => by
    have ih := flipAcc_whole hE ps i
    obtain ⟨j, hj⟩ : ∃ j, (ps[i]?.getD 0).toNat = j := ⟨_, rfl⟩
    have hb := steps_bd hE j
    have hd : ds[j]?.getD 0 ≤ 4096 := by
      by_cases h : j < ds.length
      · exact ((sizeE_ok hE).2.1 _ (mem_getD ds j h)).2
      · rw [List.getElem?_eq_none (by omega)]; simp
    have ht : 0 ≤ flipTerm ds (stepsV ds) j ∧ flipTerm ds (stepsV ds) j ≤ 268435456 := by
      unfold flipTerm
      split
      · refine ⟨Int.mul_nonneg (by omega) hb.1, ?_⟩
        have : (ds[j]?.getD 0 - 1) * (stepsV ds)[j]?.getD 0 ≤ 4096 * 65536 := Int.mul_le_mul (by omega) hb.2 hb.1 (by omega)
        omega
      · omega
    rw [flipAcc, hj]; omega
theorem thr_flip {s : Int} {ds ss ps : List Int} (h : flipE s ds ss ps = 0) : Thr s ds ss (flipE 0 ds (stepsV ds) ps) (flipAcc s ds ss ps ps.length) (flipL ss ps) (flipAcc 0 ds (stepsV ds) ps ps.length) (flipL (stepsV ds) ps) ds := by
  obtain ⟨hW, hp, hbe⟩ := flipE_parts h
  obtain ⟨h1, h2, h3⟩ := wrongE_ok hW
  have hpo := (riseB_iff _ _).1 hp
  have hww := wrong_whole h1
  have hbw : beyondB (flipAcc 0 ds (stepsV ds) ps ps.length) (flipL (stepsV ds) ps) = false := by
    have ha := flipAcc_whole h1 ps ps.length
    have hl := rise_len hpo
    have h6 := (sizeE_ok h1).1
    refine far_of (by omega) fun x hx => ?_
    simp only [flipL, List.mem_map, List.mem_range] at hx
    obtain ⟨k, _, rfl⟩ := hx
    have := steps_bd h1 k
    split <;> omega
  refine ⟨hW, ?_, wrong_of h1 (by rw [flipL_length]; exact h2) hbe, wrong_of h1 (by rw [flipL_length, stepsV_len]) hbw, through_of (S := fun s ss => flipAcc s ds ss ps ps.length) (T := fun ss => flipL ss ps) h2 (through_flip h1 hpo)⟩
  unfold flipE
  rw [if_neg (by simp [hww]), if_pos hp, if_neg (by rw [hbw]; simp)]

theorem prod_monoT : ∀ xs ys : List Int, xs.length = ys.length → (∀ j, j < xs.length → 1 ≤ xs[j]?.getD 0 ∧ xs[j]?.getD 0 ≤ ys[j]?.getD 0) → 1 ≤ prod xs ∧ prod xs ≤ prod ys
  | [], [], _, _ => by simp [prod]
  | [], _ :: _, h, _ => by simp at h
  | _ :: _, [], h, _ => by simp at h
  | x :: xs, y :: ys, h, hb => by
    have h0 := hb 0 (by simp)
    simp at h0
    obtain ⟨i1, i2⟩ := prod_monoT xs ys (by simpa using h) (fun j hj => by have := hb (j + 1) (by simp; omega); simpa using this)
    rw [prod, prod]
    have a1 : 1 * 1 ≤ x * prod xs := Int.mul_le_mul h0.1 i1 (by omega) (by omega)
    have a2 : x * prod xs ≤ y * prod ys := Int.mul_le_mul h0.2 i2 (by omega) (by omega)
    omega
theorem size_cutT {ds lo hi st : List Int} (hE : sizeE ds = 0) (hb : anyBad ds lo hi st = false) : sizeE (cutD ds lo hi st) = 0 := by
  obtain ⟨z1, z2, z3, _⟩ := sizeE_ok hE
  have hl := cutD_length ds lo hi st
  have hbd : ∀ j, j < ds.length → 0 ≤ (cutD ds lo hi st)[j]?.getD 0 ∧ (cutD ds lo hi st)[j]?.getD 0 ≤ ds[j]?.getD 0 := fun j hj => by
    have h1 := badCut_false (of_anyBad_false hb j hj)
    have h2 := kept_bd h1.1 h1.2.1 h1.2.2.2.1
    rw [cutD_getD ds lo hi st j hj]
    omega
  unfold sizeE
  rw [if_neg (by omega), if_neg ?_]
  · by_cases h0 : (0 : Int) ∈ cutD ds lo hi st
    · rw [if_pos h0]
    · rw [if_neg h0, if_neg ?_]
      have hp1 : ∀ j, j < (cutD ds lo hi st).length → 1 ≤ (cutD ds lo hi st)[j]?.getD 0 ∧ (cutD ds lo hi st)[j]?.getD 0 ≤ ds[j]?.getD 0 := fun j hj => by
        have := hbd j (by omega)
        have h3 := mem_getD (cutD ds lo hi st) j hj
        have : (cutD ds lo hi st)[j]?.getD 0 ≠ 0 := fun e => h0 (e ▸ h3)
        omega
      have hm := prod_monoT _ ds hl hp1
      have hpos : ∀ x ∈ ds, 1 ≤ x := fun x hx => by
        obtain ⟨j, hj, rfl⟩ := List.getElem_of_mem hx
        have := hp1 j (by omega)
        simp [hj] at this
        omega
      have := (z3 hpos).1
      omega
  · have : (cutD ds lo hi st).any badDim = false := by
      rw [List.any_eq_false]
      intro x hx
      obtain ⟨j, hj, rfl⟩ := List.getElem_of_mem hx
      have h1 := hbd j (by omega)
      have h2 := z2 _ (mem_getD ds j (by omega))
      rw [List.getElem?_eq_getElem hj, Option.getD_some] at h1
      simp [badDim]; omega
    rw [this]; simp
theorem cutE_parts {s : Int} {ds ss lo hi st : List Int} (h : cutE s ds ss lo hi st = 0) : wrongE s ds ss = 0 ∧ lensB ds.length lo hi st = true ∧ anyBad ds lo hi st = false ∧ beyondB (cutAcc s ss lo ds.length) (cutS ss st) = false := by
  have hW : wrongE s ds ss = 0 := by
    unfold cutE at h
    by_cases c : wrongE s ds ss = 0
    · exact c
    · rw [if_pos c] at h; exact absurd h c
  unfold cutE at h
  rw [if_neg (by simp [hW])] at h
  have hl : lensB ds.length lo hi st = true := by
    by_cases c : lensB ds.length lo hi st = true
    · exact c
    · rw [if_neg c] at h; omega
  rw [if_pos hl] at h
  have hb : anyBad ds lo hi st = false := by
    cases c : anyBad ds lo hi st with
    | false => rfl
    | true => rw [c] at h; simp at h
  rw [if_neg (by rw [hb]; simp)] at h
  refine ⟨hW, hl, hb, ?_⟩
  cases c : beyondB (cutAcc s ss lo ds.length) (cutS ss st) with
  | false => rfl
  | true => rw [c] at h; simp at h
theorem cutAcc_whole {ds lo hi st : List Int} (hE : sizeE ds = 0) (hb : anyBad ds lo hi st = false) : ∀ i : Nat, i ≤ ds.length → 0 ≤ cutAcc 0 (stepsV ds) lo i ∧ cutAcc 0 (stepsV ds) lo i ≤ 268435456 * i
  | 0, _ => by simp [cutAcc]
  | i + 1, hi' => by
    have ih := cutAcc_whole hE hb i (by omega)
    have h1 := badCut_false (of_anyBad_false hb i (by omega))
    have h2 := ((sizeE_ok hE).2.1 _ (mem_getD ds i (by omega))).2
    have h3 := steps_bd hE i
    have h4 : 0 ≤ lo[i]?.getD 0 * (stepsV ds)[i]?.getD 0 := Int.mul_nonneg h1.1 h3.1
    have h5 : lo[i]?.getD 0 * (stepsV ds)[i]?.getD 0 ≤ 4096 * 65536 := Int.mul_le_mul (by omega) h3.2 h3.1 (by omega)
    rw [cutAcc]; omega
theorem thr_cut {s : Int} {ds ss lo hi st : List Int} (h : cutE s ds ss lo hi st = 0) : Thr s ds ss (cutE 0 ds (stepsV ds) lo hi st) (cutAcc s ss lo ds.length) (cutS ss st) (cutAcc 0 (stepsV ds) lo ds.length) (cutS (stepsV ds) st) (cutD ds lo hi st) := by
  obtain ⟨hW, hl, hb, hbe⟩ := cutE_parts h
  obtain ⟨h1, h2, h3⟩ := wrongE_ok hW
  have hww := wrong_whole h1
  have hsc := size_cutT h1 hb
  have hbw : beyondB (cutAcc 0 (stepsV ds) lo ds.length) (cutS (stepsV ds) st) = false := by
    have ha := cutAcc_whole h1 hb ds.length (Nat.le_refl _)
    have h6 := (sizeE_ok h1).1
    refine far_of (by omega) fun x hx => ?_
    simp only [cutS, List.mem_map, List.mem_range, stepsV_len] at hx
    obtain ⟨k, hk, rfl⟩ := hx
    have h4 := badCut_false (of_anyBad_false hb k hk)
    have h5 := steps_bd h1 k
    have h7 : 0 ≤ st[k]?.getD 0 * (stepsV ds)[k]?.getD 0 := Int.mul_nonneg (by omega) h5.1
    have h8 : st[k]?.getD 0 * (stepsV ds)[k]?.getD 0 ≤ 4096 * 65536 := Int.mul_le_mul h4.2.2.2.2 h5.2 h5.1 (by omega)
    omega
  refine ⟨hW, ?_, wrong_of hsc (by rw [cutS_length, cutD_length]; exact h2) hbe, wrong_of hsc (by rw [cutS_length, cutD_length, stepsV_len]) hbw, through_of (S := fun s ss => cutAcc s ss lo ds.length) (T := fun ss => cutS ss st) h2 (through_cut hsc hb)⟩
  unfold cutE
  rw [if_neg (by simp [hww]), if_pos hl, if_neg (by rw [hb]; simp), if_neg (by rw [hbw]; simp)]

theorem thr_spread {s : Int} {ds ss es ps : List Int} (h : sprE s ds ss es ps = 0) : Thr s ds ss (sprE 0 ds (stepsV ds) es ps) s (sprS es.length ss ps) 0 (sprS es.length (stepsV ds) ps) es := by
  have hW : wrongE s ds ss = 0 := by
    unfold sprE at h
    by_cases c : wrongE s ds ss = 0
    · exact c
    · rw [if_pos c] at h; exact absurd h c
  unfold sprE at h
  rw [if_neg (by simp [hW])] at h
  have hE : sizeE es = 0 := by
    by_cases c : sizeE es = 0
    · exact c
    · rw [if_pos c] at h; exact absurd h c
  rw [if_neg (by simp [hE])] at h
  have hl : ps.length = ds.length ∧ riseB ps es.length = true := by
    by_cases c : ps.length = ds.length ∧ riseB ps es.length = true
    · exact c
    · rw [if_neg c] at h; omega
  rw [if_pos hl] at h
  have hm : anyMis ds es ps = false := by
    cases c : anyMis ds es ps with
    | false => rfl
    | true => rw [c] at h; simp at h
  obtain ⟨h1, h2, h3⟩ := wrongE_ok hW
  have hww := wrong_whole h1
  refine ⟨hW, ?_, wrong_of hE (sprS_length _ _ _) (spr_far hW (by omega)), wrong_of hE (sprS_length _ _ _) (spr_far hww (by rw [stepsV_len]; omega)), through_of (S := fun s _ => s) (T := fun ss => sprS es.length ss ps) h2 (through_spread hE hl.1 ((riseB_iff _ _).1 hl.2) hm)⟩
  unfold sprE
  rw [if_neg (by simp [hww]), if_neg (by simp [hE]), if_pos hl, if_neg (by rw [hm]; simp)]

theorem reformE_parts {s : Int} {ds ss es : List Int} (h : reformE s ds ss es = 0) : wrongE s ds ss = 0 ∧ sizeE es = 0 ∧ sizeN es = prod ds ∧ wrongE s es (reformL (readsV s ds ss) es) = 0 ∧ (prod es ≠ 0 → allEvenB (readsV s ds ss) es = true) := by
  have hW : wrongE s ds ss = 0 := by
    unfold reformE at h
    by_cases c : wrongE s ds ss = 0
    · exact c
    · rw [if_pos c] at h; exact absurd h c
  unfold reformE at h
  rw [if_neg (by simp [hW])] at h
  have hE : sizeE es = 0 := by
    by_cases c : sizeE es = 0
    · exact c
    · rw [if_pos c] at h; exact absurd h c
  rw [if_neg (by simp [hE])] at h
  have hN : sizeN es = prod ds := by
    by_cases c : sizeN es = prod ds
    · exact c
    · rw [if_pos c] at h; omega
  rw [if_neg (by simp [hN])] at h
  have hst := (small_of hW).start
  by_cases h0 : prod es = 0
  · refine ⟨hW, hE, hN, ?_, fun c => absurd h0 c⟩
    unfold reformL
    rw [if_pos h0]
    refine wrong_of hE (by simp) (far_of hst fun x hx => ?_)
    have := List.eq_of_mem_replicate hx
    omega
  · rw [if_neg h0] at h
    have he : allEvenB (readsV s ds ss) es = true := by
      by_cases c : allEvenB (readsV s ds ss) es = true
      · exact c
      · rw [if_neg c] at h; omega
    rw [if_pos he] at h
    refine ⟨hW, hE, hN, ?_, fun _ => he⟩
    unfold reformL
    rw [if_neg h0]
    refine wrong_of hE (reformSteps_length _ _) ?_
    cases c : beyondB s (reformSteps (readsV s ds ss) es) with
    | false => rfl
    | true => rw [c] at h; simp at h
theorem thr_reform {s : Int} {ds ss es : List Int} (h : reformE s ds ss es = 0) : Thr s ds ss (reformE 0 ds (stepsV ds) es) s (reformL (readsV s ds ss) es) 0 (reformL (readsV 0 ds (stepsV ds)) es) es := by
  obtain ⟨hW, hE, hN, hw1, hev⟩ := reformE_parts h
  have h1 := (wrongE_ok hW).1
  have hNd : sizeN ds = prod ds := by rcases dims_cases h1 with ⟨_, q1, q2⟩ | ⟨_, q1, _⟩ <;> omega
  have hw0 : reformE 0 ds (stepsV ds) es = 0 := (reform_whole h1).2 ⟨hE, by omega⟩
  obtain ⟨_, _, _, hw2, hev0⟩ := reformE_parts hw0
  refine ⟨hW, hw0, hw1, hw2, fun i hi => ?_⟩
  have h0 : prod es ≠ 0 := by omega
  have hpe : ∀ x ∈ es, 1 ≤ x := pos_of hE hi
  have hse : sizeN es = prod es := by rcases dims_cases hE with ⟨_, _, q2⟩ | ⟨_, q1, _⟩ <;> omega
  have hpd : ∀ x ∈ ds, 1 ≤ x := pos_of h1 (i := 0) (by omega)
  have e1 := even_lies hpe (by rw [readsV_length]; omega) ((allEvenB_iff _ _).1 (hev h0)) i i (Nat.le_refl _) (by rw [readsV_length]; omega)
  have e0 := even_lies hpe (by rw [readsV_length]; omega) ((allEvenB_iff _ _).1 (hev0 h0)) i i (Nat.le_refl _) (by rw [readsV_length]; omega)
  have f1 : (readsV s ds ss)[0]?.getD 0 = s := by rw [readsV_getD s ds ss 0 (by omega)]; simp [lieN_zero]
  have f0 : (readsV 0 ds (stepsV ds))[0]?.getD 0 = 0 := by rw [readsV_getD 0 ds _ 0 (by omega)]; simp [lieN_zero]
  have g0 := readsV_whole hpd i (by omega)
  refine ⟨i, by omega, ?_, ?_⟩
  · rw [readsV_getD _ _ _ i hi]
    unfold reformL
    rw [if_neg h0]
    rw [f0, g0] at e0
    omega
  · rw [readsV_getD _ _ _ i hi]
    unfold reformL
    rw [if_neg h0, e1, f1]

/-! ### The five, by number -/
def stE (n s : Int) (ds ss a b c : List Int) : Int := if n = 1 then turnE s ds ss a else if n = 2 then flipE s ds ss a else if n = 3 then cutE s ds ss a b c else if n = 4 then sprE s ds ss a b else reformE s ds ss a
def stS (n s : Int) (ds ss a : List Int) : Int := if n = 1 then s else if n = 2 then flipAcc s ds ss a a.length else if n = 3 then cutAcc s ss a ds.length else s
def stD (n : Int) (ds a b c : List Int) : List Int := if n = 1 then taken ds a else if n = 2 then ds else if n = 3 then cutD ds a b c else a
def stT (n s : Int) (ds ss a b c : List Int) : List Int := if n = 1 then taken ss a else if n = 2 then flipL ss a else if n = 3 then cutS ss c else if n = 4 then sprS a.length ss b else reformL (readsV s ds ss) a
theorem thr_all {n s : Int} {ds ss a b c : List Int} (h : stE n s ds ss a b c = 0) : Thr s ds ss (stE n 0 ds (stepsV ds) a b c) (stS n s ds ss a) (stT n s ds ss a b c) (stS n 0 ds (stepsV ds) a) (stT n 0 ds (stepsV ds) a b c) (stD n ds a b c) := by
  unfold stE stS stT stD at *
  by_cases c1 : n = 1
  · simp only [if_pos c1] at h ⊢; exact thr_turn h
  simp only [if_neg c1] at h ⊢
  by_cases c2 : n = 2
  · simp only [if_pos c2] at h ⊢; exact thr_flip h
  simp only [if_neg c2] at h ⊢
  by_cases c3 : n = 3
  · simp only [if_pos c3] at h ⊢; exact thr_cut h
  simp only [if_neg c3] at h ⊢
  by_cases c4 : n = 4
  · simp only [if_pos c4] at h ⊢; exact thr_spread h
  simp only [if_neg c4] at h ⊢
  exact thr_reform h
end Go.Proofs.Yteoobeldmicjhaa.V
namespace Go.Proofs.Yteoobeldmicjhaa.V
open Go.RowKit

/-- What is stored into a View that was made for it leaves the lists. -/
theorem ints_putL {w w' : World} {d0 a : Option Addr} {dl n N C : Nat} {ds xs : List Int} {x y z : Value} (hi : Ints w' a n xs) (hF : a = d0 ∨ Far N a) (hd : Ints w d0 dl ds) (hn : 0 < n → 0 < dl) (hw : w.heap.size ≤ C) (hC : C < N) :
    Ints (((w'.setCell ⟨C, 0, none⟩ x).setCell ⟨C, 1, none⟩ y).setCell ⟨C, 2, none⟩ z) a n xs := by
  by_cases h0 : n = 0
  · obtain ⟨q1, q2, q3, _⟩ := hi
    exact ⟨q1, q2, q3, .inl h0⟩
  rcases hF with rfl | hF
  · obtain ⟨b, o, e, hb, _⟩ := hd.at (hn (by omega))
    exact ints_set3o hi (fun g o' e' => by rw [e] at e'; cases e'; omega)
  · exact ints_set3o hi (fun g o e => by have := hF g o e; omega)
theorem okL_len {E : Int} {l : List Int} {n m : Nat} {w : World} {a : Option Addr} (h : Ints w a n (okL E l)) (hl : E = 0 → l.length = m) : 0 < n → 0 < m := by
  intro h0
  have h1 := h.1
  unfold okL at h1
  by_cases c : E = 0
  · rw [if_pos c] at h1; have := hl c; omega
  · rw [if_neg c] at h1; simp at h1; omega

end Go.Proofs.Yteoobeldmicjhaa.V
