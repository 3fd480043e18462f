/-
  Right graphs. Contract: room.Lives. Contract: adjointref5.Dims.
-/
import Derived.Test.YtdoffjddjfgcfaaK33
import Derived.Test.YtdoffjddjfgcfaaK11
import Derived.Test.YtdoffjddjfgcfaaK2
import Derived.Laws.EntriesVeiled
import Derived.Deep.RegionHeld3
import Derived.Deep.RegionWith
namespace Go.Proofs.Ytdoffjddjfgcfaa.V
set_option maxRecDepth 20000
open Go.RowKit
set_option linter.unusedVariables false

theorem farA_mono {xs : List Int} {m n : Nat} (h : farA xs m = false) (hmn : m ≤ n) : farA xs n = false := by
  unfold farA at h ⊢
  rw [List.any_eq_false] at h ⊢
  intro x hx
  have := h x hx
  simp at this ⊢
  omega
theorem nodesP_far (l : List Nd) (P : Nat) : ∀ k, (nodesP l P k).2 = 0 → ∀ i, i < k → farA (l[i]?.getD ndD).ar i = false
  | 0, _, i, hi => by omega
  | k + 1, h, i, hi => by
    rw [nodesP] at h
    by_cases c1 : (nodesP l P k).2 ≠ 0
    · rw [if_pos c1] at h; exact absurd h c1
    · rw [if_neg c1] at h
      by_cases c2 : (nodeP (l[k]?.getD ndD) (decide (k < P)) (nodesP l P k).1).2 ≠ 0
      · rw [if_pos c2] at h; exact absurd h c2
      · by_cases e : i = k
        · subst e
          have hl := nodesP_len l P i (by simpa using c1)
          cases hf : farA (l[i]?.getD ndD).ar i with
          | false => rfl
          | true => exact absurd (by rw [nodeP, hl, if_pos hf]; simp) c2
        · exact nodesP_far l P k (by simpa using c1) i (by omega)
theorem grP_ok {l : List Nd} {outs : List Int} (h : (grP l outs).2 = 0) : l.length ≤ 4096 ∧ (grP l outs).1.length = l.length ∧ ∀ i, i < l.length → farA (l[i]?.getD ndD).ar l.length = false := by
  unfold grP at h ⊢
  by_cases c1 : 4096 < l.length
  · rw [if_pos c1] at h; simp at h
  · rw [if_neg c1] at h ⊢
    by_cases c2 : (nodesP l (parN l) l.length).2 ≠ 0
    · rw [if_pos c2] at h; exact absurd h c2
    · rw [if_neg c2] at h ⊢
      by_cases c3 : farA outs l.length = true
      · rw [if_pos c3] at h; simp at h
      · rw [if_neg c3]
        exact ⟨by omega, nodesP_len l _ _ (by simpa using c2), fun i hi => farA_mono (nodesP_far l _ _ (by simpa using c2) i hi) (by omega)⟩

theorem grP_far {l : List Nd} {outs : List Int} (h : (grP l outs).2 = 0) : (∀ i, i < l.length → farA (l[i]?.getD ndD).ar i = false) ∧ farA outs l.length = false := by
  unfold grP at h
  by_cases c1 : 4096 < l.length
  · rw [if_pos c1] at h; simp at h
  · rw [if_neg c1] at h
    by_cases c2 : (nodesP l (parN l) l.length).2 ≠ 0
    · rw [if_pos c2] at h; exact absurd h c2
    · rw [if_neg c2] at h
      by_cases c3 : farA outs l.length = true
      · rw [if_pos c3] at h; simp at h
      · exact ⟨fun i hi => nodesP_far l _ _ (by simpa using c2) i hi, by simpa using c3⟩
end Go.Proofs.Ytdoffjddjfgcfaa.V
namespace Go.Proofs.Ytdoffjddjfgcfaa.V
set_option maxRecDepth 20000
open Go.RowKit
set_option linter.unusedVariables false

theorem info_life : (Try.prog.info? 31).map (fun i => (i.zero, i.size, i.bytes)) = some (some (.agg #[.int .i64 0, .int .i64 0, .int .i64 0]), 3, 24) := by kernel_rfl
theorem make_lives (n : Nat) (hn : n ≤ 4096) (w : World) :
    (Instr.makeSlice 26 (.int .i64 (n : Int)) (.int .i64 (n : Int))).run Try.prog w = .ok (.slice (some ⟨w.heap.size, 0, none⟩) n n) (w.alloc (.cells (madeCells #[.int .i64 0, .int .i64 0, .int .i64 0] (n * 3)) 31)) := by
  obtain ⟨i, hi, hzz⟩ := Option.map_eq_some_iff.1 info_life
  simp only [Prod.mk.injEq] at hzz
  obtain ⟨hz, hs, hb⟩ := hzz
  have hr := run_make (P := Try.prog) w 26 31 i _ Try.underlying26 hi hz .i64 .i64 n n (by omega) (Int.le_refl _) (by rw [hb]; omega) (by omega)
  rw [hr, hs]
  rfl
theorem RowL.made (w : World) (n : Nat) : RowL (w.alloc (.cells (madeCells #[.int .i64 0, .int .i64 0, .int .i64 0] (n * 3)) 31)) w.heap.size n (fun _ => 0) (fun _ => 0) (fun _ => 0) := by
  refine ⟨_, World.alloc_heap_new _ _, size_madeCells _ _, fun i hi => ?_⟩
  have h2 : i % 3 = 0 ∨ i % 3 = 1 ∨ i % 3 = 2 := by omega
  rcases h2 with h2 | h2 | h2 <;> simp [madeCells, hi, h2, cellL]
theorem RowL.below {w w' : World} {g n : Nat} {F T W : Nat → Int} (h : RowL w g n F T W) (hb : w'.heap[g]? = w.heap[g]?) : RowL w' g n F T W := World.rowIs.of_block h hb

/-- The first j of a list are needed then. -/
def needT (T : Nat → Int) (xs : List Int) (t : Int) (k : Nat) : Int := if memI xs k = true then t else T k
set_option maxRecDepth 100000 in
set_option maxHeartbeats 2000000 in
theorem needed_any (X : Option Addr) (m c : Nat) (xs : List Int) (t B g n : Nat) (F T W : Nat → Int) (w : World) (hx : Ints w X m xs) (hf : farA xs n = false) (hB : w.cell? ⟨B, 0, none⟩ = some (.slice (some ⟨g, 0, none⟩) n n)) (hr : RowL w g n F T W) (hne : B ≠ g) (hxg : ∀ b o, X = some ⟨b, o, none⟩ → 0 < m → b ≠ g) (ht : t ≤ 4096) (hn : n ≤ 4096) :
    Calls Try.prog 7 #[.slice X m c, .int .i64 (t : Int), .pointer (some ⟨B, 0, none⟩)] w fun e w' => e = .returned (.tuple #[]) ∧ RowL w' g n F (needT T xs ((t : Int) + 1)) W ∧ Wr1 g w w' := by
  have HX := hide hx
  have HF := hide hf
  have HB := hide hB
  have HXG := hide hxg
  have hm := hx.2.1
  have HR0 := hide hr
  clear hx hf hB hxg hr
  go_enter Try.func7, Try.ntmps7
  go_wp2
  go_loopw [9] (fun i wr => ∃ j : Nat, j ≤ m ∧ i = .int .i64 j ∧ RowL wr g n F (needT T (xs.take j) ((t : Int) + 1)) W ∧ Wr1 g w wr) (fun i _ => m - (intOf i).toNat)
  case atStart => exact ⟨0, Nat.zero_le _, rfl, HR0.out.congr (fun _ _ => rfl) (fun k _ => by simp [needT, memI]) (fun _ _ => rfl), Wr1.refl _ _⟩
  case round =>
    obtain ⟨j, hj, rfl, hr, hw⟩ := hrel
    have HR := hide hr
    have HW := hide hw
    clear hr hw
    by_cases hlt : j < m
    · obtain ⟨b, off, rfl, hb, hc⟩ := HX.out.at (by omega)
      have hcj := HW.out.cell (hc j hlt) (HXG.out b off rfl (by omega))
      have hjx : j < xs.length := by rw [HX.out.1]; exact hlt
      have hbd := farA_at HF.out j hjx
      obtain ⟨q, hq⟩ : ∃ q : Nat, xs[j]?.getD 0 = (q : Int) := ⟨(xs[j]?.getD 0).toNat, by omega⟩
      rw [hq] at hcj hbd
      have hqn : q < n := by omega
      have hcB := HW.out.cell HB.out hne
      have hcT := HR.out.c1 hqn
      have hfT := World.rowIs.frozen HR.out (q * 3 + 1)
      have HNX : Hid (∀ k, updI (needT T (xs.take j) ((t : Int) + 1)) q ((t : Int) + 1) k = needT T (xs.take (j + 1)) ((t : Int) + 1) k) := fun k => by
        unfold updI needT
        rw [memI_take_succ hjx, hq]
        by_cases e : k = q
        · subst e; simp
        · have : ((q : Int) == (k : Int)) = false := by simp; omega
          rw [if_neg e, this, Bool.or_false]
      have i1 : (j : Int) < (m : Int) := by omega
      have i2 : (q : Int) < (n : Int) := by omega
      clear hc hbd hq hjx
      go_wp2
      go_roundw
      case rel => exact ⟨j + 1, by omega, by go_num, (HR.out.set1 q _).congr (fun _ _ => rfl) (fun k _ => HNX.out k) (fun _ _ => rfl), HW.out.set _⟩
      case measure => simp [intOf]; omega
    · obtain rfl : j = m := by omega
      have HTA : Hid (xs.take j = xs) := List.take_of_length_le (by rw [HX.out.1]; exact Nat.le_refl _)
      go_wp2
      exact bodyPost_end (v := .tuple #[]) (by simp [results, Try.results7, go_sem]) rfl ⟨rfl, by have := HR.out; rwa [HTA.out] at this, HW.out⟩
/-- The lives while the first k nodes are through. -/
def lF (P k j : Nat) : Int := if j < k then frV P j else 0
def lT (l : List Nd) (k j : Nat) : Int := if j < k then toD l j k else 0
def lW (D : List (List Int)) (k j : Nat) : Int := if j < k then wdV D j else 0
theorem lF_next (P k j : Nat) : updI (lF P k) k (frV P k) j = lF P (k + 1) j := by
  unfold updI lF
  by_cases e : j = k
  · subst e; rw [if_pos rfl, if_pos (by omega)]
  · rw [if_neg e]
    by_cases h : j < k
    · rw [if_pos h, if_pos (by omega)]
    · rw [if_neg h, if_neg (by omega)]
theorem lF_next0 (P k j : Nat) (hk : k < P) : lF P k j = lF P (k + 1) j := by
  rw [← lF_next]
  unfold updI
  by_cases e : j = k
  · subst e
    rw [if_pos rfl]
    unfold lF frV
    rw [if_neg (by omega), if_pos hk]
  · rw [if_neg e]
theorem lW_next (D : List (List Int)) (k j : Nat) : updI (lW D k) k (wdV D k) j = lW D (k + 1) j := by
  unfold updI lW
  by_cases e : j = k
  · subst e; rw [if_pos rfl, if_pos (by omega)]
  · rw [if_neg e]
    by_cases h : j < k
    · rw [if_pos h, if_pos (by omega)]
    · rw [if_neg h, if_neg (by omega)]
theorem memI_one (k j : Nat) : memI [(k : Int)] j = decide (k = j) := by
  unfold memI
  simp
  by_cases e : k = j
  · subst e; simp
  · have : ((k : Int) == (j : Int)) = false := by simp; omega
    simp [e, this]
theorem lT_next (l : List Nd) (n k j : Nat) (hk : k < n) (hf : ∀ i, i < n → farA (l[i]?.getD ndD).ar i = false) : needT (needT (lT l k) [(k : Int)] ((k : Int) + 1)) (l[k]?.getD ndD).ar ((k : Int) + 1) j = lT l (k + 1) j := by
  unfold needT
  rw [memI_one]
  unfold lT
  by_cases e : j = k
  · subst e
    rw [memI_far (hf j hk) (Nat.le_refl _), if_neg Bool.false_ne_true, if_pos (by simp), if_pos (by omega), toD_own l j (j + 1) (by omega) (fun i hi => hf i (by omega))]
  · rw [if_neg (show ¬ (decide (k = j) = true) by simp; omega)]
    by_cases h : j < k
    · rw [show (if j < k + 1 then toD l j (k + 1) else 0) = toD l j (k + 1) from if_pos (by omega), show (if j < k then toD l j k else 0) = toD l j k from if_pos h, toD]
    · rw [memI_far (hf k hk) (by omega), if_neg Bool.false_ne_true, show (if j < k then toD l j k else 0) = 0 from if_neg h, if_neg (by omega)]
/-- What is answered. -/
def LvOut (e : Ending) (w' : World) (l : List Nd) (outs : List Int) : Prop :=
  ((grP l outs).2 ≠ 0 ∧ e = .returned (.tuple #[.slice none 0 0, .int .i64 (grP l outs).2])) ∨ ((grP l outs).2 = 0 ∧ ∃ g, e = .returned (.tuple #[.slice (some ⟨g, 0, none⟩) l.length l.length, .int .i64 0]) ∧ RowL w' g l.length (frV (parN l)) (toV l outs) (wdV (grP l outs).1))
theorem bl_wr {w1 w2 w3 : World} {g : Nat} (h : Below w1.heap.size w1 w2) (k : Wr1 g w2 w3) (hg : w1.heap.size ≤ g) : Below w1.heap.size w1 w3 := h.trans (k.below hg h.size)

set_option maxRecDepth 100000 in
set_option maxHeartbeats 4000000 in
theorem lives_any (A : Option Addr) (n cap : Nat) (l : List Nd) (oa : Option Addr) (ol oc : Nat) (outs : List Int) (w : World) (h : Nds w A n l) (ho : Ints w oa ol outs) :
    Calls Try.prog 4 #[.agg #[.slice A n cap, .slice oa ol oc]] w fun e w' => LvOut e w' l outs ∧ Below w.heap.size w w' := by
  have H := hide h
  have HO := hide ho
  have hm := h.2.1
  have HNL := hide h.1
  have HB0 := hide (bl_new (w := w) (.cells #[.slice A n cap, .slice oa ol oc] 25))
  have HG0 := hide (GrAt.new w A n cap oa ol oc)
  obtain ⟨g0, g1⟩ := HG0.out
  have HP := hide (fun W (hW : Below w.heap.size w W) => params_any A n cap l oa ol oc W (h.below hW))
  have HD := hide (gDims_any A n cap l oa ol oc outs _ (h.below HB0.out) (ho.below HB0.out))
  have HOK := hide (@grP_ok l outs)
  have HFR := hide (@grP_far l outs)
  rw [h.1] at HOK HFR
  have HLV : Hid (∀ e w', ((grP l outs).2 ≠ 0 ∧ e = .returned (.tuple #[.slice none 0 0, .int .i64 (grP l outs).2])) ∨ ((grP l outs).2 = 0 ∧ ∃ g, e = .returned (.tuple #[.slice (some ⟨g, 0, none⟩) n n, .int .i64 0]) ∧ RowL w' g n (frV (parN l)) (toV l outs) (wdV (grP l outs).1)) → LvOut e w' l outs) := fun e w' hh => by
    unfold LvOut; rw [h.1]; exact hh
  obtain ⟨G, hG⟩ : ∃ G, G = grP l outs := ⟨_, rfl⟩
  obtain ⟨P, hP⟩ : ∃ P, P = parN l := ⟨_, rfl⟩
  rw [← hG] at HD HOK HFR HLV
  rw [← hP] at HP HLV
  clear h ho hG hP
  go_enter Try.func4, Try.ntmps4
  go_wp2_with fail
  refine HD.out.mono ?_
  rintro e w1 ⟨⟨A4, n4, c4, rfl, hc4, hl4⟩, hb1⟩
  have HB1 := hide (bl_on HB0.out hb1)
  have HG1 := hide (HG0.out.below (by simpa using hb1))
  have hs1 : w.heap.size < w1.heap.size := by have := hb1.size; simp at this; omega
  have HL4 := hide hl4
  clear hb1 g0 g1 hl4
  by_cases hg0 : G.2 = 0
  · have hq : (G.2 != 0) = false := by simp [hg0]
    obtain ⟨hn4, hGl, _⟩ := HOK.out hg0
    obtain ⟨hfar, hfo⟩ := HFR.out hg0
    have hn4' : n4 = n := by rw [← HL4.out.1, hGl]
    subst hn4'
    have HFAR := hide hfar
    have HFO := hide hfo
    have HG00 := hide hg0
    have hmk := make_lives n4 hn4 w1
    clear hg0 hGl hfar HOK hfo HFR
    obtain ⟨g0, g1⟩ := HG1.out
    have HR0 := hide (RowL.made w1 n4)
    go_upto_region 6 with fail
    obtain ⟨W2, hW2⟩ : ∃ W2, W2 = (w1.alloc (.cells (madeCells #[.int .i64 0, .int .i64 0, .int .i64 0] (n4 * 3)) 31)).alloc (.cells #[.slice (some ⟨w1.heap.size, 0, none⟩) n4 n4] 26) := ⟨_, rfl⟩
    rw [← hW2]
    have HR2 : Hid (RowL W2 w1.heap.size n4 (fun _ => 0) (fun _ => 0) (fun _ => 0)) := by rw [Hid, hW2]; exact HR0.out.below (Below.heap_alloc _ _ _ (by simp))
    have HB2 : Hid (Below w1.heap.size w1 W2) := by rw [Hid, hW2]; exact (bl_new _).alloc (by simp) _
    have HOB : Hid (W2.cell? ⟨w1.heap.size + 1, 0, none⟩ = some (.slice (some ⟨w1.heap.size, 0, none⟩) n4 n4)) := by
      rw [Hid, hW2]; unfold World.cell?
      have := World.alloc_heap_new (w1.alloc (.cells (madeCells #[.int .i64 0, .int .i64 0, .int .i64 0] (n4 * 3)) 31)) (.cells #[.slice (some ⟨w1.heap.size, 0, none⟩) n4 n4] 26)
      rw [World.size_alloc] at this
      rw [this]; rfl
    have HS2 : Hid (W2.heap.size = w1.heap.size + 1 + 1) := by rw [Hid, hW2]; simp
    clear hW2 HR0 hmk
    have g2 := (HB2.out.cell (p := ⟨w.heap.size, 0, none⟩) hs1).trans g0
    have g3 := (HB2.out.cell (p := ⟨w.heap.size, 1, none⟩) hs1).trans g1
    clear g0 g1
    go_wp2_with fail
    refine (HP.out _ (bl_on HB1.out HB2.out)).mono ?_
    rintro e w3 ⟨rfl, hb3⟩
    have hs3 : w1.heap.size + 1 < w3.heap.size := by have := hb3.size; have := HS2.out; omega
    have HR3 := hide (HR2.out.below (hb3.block w1.heap.size (by have := HS2.out; omega)))
    have HOB3 := hide ((hb3.cell (p := ⟨w1.heap.size + 1, 0, none⟩) (by have := HS2.out; simp; omega)).trans HOB.out)
    have HB3 := hide (bl_on HB2.out hb3)
    clear hb3 g2 g3 HR2 HOB HB2 HS2
    have g2 := (HB3.out.cell (p := ⟨w.heap.size, 0, none⟩) hs1).trans HG1.out.1
    have g3 := (HB3.out.cell (p := ⟨w.heap.size, 1, none⟩) hs1).trans HG1.out.2
    go_wp2
    go_loopw [28] (fun i wr => ∃ k : Nat, k ≤ n4 ∧ i = .int .i64 k ∧ RowL wr w1.heap.size n4 (lF P k) (lT l k) (lW G.1 k) ∧ wr.cell? ⟨w1.heap.size + 1, 0, none⟩ = some (.slice (some ⟨w1.heap.size, 0, none⟩) n4 n4) ∧ Below w1.heap.size w1 wr) (fun i _ => n4 - (intOf i).toNat)
    case atStart => exact ⟨0, Nat.zero_le _, rfl, HR3.out.congr (fun _ _ => rfl) (fun _ _ => rfl) (fun _ _ => rfl), HOB3.out, HB3.out⟩
    case round =>
      clear g2 g3 HR3 HOB3 HB3 hs3
      obtain ⟨k, hk, rfl, hr, hob, hb⟩ := hrel
      have HR := hide hr
      have HOB := hide hob
      have HB := hide hb
      have HBw := hide (bl_on HB1.out hb)
      have hs4 := lt_of_cell hob
      simp only at hs4
      have g2 := (hb.cell (p := ⟨w.heap.size, 0, none⟩) hs1).trans HG1.out.1
      have g3 := (hb.cell (p := ⟨w.heap.size, 1, none⟩) hs1).trans HG1.out.2
      have HLD := hide (HL4.out.below hb)
      clear hr hob hb
      by_cases hlt : k < n4
      · obtain ⟨b, off, rfl, hc⟩ := H.out.at (by omega)
        obtain ⟨u, hu0, hi⟩ := hc k hlt
        have hu := hu0.below HBw.out
        obtain ⟨bd, od, rfl, hcd⟩ := HL4.out.at (by omega)
        obtain ⟨XD, mD, cD, hXD0, hlD⟩ := hcd k hlt
        have HlD0 := hide hlD
        have hXD := (HB.out.cell (p := ⟨bd, od + k, none⟩) (lt_of_cell hXD0)).trans hXD0
        have zd1 := lt_of_cell hXD0
        simp only at zd1
        have HNA := hide (hi.ar)
        clear hc hcd hi hlD
        obtain ⟨c0, c1, c2, c3, c4', c5, c6, c7⟩ := hu
        have z := lt_of_cell c0
        have zd := lt_of_cell hXD
        simp only at z zd
        have i1 : (k : Int) < (n4 : Int) := by omega
        have HFK := hide (HFAR.out k hlt)
        have HLT := hide hlt
        obtain ⟨ku, ⟨ea, el, ec⟩, ⟨pa, pl, pc⟩, ⟨la, ll, lc⟩, ⟨ha, hl, hhc⟩, ⟨ta, tl, tc⟩, x, ⟨aa, al, ac⟩⟩ := u
        simp only [Sw.v] at c0 c1 c2 c3 c4' c5 c6 c7
        have HNA2 : Hid (Lst w aa al ac (l[k]?.getD ndD).ar) := HNA.out.1
        have HlD : Hid (Lst w1 XD mD cD (G.1[k]?.getD [])) := HlD0.out
        obtain ⟨WA, hWA⟩ : ∃ WA, WA = wr.alloc (.cells #[.int .i64 ku, .slice ea el ec, .slice pa pl pc, .slice la ll lc, .slice ha hl hhc, .slice ta tl tc, .int .i64 x, .slice aa al ac] 41) := ⟨_, rfl⟩
        have HSA : Hid (WA.heap.size = wr.heap.size + 1) := by rw [Hid, hWA]; simp
        have HbA : Hid (Below wr.heap.size wr WA) := by rw [Hid, hWA]; exact bl_new _
        have HBX := hide (bl_on HB.out HbA.out)
        have HNB : Hid (WA.cell? ⟨wr.heap.size, 7, none⟩ = some (.slice aa al ac)) := by
          rw [Hid, hWA]; unfold World.cell?; rw [World.alloc_heap_new wr (.cells #[.int .i64 ku, .slice ea el ec, .slice pa pl pc, .slice la ll lc, .slice ha hl hhc, .slice ta tl tc, .int .i64 x, .slice aa al ac] 41)]; rfl
        have HOB2 := hide ((HbA.out.cell (p := ⟨w1.heap.size + 1, 0, none⟩) hs4).trans HOB.out)
        have HXD2 := hide ((HbA.out.cell (p := ⟨bd, od + k, none⟩) zd).trans hXD)
        have HRA := hide (HR.out.below (HbA.out.block w1.heap.size (by omega)))
        have f1 := HRA.out.c0 hlt
        have f2 := World.rowIs.frozen HRA.out (k * 3)
        go_upto_region 10 with fail
        rw [← hWA]
        clear hWA c0 c1 c2 c3 c4' c5 c6 c7 g2 g3 z hXD
        have hsA : wr.heap.size < WA.heap.size := by rw [HSA.out]; omega
        have f0 := HOB2.out
        by_cases hkP : k < P
        · have j1 : ¬ ((P : Int) ≤ (k : Int)) := by omega
          have HKP := hide hkP
          clear hkP
          go_upto_region 12 with fail
          obtain ⟨Wc, hWc⟩ : ∃ Wc, Wc = WA := ⟨_, rfl⟩
          rw [← hWc]
          have HRc : Hid (RowL Wc w1.heap.size n4 (lF P (k + 1)) (lT l k) (lW G.1 k)) := by rw [Hid, hWc]; exact HRA.out.congr (fun j _ => lF_next0 P k j HKP.out) (fun _ _ => rfl) (fun _ _ => rfl)
          have HWc : Hid (Wr1 w1.heap.size WA Wc) := by rw [Hid, hWc]; exact Wr1.refl _ _
          have hszc : WA.heap.size ≤ Wc.heap.size := HWc.out.size
          clear hWc
          have z1 := HWc.out.cell HOB2.out (by omega)
          have z2 := HWc.out.cell HXD2.out (by omega)
          have z3 := HRc.out.c2 HLT.out
          have z4 := World.rowIs.frozen HRc.out (k * 3 + 2)
          have zz1 := lt_of_cell z1
          have zz2 := lt_of_cell z2
          simp only at zz1 zz2
          have HBc : Hid (Below w1.heap.size w1 Wc) := bl_wr HBX.out HWc.out (Nat.le_refl _)
          have HSZ := hide (size_any XD mD cD _ Wc.drew (((HlD.out.below HBc.out).1).below ((Below.refl _ _).drew)))
          obtain ⟨SN, hSN⟩ : ∃ SN, SN = sizeN (G.1[k]?.getD []) := ⟨_, rfl⟩
          obtain ⟨SE, hSE⟩ : ∃ SE, SE = sizeE (G.1[k]?.getD []) := ⟨_, rfl⟩
          rw [← hSN, ← hSE] at HSZ
          have HSN := hide hSN
          clear hSN hSE
          obtain ⟨W9, hW9⟩ : ∃ W9, W9 = (Wc.setCell ⟨w1.heap.size, k * 3 + 2, none⟩ (.int .i64 SN)).drew := ⟨_, rfl⟩
          have HR9 : Hid (RowL W9 w1.heap.size n4 (lF P (k + 1)) (lT l k) (lW G.1 (k + 1))) := by
            rw [Hid, hW9]
            exact World.rowIs.drew ((HRc.out.set2 k SN).congr (fun _ _ => rfl) (fun _ _ => rfl) (fun j _ => by rw [HSN.out]; exact lW_next G.1 k j))
          have HW9 : Hid (Wr1 w1.heap.size WA W9) := by rw [Hid, hW9]; exact ⟨HWc.out.os, HWc.out.tape, HWc.out.output, by have := HWc.out.size; simpa using this, (HWc.out.set (.int .i64 SN)).block⟩
          have hs9 : WA.heap.size ≤ W9.heap.size := HW9.out.size
          have HB9 := hide (bl_wr HBX.out HW9.out (Nat.le_refl _))
          have HOB9 := hide (HW9.out.cell HOB2.out (by omega))
          have HNB9 := hide (HW9.out.cell HNB.out (by omega))
          have HWB := hide (bl_new (w := W9) (.cells #[.int .i64 (k : Int)] 3))
          have HN1 := hide (needed_any (some ⟨W9.heap.size, 0, none⟩) 1 1 [(k : Int)] k (w1.heap.size + 1) w1.heap.size n4 (lF P (k + 1)) (lT l k) (lW G.1 (k + 1)) (W9.alloc (.cells #[.int .i64 (k : Int)] 3)) (lst_oneB W9 _ rfl k (by omega) 3).1 (by simp [farA]; have := HLT.out; omega) ((HWB.out.cell (p := ⟨w1.heap.size + 1, 0, none⟩) (lt_of_cell HOB9.out)).trans HOB9.out) (HR9.out.below (HWB.out.block w1.heap.size (by omega))) (by omega) (fun b o e _ => by cases e; omega) (by omega) hn4)
          have HN2 := hide (fun (W : World) (hb : Below w.heap.size w W) (hob : W.cell? ⟨w1.heap.size + 1, 0, none⟩ = some (.slice (some ⟨w1.heap.size, 0, none⟩) n4 n4)) (hr : RowL W w1.heap.size n4 (lF P (k + 1)) (needT (lT l k) [(k : Int)] ((k : Int) + 1)) (lW G.1 (k + 1))) => needed_any aa al ac (l[k]?.getD ndD).ar k (w1.heap.size + 1) w1.heap.size n4 _ _ _ W ((HNA2.out.below hb).1) (farA_mono (HFAR.out k HLT.out) (by have := HLT.out; omega)) hob hr (by omega) (fun b o e h0 => by
            obtain ⟨b', o', e', hb', _⟩ := HNA2.out.1.at h0
            rw [e'] at e
            cases e
            omega) (by omega) hn4)
          have HE9 := hide hW9
          clear hW9
          go_region_with (go_at_call 9; refine HSZ.out.mono ?_; rintro e w9 ⟨rfl, hw9⟩; obtain rfl := hw9.symm)
          all_goals rw [← HE9.out]
          all_goals clear HE9
          all_goals go_wp2_with fail
          all_goals refine HN1.out.mono ?_
          all_goals (
            rintro e w10 ⟨rfl, hr10, hw10⟩
            have HR10 := hide hr10
            have HOB10 := hide (hw10.cell ((HWB.out.cell (p := ⟨w1.heap.size + 1, 0, none⟩) (lt_of_cell HOB9.out)).trans HOB9.out) (by omega))
            have HNB10 := hide (hw10.cell ((HWB.out.cell (p := ⟨wr.heap.size, 7, none⟩) (lt_of_cell HNB9.out)).trans HNB9.out) (by omega))
            have HB10 := hide (bl_wr (bl_on HB9.out HWB.out) hw10 (Nat.le_refl _))
            have y1 := HNB10.out
            clear hr10 hw10
            go_wp2_with fail
            refine (HN2.out _ (bl_on HB1.out HB10.out) HOB10.out HR10.out).mono ?_
            rintro e w11 ⟨rfl, hr11, hw11⟩
            have HR11 := hide hr11
            have HOB11 := hide (hw11.cell HOB10.out (by omega))
            have HB11 := hide (bl_wr HB10.out hw11 (Nat.le_refl _))
            clear hr11 hw11 y1
            go_wp2
            go_roundw)
          all_goals first
            | (case rel => exact ⟨k + 1, by have := HLT.out; omega, by go_num, HR11.out.congr (fun _ _ => rfl) (fun j _ => lT_next l n4 k j HLT.out HFAR.out) (fun _ _ => rfl), HOB11.out, HB11.out⟩)
            | (case measure => have := HLT.out; simp [intOf]; omega)
        · have j1 : (P : Int) ≤ (k : Int) := by omega
          have HKP : Hid (frV P k = (k : Int)) := by rw [Hid]; unfold frV; rw [if_neg hkP]
          clear hkP
          go_upto_region 12 with fail
          obtain ⟨Wc, hWc⟩ : ∃ Wc, Wc = WA.setCell ⟨w1.heap.size, k * 3, none⟩ (.int .i64 (k : Int)) := ⟨_, rfl⟩
          rw [← hWc]
          have HRc : Hid (RowL Wc w1.heap.size n4 (lF P (k + 1)) (lT l k) (lW G.1 k)) := by rw [Hid, hWc]; exact (HRA.out.set0 k _).congr (fun j _ => by rw [← HKP.out]; exact lF_next P k j) (fun _ _ => rfl) (fun _ _ => rfl)
          have HWc : Hid (Wr1 w1.heap.size WA Wc) := by rw [Hid, hWc]; exact (Wr1.refl _ _).set _
          have hszc : WA.heap.size ≤ Wc.heap.size := HWc.out.size
          clear hWc
          have z1 := HWc.out.cell HOB2.out (by omega)
          have z2 := HWc.out.cell HXD2.out (by omega)
          have z3 := HRc.out.c2 HLT.out
          have z4 := World.rowIs.frozen HRc.out (k * 3 + 2)
          have zz1 := lt_of_cell z1
          have zz2 := lt_of_cell z2
          simp only at zz1 zz2
          have HBc : Hid (Below w1.heap.size w1 Wc) := bl_wr HBX.out HWc.out (Nat.le_refl _)
          have HSZ := hide (size_any XD mD cD _ Wc.drew (((HlD.out.below HBc.out).1).below ((Below.refl _ _).drew)))
          obtain ⟨SN, hSN⟩ : ∃ SN, SN = sizeN (G.1[k]?.getD []) := ⟨_, rfl⟩
          obtain ⟨SE, hSE⟩ : ∃ SE, SE = sizeE (G.1[k]?.getD []) := ⟨_, rfl⟩
          rw [← hSN, ← hSE] at HSZ
          have HSN := hide hSN
          clear hSN hSE
          obtain ⟨W9, hW9⟩ : ∃ W9, W9 = (Wc.setCell ⟨w1.heap.size, k * 3 + 2, none⟩ (.int .i64 SN)).drew := ⟨_, rfl⟩
          have HR9 : Hid (RowL W9 w1.heap.size n4 (lF P (k + 1)) (lT l k) (lW G.1 (k + 1))) := by
            rw [Hid, hW9]
            exact World.rowIs.drew ((HRc.out.set2 k SN).congr (fun _ _ => rfl) (fun _ _ => rfl) (fun j _ => by rw [HSN.out]; exact lW_next G.1 k j))
          have HW9 : Hid (Wr1 w1.heap.size WA W9) := by rw [Hid, hW9]; exact ⟨HWc.out.os, HWc.out.tape, HWc.out.output, by have := HWc.out.size; simpa using this, (HWc.out.set (.int .i64 SN)).block⟩
          have hs9 : WA.heap.size ≤ W9.heap.size := HW9.out.size
          have HB9 := hide (bl_wr HBX.out HW9.out (Nat.le_refl _))
          have HOB9 := hide (HW9.out.cell HOB2.out (by omega))
          have HNB9 := hide (HW9.out.cell HNB.out (by omega))
          have HWB := hide (bl_new (w := W9) (.cells #[.int .i64 (k : Int)] 3))
          have HN1 := hide (needed_any (some ⟨W9.heap.size, 0, none⟩) 1 1 [(k : Int)] k (w1.heap.size + 1) w1.heap.size n4 (lF P (k + 1)) (lT l k) (lW G.1 (k + 1)) (W9.alloc (.cells #[.int .i64 (k : Int)] 3)) (lst_oneB W9 _ rfl k (by omega) 3).1 (by simp [farA]; have := HLT.out; omega) ((HWB.out.cell (p := ⟨w1.heap.size + 1, 0, none⟩) (lt_of_cell HOB9.out)).trans HOB9.out) (HR9.out.below (HWB.out.block w1.heap.size (by omega))) (by omega) (fun b o e _ => by cases e; omega) (by omega) hn4)
          have HN2 := hide (fun (W : World) (hb : Below w.heap.size w W) (hob : W.cell? ⟨w1.heap.size + 1, 0, none⟩ = some (.slice (some ⟨w1.heap.size, 0, none⟩) n4 n4)) (hr : RowL W w1.heap.size n4 (lF P (k + 1)) (needT (lT l k) [(k : Int)] ((k : Int) + 1)) (lW G.1 (k + 1))) => needed_any aa al ac (l[k]?.getD ndD).ar k (w1.heap.size + 1) w1.heap.size n4 _ _ _ W ((HNA2.out.below hb).1) (farA_mono (HFAR.out k HLT.out) (by have := HLT.out; omega)) hob hr (by omega) (fun b o e h0 => by
            obtain ⟨b', o', e', hb', _⟩ := HNA2.out.1.at h0
            rw [e'] at e
            cases e
            omega) (by omega) hn4)
          have HE9 := hide hW9
          clear hW9
          go_region_with (go_at_call 9; refine HSZ.out.mono ?_; rintro e w9 ⟨rfl, hw9⟩; obtain rfl := hw9.symm)
          all_goals rw [← HE9.out]
          all_goals clear HE9
          all_goals go_wp2_with fail
          all_goals refine HN1.out.mono ?_
          all_goals (
            rintro e w10 ⟨rfl, hr10, hw10⟩
            have HR10 := hide hr10
            have HOB10 := hide (hw10.cell ((HWB.out.cell (p := ⟨w1.heap.size + 1, 0, none⟩) (lt_of_cell HOB9.out)).trans HOB9.out) (by omega))
            have HNB10 := hide (hw10.cell ((HWB.out.cell (p := ⟨wr.heap.size, 7, none⟩) (lt_of_cell HNB9.out)).trans HNB9.out) (by omega))
            have HB10 := hide (bl_wr (bl_on HB9.out HWB.out) hw10 (Nat.le_refl _))
            have y1 := HNB10.out
            clear hr10 hw10
            go_wp2_with fail
            refine (HN2.out _ (bl_on HB1.out HB10.out) HOB10.out HR10.out).mono ?_
            rintro e w11 ⟨rfl, hr11, hw11⟩
            have HR11 := hide hr11
            have HOB11 := hide (hw11.cell HOB10.out (by omega))
            have HB11 := hide (bl_wr HB10.out hw11 (Nat.le_refl _))
            clear hr11 hw11 y1
            go_wp2
            go_roundw)
          all_goals first
            | (case rel => exact ⟨k + 1, by have := HLT.out; omega, by go_num, HR11.out.congr (fun _ _ => rfl) (fun j _ => lT_next l n4 k j HLT.out HFAR.out) (fun _ _ => rfl), HOB11.out, HB11.out⟩)
            | (case measure => have := HLT.out; simp [intOf]; omega)
      · obtain rfl : k = n4 := by omega
        have HN := hide (needed_any oa ol oc outs k (w1.heap.size + 1) w1.heap.size k (lF P k) (lT l k) (lW G.1 k) wr (HO.out.below HBw.out) HFO.out HOB.out HR.out (by omega) (fun b o e h0 => by
          obtain ⟨b', o', e', hb', _⟩ := HO.out.at h0
          rw [e'] at e
          cases e
          omega) hn4 hn4)
        have y1 := HOB.out
        go_wp2_with fail
        refine HN.out.mono ?_
        rintro e w11 ⟨rfl, hr11, hw11⟩
        have HR11 := hide hr11
        have HOB11 := hide (hw11.cell HOB.out (by omega))
        have HB11 := hide (bl_wr HB.out hw11 (Nat.le_refl _))
        have y2 := HOB11.out
        clear hr11 hw11 y1 g2 g3
        go_wp2
        go_ret2
        refine ⟨HLV.out _ _ (.inr ⟨HG00.out, _, rfl, HR11.out.congr (fun j hj => ?_) (fun j hj => ?_) (fun j hj => ?_)⟩), bl_on HB1.out HB11.out⟩
        · unfold lF; rw [if_pos hj]
        · unfold needT toV lT; rw [if_pos hj, HNL.out]
        · unfold lW; rw [if_pos hj]
  · have hq : (G.2 != 0) = true := by simp [hg0]
    have HG00 := hide hg0
    clear hg0
    go_wp2
    go_ret2
    exact ⟨HLV.out _ _ (.inl ⟨HG00.out, rfl⟩), HB1.out⟩
end Go.Proofs.Ytdoffjddjfgcfaa.V
namespace Go.Proofs.Ytdoffjddjfgcfaa.V
set_option maxRecDepth 20000
open Go.RowKit
set_option linter.unusedVariables false

theorem farA_take_succ {xs : List Int} {n j : Nat} (h : farA (xs.take j) n = false) (hj : j < xs.length) (h1 : 0 ≤ xs[j]?.getD 0) (h2 : xs[j]?.getD 0 < (n : Int)) : farA (xs.take (j + 1)) n = false := by
  unfold farA at h ⊢
  rw [any_take_next xs _ 0 j hj, h, Bool.false_or]
  simp; omega
theorem farA_in {xs : List Int} {n j : Nat} (hj : j < xs.length) (h : xs[j]?.getD 0 < 0 ∨ (n : Int) ≤ xs[j]?.getD 0) : farA xs n = true := by
  unfold farA
  rw [List.any_eq_true]
  exact ⟨xs[j]?.getD 0, by simp [hj], by simpa using h⟩
theorem pickD_take_succ (ds : List (List Int)) (xs : List Int) (j : Nat) (hj : j < xs.length) : pickD ds (xs.take (j + 1)) = pickD ds (xs.take j) ++ [ds[(xs[j]?.getD 0).toNat]?.getD []] := by
  unfold pickD
  rw [List.take_succ_eq_append_getElem hj, List.map_append]
  simp [hj]
theorem one_ne {xs : List Int} {n : Int} : xs ≠ [n] ↔ xs.length ≠ 1 ∨ xs[0]?.getD 0 ≠ n := by
  match xs with
  | [] => simp
  | [x] => simp
  | x :: y :: r => simp

set_option maxRecDepth 100000 in
set_option maxHeartbeats 8000000 in
theorem rGDims_any (A : Option Addr) (n cap : Nat) (l : List Nd) (oa : Option Addr) (ol oc : Nat) (outs : List Int) (w : World) (h : Nds w A n l) (ho : Ints w oa ol outs) :
    Calls Try.prog 10 #[.agg #[.slice A n cap, .slice oa ol oc]] w fun e w' => OutLs e w' (grP l outs) ∧ Below w.heap.size w w' := by
  have H := hide h
  have HO := hide ho
  have hm := h.2.1
  have HNL := hide h.1
  have HB0 := hide (bl_new (w := w) (.cells #[.slice A n cap, .slice oa ol oc] 25))
  have HG0 := hide (GrAt.new w A n cap oa ol oc)
  obtain ⟨g0, g1⟩ := HG0.out
  have HP := hide (fun W (hW : Below w.heap.size w W) => rParams_any A n cap l oa ol oc W (h.below hW))
  have HGP : Hid (grP l outs = if 4096 < n then ([], 5) else if (nodesP l (parN l) n).2 ≠ 0 then ([], (nodesP l (parN l) n).2) else if farA outs n = true then ([], 4) else ((nodesP l (parN l) n).1, 0)) := by rw [Hid, ← h.1]; rfl
  obtain ⟨R, hR⟩ : ∃ R, R = grP l outs := ⟨_, rfl⟩
  rw [← hR] at HGP ⊢
  obtain ⟨P, hP⟩ : ∃ P, P = parN l := ⟨_, rfl⟩
  rw [← hP] at HGP HP
  have HPL : Hid (P ≤ n) := by rw [Hid, hP, ← HNL.out]; exact parN_le l
  clear h ho hR hP
  by_cases hbig : 4096 < n
  · have i0 : (4096 : Int) < (n : Int) := by omega
    rw [if_pos hbig] at HGP
    go_enter Try.func10, Try.ntmps10
    go_wp2
    go_ret2
    rw [HGP.out]
    exact ⟨outLs_none _ _, HB0.out⟩
  · have i0 : ¬ ((4096 : Int) < (n : Int)) := by omega
    rw [if_neg hbig] at HGP
    have hn4 : n ≤ 4096 := by omega
    clear hbig
    obtain ⟨W0, hW0⟩ : ∃ W0, W0 = w.alloc (.cells #[.slice A n cap, .slice oa ol oc] 25) := ⟨_, rfl⟩
    have hs0 : W0.heap.size = w.heap.size + 1 := by rw [hW0]; simp
    have HS0 := hide hs0
    rw [← hW0] at HB0 HG0 g0 g1
    go_enter Try.func10, Try.ntmps10
    go_upto_region 1 with fail
    rw [← hW0]
    clear hW0 hs0
    have hs1 : w.heap.size < W0.heap.size := by rw [HS0.out]; omega
    go_wp2
    go_loopw [4, 23] (fun v i wr => ∃ k : Nat, k ≤ n ∧ i = .int .i64 k ∧ (nodesP l P k).2 = 0 ∧ LsR wr W0.heap.size v (nodesP l P k).1 ∧ Below W0.heap.size W0 wr) (fun _ i _ => n - (intOf i).toNat)
    case atStart => exact ⟨0, Nat.zero_le _, rfl, rfl, LsR.nil _ _, Below.refl _ _⟩
    case round =>
      obtain ⟨k, hk, rfl, h0, hls, hb⟩ := hrel
      have H0 := hide h0
      have HLS := hide hls
      have HB := hide hb
      have hlen := nodesP_len l P k h0
      have HLEN := hide hlen
      have hsz := hb.size
      have HBw := hide (bl_on HB0.out hb)
      have HGr := hide (HG0.out.below (hb.mono (by omega)))
      obtain ⟨A5, c5, rfl, hc5, hl5⟩ := hls.slice (by omega)
      rw [hlen] at hc5 hl5 HLS ⊢
      have HL5 := hide hl5
      have HC5 := hide hc5
      clear h0 hls hb hlen hl5 g0 g1 hc5
      obtain ⟨g0, g1⟩ := HGr.out
      have hs3 : w.heap.size < wr.heap.size := by omega
      by_cases hlt : k < n
      · obtain ⟨b, off, rfl, hc⟩ := (H.out.below HBw.out).at (by omega)
        obtain ⟨u, hu, hi⟩ := hc k hlt
        have HI := hide hi
        have HNX : Hid (nodesP l P (k + 1) = if (nodeP (l[k]?.getD ndD) (decide (k < P)) (nodesP l P k).1).2 ≠ 0 then ([], (nodeP (l[k]?.getD ndD) (decide (k < P)) (nodesP l P k).1).2) else ((nodesP l P k).1 ++ [(nodeP (l[k]?.getD ndD) (decide (k < P)) (nodesP l P k).1).1], 0)) := by
          rw [Hid, nodesP, if_neg (by rw [H0.out]; exact fun h => h rfl)]
        have HER : Hid ((nodesP l P (k + 1)).2 ≠ 0 → R = ([], (nodesP l P (k + 1)).2)) := fun hne => by
          rw [HGP.out, nodesP_err l P (k + 1) hne n hlt, if_pos hne]
        obtain ⟨d, hd⟩ : ∃ d, d = l[k]?.getD ndD := ⟨_, rfl⟩
        obtain ⟨D, hD⟩ : ∃ D, D = (nodesP l P k).1 := ⟨_, rfl⟩
        rw [← hd] at HI HNX
        rw [← hD] at HNX HLS HL5 HLEN
        have HNP : Hid (nodeP d (decide (k < P)) D = if farA d.ar k = true then ([], 10) else if d.k ≠ 1 then dimsP d.k d.es d.ps d.lo d.hi d.st (pickD D d.ar) else if decide (k < P) = false ∨ d.ps ≠ [(k : Int)] then ([], 7) else if 0 < d.ar.length then ([], 2) else if sizeE d.es ≠ 0 then ([], sizeE d.es) else (d.es, 0)) := by
          rw [Hid, nodeP, HLEN.out]
        obtain ⟨r, hr⟩ : ∃ r, r = nodeP d (decide (k < P)) D := ⟨_, rfl⟩
        rw [← hr] at HNX HNP
        clear hr hc hi hd
        have HBX := hide (bl_new (w := wr) (.cells #[.int .i64 u.k, u.e.v, u.p.v, u.lo.v, u.hi.v, u.st.v, .int .i64 u.x, u.ar.v] 41))
        have HAX := hide (Nw.new u wr)
        obtain ⟨c0, c1, c2, c3, c4, c5', c6, c7⟩ := hu
        have z := lt_of_cell c0
        simp only at z
        have i1 : (k : Int) < (n : Int) := by omega
        have HLT := hide hlt
        have hal := HI.out.ar.2
        have HAR := hide HI.out.ar.1.1
        have HKK := hide HI.out.k
        obtain ⟨ku, ⟨ea, el, ec⟩, ⟨pa, pl, pc⟩, ⟨la, ll, lc⟩, ⟨ha, hl, hhc⟩, ⟨ta, tl, tc⟩, x, ⟨aa, al, ac⟩⟩ := u
        simp only [Sw.v] at c0 c1 c2 c3 c4 c5' c6 c7 HBX HAX hal HAR HKK
        obtain ⟨WN, hWN⟩ : ∃ WN, WN = wr.alloc (.cells #[.int .i64 ku, .slice ea el ec, .slice pa pl pc, .slice la ll lc, .slice ha hl hhc, .slice ta tl tc, .int .i64 x, .slice aa al ac] 41) := ⟨_, rfl⟩
        rw [← hWN] at HBX HAX
        have HBXw := hide (bl_on HBw.out HBX.out)
        go_upto_region 8 with fail
        rw [← hWN]
        have hsN : WN.heap.size = wr.heap.size + 1 := by rw [hWN]; simp
        have HSN := hide hsN
        clear hWN c0 c1 c2 c3 c4 c5' c6 c7 hsN
        have hsN2 : wr.heap.size < WN.heap.size := by rw [HSN.out]; omega
        obtain ⟨d0, d1, d2, d3, d4, d5, d6, d7⟩ := HAX.out.cells
        simp only [Sw.v] at d1 d2 d3 d4 d5 d7
        go_wp2
        go_loopw [7, 31] (fun v i wq => ∃ j : Nat, j ≤ al ∧ i = .int .i64 j ∧ farA (d.ar.take j) k = false ∧ LsR wq WN.heap.size v (pickD D (d.ar.take j)) ∧ Below WN.heap.size WN wq) (fun _ i _ => al - (intOf i).toNat)
        case atStart => exact ⟨0, Nat.zero_le _, rfl, by simp [farA], by simp [pickD]; exact LsR.nil _ _, Below.refl _ _⟩
        case round =>
          clear g0 g1 d0 d1 d2 d3 d4 d5 d6 d7
          obtain ⟨j, hj, rfl, hfa, hls, hbq⟩ := hrel
          have HFA := hide hfa
          have HLQ := hide hls
          have HBQ := hide hbq
          have hsq := hbq.size
          have HLD := hide ((HL5.out.below HBX.out).below hbq)
          clear hfa hls hbq
          by_cases hjl : j < al
          · obtain ⟨ba, oa', rfl, _, hca⟩ := ((HAR.out.below HBX.out).below HBQ.out).at (by omega)
            have hcj := hca j hjl
            have hjx : j < d.ar.length := by rw [HAR.out.1]; exact hjl
            have HJX := hide hjx
            obtain ⟨q, hq⟩ : ∃ q, q = d.ar[j]?.getD 0 := ⟨_, rfl⟩
            rw [← hq] at hcj
            have HQ := hide hq
            clear hca hjx hq
            have i2 : (j : Int) < (al : Int) := by omega
            by_cases hq0 : q < 0 ∨ (k : Int) ≤ q
            · have HFAR : Hid (r = ([], 10)) := by rw [Hid, HNP.out, if_pos (farA_in HJX.out (by rw [← HQ.out]; exact hq0))]
              have HKEY : Hid (OutLs (.returned (.tuple #[.slice none 0 0, .int .i64 10])) wr R) := by
                have hne : (nodesP l P (k + 1)).2 ≠ 0 := by rw [HNX.out, HFAR.out]; simp
                rw [Hid, HER.out hne, HNX.out, HFAR.out]
                exact outLs_none _ _
              rcases hq0 with hq0 | hq0
              · go_wp2
                go_ret2
                exact ⟨HKEY.out, bl_on HBXw.out HBQ.out⟩
              · have hq1 : ¬ q < 0 := by omega
                go_wp2
                go_ret2
                exact ⟨HKEY.out, bl_on HBXw.out HBQ.out⟩
            · obtain ⟨qn, rfl⟩ : ∃ qn : Nat, q = (qn : Int) := ⟨q.toNat, by omega⟩
              have hqk : qn < k := by omega
              obtain ⟨b5, o5, rfl, hcd⟩ := HLD.out.at (by omega)
              obtain ⟨X, m, c, hcX, hlX⟩ := hcd qn hqk
              have HLX := hide hlX
              have z5 := lt_of_cell hcX
              simp only at z5
              have i3 : ¬ ((qn : Int) < 0) := by omega
              have i4 : ¬ ((k : Int) ≤ (qn : Int)) := by omega
              have HPN : Hid (pickD D (d.ar.take (j + 1)) = pickD D (d.ar.take j) ++ [D[qn]?.getD []]) := by rw [Hid, pickD_take_succ D d.ar j HJX.out, ← HQ.out, Int.toNat_natCast]
              have HFN : Hid (farA (d.ar.take (j + 1)) k = false) := farA_take_succ HFA.out HJX.out (by rw [← HQ.out]; omega) (by rw [← HQ.out]; omega)
              have HTL : Hid ((pickD D (d.ar.take j)).length = j) := by rw [Hid, pickD_len, List.length_take]; have := HJX.out; omega
              clear hcd hlX hq0
              go_wp2_with (at_builtin; refine append_ls (by rfl) (.tmp 42) (.tmp 47) (by rfl) WN.heap.size _ (pickD D (d.ar.take j)) (by rfl) X m c (D[qn]?.getD []) HLQ.out HLX.out (by rfl) (by rw [HTL.out]; omega) (by omega) ?_; intro v4 w4 hls4 hg4 hsr4 _; have HLS4 := hide hls4; have HG4 := hide hg4; have HSR4 := hide hsr4; clear hls4 hg4 hsr4)
              go_roundw
              case rel =>
                obtain ⟨vs4, hsr⟩ := HSR4.out
                refine ⟨j + 1, by omega, by go_num, HFN.out, by rw [HPN.out]; exact HLS4.out, ?_⟩
                exact (HBQ.out.alloc (by omega) _).grown HG4.out (by simp; omega) (fun j e => (hsr.lt e).1)
              case measure => simp [intOf]; omega
          · obtain rfl : j = al := by omega
            have HTA : Hid (d.ar.take j = d.ar) := List.take_of_length_le (by rw [HAR.out.1]; exact Nat.le_refl _)
            rw [HTA.out] at HFA HLQ
            rw [HFA.out, if_neg Bool.false_ne_true] at HNP
            obtain ⟨A7, c7, rfl, hc7, hl7⟩ := HLQ.out.slice (by rw [pickD_len, HAR.out.1]; omega)
            rw [pickD_len, HAR.out.1] at hc7 hl7 ⊢
            have HL7 := hide hl7
            have HI2 := hide ((HI.out.below HBX.out).below HBQ.out)
            have HAX2 := hide (HAX.out.below HBQ.out)
            have HBQw := hide (bl_on HBXw.out HBQ.out)
            have HG2 := hide ((HGr.out.below (HBX.out.mono (by omega))).below (HBQ.out.mono (by omega)))
            obtain ⟨g0, g1⟩ := HG2.out
            obtain ⟨d0, d1, d2, d3, d4, d5, d6, d7⟩ := HAX2.out.cells
            simp only [Sw.v] at d1 d2 d3 d4 d5 d7
            have HLS2 := hide ((HLS.out.below HBX.out).below HBQ.out)
            have HBB := hide (bl_on (bl_on HB.out HBX.out) HBQ.out)
            clear HLQ HAX HGr hl7 hjl HTA
            by_cases hk1 : ku = 1
            · have hq1 : (ku == 1) = true := by simp [hk1]
              rw [← HKK.out, if_neg (by simpa using hk1)] at HNP
              clear hk1
              have HPC := hide (HP.out wr HBQw.out)
              have HPS : Hid (Ints wr pa pl d.ps) := HI2.out.p.1.1
              have hpl := HI2.out.p.1.1.1
              simp only at hpl
              have HE7 : Hid ((decide (k < P) = false ∨ d.ps ≠ [(k : Int)]) → ∀ W, OutLs (.returned (.tuple #[.slice none 0 0, .int .i64 7])) W R) := fun hh W => by
                have hr7 : r = ([], 7) := by rw [HNP.out, if_pos hh]
                have hne : (nodesP l P (k + 1)).2 ≠ 0 := by rw [HNX.out, hr7]; simp
                rw [HER.out hne, HNX.out, hr7]
                exact outLs_none _ _
              by_cases hkP : k < P
              · have j1 : ¬ ((P : Int) ≤ (k : Int)) := by omega
                by_cases hp1 : pl = 1
                · subst hp1
                  obtain ⟨bp, op', rfl, _, hcp⟩ := HPS.out.at (by omega)
                  have hcp0 := hcp 0 (by omega)
                  simp only [Nat.add_zero] at hcp0
                  obtain ⟨y, hy⟩ : ∃ y, y = d.ps[0]?.getD 0 := ⟨_, rfl⟩
                  rw [← hy] at hcp0
                  have HY := hide hy
                  have HPL1 := hide hpl
                  clear hcp hy hpl
                  by_cases hyk : y = (k : Int)
                  · have jq : (y != (k : Int)) = false := by simp [hyk]
                    have HEQ : Hid (d.ps = [(k : Int)]) := by
                      by_cases e : d.ps = [(k : Int)]
                      · exact e
                      · rcases one_ne.1 e with e1 | e1
                        · exact absurd HPL1.out e1
                        · exact absurd (HY.out ▸ hyk) e1
                    rw [if_neg (by simp [HEQ.out, hkP])] at HNP
                    clear hyk
                    have hpar := HAR.out.1
                    rw [hpar] at HNP
                    have HES : Hid (Lst wr ea el ec d.es) := HI2.out.e.1
                    have HSZ := hide (fun W (hW : Below wr.heap.size wr W) => rsize_any ea el ec d.es W (HES.out.below hW).1)
                    have HERR : Hid (∀ E, E ≠ 0 → r = ([], E) → ∀ W, OutLs (.returned (.tuple #[.slice none 0 0, .int .i64 E])) W R) := fun E hE hr7 W => by
                      have hne : (nodesP l P (k + 1)).2 ≠ 0 := by rw [HNX.out, hr7, if_pos hE]; exact hE
                      rw [HER.out hne, HNX.out, hr7, if_pos hE]
                      exact outLs_none _ _
                    clear hpar
                    by_cases hj0 : 0 < j
                    · have i5 : (0 : Int) < (j : Int) := by omega
                      rw [if_pos hj0] at HNP
                      clear hj0
                      go_wp2_with (go_at_call 12; refine HPC.out.mono ?_; rintro e w3 ⟨rfl, hb3⟩; have HB3 := hide (bl_on HBQw.out hb3); have HAX3 := hide (HAX2.out.below hb3); have hcp1 := (hb3.cell (p := ⟨bp, op', none⟩) (lt_of_cell hcp0)).trans hcp0; clear hb3 d0 d1 d2 d3 d4 d5 d6 d7 g0 g1 hcp0; obtain ⟨d0, d1, d2, d3, d4, d5, d6, d7⟩ := HAX3.out.cells; simp only [Sw.v] at d1 d2 d3 d4 d5 d7)
                      go_ret2
                      exact ⟨HERR.out 2 (by omega) HNP.out _, HB3.out⟩
                    · have i5 : ¬ ((0 : Int) < (j : Int)) := by omega
                      rw [if_neg hj0] at HNP
                      clear hj0
                      by_cases hz : sizeE d.es = 0
                      · rw [if_neg (by simpa using hz)] at HNP
                        have HZ := hide hz
                        rw [HNP.out, if_neg (fun h => h rfl)] at HNX
                        clear hz
                        go_wp2_with (first
                          | (go_at_call 12; refine HPC.out.mono ?_; rintro e w3 ⟨rfl, hb3⟩; have HBN := hide hb3; have hs4 := hb3.size; have HAX3 := hide (HAX2.out.below hb3); have hcp1 := (hb3.cell (p := ⟨bp, op', none⟩) (lt_of_cell hcp0)).trans hcp0; clear hb3 d0 d1 d2 d3 d4 d5 d6 d7 g0 g1 hcp0; obtain ⟨d0, d1, d2, d3, d4, d5, d6, d7⟩ := HAX3.out.cells; simp only [Sw.v] at d1 d2 d3 d4 d5 d7)
                          | (go_at_call 11; refine (HSZ.out _ HBN.out).mono ?_; rintro e w4 ⟨rfl, hw4⟩; obtain rfl := hw4.symm; rw [HZ.out])
                          | (at_builtin; refine append_ls (by rfl) (.tmp 88) (.tmp 92) (by rfl) W0.heap.size _ D (by rfl) ea el ec d.es (HLS2.out.below HBN.out) (HES.out.below HBN.out) (by rfl) (by rw [HLEN.out]; omega) (by omega) ?_; intro v4 w4 hls4 hg4 hsr4 _; have HLS4 := hide hls4; have HG4 := hide hg4; have HSR4 := hide hsr4; clear hls4 hg4 hsr4))
                        go_roundw
                        case rel =>
                          obtain ⟨vs4, hsr⟩ := HSR4.out
                          refine ⟨k + 1, by omega, by go_num, by rw [HNX.out], by rw [HNX.out]; exact HLS4.out, ?_⟩
                          exact ((bl_on HBB.out HBN.out).alloc (by omega) _).grown HG4.out (by simp; omega) (fun j e => (hsr.lt e).1)
                        case measure => simp [intOf]; omega
                      · rw [if_pos hz] at HNP
                        have hzq : (sizeE d.es != 0) = true := by simp [hz]
                        obtain ⟨Z, hZ⟩ : ∃ Z, Z = sizeE d.es := ⟨_, rfl⟩
                        rw [← hZ] at hzq HNP hz
                        have HZZ := hide hZ
                        have HZ := hide hz
                        clear hz hZ
                        go_wp2_with (first
                          | (go_at_call 12; refine HPC.out.mono ?_; rintro e w3 ⟨rfl, hb3⟩; have HBN := hide hb3; have HAX3 := hide (HAX2.out.below hb3); have hcp1 := (hb3.cell (p := ⟨bp, op', none⟩) (lt_of_cell hcp0)).trans hcp0; clear hb3 d0 d1 d2 d3 d4 d5 d6 d7 g0 g1 hcp0; obtain ⟨d0, d1, d2, d3, d4, d5, d6, d7⟩ := HAX3.out.cells; simp only [Sw.v] at d1 d2 d3 d4 d5 d7)
                          | (go_at_call 11; refine (HSZ.out _ HBN.out).mono ?_; rintro e w4 ⟨rfl, hw4⟩; obtain rfl := hw4.symm; rw [← HZZ.out]))
                        go_ret2
                        exact ⟨HERR.out Z HZ.out HNP.out _, bl_on HBQw.out HBN.out⟩
                  · have jq : (y != (k : Int)) = true := by simp [hyk]
                    have HNE : Hid (d.ps ≠ [(k : Int)]) := one_ne.2 (.inr (by rw [← HY.out]; exact hyk))
                    clear hyk
                    go_wp2_with (go_at_call 12; refine HPC.out.mono ?_; rintro e w3 ⟨rfl, hb3⟩; have HB3 := hide (bl_on HBQw.out hb3); have HAX3 := hide (HAX2.out.below hb3); have hcp1 := (hb3.cell (p := ⟨bp, op', none⟩) (lt_of_cell hcp0)).trans hcp0; clear hb3 d0 d1 d2 d3 d4 d5 d6 d7 g0 g1 hcp0; obtain ⟨d0, d1, d2, d3, d4, d5, d6, d7⟩ := HAX3.out.cells; simp only [Sw.v] at d1 d2 d3 d4 d5 d7)
                    go_ret2
                    exact ⟨HE7.out (.inr HNE.out) _, HB3.out⟩
                · have jq : ((pl : Int) != 1) = true := by simp; omega
                  have HNE : Hid (d.ps ≠ [(k : Int)]) := one_ne.2 (.inl (by rw [hpl]; exact hp1))
                  clear hpl
                  go_wp2_with (go_at_call 12; refine HPC.out.mono ?_; rintro e w3 ⟨rfl, hb3⟩; have HB3 := hide (bl_on HBQw.out hb3); have HAX3 := hide (HAX2.out.below hb3); clear hb3 d0 d1 d2 d3 d4 d5 d6 d7 g0 g1; obtain ⟨d0, d1, d2, d3, d4, d5, d6, d7⟩ := HAX3.out.cells; simp only [Sw.v] at d1 d2 d3 d4 d5 d7)
                  go_ret2
                  exact ⟨HE7.out (.inr HNE.out) _, HB3.out⟩
              · have j1 : (P : Int) ≤ (k : Int) := by omega
                have HNP7 : Hid (decide (k < P) = false) := decide_eq_false hkP
                clear hkP hpl
                go_wp2_with (go_at_call 12; refine HPC.out.mono ?_; rintro e w3 ⟨rfl, hb3⟩; have HB3 := hide (bl_on HBQw.out hb3); have HAX3 := hide (HAX2.out.below hb3); clear hb3 d0 d1 d2 d3 d4 d5 d6 d7 g0 g1; obtain ⟨d0, d1, d2, d3, d4, d5, d6, d7⟩ := HAX3.out.cells; simp only [Sw.v] at d1 d2 d3 d4 d5 d7)
                go_ret2
                exact ⟨HE7.out (.inl HNP7.out) _, HB3.out⟩
            · have hq1 : (ku == 1) = false := by simp [hk1]
              rw [← HKK.out, if_pos hk1] at HNP
              have HD := hide (rDims_any ku x ea el ec d.es pa pl pc d.ps la ll lc d.lo ha hl hhc d.hi ta tl tc d.st A7 j c7 (pickD D d.ar) wr HI2.out.e.1 HI2.out.p.1 HI2.out.lo.1 HI2.out.hi.1 HI2.out.st.1 HL7.out hc7 hal HI2.out.e.2 HI2.out.p.2 HI2.out.lo.2 HI2.out.hi.2 HI2.out.st.2)
              rw [← HNP.out] at HD
              clear hk1
              go_wp2_with fail
              refine HD.out.mono ?_
              rintro e w3 ⟨⟨X3, m3, c3x, rfl, hi3, hc3⟩, hb3⟩
              have HI3 := hide (lst_ints hi3 hc3)
              have HBN := hide hb3
              clear hi3 hc3 hb3 d0 d1 d2 d3 d4 d5 d6 d7 g0 g1
              by_cases hr0 : r.2 = 0
              · have hq : (r.2 != 0) = false := by simp [hr0]
                rw [if_neg (by simpa using hr0)] at HNX
                have hs4 : wr.heap.size ≤ w3.heap.size := HBN.out.size
                clear hr0
                go_wp2_with (at_builtin; refine append_ls (by rfl) (.tmp 104) (.tmp 106) (by rfl) W0.heap.size _ D (by rfl) X3 m3 c3x r.1 (HLS2.out.below HBN.out) HI3.out (by rfl) (by rw [HLEN.out]; omega) (by omega) ?_; intro v4 w4 hls4 hg4 hsr4 _; have HLS4 := hide hls4; have HG4 := hide hg4; have HSR4 := hide hsr4; clear hls4 hg4 hsr4)
                go_roundw
                case rel =>
                  obtain ⟨vs4, hsr⟩ := HSR4.out
                  refine ⟨k + 1, by omega, by go_num, by rw [HNX.out], by rw [HNX.out]; exact HLS4.out, ?_⟩
                  exact ((bl_on HBB.out HBN.out).alloc (by omega) _).grown HG4.out (by simp; omega) (fun j e => (hsr.lt e).1)
                case measure => simp [intOf]; omega
              · have hq : (r.2 != 0) = true := by simp [hr0]
                rw [if_pos hr0] at HNX
                have HR0 := hide hr0
                clear hr0
                go_wp2
                go_ret2
                have hne : (nodesP l P (k + 1)).2 ≠ 0 := by rw [HNX.out]; exact HR0.out
                rw [HER.out hne, HNX.out]
                exact ⟨outLs_none _ _, bl_on HBQw.out HBN.out⟩
      · obtain rfl : k = n := by omega
        rw [H0.out, if_neg (fun h => h rfl)] at HGP
        go_wp2
        have HOr := hide (HO.out.below HBw.out)
        go_loop [112] (fun i => ∃ j : Nat, j ≤ ol ∧ i = .int .i64 j ∧ farA (outs.take j) k = false) (fun i => ol - (intOf i).toNat)
        case atStart => exact ⟨0, Nat.zero_le _, rfl, by simp [farA]⟩
        case round =>
          obtain ⟨j, hj, rfl, hfa⟩ := hrel
          have HFA := hide hfa
          have hol := HOr.out.2.1
          clear hfa
          by_cases hjl : j < ol
          · obtain ⟨ba, oo, rfl, _, hca⟩ := HOr.out.at (by omega)
            have hcj := hca j hjl
            have hjx : j < outs.length := by rw [HOr.out.1]; exact hjl
            have HJX := hide hjx
            obtain ⟨q, hq⟩ : ∃ q, q = outs[j]?.getD 0 := ⟨_, rfl⟩
            rw [← hq] at hcj
            have HQ := hide hq
            clear hca hjx hq
            have i2 : (j : Int) < (ol : Int) := by omega
            by_cases hq0 : q < 0 ∨ (k : Int) ≤ q
            · have HFR : Hid (farA outs k = true) := farA_in HJX.out (by rw [← HQ.out]; exact hq0)
              have HKEY : Hid (OutLs (.returned (.tuple #[.slice none 0 0, .int .i64 4])) wr R) := by
                rw [Hid, HGP.out, if_pos HFR.out]
                exact outLs_none _ _
              rcases hq0 with hq0 | hq0
              · go_wp2
                go_ret2
                exact ⟨HKEY.out, HBw.out⟩
              · have hq1 : ¬ q < 0 := by omega
                go_wp2
                go_ret2
                exact ⟨HKEY.out, HBw.out⟩
            · have i3 : ¬ (q < 0) := by omega
              have i4 : ¬ ((k : Int) ≤ q) := by omega
              have HFN : Hid (farA (outs.take (j + 1)) k = false) := farA_take_succ HFA.out HJX.out (by rw [← HQ.out]; omega) (by rw [← HQ.out]; omega)
              clear hq0
              go_wp2
              refine ⟨⟨j + 1, by omega, by go_num, HFN.out⟩, by simp [intOf]; omega⟩
          · have HFR : Hid (farA outs k = false) := by
              have := HFA.out
              rwa [List.take_of_length_le (by rw [HOr.out.1]; omega)] at this
            go_wp2
            go_ret2
            rw [HGP.out, if_neg (by rw [HFR.out]; exact Bool.false_ne_true)]
            exact ⟨⟨_, _, _, rfl, HC5.out, HL5.out⟩, HBw.out⟩
end Go.Proofs.Ytdoffjddjfgcfaa.V
