/-
  Contract: adjointref12.Lives. The law's walk: RoomLives.
-/
import Derived.Test.YtdoffjddjfgcfaaK34
import Derived.BigQuiet
namespace Go.Proofs.Ytdoffjddjfgcfaa.V
set_option maxRecDepth 20000
open Go.RowKit
set_option linter.unusedVariables false

/-- A life in a block of its own. -/
def BoxL (w : World) (b : Nat) (f t d : Int) : Prop := w.heap[b]? = some (.cells #[.int .i64 f, .int .i64 t, .int .i64 d] 31 (0, 0))
theorem BoxL.cells {w : World} {b : Nat} {f t d : Int} (h : BoxL w b f t d) : w.cell? ⟨b, 0, none⟩ = some (.int .i64 f) ∧ w.cell? ⟨b, 1, none⟩ = some (.int .i64 t) ∧ w.cell? ⟨b, 2, none⟩ = some (.int .i64 d) ∧ w.frozen? ⟨b, 0, none⟩ = false ∧ w.frozen? ⟨b, 1, none⟩ = false := by
  unfold BoxL at h
  refine ⟨?_, ?_, ?_, ?_, ?_⟩ <;> simp [World.cell?, World.frozen?, h]
theorem BoxL.lt {w : World} {b : Nat} {f t d : Int} (h : BoxL w b f t d) : b < w.heap.size := (Array.getElem?_eq_some_iff.1 h).1
theorem BoxL.keep {w w1 : World} {b : Nat} {f t d : Int} (h : BoxL w b f t d) (e : w1.heap[b]? = w.heap[b]?) : BoxL w1 b f t d := e.trans h
theorem BoxL.set1 {w : World} {b : Nat} {f t d : Int} (h : BoxL w b f t d) (x : Int) : BoxL (w.setCell ⟨b, 1, none⟩ (.int .i64 x)) b f x d := by
  unfold BoxL at h ⊢
  unfold World.setCell
  simp only [Array.getElem?_modify, h]
  simp
theorem BoxL.set0 {w : World} {b : Nat} {f t d : Int} (h : BoxL w b f t d) (x : Int) : BoxL (w.setCell ⟨b, 0, none⟩ (.int .i64 x)) b x t d := by
  unfold BoxL at h ⊢
  unfold World.setCell
  simp only [Array.getElem?_modify, h]
  simp
/-- The cells of the first k lives. -/
def lvCs (F T W : Nat → Int) : Nat → List Value
  | 0 => []
  | k + 1 => lvCs F T W k ++ [.int .i64 (F k), .int .i64 (T k), .int .i64 (W k)]
theorem lvCs_len (F T W : Nat → Int) : ∀ k, (lvCs F T W k).length = k * 3
  | 0 => rfl
  | k + 1 => by rw [lvCs, List.length_append, lvCs_len F T W k]; simp; omega
theorem lvCs_at (F T W : Nat → Int) : ∀ (n k : Nat), k < n → (lvCs F T W n)[k * 3]? = some (.int .i64 (F k)) ∧ (lvCs F T W n)[k * 3 + 1]? = some (.int .i64 (T k)) ∧ (lvCs F T W n)[k * 3 + 2]? = some (.int .i64 (W k))
  | n + 1, k, hk => by
    have hl := lvCs_len F T W n
    rw [lvCs]
    by_cases e : k = n
    · subst e
      rw [List.getElem?_append_right (by omega), List.getElem?_append_right (by omega), List.getElem?_append_right (by omega), hl]
      simp
    · have ih := lvCs_at F T W n k (by omega)
      rw [List.getElem?_append_left (by omega), List.getElem?_append_left (by omega), List.getElem?_append_left (by omega)]
      exact ih
theorem frV_bd (P k : Nat) : 0 ≤ frV P k := by unfold frV; split <;> omega
/-- Up to when, while a node's arguments are gone through. -/
def toA (l : List Nd) (k j : Nat) (xs : List Int) : Int := if memI xs k = true then (j : Int) + 1 else toD l k j
theorem toA_all (l : List Nd) (k j : Nat) : toA l k j (l[j]?.getD ndD).ar = toD l k (j + 1) := rfl
theorem toA_step {l : List Nd} {k j t : Nat} {xs : List Int} (ht : t < xs.length) : toA l k j (xs.take (t + 1)) = if xs[t]?.getD 0 = (k : Int) then (j : Int) + 1 else toA l k j (xs.take t) := by
  unfold toA
  rw [memI_take_succ ht]
  by_cases e : xs[t]?.getD 0 = (k : Int)
  · have : (xs[t]?.getD 0 == (k : Int)) = true := by simpa using e
    rw [this, if_pos e, Bool.or_true, if_pos rfl]
  · have : (xs[t]?.getD 0 == (k : Int)) = false := by simpa using e
    rw [this, if_neg e, Bool.or_false]
def toO (l : List Nd) (n k : Nat) (xs : List Int) : Int := if memI xs k = true then (n : Int) + 1 else toD l k n
theorem toO_step {l : List Nd} {n k t : Nat} {xs : List Int} (ht : t < xs.length) : toO l n k (xs.take (t + 1)) = if xs[t]?.getD 0 = (k : Int) then (n : Int) + 1 else toO l n k (xs.take t) := by
  unfold toO
  rw [memI_take_succ ht]
  by_cases e : xs[t]?.getD 0 = (k : Int)
  · have : (xs[t]?.getD 0 == (k : Int)) = true := by simpa using e
    rw [this, if_pos e, Bool.or_true, if_pos rfl]
  · have : (xs[t]?.getD 0 == (k : Int)) = false := by simpa using e
    rw [this, if_neg e, Bool.or_false]
theorem own_bl {w w' : World} {B : Nat} {e : TypeId} {size : Nat} {v : Value} {n : Nat} {xs : List Value} (h : w.ownsRow B e size v n xs) (hb : Below w.heap.size w w') : w'.ownsRow B e size v n xs := by
  refine ⟨h.1, ?_⟩
  rcases h.2 with h2 | ⟨g, cap, cur, e1, h3, h4, h5⟩
  · exact .inl h2
  · exact .inr ⟨g, cap, cur, e1, h3, (hb.block g (Array.getElem?_eq_some_iff.1 h4).1).trans h4, h5⟩
/-- What the document's Lives answers. -/
def LvOutR (e : Ending) (w' : World) (l : List Nd) (outs : List Int) : Prop :=
  ((grP l outs).2 ≠ 0 ∧ e = .returned (.tuple #[.slice none 0 0, .int .i64 (grP l outs).2])) ∨ ((grP l outs).2 = 0 ∧ ∃ v B, e = .returned (.tuple #[v, .int .i64 0]) ∧ w'.ownsRow B 31 3 v l.length (lvCs (frV (parN l)) (toV l outs) (wdV (grP l outs).1) l.length))

set_option maxRecDepth 100000 in
set_option maxHeartbeats 8000000 in
theorem rLives_any (A : Option Addr) (n cap : Nat) (l : List Nd) (oa : Option Addr) (ol oc : Nat) (outs : List Int) (w : World) (h : Nds w A n l) (ho : Ints w oa ol outs) :
    Calls Try.prog 5 #[.agg #[.slice A n cap, .slice oa ol oc]] w fun e w' => LvOutR e w' l outs ∧ Below w.heap.size w w' := by
  have H := hide h
  have HO := hide ho
  have hm := h.2.1
  have HNL := hide h.1
  have HB0 := hide (bl_new (w := w) (.cells #[.slice A n cap, .slice oa ol oc] 25))
  have HG0 := hide (GrAt.new w A n cap oa ol oc)
  obtain ⟨g0, g1⟩ := HG0.out
  have HP := hide (fun W (hW : Below w.heap.size w W) => rParams_any A n cap l oa ol oc W (h.below hW))
  have HD := hide (rGDims_any A n cap l oa ol oc outs _ (h.below HB0.out) (ho.below HB0.out))
  have HOK := hide (@grP_ok l outs)
  have HFR := hide (@grP_far l outs)
  rw [h.1] at HOK HFR
  have HLV : Hid (∀ e w', ((grP l outs).2 ≠ 0 ∧ e = .returned (.tuple #[.slice none 0 0, .int .i64 (grP l outs).2])) ∨ ((grP l outs).2 = 0 ∧ ∃ v B, e = .returned (.tuple #[v, .int .i64 0]) ∧ w'.ownsRow B 31 3 v n (lvCs (frV (parN l)) (toV l outs) (wdV (grP l outs).1) n)) → LvOutR e w' l outs) := fun e w' hh => by
    unfold LvOutR; rw [h.1]; exact hh
  obtain ⟨G, hG⟩ : ∃ G, G = grP l outs := ⟨_, rfl⟩
  obtain ⟨P, hP⟩ : ∃ P, P = parN l := ⟨_, rfl⟩
  rw [← hG] at HD HOK HFR HLV
  rw [← hP] at HP HLV
  have HTV : Hid (∀ k, toV l outs k = toO l n k outs) := fun k => by unfold toV toO; rw [h.1]
  clear h ho hG hP
  go_enter Try.func5, Try.ntmps5
  go_wp2_with fail
  refine HD.out.mono ?_
  rintro e w1 ⟨⟨A4, n4, c4, rfl, hc4, hl4⟩, hb1⟩
  have HB1 := hide (bl_on HB0.out hb1)
  have HG1 := hide (HG0.out.below (by simpa using hb1))
  have hs1 : w.heap.size < w1.heap.size := by have := hb1.size; simp at this; omega
  have HL4 := hide hl4
  clear hb1 g0 g1 hl4
  by_cases hg0 : G.2 = 0
  · have hq : (G.2 != 0) = false := by simp [hg0]
    obtain ⟨hn4, hGl, _⟩ := HOK.out hg0
    obtain ⟨hfar, hfo⟩ := HFR.out hg0
    have hn4' : n4 = n := by rw [← HL4.out.1, hGl]
    subst hn4'
    have HFAR := hide hfar
    have HFO := hide hfo
    have HG00 := hide hg0
    clear hg0 hGl hfar HOK hfo HFR
    go_wp2
    go_loopw [6, 28] (fun v i wr => ∃ k : Nat, k ≤ n4 ∧ i = .int .i64 k ∧ wr.ownsRow w1.heap.size 31 3 v k (lvCs (frV P) (toV l outs) (wdV G.1) k) ∧ Below w1.heap.size w1 wr) (fun _ i _ => n4 - (intOf i).toNat)
    case atStart => exact ⟨0, Nat.zero_le _, rfl, World.ownsRow_nil _ _ _ _, Below.refl _ _⟩
    case round =>
      obtain ⟨k, hk, rfl, hown, hb⟩ := hrel
      have HOW := hide hown
      have HB := hide hb
      have HBw := hide (bl_on HB1.out hb)
      have hsr := hb.size
      clear hown hb
      by_cases hlt : k < n4
      · obtain ⟨bd, od, rfl, hcd⟩ := (HL4.out.below HB.out).at (by omega)
        obtain ⟨XD, mD, cD, hXD, hlD⟩ := hcd k hlt
        have zd := lt_of_cell hXD
        simp only at zd
        have HSZ := hide (rsize_any XD mD cD _ wr hlD.1)
        obtain ⟨SN, hSN⟩ : ∃ SN, SN = sizeN (G.1[k]?.getD []) := ⟨_, rfl⟩
        obtain ⟨SE, hSE⟩ : ∃ SE, SE = sizeE (G.1[k]?.getD []) := ⟨_, rfl⟩
        rw [← hSN, ← hSE] at HSZ
        have HSN : Hid (wdV G.1 k = SN) := hSN.symm
        have HLT := hide hlt
        have i1 : (k : Int) < (n4 : Int) := by omega
        clear hSN hSE hcd hlD
        go_wp2_with fail
        refine HSZ.out.mono ?_
        rintro e w9 ⟨rfl, hw9⟩
        obtain rfl := hw9.symm
        clear hXD zd
        have HBX := hide (bl_new (w := wr) (.cells #[.int .i64 (k : Int), .int .i64 ((k : Int) + 1), .int .i64 SN] 31))
        have HPC := hide (HP.out _ (bl_on HBw.out HBX.out))
        have HX0 : Hid (BoxL (wr.alloc (.cells #[.int .i64 (k : Int), .int .i64 ((k : Int) + 1), .int .i64 SN] 31)) wr.heap.size k ((k : Int) + 1) SN) := World.alloc_heap_new wr (.cells #[.int .i64 (k : Int), .int .i64 ((k : Int) + 1), .int .i64 SN] 31)
        have HGr := hide (HG1.out.below (HB.out.mono hs1))
        obtain ⟨g0, g1⟩ := HGr.out
        have hs3 : w.heap.size < wr.heap.size := by omega
        go_upto_region 10 with fail
        go_wp2_with fail
        refine HPC.out.mono ?_
        rintro e w5 ⟨rfl, hb5⟩
        have HX5 := hide (HX0.out.keep (hb5.block wr.heap.size (by simp)))
        have HB5 := hide (bl_on HBX.out hb5)
        obtain ⟨x0, x1, x2, x3, x4⟩ := HX5.out.cells
        clear hb5 g0 g1 HX0 HBX HPC HGr
        obtain ⟨WR, hWR⟩ : ∃ WR, WR = wr := ⟨_, rfl⟩
        subst hWR
        have hs6 : WR.heap.size < w5.heap.size := HX5.out.lt
        by_cases hkP : k < P
        · have HFV : Hid (frV P k = 0) := by rw [Hid]; unfold frV; rw [if_pos hkP]
          go_upto_region 12 with fail
          obtain ⟨Wc, hWc⟩ : ∃ Wc, Wc = w5.setCell ⟨WR.heap.size, 0, none⟩ (.int .i64 0) := ⟨_, rfl⟩
          rw [← hWc]
          have HXc : Hid (BoxL Wc WR.heap.size (frV P k) (toD l k 0) SN) := by rw [Hid, hWc, HFV.out]; exact HX5.out.set0 0
          have HBc : Hid (Below WR.heap.size WR Wc) := by rw [Hid, hWc]; exact HB5.out.setCell (p := ⟨WR.heap.size, 0, none⟩) (Nat.le_refl _) _
          have hsc : WR.heap.size < Wc.heap.size := HXc.out.lt
          clear hWc x0 x1 x2 x3 x4 hkP
          have HGc := hide ((HG1.out.below (HB.out.mono hs1)).below (HBc.out.mono (show w.heap.size + 1 ≤ WR.heap.size by omega)))
          obtain ⟨g2, g3⟩ := HGc.out
          go_wp2
          go_loopw [51] (fun i wq => ∃ j : Nat, j ≤ n4 ∧ i = .int .i64 j ∧ BoxL wq WR.heap.size (frV P k) (toD l k j) SN ∧ Below WR.heap.size WR wq) (fun i _ => n4 - (intOf i).toNat)
          case atStart => exact ⟨0, Nat.zero_le _, rfl, HXc.out, HBc.out⟩
          case round =>
            clear g2 g3
            obtain ⟨j, hj, rfl, hx, hbq⟩ := hrel
            have HX := hide hx
            have HBQ := hide hbq
            have HBQw := hide (bl_on HBw.out hbq)
            have hxl := hx.lt
            clear hx hbq
            by_cases hjl : j < n4
            · obtain ⟨b, off, rfl, hc⟩ := H.out.at (by omega)
              obtain ⟨u, hu0, hi⟩ := hc j hjl
              have hu := hu0.below HBQw.out
              have HNA := hide (hi.ar)
              have HFJ := hide (HFAR.out j hjl)
              obtain ⟨c0, c1, c2, c3, c4', c5, c6, c7⟩ := hu
              have z := lt_of_cell c0
              simp only at z
              have i2 : (j : Int) < (n4 : Int) := by omega
              clear hc hi
              obtain ⟨ku, ⟨ea, el, ec⟩, ⟨pa, pl, pc⟩, ⟨la, ll, lc⟩, ⟨ha, hl, hhc⟩, ⟨ta, tl, tc⟩, x, ⟨aa, al, ac⟩⟩ := u
              simp only [Sw.v] at c0 c1 c2 c3 c4' c5 c6 c7
              have HNA2 : Hid (Ints w aa al (l[j]?.getD ndD).ar) := HNA.out.1.1
              have hal : al ≤ 1048576 := HNA.out.2
              obtain ⟨xs, hxs⟩ : ∃ xs, xs = (l[j]?.getD ndD).ar := ⟨_, rfl⟩
              rw [← hxs] at HNA2 HFJ
              have HTA : Hid (toA l k j xs = toD l k (j + 1)) := by rw [Hid, hxs]; rfl
              clear hxs HNA
              obtain ⟨WQ, hWQ⟩ : ∃ WQ, WQ = wr := ⟨_, rfl⟩
              subst hWQ
              go_wp2
              go_loopw [59] (fun i wz => ∃ t : Nat, t ≤ al ∧ i = .int .i64 t ∧ BoxL wz WR.heap.size (frV P k) (toA l k j (xs.take t)) SN ∧ Below WR.heap.size WR wz) (fun i _ => al - (intOf i).toNat)
              case atStart =>
                refine ⟨0, Nat.zero_le _, rfl, HX.out.keep (Below.heap_alloc _ _ _ hxl), HBQ.out.alloc (by omega) _⟩
              case round =>
                clear c0 c1 c2 c3 c4' c5 c6 c7
                obtain ⟨t, ht, rfl, hx, hbq⟩ := hrel
                have HX3 := hide hx
                have HBZ := hide hbq
                have HIA := hide (HNA2.out.below (bl_on HBw.out hbq))
                obtain ⟨y0, y1, y2, y3, y4⟩ := hx.cells
                have hyl := hx.lt
                clear hx hbq
                by_cases htl : t < al
                · obtain ⟨ba, oa', rfl, hba, hca⟩ := HIA.out.at (by omega)
                  have hct := hca t htl
                  have htx : t < xs.length := by rw [HIA.out.1]; exact htl
                  have HTS := hide (toA_step (l := l) (k := k) (j := j) htx)
                  have hbd := farA_at HFJ.out t htx
                  obtain ⟨q, hq⟩ : ∃ q : Nat, xs[t]?.getD 0 = (q : Int) := ⟨(xs[t]?.getD 0).toNat, by omega⟩
                  rw [hq] at hct HTS hbd
                  have hqj : q < j := by omega
                  obtain ⟨cur, hcur⟩ : ∃ cur, cur = toA l k j (xs.take t) := ⟨_, rfl⟩
                  rw [← hcur] at HTS y1 HX3
                  have HCUR := hide hcur
                  have i3 : (t : Int) < (al : Int) := by omega
                  have HHQ := hide hq
                  clear hca hq hbd hcur htx
                  by_cases hqk : q = k
                  · subst hqk
                    rw [if_pos rfl] at HTS
                    by_cases hgt : cur < (j : Int) + 1
                    · go_wp2
                      go_roundw
                      case rel =>
                        refine ⟨t + 1, by omega, by go_num, by rw [HTS.out]; exact HX3.out.set1 _, HBZ.out.setCell (p := ⟨WR.heap.size, 1, none⟩) (Nat.le_refl _) _⟩
                      case measure => simp [intOf]; omega
                    · have HEQ : Hid (cur = (j : Int) + 1) := by
                        rw [Hid]
                        have h1 := HCUR.out
                        unfold toA at h1
                        by_cases e : memI (xs.take t) q = true
                        · rw [if_pos e] at h1; exact h1
                        · rw [if_neg e] at h1
                          have := toD_le l q j
                          omega
                      go_wp2
                      go_roundw
                      case rel => exact ⟨t + 1, by omega, by go_num, by rw [HTS.out, ← HEQ.out]; exact HX3.out, HBZ.out⟩
                      case measure => simp [intOf]; omega
                  · have hqe : ((q : Int) == (k : Int)) = false := by simp; omega
                    rw [if_neg (by omega)] at HTS
                    clear hqk
                    go_wp2
                    go_roundw
                    case rel => exact ⟨t + 1, by omega, by go_num, by rw [HTS.out]; exact HX3.out, HBZ.out⟩
                    case measure => simp [intOf]; omega
                · obtain rfl : t = al := by omega
                  have HTT : Hid (xs.take t = xs) := List.take_of_length_le (by rw [HIA.out.1]; exact Nat.le_refl _)
                  go_wp2
                  go_roundw
                  case rel => exact ⟨j + 1, by omega, by go_num, by have := HX3.out; rwa [HTT.out, HTA.out] at this, HBZ.out⟩
                  case measure => simp [intOf]; omega
            · obtain rfl : j = n4 := by omega
              have HGq := hide ((HG1.out.below (HB.out.mono hs1)).below (HBQ.out.mono (show w.heap.size + 1 ≤ WR.heap.size by omega)))
              obtain ⟨g2, g3⟩ := HGq.out
              have hol := HO.out.2.1
              go_wp2
              go_loopw [81] (fun i wz => ∃ t : Nat, t ≤ ol ∧ i = .int .i64 t ∧ BoxL wz WR.heap.size (frV P k) (toO l j k (outs.take t)) SN ∧ Below WR.heap.size WR wz) (fun i _ => ol - (intOf i).toNat)
              case atStart => exact ⟨0, Nat.zero_le _, rfl, by simpa [toO, memI] using HX.out, HBQ.out⟩
              case round =>
                clear g2 g3
                obtain ⟨t, ht, rfl, hx, hbq⟩ := hrel
                have HX3 := hide hx
                have HBZ := hide hbq
                have HIA := hide (HO.out.below (bl_on HBw.out hbq))
                obtain ⟨y0, y1, y2, y3, y4⟩ := hx.cells
                have hyl := hx.lt
                clear hx hbq
                by_cases htl : t < ol
                · obtain ⟨ba, oa', rfl, hba, hca⟩ := HIA.out.at (by omega)
                  have hct := hca t htl
                  have htx : t < outs.length := by rw [HIA.out.1]; exact htl
                  have HTS := hide (toO_step (l := l) (n := j) (k := k) htx)
                  obtain ⟨q, hq⟩ : ∃ q, q = outs[t]?.getD 0 := ⟨_, rfl⟩
                  rw [← hq] at hct HTS
                  have i3 : (t : Int) < (ol : Int) := by omega
                  clear hca hq htx
                  by_cases hqk : q = (k : Int)
                  · have hqe : (q == (k : Int)) = true := by simp [hqk]
                    rw [if_pos hqk] at HTS
                    clear hqk
                    go_wp2
                    go_roundw
                    case rel => exact ⟨t + 1, by omega, by go_num, by rw [HTS.out]; exact HX3.out.set1 _, HBZ.out.setCell (p := ⟨WR.heap.size, 1, none⟩) (Nat.le_refl _) _⟩
                    case measure => simp [intOf]; omega
                  · have hqe : (q == (k : Int)) = false := by simp [hqk]
                    rw [if_neg hqk] at HTS
                    clear hqk
                    go_wp2
                    go_roundw
                    case rel => exact ⟨t + 1, by omega, by go_num, by rw [HTS.out]; exact HX3.out, HBZ.out⟩
                    case measure => simp [intOf]; omega
                · obtain rfl : t = ol := by omega
                  have HTT : Hid (toO l j k (outs.take t) = toV l outs k) := by rw [Hid, List.take_of_length_le (by rw [HIA.out.1]; exact Nat.le_refl _), HTV.out]
                  rw [HTT.out] at y1 HX3
                  obtain ⟨tv, htv⟩ : ∃ tv, tv = toV l outs k := ⟨_, rfl⟩
                  obtain ⟨fv, hfv⟩ : ∃ fv, fv = frV P k := ⟨_, rfl⟩
                  rw [← htv] at y1
                  rw [← hfv] at y0
                  have HTV2 := hide htv
                  have HFV2 := hide hfv
                  clear htv hfv HTT
                  obtain ⟨i0, hi0, hz0, hz1, hz2⟩ := info_parts info_life
                  have HOZ := hide ((own_bl HOW.out HBZ.out).alloc (.cells #[.int .i64 fv, .int .i64 tv, .int .i64 SN] 31))
                  have HNW := World.alloc_heap_new wr (.cells #[.int .i64 fv, .int .i64 tv, .int .i64 SN] 31)
                  have HNWC : Hid (∀ (q : Nat) (u : Value), [Value.int .i64 fv, .int .i64 tv, .int .i64 SN][q]? = some u → (wr.alloc (.cells #[.int .i64 fv, .int .i64 tv, .int .i64 SN] 31)).cell? ((⟨wr.heap.size, 0, none⟩ : Addr).add q) = some u) := fun q u hu => by
                    rw [Go.WideShapes.add_plain]
                    simp only [World.cell?, HNW, Nat.zero_add]
                    simpa using hu
                  have HI0 := hide hi0
                  have HZ0 := hide hz0
                  have HZ1 := hide hz1
                  have HZ2 := hide hz2
                  have hsz3 : w1.heap.size ≤ wr.heap.size := by have := HBZ.out.size; omega
                  clear HNW hi0 hz0 hz1 hz2
                  go_wp2_with (at_builtin; refine wpList_append_own _ (by rfl) (.tmp 93) (.tmp 95) 26 (by rfl) w1.heap.size 31 i0 (.agg #[.int .i64 0, .int .i64 0, .int .i64 0]) 3 24 Try.underlying26 HI0.out HZ0.out HZ1.out HZ2.out rfl (by omega) _ k (lvCs (frV P) (toV l outs) (wdV G.1) k) (by rfl) HOZ.out ⟨wr.heap.size, 0, none⟩ 1 1 [.int .i64 fv, .int .i64 tv, .int .i64 SN] (by rfl) (by rfl) HNWC.out (by intro u hu; simp at hu; rcases hu with rfl | rfl | rfl <;> rfl) (by unfold maxLen; omega) (by omega) (by simp; omega) ?_; intro v4 w4 hown4 hg4 _; have HOW4 := hide hown4; have HG4 := hide hg4; clear hown4 hg4)
                  go_roundw
                  case rel =>
                    refine ⟨k + 1, by have := HLT.out; omega, by go_num, ?_, ?_⟩
                    · rw [lvCs, ← HFV2.out, ← HTV2.out, HSN.out]
                      exact HOW4.out
                    · exact ((bl_on HB.out HBZ.out).alloc (by omega) _).grown HG4.out (by simp; omega) (fun j e => (World.ownsRow.lt HOW.out j e).1)
                  case measure => have := HLT.out; simp [intOf]; omega
        · have HFV : Hid (frV P k = (k : Int)) := by rw [Hid]; unfold frV; rw [if_neg hkP]
          go_upto_region 12 with fail
          obtain ⟨Wc, hWc⟩ : ∃ Wc, Wc = w5 := ⟨_, rfl⟩
          rw [← hWc]
          have HXc : Hid (BoxL Wc WR.heap.size (frV P k) (toD l k 0) SN) := by rw [Hid, hWc, HFV.out]; exact HX5.out
          have HBc : Hid (Below WR.heap.size WR Wc) := by rw [Hid, hWc]; exact HB5.out
          have hsc : WR.heap.size < Wc.heap.size := HXc.out.lt
          clear hWc x0 x1 x2 x3 x4 hkP
          have HGc := hide ((HG1.out.below (HB.out.mono hs1)).below (HBc.out.mono (show w.heap.size + 1 ≤ WR.heap.size by omega)))
          obtain ⟨g2, g3⟩ := HGc.out
          go_wp2
          go_loopw [51] (fun i wq => ∃ j : Nat, j ≤ n4 ∧ i = .int .i64 j ∧ BoxL wq WR.heap.size (frV P k) (toD l k j) SN ∧ Below WR.heap.size WR wq) (fun i _ => n4 - (intOf i).toNat)
          case atStart => exact ⟨0, Nat.zero_le _, rfl, HXc.out, HBc.out⟩
          case round =>
            clear g2 g3
            obtain ⟨j, hj, rfl, hx, hbq⟩ := hrel
            have HX := hide hx
            have HBQ := hide hbq
            have HBQw := hide (bl_on HBw.out hbq)
            have hxl := hx.lt
            clear hx hbq
            by_cases hjl : j < n4
            · obtain ⟨b, off, rfl, hc⟩ := H.out.at (by omega)
              obtain ⟨u, hu0, hi⟩ := hc j hjl
              have hu := hu0.below HBQw.out
              have HNA := hide (hi.ar)
              have HFJ := hide (HFAR.out j hjl)
              obtain ⟨c0, c1, c2, c3, c4', c5, c6, c7⟩ := hu
              have z := lt_of_cell c0
              simp only at z
              have i2 : (j : Int) < (n4 : Int) := by omega
              clear hc hi
              obtain ⟨ku, ⟨ea, el, ec⟩, ⟨pa, pl, pc⟩, ⟨la, ll, lc⟩, ⟨ha, hl, hhc⟩, ⟨ta, tl, tc⟩, x, ⟨aa, al, ac⟩⟩ := u
              simp only [Sw.v] at c0 c1 c2 c3 c4' c5 c6 c7
              have HNA2 : Hid (Ints w aa al (l[j]?.getD ndD).ar) := HNA.out.1.1
              have hal : al ≤ 1048576 := HNA.out.2
              obtain ⟨xs, hxs⟩ : ∃ xs, xs = (l[j]?.getD ndD).ar := ⟨_, rfl⟩
              rw [← hxs] at HNA2 HFJ
              have HTA : Hid (toA l k j xs = toD l k (j + 1)) := by rw [Hid, hxs]; rfl
              clear hxs HNA
              obtain ⟨WQ, hWQ⟩ : ∃ WQ, WQ = wr := ⟨_, rfl⟩
              subst hWQ
              go_wp2
              go_loopw [59] (fun i wz => ∃ t : Nat, t ≤ al ∧ i = .int .i64 t ∧ BoxL wz WR.heap.size (frV P k) (toA l k j (xs.take t)) SN ∧ Below WR.heap.size WR wz) (fun i _ => al - (intOf i).toNat)
              case atStart =>
                refine ⟨0, Nat.zero_le _, rfl, HX.out.keep (Below.heap_alloc _ _ _ hxl), HBQ.out.alloc (by omega) _⟩
              case round =>
                clear c0 c1 c2 c3 c4' c5 c6 c7
                obtain ⟨t, ht, rfl, hx, hbq⟩ := hrel
                have HX3 := hide hx
                have HBZ := hide hbq
                have HIA := hide (HNA2.out.below (bl_on HBw.out hbq))
                obtain ⟨y0, y1, y2, y3, y4⟩ := hx.cells
                have hyl := hx.lt
                clear hx hbq
                by_cases htl : t < al
                · obtain ⟨ba, oa', rfl, hba, hca⟩ := HIA.out.at (by omega)
                  have hct := hca t htl
                  have htx : t < xs.length := by rw [HIA.out.1]; exact htl
                  have HTS := hide (toA_step (l := l) (k := k) (j := j) htx)
                  have hbd := farA_at HFJ.out t htx
                  obtain ⟨q, hq⟩ : ∃ q : Nat, xs[t]?.getD 0 = (q : Int) := ⟨(xs[t]?.getD 0).toNat, by omega⟩
                  rw [hq] at hct HTS hbd
                  have hqj : q < j := by omega
                  obtain ⟨cur, hcur⟩ : ∃ cur, cur = toA l k j (xs.take t) := ⟨_, rfl⟩
                  rw [← hcur] at HTS y1 HX3
                  have HCUR := hide hcur
                  have i3 : (t : Int) < (al : Int) := by omega
                  have HHQ := hide hq
                  clear hca hq hbd hcur htx
                  by_cases hqk : q = k
                  · subst hqk
                    rw [if_pos rfl] at HTS
                    by_cases hgt : cur < (j : Int) + 1
                    · go_wp2
                      go_roundw
                      case rel =>
                        refine ⟨t + 1, by omega, by go_num, by rw [HTS.out]; exact HX3.out.set1 _, HBZ.out.setCell (p := ⟨WR.heap.size, 1, none⟩) (Nat.le_refl _) _⟩
                      case measure => simp [intOf]; omega
                    · have HEQ : Hid (cur = (j : Int) + 1) := by
                        rw [Hid]
                        have h1 := HCUR.out
                        unfold toA at h1
                        by_cases e : memI (xs.take t) q = true
                        · rw [if_pos e] at h1; exact h1
                        · rw [if_neg e] at h1
                          have := toD_le l q j
                          omega
                      go_wp2
                      go_roundw
                      case rel => exact ⟨t + 1, by omega, by go_num, by rw [HTS.out, ← HEQ.out]; exact HX3.out, HBZ.out⟩
                      case measure => simp [intOf]; omega
                  · have hqe : ((q : Int) == (k : Int)) = false := by simp; omega
                    rw [if_neg (by omega)] at HTS
                    clear hqk
                    go_wp2
                    go_roundw
                    case rel => exact ⟨t + 1, by omega, by go_num, by rw [HTS.out]; exact HX3.out, HBZ.out⟩
                    case measure => simp [intOf]; omega
                · obtain rfl : t = al := by omega
                  have HTT : Hid (xs.take t = xs) := List.take_of_length_le (by rw [HIA.out.1]; exact Nat.le_refl _)
                  go_wp2
                  go_roundw
                  case rel => exact ⟨j + 1, by omega, by go_num, by have := HX3.out; rwa [HTT.out, HTA.out] at this, HBZ.out⟩
                  case measure => simp [intOf]; omega
            · obtain rfl : j = n4 := by omega
              have HGq := hide ((HG1.out.below (HB.out.mono hs1)).below (HBQ.out.mono (show w.heap.size + 1 ≤ WR.heap.size by omega)))
              obtain ⟨g2, g3⟩ := HGq.out
              have hol := HO.out.2.1
              go_wp2
              go_loopw [81] (fun i wz => ∃ t : Nat, t ≤ ol ∧ i = .int .i64 t ∧ BoxL wz WR.heap.size (frV P k) (toO l j k (outs.take t)) SN ∧ Below WR.heap.size WR wz) (fun i _ => ol - (intOf i).toNat)
              case atStart => exact ⟨0, Nat.zero_le _, rfl, by simpa [toO, memI] using HX.out, HBQ.out⟩
              case round =>
                clear g2 g3
                obtain ⟨t, ht, rfl, hx, hbq⟩ := hrel
                have HX3 := hide hx
                have HBZ := hide hbq
                have HIA := hide (HO.out.below (bl_on HBw.out hbq))
                obtain ⟨y0, y1, y2, y3, y4⟩ := hx.cells
                have hyl := hx.lt
                clear hx hbq
                by_cases htl : t < ol
                · obtain ⟨ba, oa', rfl, hba, hca⟩ := HIA.out.at (by omega)
                  have hct := hca t htl
                  have htx : t < outs.length := by rw [HIA.out.1]; exact htl
                  have HTS := hide (toO_step (l := l) (n := j) (k := k) htx)
                  obtain ⟨q, hq⟩ : ∃ q, q = outs[t]?.getD 0 := ⟨_, rfl⟩
                  rw [← hq] at hct HTS
                  have i3 : (t : Int) < (ol : Int) := by omega
                  clear hca hq htx
                  by_cases hqk : q = (k : Int)
                  · have hqe : (q == (k : Int)) = true := by simp [hqk]
                    rw [if_pos hqk] at HTS
                    clear hqk
                    go_wp2
                    go_roundw
                    case rel => exact ⟨t + 1, by omega, by go_num, by rw [HTS.out]; exact HX3.out.set1 _, HBZ.out.setCell (p := ⟨WR.heap.size, 1, none⟩) (Nat.le_refl _) _⟩
                    case measure => simp [intOf]; omega
                  · have hqe : (q == (k : Int)) = false := by simp [hqk]
                    rw [if_neg hqk] at HTS
                    clear hqk
                    go_wp2
                    go_roundw
                    case rel => exact ⟨t + 1, by omega, by go_num, by rw [HTS.out]; exact HX3.out, HBZ.out⟩
                    case measure => simp [intOf]; omega
                · obtain rfl : t = ol := by omega
                  have HTT : Hid (toO l j k (outs.take t) = toV l outs k) := by rw [Hid, List.take_of_length_le (by rw [HIA.out.1]; exact Nat.le_refl _), HTV.out]
                  rw [HTT.out] at y1 HX3
                  obtain ⟨tv, htv⟩ : ∃ tv, tv = toV l outs k := ⟨_, rfl⟩
                  obtain ⟨fv, hfv⟩ : ∃ fv, fv = frV P k := ⟨_, rfl⟩
                  rw [← htv] at y1
                  rw [← hfv] at y0
                  have HTV2 := hide htv
                  have HFV2 := hide hfv
                  clear htv hfv HTT
                  obtain ⟨i0, hi0, hz0, hz1, hz2⟩ := info_parts info_life
                  have HOZ := hide ((own_bl HOW.out HBZ.out).alloc (.cells #[.int .i64 fv, .int .i64 tv, .int .i64 SN] 31))
                  have HNW := World.alloc_heap_new wr (.cells #[.int .i64 fv, .int .i64 tv, .int .i64 SN] 31)
                  have HNWC : Hid (∀ (q : Nat) (u : Value), [Value.int .i64 fv, .int .i64 tv, .int .i64 SN][q]? = some u → (wr.alloc (.cells #[.int .i64 fv, .int .i64 tv, .int .i64 SN] 31)).cell? ((⟨wr.heap.size, 0, none⟩ : Addr).add q) = some u) := fun q u hu => by
                    rw [Go.WideShapes.add_plain]
                    simp only [World.cell?, HNW, Nat.zero_add]
                    simpa using hu
                  have HI0 := hide hi0
                  have HZ0 := hide hz0
                  have HZ1 := hide hz1
                  have HZ2 := hide hz2
                  have hsz3 : w1.heap.size ≤ wr.heap.size := by have := HBZ.out.size; omega
                  clear HNW hi0 hz0 hz1 hz2
                  go_wp2_with (at_builtin; refine wpList_append_own _ (by rfl) (.tmp 93) (.tmp 95) 26 (by rfl) w1.heap.size 31 i0 (.agg #[.int .i64 0, .int .i64 0, .int .i64 0]) 3 24 Try.underlying26 HI0.out HZ0.out HZ1.out HZ2.out rfl (by omega) _ k (lvCs (frV P) (toV l outs) (wdV G.1) k) (by rfl) HOZ.out ⟨wr.heap.size, 0, none⟩ 1 1 [.int .i64 fv, .int .i64 tv, .int .i64 SN] (by rfl) (by rfl) HNWC.out (by intro u hu; simp at hu; rcases hu with rfl | rfl | rfl <;> rfl) (by unfold maxLen; omega) (by omega) (by simp; omega) ?_; intro v4 w4 hown4 hg4 _; have HOW4 := hide hown4; have HG4 := hide hg4; clear hown4 hg4)
                  go_roundw
                  case rel =>
                    refine ⟨k + 1, by have := HLT.out; omega, by go_num, ?_, ?_⟩
                    · rw [lvCs, ← HFV2.out, ← HTV2.out, HSN.out]
                      exact HOW4.out
                    · exact ((bl_on HB.out HBZ.out).alloc (by omega) _).grown HG4.out (by simp; omega) (fun j e => (World.ownsRow.lt HOW.out j e).1)
                  case measure => have := HLT.out; simp [intOf]; omega
      · obtain rfl : k = n4 := by omega
        go_wp2
        go_ret2
        exact ⟨HLV.out _ _ (.inr ⟨HG00.out, _, _, rfl, HOW.out⟩), HBw.out⟩
  · have hq : (G.2 != 0) = true := by simp [hg0]
    have HG00 := hide hg0
    clear hg0
    go_wp2
    go_ret2
    exact ⟨HLV.out _ _ (.inl ⟨HG00.out, rfl⟩), HB1.out⟩
end Go.Proofs.Ytdoffjddjfgcfaa.V
namespace Go.Proofs.Ytdoffjddjfgcfaa.V
set_option maxRecDepth 20000
open Go.RowKit
set_option linter.unusedVariables false

/-- A row of lives that was answered, as a value. -/
def LvAt (w : World) (X : Option Addr) (n : Nat) (F T W : Nat → Int) : Prop := n = 0 ∨ ∃ g, X = some ⟨g, 0, none⟩ ∧ ∀ k, k < n → w.cell? ⟨g, k * 3, none⟩ = some (.int .i64 (F k)) ∧ w.cell? ⟨g, k * 3 + 1, none⟩ = some (.int .i64 (T k)) ∧ w.cell? ⟨g, k * 3 + 2, none⟩ = some (.int .i64 (W k))
theorem LvAt.below {w w' : World} {X : Option Addr} {n : Nat} {F T W : Nat → Int} (h : LvAt w X n F T W) (hb : Below w.heap.size w w') : LvAt w' X n F T W := by
  rcases h with h | ⟨g, e, h⟩
  · exact .inl h
  · refine .inr ⟨g, e, fun k hk => ?_⟩
    obtain ⟨h1, h2, h3⟩ := h k hk
    exact ⟨(hb.cell (p := ⟨g, k * 3, none⟩) (lt_of_cell h1)).trans h1, (hb.cell (p := ⟨g, k * 3 + 1, none⟩) (lt_of_cell h2)).trans h2, (hb.cell (p := ⟨g, k * 3 + 2, none⟩) (lt_of_cell h3)).trans h3⟩
theorem lv_row {w : World} {g n : Nat} {F T W : Nat → Int} (h : RowL w g n F T W) : LvAt w (some ⟨g, 0, none⟩) n F T W := .inr ⟨g, rfl, fun k hk => ⟨h.c0 hk, h.c1 hk, h.c2 hk⟩⟩
theorem lv_own {w : World} {B n : Nat} {v : Value} {F T W : Nat → Int} (h : w.ownsRow B 31 3 v n (lvCs F T W n)) : ∃ X c, v = .slice X n c ∧ LvAt w X n F T W := by
  rcases h.2 with ⟨rfl, h0⟩ | ⟨g, cap, cur, rfl, _, hg, _, _, _, ht⟩
  · subst h0; exact ⟨none, 0, rfl, .inl rfl⟩
  · refine ⟨_, cap, rfl, .inr ⟨g, rfl, fun k hk => ?_⟩⟩
    obtain ⟨a1, a2, a3⟩ := lvCs_at F T W n k hk
    have key : ∀ i u, (lvCs F T W n)[i]? = some u → w.cell? ⟨g, i, none⟩ = some u := fun i u hu => by
      rw [← ht, List.getElem?_take] at hu
      split at hu
      · simp only [World.cell?, hg]; simpa using hu
      · cases hu
    exact ⟨key _ _ a1, key _ _ a2, key _ _ a3⟩

set_option maxRecDepth 100000 in
set_option maxHeartbeats 4000000 in
theorem roomLives_walk (A : Option Addr) (n cap : Nat) (l : List Nd) (oa : Option Addr) (ol oc : Nat) (outs : List Int) (w : World) (h : Nds w A n l) (ho : Ints w oa ol outs) :
    Calls Try.prog 3 #[.agg #[.slice A n cap, .slice oa ol oc]] w fun e w' => e = .returned (.bool true) ∧ Below w.heap.size w w' := by
  have HB0 := hide (bl_new (w := w) (.cells #[.slice A n cap, .slice oa ol oc] 25))
  have HG0 := hide (GrAt.new w A n cap oa ol oc)
  obtain ⟨g0, g1⟩ := HG0.out
  have HL := hide (lives_any A n cap l oa ol oc outs _ (h.below HB0.out) (ho.below HB0.out))
  have HR := hide (fun W (hW : Below w.heap.size w W) => rLives_any A n cap l oa ol oc outs W (h.below hW) (ho.below hW))
  have hm := h.2.1
  have HNL := hide h.1
  clear h ho
  go_enter Try.func3, Try.ntmps3
  go_wp2_with fail
  refine HL.out.mono ?_
  rintro e w1 ⟨hlv, hb1⟩
  have HB1 := hide (bl_on HB0.out hb1)
  have HG1 := hide (HG0.out.below (by simpa using hb1))
  clear hb1 g0 g1
  obtain ⟨g0, g1⟩ := HG1.out
  by_cases hg0 : (grP l outs).2 = 0
  · rcases hlv with ⟨hne, _⟩ | ⟨_, g, rfl, hrow⟩
    · exact absurd hg0 hne
    have HLV := hide (lv_row hrow)
    clear hrow
    obtain ⟨F, hF⟩ : ∃ F, F = frV (parN l) := ⟨_, rfl⟩
    obtain ⟨T, hT⟩ : ∃ T, T = toV l outs := ⟨_, rfl⟩
    obtain ⟨Wd, hWd⟩ : ∃ Wd, Wd = wdV (grP l outs).1 := ⟨_, rfl⟩
    rw [HNL.out, ← hF, ← hT, ← hWd] at HLV
    rw [HNL.out]
    go_wp2_with fail
    refine (HR.out _ HB1.out).mono ?_
    rintro e w2 ⟨hlv2, hb2⟩
    rcases hlv2 with ⟨hne, _⟩ | ⟨_, v, B, rfl, hown⟩
    · exact absurd hg0 hne
    rw [HNL.out, ← hF, ← hT, ← hWd] at hown
    obtain ⟨X, c, rfl, hlv2⟩ := lv_own hown
    have HLV2 := hide hlv2
    have HLV1 := hide (HLV.out.below hb2)
    have HB2 := hide (bl_on HB1.out hb2)
    clear hown hlv2 hb2 hg0 g0 g1 hF hT hWd HLV
    go_wp2
    go_loopw [30] (fun i wr => ∃ k : Nat, k ≤ n ∧ i = .int .i64 k ∧ ∃ m, wr = w2.drewN m) (fun i _ => n - (intOf i).toNat)
    case atStart => exact ⟨0, Nat.zero_le _, rfl, 0, rfl⟩
    case round =>
      obtain ⟨k, hk, rfl, m, hwr⟩ := hrel
      have HBr : Hid (Below w2.heap.size w2 wr) := by rw [hwr]; exact below_drewN _ _
      have HWR := hide hwr
      clear hwr
      by_cases hlt : k < n
      · obtain ⟨g', e1, h1⟩ := (HLV1.out.below HBr.out).resolve_left (by omega)
        cases e1
        obtain ⟨g2, rfl, h2⟩ := (HLV2.out.below HBr.out).resolve_left (by omega)
        obtain ⟨a0, a1, a2⟩ := h1 k hlt
        obtain ⟨b0, b1, b2⟩ := h2 k hlt
        have i1 : (k : Int) < (n : Int) := by omega
        clear h1 h2
        go_wp2
        go_quiet (fail)
        go_wp2
        exact ⟨⟨k + 1, by omega, by go_num, _, by rw [HWR.out, World.drewN_drewN]⟩, by simp [intOf]; omega⟩
      · go_wp2
        go_ret
        exact ⟨rfl, bl_on HB2.out HBr.out⟩
  · rcases hlv with ⟨_, rfl⟩ | ⟨h0, _⟩
    · go_wp2_with fail
      refine (HR.out _ HB1.out).mono ?_
      rintro e w2 ⟨hlv2, hb2⟩
      rcases hlv2 with ⟨_, rfl⟩ | ⟨h0, _⟩
      · have HB2 := hide (bl_on HB1.out hb2)
        obtain ⟨E, hE⟩ : ∃ E, E = (grP l outs).2 := ⟨_, rfl⟩
        rw [← hE]
        clear hE hg0 hb2 g0 g1
        go_wp2
        go_loopw [30] (fun i wr => i = .int .i64 0 ∧ wr = w2) (fun _ _ => 0)
        case atStart => exact ⟨rfl, rfl⟩
        case round =>
          obtain ⟨rfl, rfl⟩ := hrel
          go_wp2
          go_ret
          exact ⟨rfl, HB2.out⟩
      · exact absurd h0 hg0
    · exact absurd h0 hg0
end Go.Proofs.Ytdoffjddjfgcfaa.V
