/-
  Contract: adjointref1.Flip.
-/
import Derived.Test.YtfamaaahofjglaaFlipAny
import Derived.Test.YtfamaaahofjglaaRTurnAny
namespace Go.Proofs.Ytfamaaahofjglaa.V
open Go.RowKit

/-- The Start, when the first k steps are through. -/
def rAcc (s : Int) (ds ss at' : List Int) : Nat → Int
  | 0 => s
  | k + 1 => rAcc s ds ss at' k + (if inB at' k = true then flipTerm ds ss k else 0)
theorem rAcc_bd {s : Int} {ds ss : List Int} (h : Small s ds ss) (at' : List Int) : ∀ i, -(1099511627776 + 4502500115742720 * i) ≤ rAcc s ds ss at' i ∧ rAcc s ds ss at' i ≤ 1099511627776 + 4502500115742720 * i
  | 0 => by have := h.start; simp [rAcc]; omega
  | i + 1 => by
    have h1 := rAcc_bd h at' i
    have h2 := flipTerm_bd h i
    rw [rAcc]; split <;> omega

/-- A sum over those below n that a list names. -/
def sumB (f : Nat → Int) (b : Nat → Bool) : Nat → Int
  | 0 => 0
  | k + 1 => sumB f b k + (if b k = true then f k else 0)
theorem sumB_add (f : Nat → Int) (b c : Nat → Bool) (m : Nat) (hb : b m = false) (hc : ∀ j, c j = (b j || decide (j = m))) : ∀ n, sumB f c n = sumB f b n + (if m < n then f m else 0)
  | 0 => by simp [sumB]
  | n + 1 => by
    rw [sumB, sumB, sumB_add f b c m hb hc n, hc n]
    by_cases e : n = m
    · subst e; simp [hb]
    · by_cases l : m < n
      · have l' : m < n + 1 := by omega
        simp [e, l, l']; omega
      · have l' : ¬ m < n + 1 := by omega
        simp [e, l, l']
theorem sumB_none (f : Nat → Int) (b : Nat → Bool) (h : ∀ j, b j = false) : ∀ n, sumB f b n = 0
  | 0 => rfl
  | n + 1 => by rw [sumB, sumB_none f b h n, h n]; simp
theorem rAcc_eq (s : Int) (ds ss at' : List Int) : ∀ n, rAcc s ds ss at' n = s + sumB (flipTerm ds ss) (inB at') n
  | 0 => by simp [rAcc, sumB]
  | n + 1 => by rw [rAcc, rAcc_eq s ds ss at' n, sumB]; omega
theorem flipAcc_eq (s : Int) (ds ss at' : List Int) (n : Nat) (h : RiseOk at' n) : ∀ i, i ≤ at'.length → flipAcc s ds ss at' i = s + sumB (flipTerm ds ss) (inB (at'.take i)) n
  | 0, _ => by rw [flipAcc, sumB_none _ _ (fun j => by simp [inB])]; omega
  | i + 1, hi => by
    have h0 := h i (by omega)
    obtain ⟨m, hm⟩ : ∃ m : Nat, at'[i]?.getD 0 = (m : Int) := ⟨(at'[i]?.getD 0).toNat, by omega⟩
    have hml : m < n := by omega
    rw [flipAcc, flipAcc_eq s ds ss at' n h i (by omega), hm, Int.toNat_natCast]
    rw [sumB_add (flipTerm ds ss) (inB (at'.take i)) (inB (at'.take (i + 1))) m ?_ ?_ n, if_pos hml]
    · omega
    · cases c : inB (at'.take i) m with
      | false => rfl
      | true =>
        simp only [inB, List.any_eq_true, beq_iff_eq] at c
        obtain ⟨x, hx, he⟩ := c
        obtain ⟨j, hj, hxe⟩ := List.getElem_of_mem hx
        simp only [List.length_take] at hj
        rw [List.getElem_take] at hxe
        have := rise_lt h j i (by omega) (by omega)
        rw [hm] at this
        rw [List.getElem?_eq_getElem (by omega)] at this
        simp only [Option.getD_some] at this
        omega
    · intro j
      unfold inB
      rw [take_succ_getD at' i (by omega), List.any_append, hm]
      congr 1
      simp only [List.any_cons, List.any_nil, Bool.or_false]
      by_cases e : j = m
      · simp [e]
      · have : ¬ ((m : Int) = (j : Int)) := by omega
        simp [e, this]
theorem rAcc_flipAcc (s : Int) (ds ss at' : List Int) (n : Nat) (h : RiseOk at' n) : rAcc s ds ss at' n = flipAcc s ds ss at' at'.length := by
  rw [rAcc_eq, flipAcc_eq s ds ss at' n h at'.length (Nat.le_refl _), List.take_length]

theorem ViewAt.grown' {w w2 : World} {C : Nat} {c0 c1 c2 : Value} (h : ViewAt w C c0 c1 c2) {B n : Nat} {v : Value} {xs : List Value} {o : Obj} (ho : w.ownsRow B 3 1 v n xs) (hg : (w.alloc o).grownBy w2 v.ownBlock) : ViewAt w2 C c0 c1 c2 :=
  (hg.block C (by have := h.lt; simp; omega) (view_ne_row h ho)).trans (h.alloc o)
theorem grown_below' {w wr w2 : World} {n : Nat} {v : Value} {xs : List Value} {o : Obj} (hB : Below w.heap.size w wr) (ho : wr.ownsRow w.heap.size 3 1 v n xs) (hg : (wr.alloc o).grownBy w2 v.ownBlock) : Below w.heap.size w w2 := by
  refine (hB.alloc hB.size o).grown hg (by have := hB.size; simp; omega) (fun j e => ?_)
  exact (ho.lt j e).1
theorem row_ne_view {w : World} {C n c B m : Nat} {Y : Option Addr} {c0 c1 c2 : Value} {xs : List Value} (ho : w.ownsRow B 3 1 (.slice Y n c) m xs) (h : ViewAt w C c0 c1 c2) : ∀ g o, Y = some ⟨g, o, none⟩ → g ≠ C := by
  intro g o hY e
  subst hY; subst e
  rcases ho.2 with ⟨h2, _⟩ | ⟨g', cap, cur, h1, _, hgb, _⟩
  · simp at h2
  · cases h1
    unfold ViewAt at h
    rw [h] at hgb
    simp at hgb
theorem own_far {w : World} {n c B m : Nat} {Y : Option Addr} {xs : List Value} (ho : w.ownsRow B 3 1 (.slice Y n c) m xs) : Far B Y := by
  intro g o e
  subst e
  rcases ho.2 with ⟨h2, _⟩ | ⟨g', cap, cur, h1, _⟩
  · simp at h2
  · cases h1
    exact (ho.lt g rfl).1
theorem ints_set3o {w : World} {Y : Option Addr} {len B : Nat} {xs : List Int} {a b c : Value} (h : Ints w Y len xs) (hne : ∀ g o, Y = some ⟨g, o, none⟩ → g ≠ B) : Ints (((w.setCell ⟨B, 0, none⟩ a).setCell ⟨B, 1, none⟩ b).setCell ⟨B, 2, none⟩ c) Y len xs := by
  obtain ⟨h1, h2, h3, h4⟩ := h
  refine ⟨h1, h2, h3, ?_⟩
  rcases h4 with h4 | ⟨b', off, ha, hc⟩
  · exact .inl h4
  · have hne := hne b' off ha
    have e : (((w.setCell ⟨B, 0, none⟩ a).setCell ⟨B, 1, none⟩ b).setCell ⟨B, 2, none⟩ c).heap[b']? = w.heap[b']? :=
      ((Below.heap_setCell _ ⟨B, 2, none⟩ _ b' hne).trans (Below.heap_setCell _ ⟨B, 1, none⟩ _ b' hne)).trans (Below.heap_setCell _ ⟨B, 0, none⟩ _ b' hne)
    exact .inr ⟨_, _, ha, fun j hj => (World.cell?_of_block (w := w) e).trans (hc j hj)⟩
theorem flipL_take_succ (ss at' : List Int) (k : Nat) (h : k < ss.length) (y : Int) (hy : y = if inB at' k = true then -(ss[k]?.getD 0) else ss[k]?.getD 0) : ((flipL ss at').take (k + 1)).map (Value.int .i64) = ((flipL ss at').take k).map (Value.int .i64) ++ [.int .i64 y] := by
  rw [take_succ_getD (flipL ss at') k (by rw [flipL_length]; exact h), List.map_append, flipL_getD ss at' k h, ← hy]
  simp

set_option maxRecDepth 100000 in
set_option maxHeartbeats 4000000 in
theorem rflip_ok (s : Int) (da : Option Addr) (dl dc : Nat) (ds : List Int) (sa : Option Addr) (sc : Nat) (ss : List Int) (a : Option Addr) (len cap : Nat) (ps : List Int) (w : World)
    (hd : Ints w da dl ds) (hs : Ints w sa dl ss) (hp : Ints w a len ps) (hW : wrongE s ds ss = 0) (hP : RiseOk ps dl) (h6 : dl ≤ 6) (hdc : dl ≤ dc) :
    Calls Try.prog 20 #[.agg #[.int .i64 s, .slice da dl dc, .slice sa dl sc], .slice a len cap] w fun e w' => (if wrongE (rAcc s ds ss ps dl) ds (flipL ss ps) ≠ 0 then GivesF w da e w' 0 [] [] 5 else GivesF w da e w' (rAcc s ds ss ps dl) ds (flipL ss ps) 0) ∧ Below w.heap.size w w' := by
  have hsm := small_of hW
  have HSM := hide hsm
  have HD := hide hd
  have HS := hide hs
  have HP := hide hp
  have HW := hide hW
  have HPO := hide hP
  clear hd hs hp hW hP hsm
  have hb2 : Below w.heap.size w ((w.alloc (.cells #[.int .i64 s, .slice da dl dc, .slice sa dl sc] 24)).alloc (.cells #[.int .i64 0, .slice none 0 0, .slice none 0 0] 24)) := ((Below.refl _ _).alloc (Nat.le_refl _) _).alloc (by simp) _
  have HB2 := hide hb2
  clear hb2
  obtain ⟨i0, hi, hz0, hz1, hz2⟩ := info_parts info_int
  have HI := hide hi
  have HZ0 := hide hz0
  have HZ1 := hide hz1
  have HZ2 := hide hz2
  clear hi hz0 hz1 hz2
  go_enter Try.func20, Try.ntmps20
  go_wp2_with fail
  refine (rwrong_any _ _ _ _ ds _ _ _ ss _ (HD.out.below HB2.out) (HS.out.below HB2.out)).mono ?_
  rintro e w1 ⟨rfl, hb⟩
  rw [HW.out]
  have HB := hide (Below.on HB2.out hb)
  have hV1 : ViewAt w1 w.heap.size (.int .i64 s) (.slice da dl dc) (.slice sa dl sc) := ((ViewAt.new w _ _ _).alloc _).below hb
  have hR1 : ViewAt w1 (w.heap.size + 1) (.int .i64 0) (.slice none 0 0) (.slice none 0 0) := by
    have := (ViewAt.new (w.alloc (.cells #[.int .i64 s, .slice da dl dc, .slice sa dl sc] 24)) (.int .i64 0) (.slice none 0 0) (.slice none 0 0)).below hb
    simpa using this
  have HV1 := hide hV1
  have HR1 := hide hR1
  have hwl := hR1.lt
  have hwl0 := hV1.lt
  obtain ⟨⟨v0, v1, v2⟩, _⟩ := hV1.cells
  clear hb hV1 hR1
  go_wp2_with fail
  refine (rrising_any _ _ _ ps dl _ (HP.out.below HB.out) h6).mono ?_
  rintro e w2 ⟨⟨r, rfl, hr⟩, hw⟩
  obtain rfl := hw.symm
  obtain rfl : r = true := hr.2 HPO.out
  clear hr hw
  go_wp2_with fail
  have hC : ViewAt (w1.alloc (.cells #[.int .i64 s, .slice da dl dc, .slice none 0 0] 24)) w1.heap.size (.int .i64 s) (.slice da dl dc) (.slice none 0 0) := ViewAt.new w1 _ _ _
  go_loopw [31] (fun i wr => ∃ k : Nat, k ≤ dl ∧ i = .int .i64 k ∧ ∃ (Y : Option Addr) (d : Nat), (ViewAt wr w1.heap.size (.int .i64 (rAcc s ds ss ps k)) (.slice da dl dc) (.slice Y k d) ∧ wr.ownsRow w.heap.size 3 1 (.slice Y k d) k (((flipL ss ps).take k).map (Value.int .i64))) ∧ (ViewAt wr w.heap.size (.int .i64 s) (.slice da dl dc) (.slice sa dl sc) ∧ ViewAt wr (w.heap.size + 1) (.int .i64 0) (.slice none 0 0) (.slice none 0 0)) ∧ Below w.heap.size w wr) (fun i _ => dl - (intOf i).toNat)
  case atStart =>
    exact ⟨0, Nat.zero_le _, rfl, none, 0, ⟨hC, World.ownsRow_nil _ _ _ _⟩, ⟨HV1.out.alloc _, HR1.out.alloc _⟩, HB.out.alloc HB.out.size _⟩
  case round =>
    clear hC v0 v1 v2
    obtain ⟨k, hk, rfl, Y, d, ⟨hO, hY⟩, ⟨hv, hr⟩, hB⟩ := hrel
    have HO := hide hO
    have HY := hide hY
    have HV := hide hv
    have HR := hide hr
    have HBw := hide hB
    clear hO hY hv hr hB
    by_cases hlt : k < dl
    · obtain ⟨db, doff, rfl, hdb, hdc'⟩ := HD.out.at (by omega)
      obtain ⟨sb, soff, rfl, hsb, hsc⟩ := HS.out.at (by omega)
      obtain ⟨X, hX⟩ : ∃ X, X = ds[k]?.getD 0 := ⟨_, rfl⟩
      obtain ⟨T, hT⟩ : ∃ T, T = ss[k]?.getD 0 := ⟨_, rfl⟩
      obtain ⟨A, hA⟩ : ∃ A, A = rAcc s ds ss ps k := ⟨_, rfl⟩
      have cd : wr.cell? ⟨db, doff + k, none⟩ = some (.int .i64 X) := by rw [hX]; exact (HBw.out.cell (p := ⟨db, doff + k, none⟩) hdb).trans (hdc' k hlt)
      have cs : wr.cell? ⟨sb, soff + k, none⟩ = some (.int .i64 T) := by rw [hT]; exact (HBw.out.cell (p := ⟨sb, soff + k, none⟩) hsb).trans (hsc k hlt)
      have HX := hide hX
      have HT := hide hT
      have HA := hide hA
      have b1 : 0 ≤ X ∧ X ≤ 4096 := by rw [hX]; exact HSM.out.dims _ (mem_getD ds k (by have := HD.out.1; omega))
      have b2 : -1099511627776 ≤ T ∧ T ≤ 1099511627776 := by rw [hT]; exact HSM.out.steps _ (mem_getD ss k (by have := HS.out.1; omega))
      have b3 := rAcc_bd HSM.out ps k
      have HKL : Hid (k < ss.length) := by rw [Hid, HS.out.1]; exact hlt
      rw [← hA] at b3
      rw [← hA] at HO
      obtain ⟨⟨v0, v1, v2⟩, _⟩ := HV.out.cells
      obtain ⟨⟨o0, o1, o2⟩, p0, p1, p2⟩ := HO.out.cells
      have i1 : (0 : Int) ≤ (k : Int) := Int.natCast_nonneg _
      have i2 : (k : Int) < (dl : Int) := by omega
      clear hdc' hsc hX hT hA
      obtain ⟨B, hBe⟩ : ∃ B, B = inB ps k := ⟨_, rfl⟩
      have HBE := hide hBe
      clear hBe
      go_upto_if 38 with (go_at_call 40; refine (has_any _ _ _ ps _ _ (HP.out.below HBw.out)).mono ?_; rintro e w' ⟨rfl, hw'⟩; obtain rfl := hw'.symm; rw [show (ps.any fun x => x == (k : Int)) = B from HBE.out.symm])
      go_cut [9] (fun v wc => ∃ y : Int, v = .int .i64 y ∧ (y = if inB ps k = true then -(ss[k]?.getD 0) else ss[k]?.getD 0) ∧ (ViewAt wc w1.heap.size (.int .i64 (rAcc s ds ss ps (k + 1))) (.slice (some ⟨db, doff, none⟩) dl dc) (.slice Y k d) ∧ wc.ownsRow w.heap.size 3 1 (.slice Y k d) k (((flipL ss ps).take k).map (Value.int .i64))) ∧ (ViewAt wc w.heap.size (.int .i64 s) (.slice (some ⟨db, doff, none⟩) dl dc) (.slice (some ⟨sb, soff, none⟩) dl sc) ∧ ViewAt wc (w.heap.size + 1) (.int .i64 0) (.slice none 0 0) (.slice none 0 0)) ∧ Below w.heap.size w wc)
      case first =>
        cases B with
        | false =>
          go_wp2
          go_meet
          refine ⟨T, rfl, ?_, ⟨?_, HY.out⟩, ⟨HV.out, HR.out⟩, HBw.out⟩
          · rw [← HBE.out, HT.out]; simp
          · have e : rAcc s ds ss ps (k + 1) = A := by rw [rAcc, ← HBE.out, HA.out]; simp
            rw [e]; exact HO.out
        | true =>
          have w4' : IntKind.i64.wrap (-T) = -T := wrap_in _ (by omega) (by omega)
          by_cases hX0 : 0 < X
          · have bP := mul_bd (d := X - 1) (x := T) (by omega) b2
            have w1' : IntKind.i64.wrap (X - 1) = X - 1 := wrap_in _ (by omega) (by omega)
            have w2' : IntKind.i64.wrap ((X - 1) * T) = (X - 1) * T := wrap_in _ (by omega) (by omega)
            have w3' : IntKind.i64.wrap (A + (X - 1) * T) = A + (X - 1) * T := wrap_in _ (by omega) (by omega)
            go_wp2_with fail
            go_region
            go_wp2
            go_meet
            have e : rAcc s ds ss ps (k + 1) = A + (X - 1) * T := by rw [rAcc, ← HBE.out, HA.out, flipTerm, ← HX.out, ← HT.out, if_pos rfl, if_pos hX0]
            refine ⟨-T, rfl, ?_, ⟨?_, ?_⟩, ⟨?_, ?_⟩, ?_⟩
            · rw [← HBE.out, HT.out]; simp
            · rw [e]; exact HO.out.set0 _
            · exact (own_view_set HO.out HY.out 0 _).drew
            · exact HV.out.set (p := ⟨w1.heap.size, 0, none⟩) (by simp; omega) _
            · exact HR.out.set (p := ⟨w1.heap.size, 0, none⟩) (by simp; omega) _
            · exact (HBw.out.setCell (p := ⟨w1.heap.size, 0, none⟩) (by simp; omega) _).drew
          · go_wp2
            go_meet
            have e : rAcc s ds ss ps (k + 1) = A := by rw [rAcc, ← HBE.out, HA.out, flipTerm, ← HX.out, if_pos rfl, if_neg (by omega)]; omega
            refine ⟨-T, rfl, ?_, ⟨?_, HY.out⟩, ⟨HV.out, HR.out⟩, HBw.out⟩
            · rw [← HBE.out, HT.out]; simp
            · rw [e]; exact HO.out
      case rest =>
        obtain ⟨y, rfl, hy, ⟨hO, hY⟩, ⟨hv, hr⟩, hB⟩ := hcut
        clear cd cs v0 v1 v2 o0 o1 o2 p0 p1 p2 HO HY HV HR HBw b3
        have HYE := hide hy
        have HO := hide hO
        have HY := hide hY
        have HV := hide hv
        have HR := hide hr
        have HBw := hide hB
        obtain ⟨⟨v0, v1, v2⟩, _⟩ := hv.cells
        obtain ⟨⟨o0, o1, o2⟩, p0, p1, p2⟩ := hO.cells
        have hCl := hO.lt
        have hBl := hv.lt
        clear hy hO hY hv hr hB
        go_wp2_with (at_builtin; refine wpList_append_lies _ (by rfl) _ _ _ (by rfl) w.heap.size 3 i0 _ 1 8 Try.underlying22 HI.out HZ0.out HZ1.out HZ2.out rfl (by omega) _ _ _ (by rfl) (HY.out.alloc _) ⟨wc.heap.size, 0, none⟩ 1 1 [.int .i64 y] (by rfl) (by rfl) (World.news_of_block (cs := #[.int .i64 y]) (t := 3) (fr := (0, 0)) (heap_alloc_new wc _)) (by simp [Value.oneCell']) (by omega) (by unfold maxLen; omega) (by omega) (by have := HBw.out.size; simp; omega) (wc.heap.size + 1) (by simp) ?_; intro g1 c1 w2 hown1 hgrow hat hlt3; have hO2 := HO.out.grown' HY.out hgrow; have hV2 := HV.out.grown' HY.out hgrow; have hR2 := HR.out.grown' HY.out hgrow; have hB2 := grown_below' HBw.out HY.out hgrow; obtain ⟨⟨a0, a1, a2⟩, b0, b1, b2⟩ := hO2.cells; have HO2 := hide hO2; have HV2 := hide hV2; have HR2 := hide hR2; have HB2' := hide hB2; have HY2 := hide hown1; clear hO2 hV2 hR2 hB2 hown1 hgrow hat)
        go_roundw
        case measure => simp [intOf]; omega
        case rel =>
          have hst := flipL_take_succ ss ps k HKL.out y HYE.out
          have hy := HY2.out
          rw [← hst] at hy
          exact ⟨k + 1, by omega, by go_num, _, _, ⟨HO2.out.set2 _, own_view_set HO2.out hy 2 _⟩, ⟨HV2.out.set (p := ⟨w1.heap.size, 2, none⟩) (by simp; omega) _, HR2.out.set (p := ⟨w1.heap.size, 2, none⟩) (by simp; omega) _⟩, HB2'.out.setCell (p := ⟨w1.heap.size, 2, none⟩) (by simp; omega) _⟩
    · obtain rfl : k = dl := by omega
      obtain ⟨⟨o0, o1, o2⟩, _⟩ := HO.out.cells
      have e2 : (flipL ss ps).take k = flipL ss ps := List.take_of_length_le (by rw [flipL_length, HS.out.1]; omega)
      have hy := HY.out
      rw [e2] at hy
      have HI2 := hide (ints_of_own' hy (by rw [flipL_length, HS.out.1]) (by omega) (flipL_bd HSM.out ps))
      have HI1 := hide (HD.out.below HBw.out)
      have HL := hide (own_le hy)
      clear hy e2
      go_wp2_with fail
      refine (made_any _ _ _ _ ds _ _ _ (flipL ss ps) _ HI1.out HI2.out).mono ?_
      rintro e w4 ⟨rfl, hb⟩
      have HBd := hide (Below.on HBw.out hb)
      have HRR4 := hide (HR.out.below hb)
      have HI1' := hide (HI1.out.below hb)
      have HI2' := hide (HI2.out.below hb)
      obtain ⟨⟨r0, r1, r2⟩, rf0, rf1, rf2⟩ := HRR4.out.cells
      have HR2' := hide (row_ne_view HY.out HR.out)
      clear hb o0 o1 o2
      by_cases hbe : wrongE (rAcc s ds ss ps k) ds (flipL ss ps) ≠ 0
      · rw [if_pos hbe]
        have HBE := hide hbe
        clear hbe
        go_wp2
        refine bodyPost_ret (v := .tuple #[.agg #[.int .i64 0, .slice none 0 0, .slice none 0 0], .int .i64 5]) (by simp [results, Try.results20, go_sem, r0, r1, r2]) rfl ⟨givesF_none _ _ _ _, ?_⟩
        exact ((HBd.out.setCell (p := ⟨w.heap.size + 1, 0, none⟩) (by simp) _).setCell (p := ⟨w.heap.size + 1, 1, none⟩) (by simp) _).setCell (p := ⟨w.heap.size + 1, 2, none⟩) (by simp) _
      · rw [if_neg hbe]
        have HBE := hide hbe
        clear hbe
        go_wp2
        refine bodyPost_ret (v := .tuple #[.agg #[.int .i64 (rAcc s ds ss ps k), .slice da k dc, .slice Y k d], .int .i64 0]) (by simp [results, Try.results20, go_sem, r0, r1, r2]) rfl ⟨⟨_, _, _, _, _, _, rfl, ?_, ?_, ⟨hdc, HL.out⟩, .inl rfl, own_far HY.out⟩, ?_⟩
        · exact HD.out.below (((HBd.out.setCell (p := ⟨w.heap.size + 1, 0, none⟩) (by simp) _).setCell (p := ⟨w.heap.size + 1, 1, none⟩) (by simp) _).setCell (p := ⟨w.heap.size + 1, 2, none⟩) (by simp) _)
        · exact ints_set3o HI2'.out HR2'.out
        · exact ((HBd.out.setCell (p := ⟨w.heap.size + 1, 0, none⟩) (by simp) _).setCell (p := ⟨w.heap.size + 1, 1, none⟩) (by simp) _).setCell (p := ⟨w.heap.size + 1, 2, none⟩) (by simp) _
end Go.Proofs.Ytfamaaahofjglaa.V
