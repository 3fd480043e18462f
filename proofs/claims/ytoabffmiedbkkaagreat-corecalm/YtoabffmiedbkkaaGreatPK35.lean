/-
  Contracts: what is in the way, and the first of those.
-/
import Derived.Test.YtoabffmiedbkkaaGreatPK32
import Derived.Test.YtoabffmiedbkkaaGreatPK12
import Derived.Test.YtoabffmiedbkkaaGreatPK34
namespace Go.Proofs.YtoabffmiedbkkaaGreat.V
set_option maxRecDepth 20000
open Go Go.RowKit
set_option linter.unusedVariables false

/-- What a right instruction touches is there. -/
theorem tin_of {pad mem : Int} {e : Bool} {x : In} {p : Nat} (hp : pad = (p : Int)) (h : insE pad mem e x = 0) : TIn (tchV x) p := by
  subst hp
  unfold insE at h
  by_cases h1 : hasV e x.d = false
  · rw [if_pos h1] at h; omega
  rw [if_neg h1] at h
  by_cases hd : x.d = 3 ∨ x.d = 4
  · have e0 : tchV x = ⟨zS, zS, zS, zS⟩ := by unfold tchV; rw [if_pos hd]
    rw [e0]
    exact ⟨⟨zS_sm, zS_sm, zS_sm, zS_sm⟩, rfl, rfl, rfl, rfl⟩
  rw [if_neg hd] at h
  by_cases h2 : x.n < 0 ∨ 4096 < x.n ∨ farV x.a = true ∨ farV x.b = true ∨ farV x.c = true
  · rw [if_pos h2] at h; omega
  rw [if_neg h2] at h
  by_cases h3 : tchIn (tchV x) (p : Int) = false ∨ findV mem x = false
  · rw [if_pos h3] at h; omega
  have h4 : tchIn (tchV x) (p : Int) = true := by
    cases h5 : tchIn (tchV x) (p : Int)
    · exact absurd (.inl h5) h3
    · rfl
  have hsm : x.Sm := by
    have fa : farV x.a = false := by cases h6 : farV x.a; rfl; exact absurd (.inr (.inr (.inl h6))) h2
    have fb : farV x.b = false := by cases h6 : farV x.b; rfl; exact absurd (.inr (.inr (.inr (.inl h6)))) h2
    have fc : farV x.c = false := by cases h6 : farV x.c; rfl; exact absurd (.inr (.inr (.inr (.inr h6)))) h2
    simp only [farV, Bool.or_eq_false_iff, decide_eq_false_iff_not] at fa fb fc
    exact ⟨by omega, by omega, by omega, by omega⟩
  simp only [tchIn, Bool.and_eq_true] at h4
  exact ⟨tch_sm hsm, h4.1.1.1, h4.1.1.2, h4.1.2, h4.2⟩
def wayV (t : Tch) (x : In) : Bool := spoilV t (tchV x) || spoilV (tchV x) t
set_option maxRecDepth 100000 in
set_option maxHeartbeats 2000000 in
theorem inWay_any (x : In) (B : Nat) (t : Tch) (ht : t.Sm) (hx : (tchV x).Sm) (w : World) (hB : TBlk w B t) :
    Calls Tryz.prog 39 #[x.v6, .pointer (some ⟨B, 0, none⟩)] w fun r w' => r = .returned (.bool (wayV t x)) ∧ Below w.heap.size w w' := by
  obtain ⟨W, hW⟩ : ∃ W, W = w.alloc (.cells #[.int .i64 x.d, .int .i64 x.a, .int .i64 x.b, .int .i64 x.c, .int .i64 x.n, .int .i64 x.v] 50) := ⟨_, rfl⟩
  have hb : Below w.heap.size w W := by rw [hW]; exact bl_new _
  have hI : InBlk W w.heap.size x := by rw [hW]; exact InBlk.new _ _
  obtain ⟨⟨i0, i1, i2, i3, i4, i5⟩, zi⟩ := hI.cells
  have HW := hide hW
  have HB := hide hb
  have HT := hide (hB.below hb)
  have HS1 := hide (fun V => spoils_any t (tchV x) ht hx V)
  have HS2 := hide (fun V => spoils_any (tchV x) t hx ht V)
  obtain ⟨b1, hb1⟩ : ∃ b, b = spoilV t (tchV x) := ⟨_, rfl⟩
  obtain ⟨b2, hb2⟩ : ∃ b, b = spoilV (tchV x) t := ⟨_, rfl⟩
  rw [← hb1] at HS1
  rw [← hb2] at HS2
  obtain ⟨R, hR⟩ : ∃ R, R = wayV t x := ⟨_, rfl⟩
  rw [← hR]
  have HR : Hid (R = (b1 || b2)) := by rw [Hid, hR, hb1, hb2]; rfl
  have HTX := hide (touched_any x W)
  obtain ⟨u, hu⟩ : ∃ u, u = tchV x := ⟨_, rfl⟩
  rw [← hu] at HS1 HS2 HTX
  unfold Tch.v at HS1 HS2 HTX
  clear hW hb hI hB hb1 hb2 hR hu ht hx
  unfold In.v6 at HTX ⊢
  go_enter Tryz.func39, Tryz.ntmps39
  go_upto_region 1 with fail
  rw [← HW.out]
  go_wp2_with fail
  refine HTX.out.mono ?_
  rintro r w2 ⟨rfl, hb2⟩
  obtain ⟨V, hV⟩ : ∃ V, V = w2.alloc (.cells #[.int .i64 u.r0.f, .int .i64 u.r0.w, .int .i64 u.r1.f, .int .i64 u.r1.w, .int .i64 u.r2.f, .int .i64 u.r2.w, .int .i64 u.wr.f, .int .i64 u.wr.w] 68) := ⟨_, rfl⟩
  have hbV : Below w2.heap.size w2 V := by rw [hV]; exact bl_new _
  obtain ⟨g, hg⟩ : ∃ g, g = w2.heap.size := ⟨_, rfl⟩
  have hU : TBlk V g u := by rw [hV, hg]; exact World.alloc_heap_new _ _
  have HV := hide hV
  have HG := hide hg
  have HU := hide hU
  have HT2 := hide ((HT.out.below hb2).below hbV)
  have HB2 := hide (bl_on (bl_on HB.out hb2) hbV)
  clear hV hg hbV hU hb2 i0 i1 i2 i3 i4 i5 zi
  go_upto_region 2 with fail
  rw [← HV.out, ← HG.out]
  obtain ⟨⟨p0, p1, p2, p3, p4, p5, p6, p7⟩, zp⟩ := blk8 HT2.out
  obtain ⟨⟨q0, q1, q2, q3, q4, q5, q6, q7⟩, zq⟩ := blk8 HU.out
  go_wp2_with fail
  refine (HS1.out V).mono ?_
  rintro r w3 ⟨rfl, hb3⟩
  have HT3 := hide (HT2.out.below hb3)
  have HU3 := hide (HU.out.below hb3)
  have HB3 := hide (bl_on HB2.out hb3)
  clear hb3 p0 p1 p2 p3 p4 p5 p6 p7 zp q0 q1 q2 q3 q4 q5 q6 q7 zq
  cases b1
  rotate_left
  · have hr : R = true := by rw [HR.out]; rfl
    go_wp2_with fail
    go_ret
    exact ⟨by first | rfl | (rw [hr]; rfl), HB3.out⟩
  have hr : R = b2 := by rw [HR.out]; rfl
  obtain ⟨⟨p0, p1, p2, p3, p4, p5, p6, p7⟩, zp⟩ := blk8 HT3.out
  obtain ⟨⟨q0, q1, q2, q3, q4, q5, q6, q7⟩, zq⟩ := blk8 HU3.out
  go_wp2_with fail
  refine (HS2.out w3).mono ?_
  rintro r w4 ⟨rfl, hb4⟩
  have HB4 := hide (bl_on HB3.out hb4)
  clear hb4
  go_wp2_with fail
  go_ret
  exact ⟨by first | rfl | (rw [hr]; rfl), HB4.out⟩
/-- The first of them, by their places. -/
def FstW (t : Tch) (l : List In) (r : Int) : Prop := (r = -1 ∧ ∀ x ∈ l, wayV t x = false) ∨ ∃ j : Nat, r = (j : Int) ∧ j < l.length ∧ wayV t (l[j]?.getD inD) = true ∧ ∀ i, i < j → wayV t (l[i]?.getD inD) = false
set_option maxRecDepth 100000 in
theorem indexF_any (a : Option Addr) (len cap : Nat) (l : List In) (B : Nat) (t : Tch) (ht : t.Sm) (hx : ∀ x ∈ l, (tchV x).Sm) (w : World) (h : Inss w a len l) (hB : TBlk w B t) :
    Calls Tryz.prog 41 #[.slice a len cap, .func (.func 39) #[] #[.pointer (some ⟨B, 0, none⟩)]] w fun r w' => (∃ q, r = .returned (.int .i64 q) ∧ FstW t l q) ∧ Below w.heap.size w w' := by
  have HI := hide h
  have HT := hide hB
  have HX := hide hx
  have HTS := hide ht
  have hl := h.2.1
  clear h hB hx ht
  go_enter Tryz.func41, Tryz.ntmps41
  go_wp2_with fail
  go_loopw [8] (fun v8 wr => ∃ j : Nat, j ≤ len ∧ v8 = .int .i64 j ∧ (∀ i, i < j → wayV t (l[i]?.getD inD) = false) ∧ Below w.heap.size w wr) (fun v8 _ => len - (intOf v8).toNat)
  case atStart => exact ⟨0, by omega, rfl, fun i hi => by omega, Below.refl _ _⟩
  case round =>
    obtain ⟨j, hj, rfl, hno, hbr⟩ := hrel
    by_cases hjl : j < len
    · have hjz : (j : Int) < (len : Int) := by omega
      obtain ⟨b, off, rfl, hin⟩ := HI.out.2.2.resolve_left (by omega)
      obtain ⟨k0, k1, k2, k3, k4, k5⟩ := (hin j hjl).below hbr
      obtain ⟨x, hx⟩ : ∃ x, x = l[j]?.getD inD := ⟨_, rfl⟩
      have hjm : j < l.length := by have := HI.out.1; omega
      rw [← hx] at k0 k1 k2 k3 k4 k5
      have hmem : x ∈ l := by rw [hx]; exact mem_getI _ _ hjm
      have zk := lt_of_cell k0
      simp only at zk
      have HC := hide (inWay_any x B t HTS.out (HX.out x hmem) wr (HT.out.below hbr))
      unfold In.v6 at HC
      have HNO := hide hno
      have HBR := hide hbr
      have HXE := hide hx
      have HJM := hide hjm
      clear hin hno hbr hmem hx hjm
      go_wp2_with fail
      refine HC.out.mono ?_
      rintro r w2 ⟨rfl, hb2⟩
      have HB2 := hide (bl_on HBR.out hb2)
      clear hb2 k0 k1 k2 k3 k4 k5 zk
      cases hw : wayV t x
      · have HW0 := hide hw
        clear hw
        go_wp2_with fail
        go_roundw
        case rel => exact ⟨j + 1, by omega, by go_num, fun i hi => by
          by_cases e : i = j
          · subst e; rw [← HXE.out]; exact HW0.out
          · exact HNO.out i (by omega), HB2.out⟩
        case measure => simp [intOf]; omega
      · have HW0 := hide hw
        clear hw
        go_wp2_with fail
        go_ret
        exact ⟨⟨_, rfl, .inr ⟨j, rfl, HJM.out, by rw [← HXE.out]; exact HW0.out, HNO.out⟩⟩, HB2.out⟩
    · have hjz : ¬ (j : Int) < (len : Int) := by omega
      have HF : Hid (FstW t l (-1)) := .inl ⟨rfl, fun x hx => by
        obtain ⟨i, hi, e⟩ := List.getElem_of_mem hx
        have h1 := hno i (by have := HI.out.1; omega)
        simpa [hi, e] using h1⟩
      have HB2 := hide hbr
      clear hno hbr
      go_wp2_with fail
      go_ret
      exact ⟨⟨_, rfl, HF.out⟩, HB2.out⟩
end Go.Proofs.YtoabffmiedbkkaaGreat.V
