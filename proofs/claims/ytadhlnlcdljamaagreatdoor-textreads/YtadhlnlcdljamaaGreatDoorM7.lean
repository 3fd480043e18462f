/-
  The document's side: expr on all levels; function. The document's side: Read. The walk of TextReads.
-/
import Derived.Test.YtadhlnlcdljamaaGreatDoorM5
import Derived.Test.YtadhlnlcdljamaaGreatDoorMTxRFactor
import Derived.Test.YtadhlnlcdljamaaGreatDoorM3
import Derived.Test.YtadhlnlcdljamaaGreatDoorM8
import Derived.Test.YtadhlnlcdljamaaGreatDoorMTxRef2
import Derived.Test.YtadhlnlcdljamaaGreatDoorTxProgram
import Derived.Test.YtadhlnlcdljamaaGreatDoorM9
namespace Go.Proofs.YtadhlnlcdljamaaGreatDoor.V
set_option maxRecDepth 20000
open Go.RowKit
set_option linter.unusedVariables false

theorem rExprAll {X : Tks} {A : Option Addr} {c : Nat} (ok : X.Ok) : ∀ (d : Nat), d ≤ 64 → ∀ (W : World) (i : Nat), LsAt X A c W → i ≤ X.ts.length → Calls Tryz.prog 28 #[lsV X A c, .int .i64 (i : Int), .int .i64 ((65 - d : Nat) : Int)] W (RefP isTr (repT W) (exprS X d i) W)
  | 0, _, W, i, h, _ => rExpr_deep h i
  | d + 1, hd, W, i, h, hi => by
    have ih := rExprAll (A := A) (c := c) ok d (by omega)
    have hL : 64 - d ≤ 64 := by omega
    have hE : ∀ (W : World) (j : Nat), LsAt X A c W → j ≤ X.ts.length → Calls Tryz.prog 28 #[lsV X A c, .int .i64 (j : Int), .int .i64 (((64 - d : Nat) : Int) + 1)] W (RefP isTr (repT W) (exprS X d j) W) := by
      intro W j hj hl
      have := ih W j hj hl
      rwa [show ((65 - d : Nat) : Int) = ((64 - d : Nat) : Int) + 1 by omega] at this
    have hEl : ∀ j a j', exprS X d j = .ok a j' → j' ≤ X.ts.length := fun j a j' h => exprS_le d j h
    have hEp : ∀ j a j', exprS X d j = .ok a j' → j < j' := fun j a j' h => exprS_lt d j h
    have e : (65 - (d + 1) : Nat) = 64 - d := by omega
    rw [e, exprS]
    refine rExpr_step ok (exprS X d) h i hi hL ?_ ?_
    · rintro W kind num wd word j rfl hne h hj
      exact rBound ok (exprS X d) h j hj hEl kind num wd hne hE hL
    · intro W j h hj
      exact rSum (chainS X (factorS X (exprS X d)) isMulB) h j hj (fun j a j' h => chainS_le (fun j a j' h => factorS_le h) h) (fun W j h hj => rProduct (factorS X (exprS X d)) h j hj (fun j a j' h => factorS_le h) (fun W j h hj => rFactor ok (exprS X d) h j hj hEl hL hE (fun W nm j h hj => rCall ok (exprS X d) h nm j hj hEp hEl hL hE)))
theorem rFunc_any {X : Tks} {A : Option Addr} {c : Nat} {w : World} (ok : X.Ok) (h : LsAt X A c w) (i : Nat) (hi : i ≤ X.ts.length) : Calls Tryz.prog 12 #[lsV X A c, .int .i64 (i : Int)] w (RefP isFn (repF w) (funcS X i) w) :=
  rFunc ok h i hi (fun W j h hj => rExprAll ok 64 (Nat.le_refl _) W j h hj)
end Go.Proofs.YtadhlnlcdljamaaGreatDoor.V
namespace Go.Proofs.YtadhlnlcdljamaaGreatDoor.V
set_option maxRecDepth 20000
open Go.RowKit
set_option linter.unusedVariables false

theorem tokO_lenR (s : ByteArray) : (tokO s).2.length ≤ 65536 := by
  unfold tokO
  by_cases h1 : 65536 < s.size
  · rw [if_pos h1]; exact Nat.zero_le _
  · rw [if_neg h1]
    by_cases h2 : (scanN (xsOf s) 0 []).1.1 = 0
    · rw [if_pos h2]
      have := scanN_len (xsOf s) _ 0 [] (Nat.le_refl _) (Nat.le_refl _) (Nat.zero_le _)
      rw [xsOf_length] at this
      show (scanN (xsOf s) 0 []).2.length ≤ 65536
      omega
    · rw [if_neg h2]; exact Nat.zero_le _
theorem rTokens_anyR (s : ByteArray) (w : World) (hmax : s.size ≤ 9223372036854775807) : Calls Tryz.prog 11 #[.string s] w (TokP s w) := by
  by_cases hs : 65536 < s.size
  · exact rTokens_much s w hs hmax
  · exact rTokens_some s w (by omega)
theorem readO_bad {s : ByteArray} (h : (tokO s).1.1 ≠ 0) : readO s = ((tokO s).1, []) := by
  unfold tokO readO at *
  by_cases h1 : 65536 < s.size
  · rw [if_pos h1, if_pos h1]
  · rw [if_neg h1] at h ⊢
    rw [if_neg h1]
    by_cases h2 : (scanN (xsOf s) 0 []).1.1 = 0
    · rw [if_pos h2] at h; exact absurd rfl h
    · rw [if_neg h2, if_neg h2]
def outR : Res (List FnT) → (Int × Nat) × List FnT
  | .bad T k => ((T, k), [])
  | .ok fs _ => ((0, 0), fs)
theorem readO_ok {s : ByteArray} (h : (tokO s).1.1 = 0) : readO s = outR (progS (toksOf s)) := by
  obtain ⟨h1, h2, _⟩ := tok_ok h
  unfold readO
  rw [if_neg (by omega), if_pos h2]
  cases progS (toksOf s) <;> rfl
theorem ls_of_tok {s : ByteArray} {A : Option Addr} {c B : Nat} {w : World} (h : (tokO s).1.1 = 0) (ha : TokAt w B A (tokO s).2) : LsAt (toksOf s) A c w := by
  obtain ⟨h1, h2, h3⟩ := tok_ok h
  have hl := tokO_lenR s
  rw [h3] at ha hl
  have hlen := toksOf_len s
  refine ⟨by omega, by show s.size ≤ 65536; exact h1, ?_⟩
  rcases ha with ha | ⟨g, rfl, _, hg, hc⟩
  · exact .inl (by omega)
  · refine .inr ⟨g, rfl, hg, fun j hj => ?_⟩
    have hj' : j < (scanN (xsOf s) 0 []).2.length := by omega
    obtain ⟨c1, c2⟩ := hc j hj'
    have e1 : (toksOf s).tx j = strOfNums ((scanN (xsOf s) 0 []).2[j]?.getD ([], 0)).1 := by simp [Tks.tx, toksOf, hj']
    have e2 : (toksOf s).ps j = ((scanN (xsOf s) 0 []).2[j]?.getD ([], 0)).2 := by simp [Tks.ps, toksOf, hj']
    rw [e1, e2]
    exact ⟨c1, c2⟩
theorem RefP.anyF {r : Res FnT} {W w1 : World} {e : Ending} (h : RefP isFn (repF W) r W e w1) : Below W.heap.size W w1 ∧ ∃ (nmx : ByteArray) (Gx : Option Addr) (gn gm : Nat) (kx : Int) (tn : ByteArray) (nu : Int) (sh : Bool) (A1 : Option Addr) (n1 m1 : Nat) (A2 : Option Addr) (n2 m2 : Nat) (A3 : Option Addr) (n3 m3 : Nat) (E : Int) (K : Nat) (J : Int),
    e = .returned (.tuple #[.agg #[.string nmx, .slice Gx gn gm, .int .i64 kx, .string tn, .int .i64 nu, .bool sh, .slice A1 n1 m1, .slice A2 n2 m2, .slice A3 n3 m3], .int .i64 J, .agg #[.int .i64 E, .int .i64 (K : Int)]]) ∧ ((∃ f j, r = .ok f j ∧ J = ((j : Nat) : Int) ∧ E = 0 ∧ K = 0 ∧ FuncV w1 (from_ W) f [.string nmx, .slice Gx gn gm, .int .i64 kx, .string tn, .int .i64 nu, .bool sh, .slice A1 n1 m1, .slice A2 n2 m2, .slice A3 n3 m3]) ∨ (r = .bad E K ∧ E ≠ 0)) := by
  obtain ⟨h1, h2⟩ := h
  refine ⟨h1, ?_⟩
  cases r with
  | bad T k =>
    obtain ⟨h3, v, J, rfl, x1, x2, x3, x4, x5, x6, x7, x8, x9, x10, x11, x12, x13, x14, x15, x16, x17, rfl⟩ := h2
    exact ⟨x1, x2, x3, x4, x5, x6, x7, x8, x9, x10, x11, x12, x13, x14, x15, x16, x17, T, k, J, rfl, .inr ⟨rfl, h3⟩⟩
  | ok t j =>
    obtain ⟨v, rfl, x2, x4, x5, x6, x7, x8, x9, x10, x11, x12, x13, x14, x15, x16, x17, rfl, h3, h4⟩ := h2
    exact ⟨t.name, x2, t.given.length, x4, x5, x6, x7, x8, x9, x10, x11, x12, x13, x14, x15, x16, x17, 0, 0, j, rfl, .inl ⟨t, j, rfl, rfl, rfl, rfl, _, _, rfl, h3, h4⟩⟩
/-- What Read has in memory. -/
structure RdB (X : Tks) (A : Option Addr) (c : Nat) (w w1 W : World) : Prop where
  l0 : LsAt X A c w1
  d0 : TwoAt 25 w1 w.heap.size (.int .i64 0) (.int .i64 0)
  b0 : Below w.heap.size w w1
  t : TwoAt 41 W (w1.heap.size + 1) (.slice A X.ts.length c) (.int .i64 (X.n : Int))
  f : TwoAt 25 W w1.heap.size (.int .i64 0) (.int .i64 0)
  b1 : Below w1.heap.size w1 W
section
variable {X : Tks} {A : Option Addr} {c : Nat} {w w1 W W' : World}
theorem RdB.l (h : RdB X A c w w1 W) : LsAt X A c W := h.l0.below h.b1
theorem RdB.d (h : RdB X A c w w1 W) : TwoAt 25 W w.heap.size (.int .i64 0) (.int .i64 0) := h.d0.below h.b1
theorem RdB.bw (h : RdB X A c w w1 W) : Below w.heap.size w W := h.b0.trans (h.b1.mono h.b0.size)
theorem RdB.below (h : RdB X A c w w1 W) (hb : Below W.heap.size W W') : RdB X A c w w1 W' := ⟨h.l0, h.d0, h.b0, h.t.below hb, h.f.below hb, h.b1.trans (hb.mono h.b1.size)⟩
theorem RdB.grown {row : Option Nat} (h : RdB X A c w w1 W) (hg : W.grownBy W' row) (hr : ∀ g, row = some g → w1.heap.size + 2 ≤ g) : RdB X A c w w1 W' :=
  ⟨h.l0, h.d0, h.b0, h.t.grown hg (fun e => by have := hr _ e.symm; omega), h.f.grown hg (fun e => by have := hr _ e.symm; omega), below_grown h.b1 hg (fun g e => by have := hr g e; omega)⟩
end
theorem fun_kept {us : List FnT} {v : Value} {M b1 : Nat} {w0 w6 w7 w8 : World} (h : GrowV FuncV 49 9 w0 M (V.far M) us v) (hb : Below w0.heap.size w0 w6) (h1 : w6.grownBy w7 (some w0.heap.size)) (h2 : w7.grownBy w8 (some b1)) (hb1 : b1 < M) : GrowV FuncV 49 9 w8 M (V.far M) us v := by
  obtain ⟨cs, ho, hv⟩ := h
  have o6 := ho.kept (hb.by none) (by cases v.ownBlock <;> simp)
  have o7 := o6.kept h1 (.inr (fun e => by have := (ho.lt _ e).2; omega))
  have o8 := o7.kept h2 (.inr (fun e => by have := (ho.lt _ e).1; omega))
  refine ⟨cs, o8, hv.mono fun a c h => ?_⟩
  have k : Keep (fun b => (V.far M b ∧ some b ≠ v.ownBlock) ∧ b < w0.heap.size) w0 w8 := ((Keep.of_below hb).trans (Keep.of_grown h1 (fun b hb _ => by have := hb.2; simp; omega))).trans (Keep.of_grown h2 (fun b hb _ => by have h9 : M ≤ b := hb.1.1; simp; omega))
  exact FuncV.stays.weaken (FuncV.stays.keep (FuncV.stays.weaken h (fun b hl hb => ⟨hb, hl⟩)) k) (fun b _ hb => hb.1)

set_option maxRecDepth 100000 in
set_option maxHeartbeats 8000000 in
theorem rRead_any (s : ByteArray) (w : World) (hmax : s.size ≤ 9223372036854775807) : Calls Tryz.prog 5 #[.string s] w (ReadP s w) := by
  have HT := hide (rTokens_anyR s (w.alloc (.cells #[.int .i64 0, .int .i64 0] 25)) hmax)
  have HB0 : Hid (Below w.heap.size w (w.alloc (.cells #[.int .i64 0, .int .i64 0] 25))) := (Below.refl _ w).alloc (Nat.le_refl _) _
  have HD0 := hide (TwoAt.new 25 w (.int .i64 0) (.int .i64 0))
  unfold ReadP
  obtain ⟨RO, hRO⟩ : ∃ RO, RO = readO s := ⟨_, rfl⟩
  rw [← hRO]
  have HRO := hide hRO
  clear hRO
  unfold TokP at HT
  by_cases h0 : (tokO s).1.1 = 0
  · have HLS : Hid (∀ W B A c, TokAt W B A (tokO s).2 → LsAt (toksOf s) A c W) := fun W B A c h => ls_of_tok h0 h
    have hlen : (toksOf s).ts.length = (tokO s).2.length := by rw [toksOf_len, (tok_ok h0).2.2]
    have HOK := hide (toksOf_ok s (tok_ok h0).1)
    have hlm := tokO_lenR s
    have hro := readO_ok h0
    have hk0 : (tokO s).1.2 = 0 := by
      unfold tokO at h0 ⊢
      obtain ⟨h1, h2, _⟩ := tok_ok (s := s) h0
      rw [if_neg (by omega), if_pos h2]
    rw [h0, hk0] at HT
    have hxn : (toksOf s).n = s.size := rfl
    obtain ⟨X, hX⟩ : ∃ X, X = toksOf s := ⟨_, rfl⟩
    rw [← hX] at HLS HOK hlen hro hxn
    obtain ⟨N, hN⟩ : ∃ N, N = (tokO s).2.length := ⟨_, rfl⟩
    rw [← hN] at HT hlen hlm
    have HLEN := hide hlen
    have HXN := hide hxn
    have HR1 : Hid (RO = outR (progS X)) := HRO.out.trans hro
    clear hX hN hro h0 hk0 hlen hxn HRO
    obtain ⟨r0, hr0⟩ : ∃ r0, r0 = progL X (X.ts.length + 1) 0 [] := ⟨_, rfl⟩
    have HR0 := hide hr0
    have HR2 : Hid (RO = outR r0) := by
      rw [Hid, hr0]
      exact HR1.out
    clear hr0 HR1
    obtain ⟨i0, hi0, hz0, hz1, hz2⟩ := info_parts funcInfo
    have HI := hide hi0
    have HI0 := hide hz0
    have HI1 := hide hz1
    have HI2 := hide hz2
    clear hi0 hz0 hz1 hz2
    go_enter Tryz.func5, Tryz.ntmps5
    go_upto_region 5 with (first
      | (go_at_call 11; refine HT.out.mono ?_; rintro e w1 ⟨A, c, rfl, hA, hb⟩; have HB1 := hide (HB0.out.trans (hb.mono HB0.out.size)); have HD1 := hide (HD0.out.below hb); have hs1 : w.heap.size < w1.heap.size := (by have := hb.size; simp at this; omega); have HL1 := hide (HLS.out _ _ _ c hA); clear hA; clear hb HT)
      )
    have hlb : TwoAt 41 ((w1.alloc (.cells #[.int .i64 0, .int .i64 0] 25)).alloc (.cells #[.slice A N c, .int .i64 (s.size : Int)] 41)) (w1.heap.size + 1) (.slice A X.ts.length c) (.int .i64 (X.n : Int)) := by
      rw [HLEN.out, HXN.out]
      have := TwoAt.new 41 (w1.alloc (.cells #[.int .i64 0, .int .i64 0] 25)) (.slice A N c) (.int .i64 (s.size : Int)); simpa using this
    have HQ2 : Hid (RdB X A c w w1 ((w1.alloc (.cells #[.int .i64 0, .int .i64 0] 25)).alloc (.cells #[.slice A N c, .int .i64 (s.size : Int)] 41))) := ⟨HL1.out, HD1.out, HB1.out, hlb, (TwoAt.new 25 w1 (.int .i64 0) (.int .i64 0)).alloc _, ((Below.refl _ w1).alloc (Nat.le_refl _) _).alloc (by simp) _⟩
    have hs2 : w1.heap.size + 2 ≤ ((w1.alloc (.cells #[.int .i64 0, .int .i64 0] 25)).alloc (.cells #[.slice A N c, .int .i64 (s.size : Int)] 41)).heap.size := by simp
    obtain ⟨w2, hw2⟩ : ∃ w2, w2 = ((w1.alloc (.cells #[.int .i64 0, .int .i64 0] 25)).alloc (.cells #[.slice A N c, .int .i64 (s.size : Int)] 41)) := ⟨_, rfl⟩
    rw [← hw2] at HQ2 hs2 ⊢
    clear hw2 hlb HL1 HB0 HD0 HLS
    go_wp2
    go_loopw [7, 8] (fun vo vi wr => ∃ (f j : Nat) (fs : List FnT), vi = .int .i64 (j : Int) ∧ j ≤ N ∧ RdB X A c w w1 wr ∧ r0 = progL X f j fs ∧ N - j < f ∧ fs.length ≤ j ∧ w1.heap.size + 2 ≤ wr.heap.size ∧ GrowV FuncV 49 9 wr (w1.heap.size + 2) (V.far (w1.heap.size + 2)) fs vo) (fun _ vi _ => N + 1 - (intOf vi).toNat)
    case atStart => exact ⟨X.ts.length + 1, 0, [], rfl, Nat.zero_le _, HQ2.out, HR0.out, by rw [HLEN.out]; omega, Nat.zero_le _, hs2, GrowV.nil _ _ _ _ _ _⟩
    case round =>
      obtain ⟨f, j, fs, rfl, hjl, hQ, hr, hf, hl, hsz, hG⟩ := hrel
      obtain ⟨Ao, co, rfl⟩ := hG.form
      obtain ⟨n, hn⟩ : ∃ n, n = fs.length := ⟨_, rfl⟩
      have HN := hide hn
      have HQ3 := hide hQ
      have HG3 := hide hG
      rw [← hn] at HG3 ⊢
      clear hQ hG hn HQ2 HR0
      obtain ⟨f, rfl⟩ : ∃ g, f = g + 1 := ⟨f - 1, by omega⟩
      rw [progL] at hr
      by_cases hlt : j < N
      · rw [if_pos (by rw [HLEN.out]; exact hlt)] at hr
        have i2 : (j : Int) < (N : Int) := by omega
        have hjX : j ≤ X.ts.length := by have := HLEN.out; omega
        have hbz : Below wr.heap.size wr (wr.alloc (.cells z9 49)) := (Below.refl _ _).alloc (Nat.le_refl _) _
        obtain ⟨⟨q2, q3⟩, _, _⟩ := (HQ3.out.below hbz).t.cells
        have HRF := hide (rFunc_any HOK.out (HQ3.out.below hbz).l j hjX)
        rw [HLEN.out] at q2
        rw [HXN.out] at q3
        unfold lsV at HRF
        rw [HLEN.out, HXN.out] at HRF
        go_upto_region 10 with (go_at_call 12; refine (HRF.out).mono ?_; intro e w6 hr; obtain ⟨hb, fnm, Gx, gn, gm, kx, nmx, nux, shx, Ax, nx, mx, Bx, px, qx, Cx, rx, sx, Ex, Kx, Jx, rfl, hst⟩ := hr.anyF; have HST := hide hst; have HQ6 := hide ((HQ3.out.below hbz).below hb); have HB6 := hide (hbz.trans (hb.mono hbz.size)); have HZ6 : Hid (NinZ w6 wr.heap.size) := (NinAt.new wr _ _ _ _ _ _ _ _ _).below hb; have hs6 : wr.heap.size < w6.heap.size := (by have := hb.size; simp at this; omega); clear q2 q3; obtain ⟨⟨g0, g1⟩, fg0, fg1⟩ := HQ6.out.f.cells; obtain ⟨c0, c1, c2, c3, c4, c5, c6, c7, c8⟩ := HZ6.out.cells; have hzf := HZ6.out.frozen; have y0 := hzf 0; have y1 := hzf 1; have y2 := hzf 2; have y3 := hzf 3; have y4 := hzf 4; have y5 := hzf 5; have y6 := hzf 6; have y7 := hzf 7; have y8 := hzf 8; clear hzf hb hr hst)
        have hoB := NinAt.out w6 wr.heap.size (.string fnm) (.slice Gx gn gm) (.int .i64 kx) (.string nmx) (.int .i64 nux) (.bool shx) (.slice Ax nx mx) (.slice Bx px qx) (.slice Cx rx sx)
        have hoF := TwoAt.out (w := (((((((((w6.setCell ⟨wr.heap.size, 0, none⟩ (.string fnm)).setCell ⟨wr.heap.size, 1, none⟩ (.slice Gx gn gm)).setCell ⟨wr.heap.size, 2, none⟩ (.int .i64 kx)).setCell ⟨wr.heap.size, 3, none⟩ (.string nmx)).setCell ⟨wr.heap.size, 4, none⟩ (.int .i64 nux)).setCell ⟨wr.heap.size, 5, none⟩ (.bool shx)).setCell ⟨wr.heap.size, 6, none⟩ (.slice Ax nx mx)).setCell ⟨wr.heap.size, 7, none⟩ (.slice Bx px qx)).setCell ⟨wr.heap.size, 8, none⟩ (.slice Cx rx sx))) (b := w1.heap.size) (.int .i64 Ex) (.int .i64 (Kx : Int))
        have HX7 : Hid (TwoAt 41 (((((((((((w6.setCell ⟨wr.heap.size, 0, none⟩ (.string fnm)).setCell ⟨wr.heap.size, 1, none⟩ (.slice Gx gn gm)).setCell ⟨wr.heap.size, 2, none⟩ (.int .i64 kx)).setCell ⟨wr.heap.size, 3, none⟩ (.string nmx)).setCell ⟨wr.heap.size, 4, none⟩ (.int .i64 nux)).setCell ⟨wr.heap.size, 5, none⟩ (.bool shx)).setCell ⟨wr.heap.size, 6, none⟩ (.slice Ax nx mx)).setCell ⟨wr.heap.size, 7, none⟩ (.slice Bx px qx)).setCell ⟨wr.heap.size, 8, none⟩ (.slice Cx rx sx)).setCell ⟨w1.heap.size, 0, none⟩ (.int .i64 Ex)).setCell ⟨w1.heap.size, 1, none⟩ (.int .i64 (Kx : Int))) (w1.heap.size + 1) (.slice A X.ts.length c) (.int .i64 (X.n : Int))) := (HQ6.out.t.grown hoB (by simp <;> omega)).grown hoF (by simp <;> omega)
        have HF7 := hide ((HQ6.out.f.grown hoB (by simp <;> omega)).put (.int .i64 Ex) (.int .i64 (Kx : Int)))
        have HL7 : Hid (Below w1.heap.size w1 (((((((((((w6.setCell ⟨wr.heap.size, 0, none⟩ (.string fnm)).setCell ⟨wr.heap.size, 1, none⟩ (.slice Gx gn gm)).setCell ⟨wr.heap.size, 2, none⟩ (.int .i64 kx)).setCell ⟨wr.heap.size, 3, none⟩ (.string nmx)).setCell ⟨wr.heap.size, 4, none⟩ (.int .i64 nux)).setCell ⟨wr.heap.size, 5, none⟩ (.bool shx)).setCell ⟨wr.heap.size, 6, none⟩ (.slice Ax nx mx)).setCell ⟨wr.heap.size, 7, none⟩ (.slice Bx px qx)).setCell ⟨wr.heap.size, 8, none⟩ (.slice Cx rx sx)).setCell ⟨w1.heap.size, 0, none⟩ (.int .i64 Ex)).setCell ⟨w1.heap.size, 1, none⟩ (.int .i64 (Kx : Int)))) := below_grown (below_grown HQ6.out.b1 hoB (fun g e => by cases e; omega)) hoF (fun g e => by cases e; omega)
        have HC7 := hide ((HZ6.out.put (.string fnm) (.slice Gx gn gm) (.int .i64 kx) (.string nmx) (.int .i64 nux) (.bool shx) (.slice Ax nx mx) (.slice Bx px qx) (.slice Cx rx sx)).grown hoF (by simp <;> omega))
        have HG7 : Hid (GrowV FuncV 49 9 (((((((((((w6.setCell ⟨wr.heap.size, 0, none⟩ (.string fnm)).setCell ⟨wr.heap.size, 1, none⟩ (.slice Gx gn gm)).setCell ⟨wr.heap.size, 2, none⟩ (.int .i64 kx)).setCell ⟨wr.heap.size, 3, none⟩ (.string nmx)).setCell ⟨wr.heap.size, 4, none⟩ (.int .i64 nux)).setCell ⟨wr.heap.size, 5, none⟩ (.bool shx)).setCell ⟨wr.heap.size, 6, none⟩ (.slice Ax nx mx)).setCell ⟨wr.heap.size, 7, none⟩ (.slice Bx px qx)).setCell ⟨wr.heap.size, 8, none⟩ (.slice Cx rx sx)).setCell ⟨w1.heap.size, 0, none⟩ (.int .i64 Ex)).setCell ⟨w1.heap.size, 1, none⟩ (.int .i64 (Kx : Int))) (w1.heap.size + 2) (V.far (w1.heap.size + 2)) fs (.slice Ao n co)) := fun_kept HG3.out HB6.out hoB hoF (by omega)
        have HK7 : Hid (Keep (fun b => wr.heap.size < b) w6 (((((((((((w6.setCell ⟨wr.heap.size, 0, none⟩ (.string fnm)).setCell ⟨wr.heap.size, 1, none⟩ (.slice Gx gn gm)).setCell ⟨wr.heap.size, 2, none⟩ (.int .i64 kx)).setCell ⟨wr.heap.size, 3, none⟩ (.string nmx)).setCell ⟨wr.heap.size, 4, none⟩ (.int .i64 nux)).setCell ⟨wr.heap.size, 5, none⟩ (.bool shx)).setCell ⟨wr.heap.size, 6, none⟩ (.slice Ax nx mx)).setCell ⟨wr.heap.size, 7, none⟩ (.slice Bx px qx)).setCell ⟨wr.heap.size, 8, none⟩ (.slice Cx rx sx)).setCell ⟨w1.heap.size, 0, none⟩ (.int .i64 Ex)).setCell ⟨w1.heap.size, 1, none⟩ (.int .i64 (Kx : Int)))) := (Keep.of_grown hoB (fun b hb _ => by simp <;> omega)).trans (Keep.of_grown hoF (fun b hb _ => by simp <;> omega))
        have hs7 : w6.heap.size ≤ (((((((((((w6.setCell ⟨wr.heap.size, 0, none⟩ (.string fnm)).setCell ⟨wr.heap.size, 1, none⟩ (.slice Gx gn gm)).setCell ⟨wr.heap.size, 2, none⟩ (.int .i64 kx)).setCell ⟨wr.heap.size, 3, none⟩ (.string nmx)).setCell ⟨wr.heap.size, 4, none⟩ (.int .i64 nux)).setCell ⟨wr.heap.size, 5, none⟩ (.bool shx)).setCell ⟨wr.heap.size, 6, none⟩ (.slice Ax nx mx)).setCell ⟨wr.heap.size, 7, none⟩ (.slice Bx px qx)).setCell ⟨wr.heap.size, 8, none⟩ (.slice Cx rx sx)).setCell ⟨w1.heap.size, 0, none⟩ (.int .i64 Ex)).setCell ⟨w1.heap.size, 1, none⟩ (.int .i64 (Kx : Int))).heap.size := Nat.le_trans hoB.size hoF.size
        obtain ⟨w7, hw7⟩ : ∃ w7, w7 = (((((((((((w6.setCell ⟨wr.heap.size, 0, none⟩ (.string fnm)).setCell ⟨wr.heap.size, 1, none⟩ (.slice Gx gn gm)).setCell ⟨wr.heap.size, 2, none⟩ (.int .i64 kx)).setCell ⟨wr.heap.size, 3, none⟩ (.string nmx)).setCell ⟨wr.heap.size, 4, none⟩ (.int .i64 nux)).setCell ⟨wr.heap.size, 5, none⟩ (.bool shx)).setCell ⟨wr.heap.size, 6, none⟩ (.slice Ax nx mx)).setCell ⟨wr.heap.size, 7, none⟩ (.slice Bx px qx)).setCell ⟨wr.heap.size, 8, none⟩ (.slice Cx rx sx)).setCell ⟨w1.heap.size, 0, none⟩ (.int .i64 Ex)).setCell ⟨w1.heap.size, 1, none⟩ (.int .i64 (Kx : Int))) := ⟨_, rfl⟩
        rw [← hw7] at HX7 HF7 HL7 HC7 HG7 HK7 hs7 ⊢
        clear hw7 hoB hoF g0 g1 fg0 fg1 c0 c1 c2 c3 c4 c5 c6 c7 c8 y0 y1 y2 y3 y4 y5 y6 y7 y8
        have HDD := hide (HQ3.out.d0.below HL7.out)
        have HBW := hide (HQ3.out.b0.trans (HL7.out.mono HQ3.out.b0.size))
        obtain ⟨⟨g0, g1⟩, fg0, fg1⟩ := HF7.out.cells
        obtain ⟨⟨d0, d1⟩, fd0, fd1⟩ := HDD.out.cells
        rcases HST.out with ⟨fx, j2, h1, hJ, hE, hK, hfv⟩ | ⟨h1, h2⟩
        · skip
          subst hJ
          subst hE
          subst hK
          have hj2 := funcS_lt h1
          have hj2l := funcS_le h1
          have HSL : Hid (r0 = progL X f j2 (fs ++ [fx])) := by rw [Hid, hr, h1]; rfl
          clear hr h1
          have HQB : Hid (∀ b, (Value.slice Ao n co).ownBlock = some b → b < wr.heap.size) := fun b e => by obtain ⟨_, ho, _⟩ := HG3.out; exact (ho.lt b e).2
          have HA7 : Hid (FuncV w7 (fun b => V.far (w1.heap.size + 2) b ∧ some b ≠ (Value.slice Ao n co).ownBlock) fx [.string fnm, .slice Gx gn gm, .int .i64 kx, .string nmx, .int .i64 nux, .bool shx, .slice Ax nx mx, .slice Bx px qx, .slice Cx rx sx]) := FuncV.stays.weaken (FuncV.stays.keep (FuncV.stays.weaken (S' := fun b => wr.heap.size < b) hfv (fun b hl hb => by have h9 : (wr.alloc (.cells z9 49)).heap.size ≤ b := hb; simp at h9; omega)) HK7.out) (fun b hl hb => ⟨by have h9 : w1.heap.size + 2 ≤ b := (by have hb' : wr.heap.size < b := hb; omega); exact h9, fun e => by have hb' : wr.heap.size < b := hb; have := HQB.out b e.symm; omega⟩)
          clear hfv
          obtain ⟨csr, ho7, hv7⟩ := HG7.out
          have HO7 := hide ho7
          have HV7 := hide hv7
          clear ho7 hv7 HG7
          obtain ⟨c0, c1, c2, c3, c4, c5, c6, c7, c8⟩ := HC7.out.cells
          go_wp2_with (at_builtin; refine wpList_append_own_at _ rfl _ _ 22 rfl (w1.heap.size + 2) 49 i0 _ 9 152 Tryz.underlying22 HI.out HI0.out HI1.out HI2.out rfl (by decide) _ _ _ rfl (HO7.out.alloc _) ⟨w7.heap.size, 0, none⟩ 1 1 [.string fnm, .slice Gx gn gm, .int .i64 kx, .string nmx, .int .i64 nux, .bool shx, .slice Ax nx mx, .slice Bx px qx, .slice Cx rx sx] rfl rfl ?k1 ?k2 ?k3 ?k4 ?k5 ?_)
          case k2 => exact ⟨rfl, rfl, rfl, rfl, rfl, rfl, rfl, rfl, rfl⟩
          case k3 => unfold maxLen; omega
          case k4 => omega
          case k5 => omega
          intro v' w8 hown' hgrow _ hat
          have hge : ∀ x, (Value.slice Ao n co).ownBlock = some x → w1.heap.size + 2 ≤ x := fun x e => (HO7.out.lt x e).1
          have HQ7 : Hid (RdB X A c w w1 (w7.alloc (.cells #[.string fnm, .slice Gx gn gm, .int .i64 kx, .string nmx, .int .i64 nux, .bool shx, .slice Ax nx mx, .slice Bx px qx, .slice Cx rx sx] 49))) := ⟨HQ3.out.l0, HQ3.out.d0, HQ3.out.b0, HX7.out.alloc _, HF7.out.alloc _, HL7.out.alloc HL7.out.size _⟩
          have HQ8 := hide (HQ7.out.grown hgrow hge)
          have HN8 := hide (grow_more (a := fx) FuncV.stays HV7.out HA7.out hgrow hat hown')
          have hs8 : w7.heap.size ≤ w8.heap.size := by have := hgrow.size; simp at this; omega
          clear hown' hgrow hat
          go_wp2
          go_roundw
          case rel => exact ⟨f, j2, fs ++ [fx], rfl, by have := HLEN.out; omega, HQ8.out, HSL.out, by omega, by rw [List.length_append]; show fs.length + 1 ≤ j2; omega, by omega, HN8.out⟩
          case measure => simp [intOf]; omega
        · have HSL : Hid (r0 = .bad Ex Kx) := by rw [Hid, hr, h1]; rfl
          have hne0 : (Ex == 0) = false := by simpa using h2
          clear hr h1 h2
          go_wp2
          go_region
          have HP := hide (HDD.out.put (.int .i64 Ex) (.int .i64 (Kx : Int)))
          have HO := hide (TwoAt.out (w := w7) (b := w.heap.size) (.int .i64 Ex) (.int .i64 (Kx : Int)))
          have HBG := hide (below_grown HBW.out HO.out (fun g e => by cases e; omega))
          obtain ⟨wg, hwg⟩ : ∃ wg, wg = (w7.setCell ⟨w.heap.size, 0, none⟩ (.int .i64 Ex)).setCell ⟨w.heap.size, 1, none⟩ (.int .i64 (Kx : Int)) := ⟨_, rfl⟩
          rw [← hwg] at HP HBG ⊢
          clear hwg HO
          obtain ⟨⟨u0, u1⟩, _, _⟩ := (TwoAt.drew HP.out).cells
          have HBF := hide HBG.out.drew
          obtain ⟨wf, hwf⟩ : ∃ wf, wf = wg.drew := ⟨_, rfl⟩
          rw [← hwf] at u0 u1 HBF ⊢
          clear hwf
          go_wp2
          refine bodyPost_ret (v := .tuple #[.slice none 0 0, .agg #[.int .i64 Ex, .int .i64 (Kx : Int)]]) (by simp [results, Tryz.results5, go_sem, u0, u1]) rfl ?_
          rw [HR2.out, HSL.out]
          exact ⟨none, 0, 0, rfl, SliceV.none _ _ _ _ _, HBF.out⟩
      · rw [if_neg (by rw [HLEN.out]; exact hlt)] at hr
        have HSL := hide hr
        have i2 : ¬ (j : Int) < (N : Int) := by omega
        obtain ⟨⟨d0, d1⟩, fd0, fd1⟩ := HQ3.out.d.cells
        go_wp2
        have HP := hide (HQ3.out.d.put (.int .i64 0) (.int .i64 0))
        have HO := hide (TwoAt.out (w := wr) (b := w.heap.size) (.int .i64 0) (.int .i64 0))
        have HBF := hide (below_grown HQ3.out.bw HO.out (fun g e => by cases e; omega))
        obtain ⟨⟨u0, u1⟩, _, _⟩ := HP.out.cells
        refine bodyPost_ret (v := .tuple #[.slice Ao n co, .agg #[.int .i64 0, .int .i64 0]]) (by simp [results, Tryz.results5, go_sem, u0, u1]) rfl ?_
        rw [HR2.out, HSL.out]
        have HS3 := HG3.out.slice FuncV.stays (fun _ h => h)
        exact ⟨Ao, n, co, rfl, FuncV.stays.slice_weaken (FuncV.stays.slice HS3 (far_keep HO.out (by omega))) (fun b _ hb => by have h9 : w1.heap.size + 2 ≤ b := hb; unfold from_; omega), HBF.out⟩
  · have hro := readO_bad h0
    obtain ⟨O, hO⟩ : ∃ O, O = tokO s := ⟨_, rfl⟩
    rw [← hO] at HT h0 hro
    have HRB : Hid (RO = (O.1, [])) := HRO.out.trans hro
    clear hO hro HRO
    obtain ⟨⟨T, K⟩, ts⟩ := O
    simp only at HT h0 HRB
    have hne0 : (T == 0) = false := by simpa using h0
    go_enter Tryz.func5, Tryz.ntmps5
    go_upto_region 2 with (first
      | (go_at_call 11; refine HT.out.mono ?_; rintro e w1 ⟨A, c, rfl, hA, hb⟩; have HB1 := hide (HB0.out.trans (hb.mono HB0.out.size)); have HD1 := hide (HD0.out.below hb); have hs1 : w.heap.size < w1.heap.size := (by have := hb.size; simp at this; omega); clear hA; clear hb HT)
      )
    have HDD := hide (HD1.out.alloc (.cells #[.int .i64 T, .int .i64 (K : Int)] 25))
    have HFF := hide (TwoAt.new 25 w1 (.int .i64 T) (.int .i64 (K : Int)))
    have HBW := hide (HB1.out.alloc HB1.out.size (.cells #[.int .i64 T, .int .i64 (K : Int)] 25))
    obtain ⟨w2, hw2⟩ : ∃ w2, w2 = w1.alloc (.cells #[.int .i64 T, .int .i64 (K : Int)] 25) := ⟨_, rfl⟩
    rw [← hw2] at HDD HFF HBW ⊢
    clear hw2
    obtain ⟨⟨g0, g1⟩, fg0, fg1⟩ := HFF.out.cells
    obtain ⟨⟨d0, d1⟩, fd0, fd1⟩ := HDD.out.cells
    go_wp2
    go_region
    have HP := hide (HDD.out.put (.int .i64 T) (.int .i64 (K : Int)))
    have HO := hide (TwoAt.out (w := w2) (b := w.heap.size) (.int .i64 T) (.int .i64 (K : Int)))
    have HBG := hide (below_grown HBW.out HO.out (fun g e => by cases e; omega))
    obtain ⟨wg, hwg⟩ : ∃ wg, wg = (w2.setCell ⟨w.heap.size, 0, none⟩ (.int .i64 T)).setCell ⟨w.heap.size, 1, none⟩ (.int .i64 (K : Int)) := ⟨_, rfl⟩
    rw [← hwg] at HP HBG ⊢
    clear hwg HO
    obtain ⟨⟨u0, u1⟩, _, _⟩ := (TwoAt.drew HP.out).cells
    have HBF := hide HBG.out.drew
    obtain ⟨wf, hwf⟩ : ∃ wf, wf = wg.drew := ⟨_, rfl⟩
    rw [← hwf] at u0 u1 HBF ⊢
    clear hwf
    go_wp2
    refine bodyPost_ret (v := .tuple #[.slice none 0 0, .agg #[.int .i64 T, .int .i64 (K : Int)]]) (by simp [results, Tryz.results5, go_sem, u0, u1]) rfl ?_
    rw [HRB.out]
    exact ⟨none, 0, 0, rfl, SliceV.none _ _ _ _ _, HBF.out⟩
end Go.Proofs.YtadhlnlcdljamaaGreatDoor.V
namespace Go.Proofs.YtadhlnlcdljamaaGreatDoor.V
set_option maxRecDepth 20000
open Go.RowKit
set_option linter.unusedVariables false

set_option maxRecDepth 100000 in
set_option maxHeartbeats 4000000 in
theorem textReads_walk (s : ByteArray) (w : World) (hmax : s.size ≤ 9223372036854775807) (hE : ErrAt w) (h2 : 2 < w.heap.size) :
    Calls Tryz.prog 3 #[.string s] w fun e w' => e = .returned (.bool true) ∧ Below w.heap.size w w' := by
  have HT := hide (Read_any s w hmax hE h2)
  have HR : Hid (∀ W, Calls Tryz.prog 5 #[.string s] W (ReadP s W)) := fun W => rRead_any s W hmax
  have HO := hide (read_bound s)
  unfold ReadP at HT HR
  obtain ⟨RO, hRO⟩ : ∃ RO, RO = readO s := ⟨_, rfl⟩
  rw [← hRO] at HT HR HO
  clear hRO hE h2
  obtain ⟨⟨T, K⟩, fs⟩ := RO
  simp only at HT HR HO
  go_enter Tryz.func3, Tryz.ntmps3
  go_wp2_with (first
    | (go_at_call 4; refine HT.out.mono ?_; rintro e w1 ⟨A1, n1, c1, rfl, hv, hb⟩; have HV1 := hide hv; have HB1 := hide hb; clear hv hb)
    | (go_at_call 5; refine (HR.out _).mono ?_; rintro e w2 ⟨A2, n2, c2, rfl, hv, hb⟩; have HV2 := hide hv; have HB2 := hide hb; clear hv hb)
    | (go_at_call 6
       have hz1 := HB1.out.size
       have HVA := hide (FuncV.stays.slice (FuncV.stays.slice (FuncV.stays.slice HV1.out (Keep.alloc w1 (.cells #[.int .i64 T, .int .i64 (K : Int)] 25))) (Keep.of_below HB2.out)) (Keep.alloc w2 (.cells #[.int .i64 T, .int .i64 (K : Int)] 25)))
       have HVB := hide (FuncV.stays.slice HV2.out (Keep.alloc w2 (.cells #[.int .i64 T, .int .i64 (K : Int)] 25)))
       have HF1 := hide (((TwoAt.new 25 w1 (.int .i64 T) (.int .i64 (K : Int))).below HB2.out).alloc (.cells #[.int .i64 T, .int .i64 (K : Int)] 25))
       have HF2 := hide (TwoAt.new 25 w2 (.int .i64 T) (.int .i64 (K : Int)))
       have HBB := hide (((HB1.out.alloc HB1.out.size (.cells #[.int .i64 T, .int .i64 (K : Int)] 25)).trans (HB2.out.mono (by have := HB1.out.size; simp; omega))).alloc (by have := HB1.out.size; have := HB2.out.size; simp at *; omega) (.cells #[.int .i64 T, .int .i64 (K : Int)] 25))
       refine (same_program 65538 (by decide) _ _ _ _ _ _ _ _ fs _ HVA.out HVB.out HO.out.1 HO.out.2).mono ?_
       rintro e w4 ⟨rfl, hb4⟩
       obtain ⟨⟨r0, r1⟩, _⟩ := (HF1.out.below hb4).cells
       obtain ⟨⟨s0, s1⟩, _⟩ := (HF2.out.below hb4).cells
       have HB4 := hide (HBB.out.trans (hb4.mono HBB.out.size))
       clear hb4))
  go_ret
  exact ⟨rfl, HB4.out⟩
end Go.Proofs.YtadhlnlcdljamaaGreatDoor.V
