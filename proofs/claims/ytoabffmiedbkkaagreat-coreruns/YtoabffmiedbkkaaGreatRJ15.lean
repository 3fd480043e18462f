/-
  A machine in memory: it works as long as an engine can go on. The document's goes: can an engine go on?
-/
import Derived.Test.YtoabffmiedbkkaaGreatRJ14
import Derived.Test.YtoabffmiedbkkaaGreatRJ0
namespace Go.Proofs.YtoabffmiedbkkaaGreat.V
set_option maxRecDepth 20000
open Go Go.RowKit
set_option linter.unusedVariables false
set_option linter.unusedSimpArgs false

/-- What lies apart. -/
structure Apt (N : Nat) (g : Nat) (c : CV) (B : MbK) (b1 b2 : Nat) (xa : Option Addr) (xl : Nat) : Prop where
  h1 : b1 ≠ g ∧ b1 ≠ B.gp ∧ b1 ≠ B.gm ∧ b1 ≠ b2
  h2 : b2 ≠ g ∧ b2 ≠ B.gp ∧ b2 ≠ B.gm
  x : ∀ b off, xa = some ⟨b, off, none⟩ → 0 < xl → b ≠ g ∧ b ≠ B.gp ∧ b ≠ B.gm ∧ b ≠ b2 ∧ b < N
  i : ∀ b off, (c.ma = some ⟨b, off, none⟩ ∧ 0 < c.ml) ∨ (c.ka = some ⟨b, off, none⟩ ∧ 0 < c.kl) → b ≠ b2 ∧ b < N
def cntW (g k : Nat) (w : World) : Nat :=
  match w.cell? ⟨g, k, none⟩ with
  | some (.int _ v) => v.toNat
  | _ => 0
theorem MchAt.cnt {W : World} {g : Nat} {c : CV} {mv mk : List In} {B : MbK} {s : Mac} (h : MchAt W g c mv mk B s) : cntW g 22 W = s.i ∧ cntW g 23 W = s.j := by
  have h1 := h.cell (k := 22) (by decide)
  have h2 := h.cell (k := 23) (by decide)
  simp [mchV] at h1 h2
  unfold cntW
  rw [h1, h2]
  simp
/-- While it works. -/
structure WkI (W : World) (g : Nat) (c : CV) (mv mk : List In) (B : MbK) (xa : Option Addr) (xl xc : Nat) (ps : List Int) (b1 b2 : Nat) (R : Mac) (t : Nat) (s : Mac) (wr : World) : Prop where
  m : MchAt wr g c mv mk B s
  i : MacI mv mk s
  tt : TurnAt wr b1 b2 xa xl xc ps t
  r : runM mv mk ps (mv.length + mk.length) t s = R
  w : WrB (fun b => b = g ∨ b = B.gp ∨ b = B.gm ∨ b = b2) W wr
  bd : BdM s
theorem WkI.below {W : World} {g : Nat} {c : CV} {mv mk : List In} {B : MbK} {xa : Option Addr} {xl xc : Nat} {ps : List Int} {b1 b2 : Nat} {R : Mac} {t : Nat} {s : Mac} {wr V : World} (h : WkI W g c mv mk B xa xl xc ps b1 b2 R t s wr) (hb : Below wr.heap.size wr V) : WkI W g c mv mk B xa xl xc ps b1 b2 R t s V :=
  ⟨h.m.below hb, h.i, ⟨(hb.block b1 (Array.getElem?_eq_some_iff.1 h.tt.1).1).trans h.tt.1, (hb.block b2 (Array.getElem?_eq_some_iff.1 h.tt.2.1).1).trans h.tt.2.1, h.tt.2.2.1.below hb, h.tt.2.2.2⟩, h.r, h.w.trans (WrB.of hb), h.bd⟩
theorem leftC_le {mv mk : List In} (s : Mac) : leftC mv mk s ≤ mv.length + mk.length := by unfold leftC; omega
/-- The mover has done a step. -/
theorem WkI.a {W : World} {g : Nat} {c : CV} {mv mk : List In} {B : MbK} {xa : Option Addr} {xl xc : Nat} {ps : List Int} {b1 b2 : Nat} {R : Mac} {t t' : Nat} {s : Mac} {wr wt V : World} (h : WkI W g c mv mk B xa xl xc ps b1 b2 R t s wr) (ap : Apt W.heap.size g c B b1 b2 xa xl) (ho : OneWay mv mk) (hv : VOk mv) (ht : TurnAt wt b1 b2 xa xl xc ps t') (hwt : WrB (fun b => b = b2) wr wt) (hV : MchAt V g c mv mk B (stA mv s)) (hw : WrB (fun b => b = g ∨ b = B.gp ∨ b = B.gm) wt V) (ga : goI mv s.i s.sem = true) (hg : (goI mk s.j s.sem = true ∧ pickB ps t = true ∧ t' = t + 1) ∨ (goI mk s.j s.sem = false ∧ t' = t)) : WkI W g c mv mk B xa xl xc ps b1 b2 R t' (stA mv s) V := by
  have hle : W.heap.size ≤ wt.heap.size := Nat.le_trans h.w.2.1 hwt.2.1
  refine ⟨hV, h.i.a ho ga, ht.alone hw (fun e => ?_) (fun e => ?_) (fun b off e h0 => ?_), by rw [← run_a (leftC_le s) ga hg]; exact h.r, (h.w.trans (hwt.mono fun b e => .inr (.inr (.inr e)))).trans (hw.mono fun b e => ?_), h.bd.a hv (go_lt ga)⟩
  · have := ap.h1; omega
  · have := ap.h2; omega
  · have := ap.x b off e h0
    exact ⟨by omega, by omega⟩
  · rcases e with e | e | e
    · exact .inl e
    · exact .inr (.inl e)
    · exact .inr (.inr (.inl e))
theorem WkI.b {W : World} {g : Nat} {c : CV} {mv mk : List In} {B : MbK} {xa : Option Addr} {xl xc : Nat} {ps : List Int} {b1 b2 : Nat} {R : Mac} {t t' : Nat} {s : Mac} {wr wt V : World} (h : WkI W g c mv mk B xa xl xc ps b1 b2 R t s wr) (ap : Apt W.heap.size g c B b1 b2 xa xl) (ho : OneWay mv mk) (hv : VOk mk) (ht : TurnAt wt b1 b2 xa xl xc ps t') (hwt : WrB (fun b => b = b2) wr wt) (hV : MchAt V g c mv mk B (stB mk s)) (hw : WrB (fun b => b = g ∨ b = B.gp ∨ b = B.gm) wt V) (gb : goI mk s.j s.sem = true) (hg : (goI mv s.i s.sem = true ∧ pickB ps t = false ∧ t' = t + 1) ∨ (goI mv s.i s.sem = false ∧ t' = t)) : WkI W g c mv mk B xa xl xc ps b1 b2 R t' (stB mk s) V := by
  have hle : W.heap.size ≤ wt.heap.size := Nat.le_trans h.w.2.1 hwt.2.1
  refine ⟨hV, h.i.b ho gb, ht.alone hw (fun e => ?_) (fun e => ?_) (fun b off e h0 => ?_), by rw [← run_b (leftC_le s) gb hg]; exact h.r, (h.w.trans (hwt.mono fun b e => .inr (.inr (.inr e)))).trans (hw.mono fun b e => ?_), h.bd.b hv (go_lt gb)⟩
  · have := ap.h1; omega
  · have := ap.h2; omega
  · have := ap.x b off e h0
    exact ⟨by omega, by omega⟩
  · rcases e with e | e | e
    · exact .inl e
    · exact .inr (.inl e)
    · exact .inr (.inr (.inl e))
/-- The maker's instructions are done in this way. -/
def RckOk (g : Nat) (c : CV) (mv mk : List In) (B : MbK) : Prop := ∀ x, insE c.pad c.mem false x = 0 → bd64 x.v → x.d ≠ 3 ∧ x.d ≠ 4 → ∀ (V : World) (s' : Mac), MchAt V g c mv mk B s' → (∀ q, bd64 (s'.pad q)) → Calls Tryz.prog 45 #[.pointer (some ⟨g, 0, none⟩), x.w] V fun e w' => e = .returned (.tuple #[]) ∧ MchAt w' g c mv mk B { s' with pad := doP x s'.pad s'.mem } ∧ WrB (fun b => b = B.gp) V w'
set_option maxRecDepth 20000 in
set_option maxHeartbeats 8000000 in
theorem work_any (g : Nat) (c : CV) (mv mk : List In) (B : MbK) (xa : Option Addr) (xl xc : Nat) (ps : List Int) (b1 b2 : Nat) (s0 : Mac) (W : World) (h : MchAt W g c mv mk B s0) (hI : MacI mv mk s0) (hT : TurnAt W b1 b2 xa xl xc ps 0) (hc : CodeOk c.pad c.mem mv mk) (hf : Fits c B) (hrk : RckOk g c mv mk B) (ap : Apt W.heap.size g c B b1 b2 xa xl) (hvm : VOk mv) (hvk : VOk mk) (hbd : BdM s0) :
    Calls Tryz.prog 13 #[.pointer (some ⟨g, 0, none⟩), .func (.func 27) #[] #[.pointer (some ⟨b1, 0, none⟩), .pointer (some ⟨b2, 0, none⟩)]] W fun e w' => e = .returned (.tuple #[]) ∧ MchAt w' g c mv mk B (runM mv mk ps (mv.length + mk.length) 0 s0) ∧ WrB (fun b => b = g ∨ b = B.gp ∨ b = B.gm ∨ b = b2) W w' := by
  obtain ⟨R, hR⟩ : ∃ R, R = runM mv mk ps (mv.length + mk.length) 0 s0 := ⟨_, rfl⟩
  rw [← hR]
  have HK0 : Hid (WkI W g c mv mk B xa xl xc ps b1 b2 R 0 s0 W) := ⟨h, hI, hT, hR.symm, WrB.refl _ _, hbd⟩
  have HC := hide hc
  have HF := hide hf
  have HRK := hide hrk
  have HSA : Hid (SemOk mv) := fun k hk hd => ins_sem (hc.a k hk) hd
  have HSB : Hid (SemOk mk) := fun k hk hd => ins_sem (hc.b k hk) hd
  have HVM := hide hvm
  have HVK := hide hvk
  clear h hI hT hR hc hf hrk hvm hvk hbd
  go_enter Tryz.func13, Tryz.ntmps13
  go_wp2_with fail
  go_loopw [] (fun wr => ∃ t s, WkI W g c mv mk B xa xl xc ps b1 b2 R t s wr) (fun wr => mv.length + mk.length - (cntW g 22 wr + cntW g 23 wr))
  case atStart => exact ⟨0, s0, HK0.out⟩
  case round =>
    obtain ⟨t, s, hwk⟩ := hrel
    have HWK0 := hide hwk
    clear hwk
    go_upto_region 1 with (first
      | (go_at_call_of 25 (Value.int .i64 0); refine (goesOn_A g c mv mk B s _ HWK0.out.m HSA.out (by have := HWK0.out.i.i; have := HC.out.lv; omega)).mono ?_; rintro e w1 ⟨rfl, hb1⟩; have HB1 := hide hb1; clear hb1)
      | (go_at_call_of 25 (Value.int .i64 1); refine (goesOn_B g c mv mk B s _ (HWK0.out.m.below HB1.out) HSB.out (by have := HWK0.out.i.j; have := HC.out.lk; omega)).mono ?_; rintro e w2 ⟨rfl, hb2⟩; have HB2 := hide (bl_on HB1.out hb2); clear hb2))
    have HWK := hide (HWK0.out.below HB2.out)
    cases ga : goI mv s.i s.sem with
    | true =>
      cases gb : goI mk s.j s.sem with
      | true =>
        cases hpk : pickB ps t with
        | true =>
          have HPK : Hid (pkV ps t = 0) := by
            show pkV ps t = 0
            unfold pkV
            rw [hpk]
            rfl
          have HP := hide hpk
          go_wp2_with (first | (go_at_call 27; refine (mturn_any b1 b2 xa xl xc ps t _ HWK.out.tt ap.h1.2.2.2 (fun b off e h0 => (ap.x b off e h0).2.2.2.1)).mono ?_; rintro e wt ⟨rfl, ht, hwt⟩; rw [HPK.out]; have HTT := hide ht; have HWT := hide hwt; clear ht hwt; have HMT := hide (HWK.out.m.alone HWT.out (fun e => ap.h2.1 e.symm) (fun e => ap.h2.2.1 e.symm) (fun e => ap.h2.2.2 e.symm) (fun b off e => ⟨(ap.i b off e).1, Nat.lt_of_lt_of_le (ap.i b off e).2 HWK.out.w.2.1⟩))) | (go_at_call 26; refine (step_A g c mv mk B s s.i (getI mv s.i) _ HMT.out rfl (go_lt ga) rfl (by have := go_lt ga; have := HC.out.lv; omega) (fun hd => ins_sem (HC.out.a s.i (go_lt ga)) hd) (HWK.out.i.bd HC.out.lv HC.out.lk) (by have h9 := HC.out.engs.1 s.i (go_lt ga); exact h9) (fun hd => mv_ok HF.out HC.out.pd HC.out.mm (HC.out.a s.i (go_lt ga)) hd)).mono ?_; rintro e w9 ⟨rfl, h9, hw9⟩; have H9 := hide h9; have HW9 := hide hw9; clear h9 hw9))
          go_roundw
          case rel => exact ⟨_, _, HWK.out.a ap HC.out.oneWay HVM.out HTT.out HWT.out H9.out HW9.out ga (.inl ⟨gb, HP.out, rfl⟩)⟩
          case measure =>
            have c1 := HWK0.out.m.cnt
            have c2 := H9.out.cnt
            have hl := go_lt ga
            have hi9 := HWK.out.i.i
            have hj9 := HWK.out.i.j
            rw [c1.1, c1.2, c2.1, c2.2]
            unfold stA
            simp only
            omega
        | false =>
          have HPK : Hid (pkV ps t = 1) := by
            show pkV ps t = 1
            unfold pkV
            rw [hpk]
            rfl
          have HP := hide hpk
          go_wp2_with (first | (go_at_call 27; refine (mturn_any b1 b2 xa xl xc ps t _ HWK.out.tt ap.h1.2.2.2 (fun b off e h0 => (ap.x b off e h0).2.2.2.1)).mono ?_; rintro e wt ⟨rfl, ht, hwt⟩; rw [HPK.out]; have HTT := hide ht; have HWT := hide hwt; clear ht hwt; have HMT := hide (HWK.out.m.alone HWT.out (fun e => ap.h2.1 e.symm) (fun e => ap.h2.2.1 e.symm) (fun e => ap.h2.2.2 e.symm) (fun b off e => ⟨(ap.i b off e).1, Nat.lt_of_lt_of_le (ap.i b off e).2 HWK.out.w.2.1⟩))) | (go_at_call 26; refine (step_B g c mv mk B s s.j (getI mk s.j) _ HMT.out rfl (go_lt gb) rfl (by have := go_lt gb; have := HC.out.lk; omega) (fun hd => ins_sem (HC.out.b s.j (go_lt gb)) hd) (HWK.out.i.bd HC.out.lv HC.out.lk) (HC.out.engs.2 s.j (go_lt gb)) (fun hd V9 s9 h9 hp9 => HRK.out _ (HC.out.b s.j (go_lt gb)) (HVK.out _ (go_lt gb)) hd V9 s9 h9 (fun q => by rw [hp9]; exact HWK.out.bd.1 q))).mono ?_; rintro e w9 ⟨rfl, h9, hw9⟩; have H9 := hide h9; have HW9 := hide hw9; clear h9 hw9))
          go_roundw
          case rel => exact ⟨_, _, HWK.out.b ap HC.out.oneWay HVK.out HTT.out HWT.out H9.out HW9.out gb (.inl ⟨ga, HP.out, rfl⟩)⟩
          case measure =>
            have c1 := HWK0.out.m.cnt
            have c2 := H9.out.cnt
            have hl := go_lt gb
            have hi9 := HWK.out.i.i
            have hj9 := HWK.out.i.j
            rw [c1.1, c1.2, c2.1, c2.2]
            unfold stB
            simp only
            omega
      | false =>
        go_wp2_with ((go_at_call 26; refine (step_A g c mv mk B s s.i (getI mv s.i) _ HWK.out.m rfl (go_lt ga) rfl (by have := go_lt ga; have := HC.out.lv; omega) (fun hd => ins_sem (HC.out.a s.i (go_lt ga)) hd) (HWK.out.i.bd HC.out.lv HC.out.lk) (by have h9 := HC.out.engs.1 s.i (go_lt ga); exact h9) (fun hd => mv_ok HF.out HC.out.pd HC.out.mm (HC.out.a s.i (go_lt ga)) hd)).mono ?_; rintro e w9 ⟨rfl, h9, hw9⟩; have H9 := hide h9; have HW9 := hide hw9; clear h9 hw9))
        go_roundw
        case rel => exact ⟨_, _, HWK.out.a ap HC.out.oneWay HVM.out HWK.out.tt (WrB.refl _ _) H9.out HW9.out ga (.inr ⟨gb, rfl⟩)⟩
        case measure =>
          have c1 := HWK0.out.m.cnt
          have c2 := H9.out.cnt
          have hl := go_lt ga
          have hi9 := HWK.out.i.i
          have hj9 := HWK.out.i.j
          rw [c1.1, c1.2, c2.1, c2.2]
          unfold stA
          simp only
          omega
    | false =>
      cases gb : goI mk s.j s.sem with
      | true =>
        go_wp2_with ((go_at_call 26; refine (step_B g c mv mk B s s.j (getI mk s.j) _ HWK.out.m rfl (go_lt gb) rfl (by have := go_lt gb; have := HC.out.lk; omega) (fun hd => ins_sem (HC.out.b s.j (go_lt gb)) hd) (HWK.out.i.bd HC.out.lv HC.out.lk) (HC.out.engs.2 s.j (go_lt gb)) (fun hd V9 s9 h9 hp9 => HRK.out _ (HC.out.b s.j (go_lt gb)) (HVK.out _ (go_lt gb)) hd V9 s9 h9 (fun q => by rw [hp9]; exact HWK.out.bd.1 q))).mono ?_; rintro e w9 ⟨rfl, h9, hw9⟩; have H9 := hide h9; have HW9 := hide hw9; clear h9 hw9))
        go_roundw
        case rel => exact ⟨_, _, HWK.out.b ap HC.out.oneWay HVK.out HWK.out.tt (WrB.refl _ _) H9.out HW9.out gb (.inr ⟨ga, rfl⟩)⟩
        case measure =>
          have c1 := HWK0.out.m.cnt
          have c2 := H9.out.cnt
          have hl := go_lt gb
          have hi9 := HWK.out.i.i
          have hj9 := HWK.out.i.j
          rw [c1.1, c1.2, c2.1, c2.2]
          unfold stB
          simp only
          omega
      | false =>
        go_wp2_with fail
        have hr := HWK.out.r
        rw [run_stop ga gb] at hr
        refine bodyPost_ret (v := .tuple #[]) (by simp [results, Tryz.results13, go_sem]) rfl ?_
        rw [← hr]
        exact ⟨rfl, HWK.out.m, HWK.out.w⟩
end Go.Proofs.YtoabffmiedbkkaaGreat.V
namespace Go.Proofs.YtoabffmiedbkkaaGreat.V
set_option maxRecDepth 20000
open Go Go.RowKit
set_option linter.unusedVariables false
set_option linter.unusedSimpArgs false

/-- Sixteen numbers. -/
def semA (S : Int → Int) : Array Value := #[.int .i64 (S 0), .int .i64 (S 1), .int .i64 (S 2), .int .i64 (S 3), .int .i64 (S 4), .int .i64 (S 5), .int .i64 (S 6), .int .i64 (S 7), .int .i64 (S 8), .int .i64 (S 9), .int .i64 (S 10), .int .i64 (S 11), .int .i64 (S 12), .int .i64 (S 13), .int .i64 (S 14), .int .i64 (S 15)]
theorem semA_at (S : Int → Int) (k : Nat) (hk : k < 16) : (semA S)[k]? = some (.int .i64 (S (k : Int))) := by
  have : k = 0 ∨ k = 1 ∨ k = 2 ∨ k = 3 ∨ k = 4 ∨ k = 5 ∨ k = 6 ∨ k = 7 ∨ k = 8 ∨ k = 9 ∨ k = 10 ∨ k = 11 ∨ k = 12 ∨ k = 13 ∨ k = 14 ∨ k = 15 := by omega
  rcases this with rfl | rfl | rfl | rfl | rfl | rfl | rfl | rfl | rfl | rfl | rfl | rfl | rfl | rfl | rfl | rfl
  all_goals rfl
theorem goI_drop (l : List In) (i : Nat) (S : Int → Int) : goI (l.drop i) 0 S = goI l i S := by
  unfold goI getI
  have e : (l.drop i)[0]? = l[i]? := by rw [List.getElem?_drop, Nat.add_zero]
  rw [e, List.length_drop]
  congr 1
  simp
  omega
set_option maxRecDepth 20000 in
set_option maxHeartbeats 4000000 in
theorem goes13_any (A : Option Addr) (n cap : Nat) (L : List In) (S : Int → Int) (W : World) (h : Inss W A n L) (hs : (getI L 0).d = 4 → 0 ≤ (getI L 0).a ∧ (getI L 0).a < 16) :
    Calls Tryz.prog 16 #[.slice A n cap, .agg (semA S)] W fun e w' => e = .returned (.bool (goI L 0 S)) ∧ Below W.heap.size W w' := by
  obtain ⟨V, hV⟩ : ∃ V, V = W.alloc (.cells (semA S) 41) := ⟨_, rfl⟩
  have hbV : Below W.heap.size W V := by rw [hV]; exact bl_new _
  have hSB : V.heap[W.heap.size]? = some (.cells (semA S) 41 (0, 0)) := by rw [hV]; exact World.alloc_heap_new _ _
  obtain ⟨sb, hsb⟩ : ∃ b, b = W.heap.size := ⟨_, rfl⟩
  rw [← hsb] at hSB
  have sz := (Array.getElem?_eq_some_iff.1 hSB).1
  have hm := h.2.1
  have hl := h.1
  have h' := h.below hbV
  obtain ⟨R, hR⟩ : ∃ R, R = goI L 0 S := ⟨_, rfl⟩
  rw [← hR]
  have HR := hide hR
  have HV := hide hV
  have HSBE := hide hsb
  have HBV := hide hbV
  have HSB := hide hSB
  have HS := hide hs
  clear hR hV hsb hbV hSB h hs
  go_enter Tryz.func16, Tryz.ntmps16
  go_upto_region 1 with fail
  rw [← HV.out, ← HSBE.out]
  by_cases h0 : n = 0
  · subst h0
    have hr : R = false := by
      rw [HR.out]
      unfold goI
      rw [hl]
      simp
    subst hr
    clear h' hl
    go_wp2_with fail
    go_ret
    exact ⟨rfl, HBV.out⟩
  · obtain ⟨b, off, rfl, hc⟩ := h'.2.2.resolve_left h0
    obtain ⟨x0, x1, x2, x3, x4, x5⟩ := hc 0 (by omega)
    obtain ⟨x, hx⟩ : ∃ x, x = getI L 0 := ⟨_, rfl⟩
    rw [show L[0]?.getD inD = x from hx.symm] at x0 x1
    simp at x0 x1
    have xz := lt_of_cell x0
    simp only at xz
    have hn0 : (0 : Int) < (n : Int) := by omega
    rw [← hx] at HS
    have hr : R = (decide (x.d ≠ 4) || decide (0 < S x.a)) := by
      rw [HR.out]
      unfold goI
      rw [hl, ← hx, decide_eq_true (by omega), Bool.true_and]
    clear HR hc h' x2 x3 x4 x5 hx
    by_cases h4 : x.d = 4
    · obtain ⟨a0, a1⟩ := HS.out h4
      obtain ⟨ka, hka⟩ : ∃ k : Nat, x.a = (k : Int) := ⟨x.a.toNat, by omega⟩
      have hk16 : ka < 16 := by omega
      have sc : V.cell? ⟨sb, ka, none⟩ = some (.int .i64 (S (ka : Int))) := by
        simp only [World.cell?, HSB.out]
        exact semA_at S ka hk16
      rw [h4] at x0
      rw [hka] at x1
      have q1 : (0 : Int) ≤ (ka : Int) := by omega
      have q2 : (ka : Int) < 16 := by omega
      obtain ⟨sv, hsv⟩ : ∃ v, v = S (ka : Int) := ⟨_, rfl⟩
      rw [← hsv] at sc
      have hr2 : R = decide (0 < sv) := by rw [hr, h4, hka, hsv]; simp
      clear hr hsv hka HS h4 a0 a1 hm hl
      by_cases hp : 0 < sv
      · have : R = true := by rw [hr2]; simp [hp]
        subst this
        clear hr2
        go_wp2_with fail
        go_ret
        exact ⟨rfl, HBV.out⟩
      · have : R = false := by rw [hr2]; simp [hp]
        subst this
        clear hr2
        go_wp2_with fail
        go_ret
        exact ⟨rfl, HBV.out⟩
    · have : R = true := by rw [hr]; simp [h4]
      subst this
      have h4b : (x.d != 4) = true := by simp [h4]
      clear hr HS hm hl
      go_wp2_with fail
      go_ret
      exact ⟨rfl, HBV.out⟩
end Go.Proofs.YtoabffmiedbkkaaGreat.V
