/-
  A machine in memory: it works as long as an engine can go on. Contracts: slices.Max, core.leave.
-/
import Derived.Test.YtoabffmiedbkkaaGreatPK14
import Derived.Test.YtoabffmiedbkkaaGreatPK0
import Derived.Test.YtoabffmiedbkkaaGreatPK12
namespace Go.Proofs.YtoabffmiedbkkaaGreat.V
set_option maxRecDepth 20000
open Go Go.RowKit
set_option linter.unusedVariables false
set_option linter.unusedSimpArgs false

/-- What lies apart. -/
structure Apt (N : Nat) (g : Nat) (c : CV) (B : MbK) (b1 b2 : Nat) (xa : Option Addr) (xl : Nat) : Prop where
  h1 : b1 ≠ g ∧ b1 ≠ B.gp ∧ b1 ≠ B.gm ∧ b1 ≠ b2
  h2 : b2 ≠ g ∧ b2 ≠ B.gp ∧ b2 ≠ B.gm
  x : ∀ b off, xa = some ⟨b, off, none⟩ → 0 < xl → b ≠ g ∧ b ≠ B.gp ∧ b ≠ B.gm ∧ b ≠ b2 ∧ b < N
  i : ∀ b off, (c.ma = some ⟨b, off, none⟩ ∧ 0 < c.ml) ∨ (c.ka = some ⟨b, off, none⟩ ∧ 0 < c.kl) → b ≠ b2 ∧ b < N
def cntW (g k : Nat) (w : World) : Nat :=
  match w.cell? ⟨g, k, none⟩ with
  | some (.int _ v) => v.toNat
  | _ => 0
theorem MchAt.cnt {W : World} {g : Nat} {c : CV} {mv mk : List In} {B : MbK} {s : Mac} (h : MchAt W g c mv mk B s) : cntW g 22 W = s.i ∧ cntW g 23 W = s.j := by
  have h1 := h.cell (k := 22) (by decide)
  have h2 := h.cell (k := 23) (by decide)
  simp [mchV] at h1 h2
  unfold cntW
  rw [h1, h2]
  simp
/-- While it works. -/
structure WkI (W : World) (g : Nat) (c : CV) (mv mk : List In) (B : MbK) (xa : Option Addr) (xl xc : Nat) (ps : List Int) (b1 b2 : Nat) (R : Mac) (t : Nat) (s : Mac) (wr : World) : Prop where
  m : MchAt wr g c mv mk B s
  i : MacI mv mk s
  tt : TurnAt wr b1 b2 xa xl xc ps t
  r : runM mv mk ps (mv.length + mk.length) t s = R
  w : WrB (fun b => b = g ∨ b = B.gp ∨ b = B.gm ∨ b = b2) W wr
  bd : BdM s
theorem WkI.below {W : World} {g : Nat} {c : CV} {mv mk : List In} {B : MbK} {xa : Option Addr} {xl xc : Nat} {ps : List Int} {b1 b2 : Nat} {R : Mac} {t : Nat} {s : Mac} {wr V : World} (h : WkI W g c mv mk B xa xl xc ps b1 b2 R t s wr) (hb : Below wr.heap.size wr V) : WkI W g c mv mk B xa xl xc ps b1 b2 R t s V :=
  ⟨h.m.below hb, h.i, ⟨(hb.block b1 (Array.getElem?_eq_some_iff.1 h.tt.1).1).trans h.tt.1, (hb.block b2 (Array.getElem?_eq_some_iff.1 h.tt.2.1).1).trans h.tt.2.1, h.tt.2.2.1.below hb, h.tt.2.2.2⟩, h.r, h.w.trans (WrB.of hb), h.bd⟩
theorem leftC_le {mv mk : List In} (s : Mac) : leftC mv mk s ≤ mv.length + mk.length := by unfold leftC; omega
/-- The mover has done a step. -/
theorem WkI.a {W : World} {g : Nat} {c : CV} {mv mk : List In} {B : MbK} {xa : Option Addr} {xl xc : Nat} {ps : List Int} {b1 b2 : Nat} {R : Mac} {t t' : Nat} {s : Mac} {wr wt V : World} (h : WkI W g c mv mk B xa xl xc ps b1 b2 R t s wr) (ap : Apt W.heap.size g c B b1 b2 xa xl) (ho : OneWay mv mk) (hv : VOk mv) (ht : TurnAt wt b1 b2 xa xl xc ps t') (hwt : WrB (fun b => b = b2) wr wt) (hV : MchAt V g c mv mk B (stA mv s)) (hw : WrB (fun b => b = g ∨ b = B.gp ∨ b = B.gm) wt V) (ga : goI mv s.i s.sem = true) (hg : (goI mk s.j s.sem = true ∧ pickB ps t = true ∧ t' = t + 1) ∨ (goI mk s.j s.sem = false ∧ t' = t)) : WkI W g c mv mk B xa xl xc ps b1 b2 R t' (stA mv s) V := by
  have hle : W.heap.size ≤ wt.heap.size := Nat.le_trans h.w.2.1 hwt.2.1
  refine ⟨hV, h.i.a ho ga, ht.alone hw (fun e => ?_) (fun e => ?_) (fun b off e h0 => ?_), by rw [← run_a (leftC_le s) ga hg]; exact h.r, (h.w.trans (hwt.mono fun b e => .inr (.inr (.inr e)))).trans (hw.mono fun b e => ?_), h.bd.a hv (go_lt ga)⟩
  · have := ap.h1; omega
  · have := ap.h2; omega
  · have := ap.x b off e h0
    exact ⟨by omega, by omega⟩
  · rcases e with e | e | e
    · exact .inl e
    · exact .inr (.inl e)
    · exact .inr (.inr (.inl e))
theorem WkI.b {W : World} {g : Nat} {c : CV} {mv mk : List In} {B : MbK} {xa : Option Addr} {xl xc : Nat} {ps : List Int} {b1 b2 : Nat} {R : Mac} {t t' : Nat} {s : Mac} {wr wt V : World} (h : WkI W g c mv mk B xa xl xc ps b1 b2 R t s wr) (ap : Apt W.heap.size g c B b1 b2 xa xl) (ho : OneWay mv mk) (hv : VOk mk) (ht : TurnAt wt b1 b2 xa xl xc ps t') (hwt : WrB (fun b => b = b2) wr wt) (hV : MchAt V g c mv mk B (stB mk s)) (hw : WrB (fun b => b = g ∨ b = B.gp ∨ b = B.gm) wt V) (gb : goI mk s.j s.sem = true) (hg : (goI mv s.i s.sem = true ∧ pickB ps t = false ∧ t' = t + 1) ∨ (goI mv s.i s.sem = false ∧ t' = t)) : WkI W g c mv mk B xa xl xc ps b1 b2 R t' (stB mk s) V := by
  have hle : W.heap.size ≤ wt.heap.size := Nat.le_trans h.w.2.1 hwt.2.1
  refine ⟨hV, h.i.b ho gb, ht.alone hw (fun e => ?_) (fun e => ?_) (fun b off e h0 => ?_), by rw [← run_b (leftC_le s) gb hg]; exact h.r, (h.w.trans (hwt.mono fun b e => .inr (.inr (.inr e)))).trans (hw.mono fun b e => ?_), h.bd.b hv (go_lt gb)⟩
  · have := ap.h1; omega
  · have := ap.h2; omega
  · have := ap.x b off e h0
    exact ⟨by omega, by omega⟩
  · rcases e with e | e | e
    · exact .inl e
    · exact .inr (.inl e)
    · exact .inr (.inr (.inl e))
/-- The maker's instructions are done in this way. -/
def RckOk (g : Nat) (c : CV) (mv mk : List In) (B : MbK) : Prop := ∀ x, insE c.pad c.mem false x = 0 → bd64 x.v → x.d ≠ 3 ∧ x.d ≠ 4 → ∀ (V : World) (s' : Mac), MchAt V g c mv mk B s' → (∀ q, bd64 (s'.pad q)) → Calls Tryz.prog 45 #[.pointer (some ⟨g, 0, none⟩), x.w] V fun e w' => e = .returned (.tuple #[]) ∧ MchAt w' g c mv mk B { s' with pad := doP x s'.pad s'.mem } ∧ WrB (fun b => b = B.gp) V w'
set_option maxRecDepth 20000 in
set_option maxHeartbeats 8000000 in
theorem work_any (g : Nat) (c : CV) (mv mk : List In) (B : MbK) (xa : Option Addr) (xl xc : Nat) (ps : List Int) (b1 b2 : Nat) (s0 : Mac) (W : World) (h : MchAt W g c mv mk B s0) (hI : MacI mv mk s0) (hT : TurnAt W b1 b2 xa xl xc ps 0) (hc : CodeOk c.pad c.mem mv mk) (hf : Fits c B) (hrk : RckOk g c mv mk B) (ap : Apt W.heap.size g c B b1 b2 xa xl) (hvm : VOk mv) (hvk : VOk mk) (hbd : BdM s0) :
    Calls Tryz.prog 13 #[.pointer (some ⟨g, 0, none⟩), .func (.func 27) #[] #[.pointer (some ⟨b1, 0, none⟩), .pointer (some ⟨b2, 0, none⟩)]] W fun e w' => e = .returned (.tuple #[]) ∧ MchAt w' g c mv mk B (runM mv mk ps (mv.length + mk.length) 0 s0) ∧ WrB (fun b => b = g ∨ b = B.gp ∨ b = B.gm ∨ b = b2) W w' := by
  obtain ⟨R, hR⟩ : ∃ R, R = runM mv mk ps (mv.length + mk.length) 0 s0 := ⟨_, rfl⟩
  rw [← hR]
  have HK0 : Hid (WkI W g c mv mk B xa xl xc ps b1 b2 R 0 s0 W) := ⟨h, hI, hT, hR.symm, WrB.refl _ _, hbd⟩
  have HC := hide hc
  have HF := hide hf
  have HRK := hide hrk
  have HSA : Hid (SemOk mv) := fun k hk hd => ins_sem (hc.a k hk) hd
  have HSB : Hid (SemOk mk) := fun k hk hd => ins_sem (hc.b k hk) hd
  have HVM := hide hvm
  have HVK := hide hvk
  clear h hI hT hR hc hf hrk hvm hvk hbd
  go_enter Tryz.func13, Tryz.ntmps13
  go_wp2_with fail
  go_loopw [] (fun wr => ∃ t s, WkI W g c mv mk B xa xl xc ps b1 b2 R t s wr) (fun wr => mv.length + mk.length - (cntW g 22 wr + cntW g 23 wr))
  case atStart => exact ⟨0, s0, HK0.out⟩
  case round =>
    obtain ⟨t, s, hwk⟩ := hrel
    have HWK0 := hide hwk
    clear hwk
    go_upto_region 1 with (first
      | (go_at_call_of 25 (Value.int .i64 0); refine (goesOn_A g c mv mk B s _ HWK0.out.m HSA.out (by have := HWK0.out.i.i; have := HC.out.lv; omega)).mono ?_; rintro e w1 ⟨rfl, hb1⟩; have HB1 := hide hb1; clear hb1)
      | (go_at_call_of 25 (Value.int .i64 1); refine (goesOn_B g c mv mk B s _ (HWK0.out.m.below HB1.out) HSB.out (by have := HWK0.out.i.j; have := HC.out.lk; omega)).mono ?_; rintro e w2 ⟨rfl, hb2⟩; have HB2 := hide (bl_on HB1.out hb2); clear hb2))
    have HWK := hide (HWK0.out.below HB2.out)
    cases ga : goI mv s.i s.sem with
    | true =>
      cases gb : goI mk s.j s.sem with
      | true =>
        cases hpk : pickB ps t with
        | true =>
          have HPK : Hid (pkV ps t = 0) := by
            show pkV ps t = 0
            unfold pkV
            rw [hpk]
            rfl
          have HP := hide hpk
          go_wp2_with (first | (go_at_call 27; refine (mturn_any b1 b2 xa xl xc ps t _ HWK.out.tt ap.h1.2.2.2 (fun b off e h0 => (ap.x b off e h0).2.2.2.1)).mono ?_; rintro e wt ⟨rfl, ht, hwt⟩; rw [HPK.out]; have HTT := hide ht; have HWT := hide hwt; clear ht hwt; have HMT := hide (HWK.out.m.alone HWT.out (fun e => ap.h2.1 e.symm) (fun e => ap.h2.2.1 e.symm) (fun e => ap.h2.2.2 e.symm) (fun b off e => ⟨(ap.i b off e).1, Nat.lt_of_lt_of_le (ap.i b off e).2 HWK.out.w.2.1⟩))) | (go_at_call 26; refine (step_A g c mv mk B s s.i (getI mv s.i) _ HMT.out rfl (go_lt ga) rfl (by have := go_lt ga; have := HC.out.lv; omega) (fun hd => ins_sem (HC.out.a s.i (go_lt ga)) hd) (HWK.out.i.bd HC.out.lv HC.out.lk) (by have h9 := HC.out.engs.1 s.i (go_lt ga); exact h9) (fun hd => mv_ok HF.out HC.out.pd HC.out.mm (HC.out.a s.i (go_lt ga)) hd)).mono ?_; rintro e w9 ⟨rfl, h9, hw9⟩; have H9 := hide h9; have HW9 := hide hw9; clear h9 hw9))
          go_roundw
          case rel => exact ⟨_, _, HWK.out.a ap HC.out.oneWay HVM.out HTT.out HWT.out H9.out HW9.out ga (.inl ⟨gb, HP.out, rfl⟩)⟩
          case measure =>
            have c1 := HWK0.out.m.cnt
            have c2 := H9.out.cnt
            have hl := go_lt ga
            have hi9 := HWK.out.i.i
            have hj9 := HWK.out.i.j
            rw [c1.1, c1.2, c2.1, c2.2]
            unfold stA
            simp only
            omega
        | false =>
          have HPK : Hid (pkV ps t = 1) := by
            show pkV ps t = 1
            unfold pkV
            rw [hpk]
            rfl
          have HP := hide hpk
          go_wp2_with (first | (go_at_call 27; refine (mturn_any b1 b2 xa xl xc ps t _ HWK.out.tt ap.h1.2.2.2 (fun b off e h0 => (ap.x b off e h0).2.2.2.1)).mono ?_; rintro e wt ⟨rfl, ht, hwt⟩; rw [HPK.out]; have HTT := hide ht; have HWT := hide hwt; clear ht hwt; have HMT := hide (HWK.out.m.alone HWT.out (fun e => ap.h2.1 e.symm) (fun e => ap.h2.2.1 e.symm) (fun e => ap.h2.2.2 e.symm) (fun b off e => ⟨(ap.i b off e).1, Nat.lt_of_lt_of_le (ap.i b off e).2 HWK.out.w.2.1⟩))) | (go_at_call 26; refine (step_B g c mv mk B s s.j (getI mk s.j) _ HMT.out rfl (go_lt gb) rfl (by have := go_lt gb; have := HC.out.lk; omega) (fun hd => ins_sem (HC.out.b s.j (go_lt gb)) hd) (HWK.out.i.bd HC.out.lv HC.out.lk) (HC.out.engs.2 s.j (go_lt gb)) (fun hd V9 s9 h9 hp9 => HRK.out _ (HC.out.b s.j (go_lt gb)) (HVK.out _ (go_lt gb)) hd V9 s9 h9 (fun q => by rw [hp9]; exact HWK.out.bd.1 q))).mono ?_; rintro e w9 ⟨rfl, h9, hw9⟩; have H9 := hide h9; have HW9 := hide hw9; clear h9 hw9))
          go_roundw
          case rel => exact ⟨_, _, HWK.out.b ap HC.out.oneWay HVK.out HTT.out HWT.out H9.out HW9.out gb (.inl ⟨ga, HP.out, rfl⟩)⟩
          case measure =>
            have c1 := HWK0.out.m.cnt
            have c2 := H9.out.cnt
            have hl := go_lt gb
            have hi9 := HWK.out.i.i
            have hj9 := HWK.out.i.j
            rw [c1.1, c1.2, c2.1, c2.2]
            unfold stB
            simp only
            omega
      | false =>
        go_wp2_with ((go_at_call 26; refine (step_A g c mv mk B s s.i (getI mv s.i) _ HWK.out.m rfl (go_lt ga) rfl (by have := go_lt ga; have := HC.out.lv; omega) (fun hd => ins_sem (HC.out.a s.i (go_lt ga)) hd) (HWK.out.i.bd HC.out.lv HC.out.lk) (by have h9 := HC.out.engs.1 s.i (go_lt ga); exact h9) (fun hd => mv_ok HF.out HC.out.pd HC.out.mm (HC.out.a s.i (go_lt ga)) hd)).mono ?_; rintro e w9 ⟨rfl, h9, hw9⟩; have H9 := hide h9; have HW9 := hide hw9; clear h9 hw9))
        go_roundw
        case rel => exact ⟨_, _, HWK.out.a ap HC.out.oneWay HVM.out HWK.out.tt (WrB.refl _ _) H9.out HW9.out ga (.inr ⟨gb, rfl⟩)⟩
        case measure =>
          have c1 := HWK0.out.m.cnt
          have c2 := H9.out.cnt
          have hl := go_lt ga
          have hi9 := HWK.out.i.i
          have hj9 := HWK.out.i.j
          rw [c1.1, c1.2, c2.1, c2.2]
          unfold stA
          simp only
          omega
    | false =>
      cases gb : goI mk s.j s.sem with
      | true =>
        go_wp2_with ((go_at_call 26; refine (step_B g c mv mk B s s.j (getI mk s.j) _ HWK.out.m rfl (go_lt gb) rfl (by have := go_lt gb; have := HC.out.lk; omega) (fun hd => ins_sem (HC.out.b s.j (go_lt gb)) hd) (HWK.out.i.bd HC.out.lv HC.out.lk) (HC.out.engs.2 s.j (go_lt gb)) (fun hd V9 s9 h9 hp9 => HRK.out _ (HC.out.b s.j (go_lt gb)) (HVK.out _ (go_lt gb)) hd V9 s9 h9 (fun q => by rw [hp9]; exact HWK.out.bd.1 q))).mono ?_; rintro e w9 ⟨rfl, h9, hw9⟩; have H9 := hide h9; have HW9 := hide hw9; clear h9 hw9))
        go_roundw
        case rel => exact ⟨_, _, HWK.out.b ap HC.out.oneWay HVK.out HWK.out.tt (WrB.refl _ _) H9.out HW9.out gb (.inr ⟨ga, rfl⟩)⟩
        case measure =>
          have c1 := HWK0.out.m.cnt
          have c2 := H9.out.cnt
          have hl := go_lt gb
          have hi9 := HWK.out.i.i
          have hj9 := HWK.out.i.j
          rw [c1.1, c1.2, c2.1, c2.2]
          unfold stB
          simp only
          omega
      | false =>
        go_wp2_with fail
        have hr := HWK.out.r
        rw [run_stop ga gb] at hr
        refine bodyPost_ret (v := .tuple #[]) (by simp [results, Tryz.results13, go_sem]) rfl ?_
        rw [← hr]
        exact ⟨rfl, HWK.out.m, HWK.out.w⟩
end Go.Proofs.YtoabffmiedbkkaaGreat.V
namespace Go.Proofs.YtoabffmiedbkkaaGreat.V
set_option maxRecDepth 20000
open Go Go.RowKit
set_option linter.unusedVariables false

/-- A row of numbers. -/
def IRow (w : World) (g n : Nat) (f : Nat → Int) : Prop := w.rowIs g 3 n (fun i => .int .i64 (f i))
theorem IRow.below {w w' : World} {g n : Nat} {f : Nat → Int} (h : IRow w g n f) (hb : Below w.heap.size w w') : IRow w' g n f := World.rowIs.of_block h (hb.block _ h.lt)
theorem IRow.congr {w : World} {g n : Nat} {f f' : Nat → Int} (h : IRow w g n f) (he : ∀ i, i < n → f i = f' i) : IRow w g n f' := World.rowIs.congr h fun i hi => by rw [he i hi]
theorem IRow.put {w : World} {g n : Nat} {f : Nat → Int} (h : IRow w g n f) (i : Nat) (v : Int) : IRow (w.setCell ⟨g, i, none⟩ (.int .i64 v)) g n (fun j => if j = i then v else f j) := by
  refine World.rowIs.congr (World.rowIs.set h i (.int .i64 v)) fun j hj => ?_
  by_cases e : j = i <;> simp [e]
/-- The greatest of k numbers from a place on. -/
def maxTo (f : Nat → Int) : Nat → Int
  | 0 => f 0
  | k + 1 => max (maxTo f k) (f (k + 1))
theorem maxTo_gt (f : Nat → Int) (b : Int) : ∀ k, b < maxTo f k ↔ ∃ i, i ≤ k ∧ b < f i
  | 0 => by
    rw [maxTo]
    exact ⟨fun h => ⟨0, by omega, h⟩, fun ⟨i, hi, h⟩ => by have : i = 0 := by omega
                                                           subst this; exact h⟩
  | k + 1 => by
    have ih := maxTo_gt f b k
    rw [maxTo]
    constructor
    · intro h
      by_cases h1 : b < maxTo f k
      · obtain ⟨i, hi, h2⟩ := ih.1 h1
        exact ⟨i, by omega, h2⟩
      · exact ⟨k + 1, by omega, by omega⟩
    · rintro ⟨i, hi, h⟩
      by_cases e : i = k + 1
      · subst e; omega
      · have := ih.2 ⟨i, by omega, h⟩
        omega
theorem max_any (g o len cap n : Nat) (f : Nat → Int) (w : World) (h : IRow w g n f) (h0 : 0 < len) (hl : o + len ≤ n) (hm : len ≤ 1000000000) :
    Calls Tryz.prog 50 #[.slice (some ⟨g, o, none⟩) len cap] w fun r w' => r = .returned (.int .i64 (maxTo (fun i => f (o + i)) (len - 1))) ∧ w' = w := by
  have c0 := h.cell (i := o) (by omega)
  have zg := h.lt
  have HI := hide h
  have h1 : ¬ (len : Int) < 1 := by omega
  have h2 : (0 : Int) < (len : Int) := by omega
  have h3 : ¬ len < 1 := by omega
  clear h
  go_enter Tryz.func50, Tryz.ntmps50
  go_wp2_with fail
  go_loop [3, 4] (fun v3 v4 => ∃ m : Nat, 1 ≤ m ∧ m ≤ len ∧ v4 = .int .i64 (m : Int) ∧ v3 = .int .i64 (maxTo (fun i => f (o + i)) (m - 1))) (fun v3 v4 => len - (intOf v4).toNat)
  case atStart => exact ⟨1, by omega, by omega, rfl, rfl⟩
  case round =>
    obtain ⟨m, hm1, hml, rfl, rfl⟩ := hrel
    by_cases hlt : m < len
    · have hz : (m : Int) < (len : Int) := by omega
      have cm := HI.out.cell (i := o + m) (by omega)
      obtain ⟨X, hX⟩ : ∃ X, X = maxTo (fun i => f (o + i)) (m - 1) := ⟨_, rfl⟩
      obtain ⟨Y, hY⟩ : ∃ Y, Y = f (o + m) := ⟨_, rfl⟩
      have hE : maxTo (fun i => f (o + i)) m = max X Y := by
        obtain ⟨q, rfl⟩ : ∃ q, m = q + 1 := ⟨m - 1, by omega⟩
        rw [maxTo, hX, hY]
        rfl
      have HE := hide hE
      simp only [← hY] at cm
      rw [← hX]
      clear hX hY hE
      by_cases hxy : X ≤ Y
      · have HM : Hid (maxTo (fun i => f (o + i)) m = Y) := by rw [Hid, HE.out]; omega
        go_wp2_with fail
        all_goals go_round
        all_goals first
          | exact ⟨m + 1, by omega, by omega, by go_num, by rw [Nat.add_sub_cancel, HM.out]; try (congr 1; omega)⟩
          | (simp [intOf]; omega)
      · have HM : Hid (maxTo (fun i => f (o + i)) m = X) := by rw [Hid, HE.out]; omega
        go_wp2_with fail
        all_goals go_round
        all_goals first
          | exact ⟨m + 1, by omega, by omega, by go_num, by rw [Nat.add_sub_cancel, HM.out]; try (congr 1; omega)⟩
          | (simp [intOf]; omega)
    · have hz : ¬ (m : Int) < (len : Int) := by omega
      obtain rfl : m = len := by omega
      go_wp2_with fail
      go_ret
      exact ⟨rfl, rfl⟩
theorem inB_pos {s : Str} {pad : Int} (h : inBk s pad = true) (h0 : s.w ≠ 0) : 0 ≤ s.f ∧ s.f + s.w ≤ pad := by
  simp only [inBk, Bool.or_eq_true, Bool.and_eq_true, decide_eq_true_eq] at h
  rcases h with h | h
  · exact absurd h h0
  · exact h
theorem grown_set {w : World} {g i : Nat} {v : Value} : w.grownBy (w.setCell ⟨g, i, none⟩ v) (some g) :=
  ⟨rfl, rfl, rfl, by simp, fun b hb hne => heap_setCell_other _ _ _ _ (fun e => hne (by rw [e]))⟩
theorem grown_tr {row : Option Nat} {w w' w'' : World} (h : w.grownBy w' row) (k : w'.grownBy w'' row) : w.grownBy w'' row :=
  ⟨k.os.trans h.os, k.tape.trans h.tape, k.output.trans h.output, Nat.le_trans h.size k.size, fun i hi hne => (k.block i (Nat.lt_of_lt_of_le hi h.size) hne).trans (h.block i hi hne)⟩
theorem grown_bl {row : Option Nat} {w w' : World} (h : Below w.heap.size w w') : w.grownBy w' row := ⟨h.os, h.tape, h.output, h.size, fun i hi _ => h.block i hi⟩
set_option maxRecDepth 100000 in
theorem leave_any (g pad : Nat) (f : Nat → Int) (s : Str) (n : Int) (hs : s.Sm) (hin : inBk s (pad : Int) = true) (hp : pad ≤ 1000000) (w : World) (h : IRow w g pad f) :
    Calls Tryz.prog 48 #[.slice (some ⟨g, 0, none⟩) pad pad, .agg #[.int .i64 s.f, .int .i64 s.w], .int .i64 n] w fun e w' => e = .returned (.tuple #[]) ∧ IRow w' g pad (fun i => if inS s (i : Int) = true then n else f i) ∧ w.grownBy w' (some g) := by
  obtain ⟨W, hW⟩ : ∃ W, W = w.alloc (.cells #[.int .i64 s.f, .int .i64 s.w] 65) := ⟨_, rfl⟩
  have hb : Below w.heap.size w W := by rw [hW]; exact bl_new _
  have hS : SBlk W w.heap.size s.f s.w := by rw [hW]; exact World.alloc_heap_new _ _
  have hR := h.below hb
  have hgl := h.lt
  have hs0 := hs.w
  have HW := hide hW
  have HB := hide hb
  have HS := hide hS
  have HR := hide hR
  have HIN := hide hin
  obtain ⟨⟨c0, c1⟩, zc⟩ := hS.cells
  clear hW hb hS hR hin hs
  go_enter Tryz.func48, Tryz.ntmps48
  go_upto_region 1 with fail
  rw [← HW.out]
  go_wp2_with fail
  go_loopw [9] (fun v9 wr => ∃ j : Nat, (j : Int) ≤ s.w ∧ v9 = .int .i64 j ∧ IRow wr g pad (fun i => if s.f ≤ (i : Int) ∧ (i : Int) < s.f + (j : Int) then n else f i) ∧ W.grownBy wr (some g)) (fun v9 _ => (s.w - intOf v9).toNat)
  case atStart => exact ⟨0, by omega, rfl, HR.out.congr fun i hi => by rw [if_neg (by omega)], grown_bl (Below.refl _ _)⟩
  case round =>
    obtain ⟨j, hj, rfl, hr, hg⟩ := hrel
    by_cases hlt : (j : Int) < s.w
    · have hpos := inB_pos HIN.out (by omega)
      obtain ⟨F, hF⟩ : ∃ F : Nat, s.f = (F : Int) := ⟨s.f.toNat, by omega⟩
      have hS2 : SBlk wr w.heap.size s.f s.w := (hg.block _ zc (by simp; omega)).trans HS.out
      clear c0 c1
      obtain ⟨⟨c0, c1⟩, zc2⟩ := hS2.cells
      rw [hF] at c0
      have hix : (F : Int) + (j : Int) = ((F + j : Nat) : Int) := by omega
      have hw1 : IntKind.i64.wrap ((F : Int) + (j : Int)) = ((F + j : Nat) : Int) := by rw [IntKind.wrap_i64]; omega
      have hlt2 : ((F + j : Nat) : Int) < (pad : Int) := by omega
      have d0 := hr.cell (i := F + j) (by omega)
      have y0 := hr.frozen (F + j)
      have zg := hr.lt
      have HN : Hid (IRow (wr.setCell ⟨g, F + j, none⟩ (.int .i64 n)) g pad (fun i => if s.f ≤ (i : Int) ∧ (i : Int) < s.f + ((j + 1 : Nat) : Int) then n else f i)) := (hr.put (F + j) n).congr fun i hi => by
        rw [hF]
        by_cases e : i = F + j
        · rw [if_pos e, if_pos (by omega)]
        · rw [if_neg e]
          by_cases h1 : (F : Int) ≤ (i : Int) ∧ (i : Int) < (F : Int) + (j : Int)
          · rw [if_pos h1, if_pos (by omega)]
          · rw [if_neg h1, if_neg (by omega)]
      have HG := hide (grown_tr hg (grown_set (g := g) (i := F + j) (v := .int .i64 n)))
      clear hr hg hS2 hpos hF hix
      go_wp2_with fail
      go_roundw
      case rel => exact ⟨j + 1, by omega, by go_num, HN.out, HG.out⟩
      case measure => simp [intOf]; omega
    · have hjw : (j : Int) = s.w := by omega
      have HN : Hid (IRow wr g pad (fun i => if inS s (i : Int) = true then n else f i)) := hr.congr fun i hi => by
        rw [hjw]
        by_cases h1 : s.f ≤ (i : Int) ∧ (i : Int) < s.f + s.w
        · rw [if_pos h1, if_pos (by simp [inS, h1.1, h1.2])]
        · rw [if_neg h1, if_neg (by simp only [inS, Bool.and_eq_true, decide_eq_true_eq]; exact h1)]
      have HG := hide (grown_tr (grown_bl HB.out) hg)
      clear hr hg hjw c0 c1
      go_wp2_with fail
      refine bodyPost_end (v := .tuple #[]) ?_ rfl ⟨rfl, HN.out, HG.out⟩
      simp [results, Tryz.results48, go_sem]
end Go.Proofs.YtoabffmiedbkkaaGreat.V
