/-
  Contract: core.Races.
-/
import Derived.Test.YtoabffmiedbkkaaGreatPK36
namespace Go.Proofs.YtoabffmiedbkkaaGreat.V
set_option maxRecDepth 20000
open Go Go.RowKit
set_option linter.unusedVariables false

/-- What is told of a code: a race, and what is wrong with it. -/
def RcTold (pad mem : Int) (mv mk : List In) (an : Bool) (i j : Nat) (e : Int) : Prop :=
  e = codeE pad mem mv mk ∧ ((e ≠ 0 ∧ an = false ∧ i = 0 ∧ j = 0) ∨ (e = 0 ∧ RaceSp mv mk an i j))
theorem RcTold.one {pad mem : Int} {mv mk : List In} {a a' : Bool} {i i' j j' : Nat} {e e' : Int} (h : RcTold pad mem mv mk a i j e) (h' : RcTold pad mem mv mk a' i' j' e') : a = a' ∧ i = i' ∧ j = j' ∧ e = e' := by
  obtain ⟨h1, h2⟩ := h
  obtain ⟨k1, k2⟩ := h'
  have he : e = e' := h1.trans k1.symm
  subst he
  rcases h2 with ⟨h3, rfl, rfl, rfl⟩ | ⟨h3, h4⟩
  · rcases k2 with ⟨k3, rfl, rfl, rfl⟩ | ⟨k3, k4⟩
    · exact ⟨rfl, rfl, rfl, rfl⟩
    · exact absurd k3 h3
  · rcases k2 with ⟨k3, rfl, rfl, rfl⟩ | ⟨k3, k4⟩
    · exact absurd h3 k3
    · obtain ⟨a1, a2, a3⟩ := h4.one k4
      exact ⟨a1, a2, a3, rfl⟩
def RcAns (pad mem : Int) (mv mk : List In) (r : Ending) : Prop := ∃ an i j e, r = .returned (.tuple #[.agg #[.bool an, .int .i64 ((i : Nat) : Int), .int .i64 ((j : Nat) : Int)], .int .i64 e]) ∧ RcTold pad mem mv mk an i j e
set_option maxRecDepth 100000 in
set_option maxHeartbeats 2000000 in
theorem coRaces_any (c : CV) (mv mk : List In) (w : World) (hm : Inss w c.ma c.ml mv) (hk : Inss w c.ka c.kl mk) (hcap : c.kl ≤ c.kc) :
    Calls Tryz.prog 11 #[c.v] w fun r w' => RcAns c.pad c.mem mv mk r ∧ Below w.heap.size w w' := by
  obtain ⟨W1, hW1⟩ : ∃ W, W = w.alloc (.cells #[.int .i64 c.pad, .int .i64 c.mem, .slice c.ma c.ml c.mc, .slice c.ka c.kl c.kc] 24) := ⟨_, rfl⟩
  obtain ⟨W, hW⟩ : ∃ W, W = W1.alloc (.cells #[.bool false, .int .i64 0, .int .i64 0] 35) := ⟨_, rfl⟩
  have s1 : W1.heap.size = w.heap.size + 1 := by rw [hW1]; simp
  have b1 : Below w.heap.size w W1 := by rw [hW1]; exact bl_new _
  have b2 : Below W1.heap.size W1 W := by rw [hW]; exact bl_new _
  have hb : Below w.heap.size w W := bl_on b1 b2
  have hC : CBlk W w.heap.size c := by
    have : CBlk W1 w.heap.size c := by rw [hW1]; exact CBlk.new w c
    exact this.below b2
  have hP : RcBlk W (w.heap.size + 1) false 0 0 := by rw [hW, ← s1]; exact World.alloc_heap_new _ _
  have hW2 : W = (w.alloc (.cells #[.int .i64 c.pad, .int .i64 c.mem, .slice c.ma c.ml c.mc, .slice c.ka c.kl c.kc] 24)).alloc (.cells #[.bool false, .int .i64 0, .int .i64 0] 35) := by rw [hW, hW1]
  have HWR := hide (fun (V : World) (hV : Below w.heap.size w V) => coWrong_any c mv mk V (hm.below hV) (hk.below hV))
  have HRC := hide (fun (h0 : codeE c.pad c.mem mv mk = 0) (V : World) (hV : Below w.heap.size w V) => race_any c mv mk V (hm.below hV) (hk.below hV) hcap h0)
  obtain ⟨⟨c0, c1, c2, c3⟩, zc⟩ := hC.cells
  have HW := hide hW2
  have HB := hide hb
  have HC := hide hC
  have HP := hide hP
  obtain ⟨E, hE⟩ : ∃ E, E = codeE c.pad c.mem mv mk := ⟨_, rfl⟩
  have HE := hide hE
  simp only [← hE] at HWR HRC
  clear hW hW1 hW2 s1 b1 b2 hb hC hP hm hk hcap hE
  obtain ⟨pad, mem, ma, ml, mc, ka, kl, kc⟩ := c
  unfold CV.v at HWR HRC ⊢
  simp only at *
  go_enter Tryz.func11, Tryz.ntmps11
  go_upto_region 1 with fail
  rw [← HW.out]
  go_wp2_with fail
  refine (HWR.out W HB.out).mono ?_
  rintro r w3 ⟨rfl, hb3⟩
  have HB3 := hide (bl_on HB.out hb3)
  have HC3 := hide (HC.out.below hb3)
  have HP3 : Hid (RcBlk w3 (w.heap.size + 1) false 0 0) := (hb3.block _ (Array.getElem?_eq_some_iff.1 HP.out).1).trans HP.out
  clear hb3 c0 c1 c2 c3 zc HC HP HB HW
  by_cases h0 : E = 0
  · have HRC0 := hide (HRC.out h0 w3 HB3.out)
    subst h0
    obtain ⟨⟨c0, c1, c2, c3⟩, zc⟩ := HC3.out.cells
    simp only at c0 c1 c2 c3
    go_wp2_with fail
    refine HRC0.out.mono ?_
    rintro r w4 ⟨⟨an, i, j, rfl, hsp⟩, hb4⟩
    have HB4 := hide (bl_on HB3.out hb4)
    have HP4 : Hid (RcBlk w4 (w.heap.size + 1) false 0 0) := (hb4.block _ (Array.getElem?_eq_some_iff.1 HP3.out).1).trans HP3.out
    have HSP := hide hsp
    clear hb4 hsp c0 c1 c2 c3 zc
    obtain ⟨⟨p0, p1, p2⟩, zp⟩ := HP4.out.cells
    have q0 := HP4.out.free 0
    have q1 := HP4.out.free 1
    have q2 := HP4.out.free 2
    go_wp2_with fail
    have PZ := HP4.out.put an (i : Int) (j : Int)
    obtain ⟨⟨x0, x1, x2⟩, _⟩ := PZ.cells
    refine bodyPost_ret (v := .tuple #[.agg #[.bool an, .int .i64 (i : Int), .int .i64 (j : Int)], .int .i64 0]) (by simp [results, Tryz.results11, go_sem, x0, x1, x2]) rfl ⟨⟨an, i, j, 0, rfl, HE.out, .inr ⟨rfl, HSP.out⟩⟩, ?_⟩
    exact ((HB4.out.setCell (p := ⟨w.heap.size + 1, 0, none⟩) (by simp) _).setCell (p := ⟨w.heap.size + 1, 1, none⟩) (by simp) _).setCell (p := ⟨w.heap.size + 1, 2, none⟩) (by simp) _
  · have h0b : (E != 0) = true := by simpa using h0
    have H0 := hide h0
    clear h0 HRC
    obtain ⟨⟨p0, p1, p2⟩, zp⟩ := HP3.out.cells
    have q0 := HP3.out.free 0
    have q1 := HP3.out.free 1
    have q2 := HP3.out.free 2
    go_wp2_with fail
    have PZ := HP3.out.put false 0 0
    obtain ⟨⟨x0, x1, x2⟩, _⟩ := PZ.cells
    refine bodyPost_ret (v := .tuple #[.agg #[.bool false, .int .i64 0, .int .i64 0], .int .i64 E]) (by simp [results, Tryz.results11, go_sem, x0, x1, x2]) rfl ⟨⟨false, 0, 0, E, rfl, HE.out, .inl ⟨H0.out, rfl, rfl, rfl⟩⟩, ?_⟩
    exact ((HB3.out.setCell (p := ⟨w.heap.size + 1, 0, none⟩) (by simp) _).setCell (p := ⟨w.heap.size + 1, 1, none⟩) (by simp) _).setCell (p := ⟨w.heap.size + 1, 2, none⟩) (by simp) _
end Go.Proofs.YtoabffmiedbkkaaGreat.V
