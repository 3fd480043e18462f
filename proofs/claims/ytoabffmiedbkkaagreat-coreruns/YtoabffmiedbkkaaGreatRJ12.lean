/-
  What is wrong with code: core.clashes. What is wrong with code: core.Wrong.
-/
import Derived.Test.YtoabffmiedbkkaaGreatRJ11
import Derived.Laws.Rows
namespace Go.Proofs.YtoabffmiedbkkaaGreat.V
set_option maxRecDepth 20000
open Go Go.RowKit
set_option linter.unusedVariables false

/-- Instructions in memory. -/
def InAt (w : World) (b o : Nat) (x : In) : Prop := w.cell? ⟨b, o, none⟩ = some (.int .i64 x.d) ∧ w.cell? ⟨b, o + 1, none⟩ = some (.int .i64 x.a) ∧ w.cell? ⟨b, o + 2, none⟩ = some (.int .i64 x.b) ∧ w.cell? ⟨b, o + 3, none⟩ = some (.int .i64 x.c) ∧ w.cell? ⟨b, o + 4, none⟩ = some (.int .i64 x.n) ∧ w.cell? ⟨b, o + 5, none⟩ = some (.int .i64 x.v)
theorem InAt.below {w w' : World} {b o : Nat} {x : In} (h : InAt w b o x) (hb : Below w.heap.size w w') : InAt w' b o x := by
  obtain ⟨h0, h1, h2, h3, h4, h5⟩ := h
  have cc : ∀ i u, w.cell? ⟨b, i, none⟩ = some u → w'.cell? ⟨b, i, none⟩ = some u := fun i u e => (hb.cell (p := ⟨b, i, none⟩) (lt_of_cell e)).trans e
  exact ⟨cc _ _ h0, cc _ _ h1, cc _ _ h2, cc _ _ h3, cc _ _ h4, cc _ _ h5⟩
def Inss (w : World) (a : Option Addr) (len : Nat) (l : List In) : Prop := l.length = len ∧ len ≤ 9223372036854775807 ∧ (len = 0 ∨ ∃ b off, a = some ⟨b, off, none⟩ ∧ ∀ j, j < len → InAt w b (off + j * 6) (l[j]?.getD inD))
theorem Inss.below {w w' : World} {a : Option Addr} {len : Nat} {l : List In} (h : Inss w a len l) (hb : Below w.heap.size w w') : Inss w' a len l := by
  obtain ⟨h1, h2, h3⟩ := h
  refine ⟨h1, h2, ?_⟩
  rcases h3 with h3 | ⟨b, off, e, h⟩
  · exact .inl h3
  · exact .inr ⟨b, off, e, fun j hj => (h j hj).below hb⟩
theorem mem_getI (l : List In) (k : Nat) (h : k < l.length) : l[k]?.getD inD ∈ l := by simp [h]
theorem take_succI (l : List In) (k : Nat) (h : k < l.length) : l.take (k + 1) = l.take k ++ [l[k]?.getD inD] := by
  rw [List.take_succ_eq_append_getElem h]; simp [h]
theorem engines_any (c : CV) (w : World) : Calls Tryz.prog 19 #[c.v] w fun r w' => r = .returned (.agg #[.slice c.ma c.ml c.mc, .slice c.ka c.kl c.kc]) ∧ Below w.heap.size w w' := by
  obtain ⟨W, hW⟩ : ∃ W, W = w.alloc (.cells #[.int .i64 c.pad, .int .i64 c.mem, .slice c.ma c.ml c.mc, .slice c.ka c.kl c.kc] 24) := ⟨_, rfl⟩
  have HB := hide (show Below w.heap.size w (W.alloc (.cells #[.slice c.ma c.ml c.mc, .slice c.ka c.kl c.kc] 54)) from bl_on (by rw [hW]; exact bl_new _) (bl_new _))
  have hb : Below w.heap.size w W := by rw [hW]; exact bl_new _
  have HW := hide hW
  clear hW
  unfold CV.v
  go_enter Tryz.func19, Tryz.ntmps19
  go_wp2_with fail
  rw [← HW.out]
  have hn := World.alloc_heap_new W (.cells #[.slice c.ma c.ml c.mc, .slice c.ka c.kl c.kc] 54)
  have x0 : (W.alloc (.cells #[.slice c.ma c.ml c.mc, .slice c.ka c.kl c.kc] 54)).cell? ⟨W.heap.size, 0, none⟩ = some (.slice c.ma c.ml c.mc) := by
    unfold World.cell?
    rw [hn]
    rfl
  have x1 : (W.alloc (.cells #[.slice c.ma c.ml c.mc, .slice c.ka c.kl c.kc] 54)).cell? ⟨W.heap.size, 1, none⟩ = some (.slice c.ka c.kl c.kc) := by
    unfold World.cell?
    rw [hn]
    rfl
  have hz : W.heap.size = w.heap.size + 1 := by rw [HW.out]; simp
  rw [hz] at x0 x1
  refine bodyPost_ret (v := .agg #[.slice c.ma c.ml c.mc, .slice c.ka c.kl c.kc]) (by simp [results, Tryz.results19, go_sem, x0, x1]) rfl ⟨rfl, HB.out⟩
theorem other_any (e : Bool) (w : World) : Calls Tryz.prog 33 #[.int .i64 (engV e)] w fun r w' => r = .returned (.int .i64 (engV (!e))) ∧ w' = w := by
  cases e
  · unfold engV
    simp only [if_false, if_true, Bool.false_eq_true, Bool.not_false]
    go_enter Tryz.func33, Tryz.ntmps33
    go_wp2
    go_ret
    exact ⟨rfl, rfl⟩
  · unfold engV
    simp only [if_false, if_true, Bool.false_eq_true, Bool.not_true]
    go_enter Tryz.func33, Tryz.ntmps33
    go_wp2
    go_ret
    exact ⟨rfl, rfl⟩
theorem idx2_0 (a b : Value) (w : World) : Sem.run Tryz.prog (Instr.index 54 (.agg #[a, b]) (.int .i64 0)) w = .ok a w := by kernel_rfl
theorem idx2_1 (a b : Value) (w : World) : Sem.run Tryz.prog (Instr.index 54 (.agg #[a, b]) (.int .i64 1)) w = .ok b w := by kernel_rfl
theorem idx16 (cs : Array Value) (s : Nat) (a b : Value) (hs : s < 16) (ha : cs[s * 2]? = some a) (hb : cs[s * 2 + 1]? = some b) (w : World) : Sem.run Tryz.prog (Instr.index 72 (.agg cs) (.int .i64 (s : Int))) w = .ok (.agg #[a, b]) w := by
  have hu : Tryz.prog.underlying 72 = some (.array 16 71) := by kernel_rfl
  have hu2 : Tryz.prog.underlying 71 = some (.array 2 4) := by kernel_rfl
  have hi : (Tryz.prog.info? 71).map (·.size) = some 2 := by kernel_rfl
  cases hq : Tryz.prog.info? 71 with
  | none => rw [hq] at hi; cases hi
  | some ti =>
    rw [hq] at hi
    have hz : ti.size = 2 := by simpa using hi
    have he : cs.extract (s * 2) (s * 2 + 2) = #[a, b] := by
      apply Array.ext_getElem?
      intro k
      rw [Array.getElem?_extract]
      match k with
      | 0 => have := (Array.getElem?_eq_some_iff.1 hb).1; rw [if_pos (by omega)]; simpa using ha
      | 1 => have := (Array.getElem?_eq_some_iff.1 hb).1; rw [if_pos (by omega)]; simpa using hb
      | k + 2 => rw [if_neg (by omega)]; simp
    unfold Instr.index
    simp [asIntOf, Sem.run_bind, run_underlying hu, run_underlying hu2, part, isAgg, sizeOf, typeInfo, hq, hz, Result.andThen, hs, he]
theorem eq2 (a b : Bool) (w : World) : (Op.equalIn 10000 71 (.agg #[.bool a, .bool b]) (.agg #[.bool true, .bool true])).run Tryz.prog w = .ok (a && b) w := by
  cases a <;> cases b <;> kernel_rfl
/-- Which way a semaphore goes. -/
def goV (mv mk : List In) (s e : Nat) : Bool := if e = 0 then usesV mv 3 s || usesV mk 4 s else usesV mk 3 s || usesV mv 4 s
def goF (mv mk : List In) (i : Nat) : Bool := goV mv mk (i / 2) (i % 2)
theorem uses_succ (l : List In) (j : Nat) (h : j < l.length) (d s : Int) : usesV (l.take (j + 1)) d s = (usesV (l.take j) d s || (decide ((l[j]?.getD inD).d = d) && decide ((l[j]?.getD inD).a = s))) := by
  unfold usesV
  rw [take_succI l j h, List.any_append]
  simp
def GRow (w : World) (g : Nat) (f : Nat → Bool) : Prop := w.rowIs g 72 32 (fun i => .bool (f i))
theorem GRow.congr {w : World} {g : Nat} {f f' : Nat → Bool} (h : GRow w g f) (he : ∀ i, i < 32 → f i = f' i) : GRow w g f' := by
  exact World.rowIs.congr h fun i hi => by rw [he i hi]
theorem GRow.put {w : World} {g : Nat} {f : Nat → Bool} (h : GRow w g f) (i : Nat) : GRow (w.setCell ⟨g, i, none⟩ (.bool true)) g (fun j => if j = i then true else f j) := by
  have h1 := World.rowIs.set h i (.bool true)
  obtain ⟨c, h2, h3, h4⟩ := h1
  refine ⟨c, h2, h3, fun j hj => ?_⟩
  rw [h4 j hj]
  by_cases e : j = i
  · simp [e]
  · simp [e]
theorem goF_mv {mv mk : List In} {j : Nat} (hj : j < mv.length) (i : Nat) : goF (mv.take (j + 1)) mk i = (goF (mv.take j) mk i || (decide ((mv[j]?.getD inD).a = ((i / 2 : Nat) : Int)) && ((decide ((mv[j]?.getD inD).d = 3) && decide (i % 2 = 0)) || (decide ((mv[j]?.getD inD).d = 4) && decide (i % 2 = 1))))) := by
  unfold goF goV
  rw [uses_succ mv j hj, uses_succ mv j hj]
  have : i % 2 = 0 ∨ i % 2 = 1 := by omega
  rcases this with h | h
  · rw [if_pos h, if_pos h, h]
    cases usesV (mv.take j) 3 ((i / 2 : Nat) : Int) <;> cases usesV mk 4 ((i / 2 : Nat) : Int) <;> cases decide ((mv[j]?.getD inD).a = ((i / 2 : Nat) : Int)) <;> cases decide ((mv[j]?.getD inD).d = 3) <;> simp
  · rw [if_neg (by omega), if_neg (by omega), h]
    cases usesV mk 3 ((i / 2 : Nat) : Int) <;> cases usesV (mv.take j) 4 ((i / 2 : Nat) : Int) <;> cases decide ((mv[j]?.getD inD).a = ((i / 2 : Nat) : Int)) <;> cases decide ((mv[j]?.getD inD).d = 4) <;> simp
theorem goF_mk {mv mk : List In} {j : Nat} (hj : j < mk.length) (i : Nat) : goF mv (mk.take (j + 1)) i = (goF mv (mk.take j) i || (decide ((mk[j]?.getD inD).a = ((i / 2 : Nat) : Int)) && ((decide ((mk[j]?.getD inD).d = 3) && decide (i % 2 = 1)) || (decide ((mk[j]?.getD inD).d = 4) && decide (i % 2 = 0))))) := by
  unfold goF goV
  rw [uses_succ mk j hj, uses_succ mk j hj]
  have : i % 2 = 0 ∨ i % 2 = 1 := by omega
  rcases this with h | h
  · rw [if_pos h, if_pos h, h]
    cases usesV mv 3 ((i / 2 : Nat) : Int) <;> cases usesV (mk.take j) 4 ((i / 2 : Nat) : Int) <;> cases decide ((mk[j]?.getD inD).a = ((i / 2 : Nat) : Int)) <;> cases decide ((mk[j]?.getD inD).d = 4) <;> simp
  · rw [if_neg (by omega), if_neg (by omega), h]
    cases usesV (mk.take j) 3 ((i / 2 : Nat) : Int) <;> cases usesV mv 4 ((i / 2 : Nat) : Int) <;> cases decide ((mk[j]?.getD inD).a = ((i / 2 : Nat) : Int)) <;> cases decide ((mk[j]?.getD inD).d = 3) <;> simp
theorem goF_none (i : Nat) : goF [] [] i = false := by unfold goF goV usesV; split <;> rfl
set_option maxRecDepth 100000 in
set_option maxHeartbeats 4000000 in
theorem clashes_any (c : CV) (mv mk : List In) (w : World) (hm : Inss w c.ma c.ml mv) (hk : Inss w c.ka c.kl mk) (hms : ∀ x ∈ mv, x.d = 3 ∨ x.d = 4 → 0 ≤ x.a ∧ x.a < 16) (hks : ∀ x ∈ mk, x.d = 3 ∨ x.d = 4 → 0 ≤ x.a ∧ x.a < 16) :
    Calls Tryz.prog 21 #[c.v] w fun r w' => r = .returned (.bool (clashV mv mk)) ∧ Below w.heap.size w w' := by
  obtain ⟨W, hW⟩ : ∃ W, W = (w.alloc (.cells #[.int .i64 c.pad, .int .i64 c.mem, .slice c.ma c.ml c.mc, .slice c.ka c.kl c.kc] 24)).alloc (.cells #[.bool false, .bool false, .bool false, .bool false, .bool false, .bool false, .bool false, .bool false, .bool false, .bool false, .bool false, .bool false, .bool false, .bool false, .bool false, .bool false, .bool false, .bool false, .bool false, .bool false, .bool false, .bool false, .bool false, .bool false, .bool false, .bool false, .bool false, .bool false, .bool false, .bool false, .bool false, .bool false] 72) := ⟨_, rfl⟩
  have hb : Below w.heap.size w W := by rw [hW]; exact bl_on (bl_new _) (bl_new _)
  have hC : CBlk W w.heap.size c := by rw [hW]; exact (CBlk.new w c).below (bl_new _)
  have hG : GRow W (w.heap.size + 1) (goF [] []) := by
    have h1 := World.alloc_heap_new (w.alloc (.cells #[.int .i64 c.pad, .int .i64 c.mem, .slice c.ma c.ml c.mc, .slice c.ka c.kl c.kc] 24)) (.cells #[.bool false, .bool false, .bool false, .bool false, .bool false, .bool false, .bool false, .bool false, .bool false, .bool false, .bool false, .bool false, .bool false, .bool false, .bool false, .bool false, .bool false, .bool false, .bool false, .bool false, .bool false, .bool false, .bool false, .bool false, .bool false, .bool false, .bool false, .bool false, .bool false, .bool false, .bool false, .bool false] 72)
    rw [World.size_alloc, ← hW] at h1
    refine ⟨_, h1, rfl, fun i hi => ?_⟩
    show _ = some (Value.bool (goF [] [] i))
    rw [goF_none]
    have hrep : (#[.bool false, .bool false, .bool false, .bool false, .bool false, .bool false, .bool false, .bool false, .bool false, .bool false, .bool false, .bool false, .bool false, .bool false, .bool false, .bool false, .bool false, .bool false, .bool false, .bool false, .bool false, .bool false, .bool false, .bool false, .bool false, .bool false, .bool false, .bool false, .bool false, .bool false, .bool false, .bool false] : Array Value) = Array.replicate 32 (.bool false) := rfl
    rw [hrep]
    simp [hi]
  have HEN := hide (fun V => engines_any c V)
  have hsz : W.heap.size = w.heap.size + 2 := by rw [hW]; simp
  have HSZ := hide hsz
  obtain ⟨⟨c0, c1, c2, c3⟩, zc⟩ := hC.cells
  have HB := hide hb
  have HG := hide hG
  have HW := hide hW
  have HM := hide hm
  have HK := hide hk
  have HMS := hide hms
  have HKS := hide hks
  obtain ⟨R, hR⟩ : ∃ R, R = clashV mv mk := ⟨_, rfl⟩
  rw [← hR]
  have HR := hide hR
  have hml := hm.2.1
  have hkl := hk.2.1
  clear hb hC hG hW hm hk hms hks hR hsz
  obtain ⟨pad, mem, ma, ml, mc, ka, kl, kc⟩ := c
  unfold CV.v
  simp only at *
  go_enter Tryz.func21, Tryz.ntmps21
  go_upto_region 2 with fail
  rw [← HW.out]
  go_wp2_with fail
  refine (HEN.out W).mono ?_
  rintro r w2 ⟨rfl, hb2⟩
  have HB2 := hide (bl_on HB.out hb2)
  have HG2 : Hid (GRow w2 (w.heap.size + 1) (goF [] [])) := World.rowIs.of_block HG.out (hb2.block _ (by have := HSZ.out; omega))
  clear hb2 c0 c1 c2 c3 zc HB HG HW HEN
  go_wp2_with fail
  go_loopw [12] (fun v12 wr => ∃ k : Nat, k ≤ 2 ∧ v12 = .int .i64 k ∧ GRow wr (w.heap.size + 1) (goF (if k = 0 then [] else mv) (if k ≤ 1 then [] else mk)) ∧ Below w.heap.size w wr) (fun v12 _ => 2 - (intOf v12).toNat)
  case atStart => exact ⟨0, by omega, rfl, HG2.out, HB2.out⟩
  case round =>
    clear HG2 HB2
    obtain ⟨k, hk2, rfl, hg, hbr⟩ := hrel
    have HGR := hide hg
    have HBR := hide hbr
    clear hg hbr
    obtain rfl | rfl | rfl : k = 0 ∨ k = 1 ∨ k = 2 := by omega
    · have hix := idx2_0 (.slice ma ml mc) (.slice ka kl kc)
      go_wp2_with fail
      go_loopw [18] (fun v18 wv => ∃ j : Nat, j ≤ ml ∧ v18 = .int .i64 j ∧ GRow wv (w.heap.size + 1) (goF (mv.take j) []) ∧ Below w.heap.size w wv) (fun v18 _ => ml - (intOf v18).toNat)
      case atStart => exact ⟨0, by omega, rfl, HGR.out, HBR.out⟩
      case round =>
        clear hix
        obtain ⟨j, hj, rfl, hg, hbv⟩ := hrel
        by_cases hjl : j < ml
        · have hjz : (j : Int) < (ml : Int) := by omega
          obtain ⟨b, off, rfl, hin⟩ := HM.out.2.2.resolve_left (by omega)
          obtain ⟨k0, k1, k2, k3, k4, k5⟩ := (hin j hjl).below hbv
          obtain ⟨x, hx⟩ : ∃ x, x = mv[j]?.getD inD := ⟨_, rfl⟩
          have hjm : j < mv.length := by have := HM.out.1; omega
          have hxm : x.d = 3 ∨ x.d = 4 → 0 ≤ x.a ∧ x.a < 16 := HMS.out x (by rw [hx]; exact mem_getI _ _ hjm)
          have hst := fun i => goF_mv (mv := mv) (mk := []) hjm i
          rw [← hx] at k0 k1 k2 k3 k4 k5
          simp only [← hx] at hst
          obtain ⟨V, hV⟩ : ∃ V, V = wr.alloc (.cells #[.int .i64 x.d, .int .i64 x.a, .int .i64 x.b, .int .i64 x.c, .int .i64 x.n, .int .i64 x.v] 50) := ⟨_, rfl⟩
          have hbV : Below wr.heap.size wr V := by rw [hV]; exact bl_new _
          have hI : InBlk V wr.heap.size x := by rw [hV]; exact InBlk.new _ _
          have hgV : GRow V (w.heap.size + 1) (goF (mv.take j) []) := World.rowIs.of_block hg (hbV.block _ hg.lt)
          obtain ⟨g9, hg9⟩ : ∃ g9, g9 = wr.heap.size := ⟨_, rfl⟩
          rw [← hg9] at hI
          have hgn : g9 ≠ w.heap.size + 1 := fun e => by
            have h1 := hg.lt
            omega
          have zk := lt_of_cell k0
          simp only at zk
          have HV := hide hV
          have H9 := hide hg9
          have HI := hide hI
          have HGV := hide hgV
          have HBV := hide (bl_on hbv hbV)
          have HST := hide hst
          have HGN := hide hgn
          clear hin hbV hI hgV hV hg9 hst hbv hg hgn hx
          go_upto_region 8 with fail
          rw [← HV.out, ← H9.out]
          clear k0 k1 k2 k3 k4 k5 zk
          obtain ⟨⟨i0, i1, i2, i3, i4, i5⟩, zi⟩ := HI.out.cells
          by_cases e3 : x.d = 3
          · have q3 : (x.d == 3) = true := by simpa using e3
            obtain ⟨A, hA⟩ : ∃ A : Nat, x.a = (A : Int) := ⟨x.a.toNat, by have := hxm (.inl e3); omega⟩
            have hA2 : A < 16 := by have := hxm (.inl e3); omega
            have hAz : (A : Int) < 16 := by omega
            rw [hA] at i1
            have d0 := HGV.out.cell (i := A * 2) (by omega)
            have y0 := HGV.out.frozen (A * 2)
            have zg := HGV.out.lt
            have HN : Hid (GRow (V.setCell ⟨w.heap.size + 1, A * 2, none⟩ (.bool true)) (w.heap.size + 1) (goF (mv.take (j + 1)) [])) := (HGV.out.put (A * 2)).congr fun i hi => by
              rw [HST.out i, e3, hA]
              by_cases e : i = A * 2
              · rw [if_pos e]; subst e
                have e1 : (A * 2) / 2 = A := by omega
                have e2 : (A * 2) % 2 = 0 := by omega
                rw [e1, e2]; simp
              · rw [if_neg e]
                have e1 : decide ((A : Int) = ((i / 2 : Nat) : Int)) = false ∨ decide (i % 2 = 0) = false := by
                  by_cases h : A = i / 2
                  · exact .inr (decide_eq_false (by omega))
                  · exact .inl (decide_eq_false (by omega))
                rcases e1 with h | h <;> rw [h] <;> simp
            have HNB := hide (HBV.out.setCell (p := ⟨w.heap.size + 1, A * 2, none⟩) (by simp only; omega) (.bool true))
            clear e3 hxm hA
            go_wp2_with fail
            go_roundw
            case rel => exact ⟨j + 1, by omega, by go_num, HN.out, HNB.out⟩
            case measure => simp [intOf]; omega
          · have q3 : (x.d == 3) = false := by simpa using e3
            by_cases e4 : x.d = 4
            · have q4 : (x.d == 4) = true := by simpa using e4
              obtain ⟨A, hA⟩ : ∃ A : Nat, x.a = (A : Int) := ⟨x.a.toNat, by have := hxm (.inr e4); omega⟩
              have hA2 : A < 16 := by have := hxm (.inr e4); omega
              have hAz : (A : Int) < 16 := by omega
              rw [hA] at i1
              have HNF : Hid (∀ i, i < 32 → (if i = A * 2 + 1 then true else goF (mv.take j) [] i) = (goF (mv.take (j + 1)) []) i) := fun i hi => by
                rw [HST.out i, e4, hA]
                by_cases e : i = A * 2 + 1
                · rw [if_pos e]; subst e
                  have e1 : (A * 2 + 1) / 2 = A := by omega
                  have e2 : (A * 2 + 1) % 2 = 1 := by omega
                  rw [e1, e2]; simp
                · rw [if_neg e]
                  have e1 : decide ((A : Int) = ((i / 2 : Nat) : Int)) = false ∨ decide (i % 2 = 1) = false := by
                    by_cases h : A = i / 2
                    · exact .inr (decide_eq_false (by omega))
                    · exact .inl (decide_eq_false (by omega))
                  rcases e1 with h | h <;> rw [h] <;> simp
              have HOT : Hid (∀ V', Calls Tryz.prog 33 #[.int .i64 0] V' fun r w' => r = .returned (.int .i64 1) ∧ w' = V') := fun V' => other_any true V'
              clear e3 e4 hxm hA
              go_upto_region 12 with fail
              refine region_made 6 7 [fIs (.pointer (some ⟨g9, 1, none⟩)), fIs (.int .i64 (A : Int)), fIs (.int .i64 0), fIs (.int .i64 1), fIs (.pointer (some ⟨w.heap.size + 1, A * 2, none⟩)), fIs (.pointer (some ⟨w.heap.size + 1, A * 2 + 1, none⟩))] (by kernel_rfl) (by kernel_rfl) (by kernel_rfl) (fun ch p q w3 e h => by obtain ⟨t1, d1⟩ := p; obtain ⟨t2, d2⟩ := q; cases e; exact h) ⟨fIs_good _, fIs_good _, fIs_good _, fIs_good _, fIs_good _, fIs_good _, trivial⟩ ?mkF ?restF
              case mkF =>
                refine ⟨fun u wz hb hd => ?_, fun u wz hb hd => ?_, fun u wz hb hd => ?_, fun u wz hb hd => ?_, fun u wz hb hd => ?_, fun u wz hb hd => ?_, trivial⟩
                all_goals simp only [Act.put, List.setIfInBounds_toArray, List.set_cons_zero, List.set_cons_succ]
                · go_simp
                  exact ⟨rfl, Below.refl _ _, fun h => by cases h⟩
                · have e0 : u 0 = .pointer (some ⟨g9, 1, none⟩) := hd 0 (by omega) (by kernel_rfl)
                  rw [e0]
                  have i1' := (hb.cell (p := ⟨g9, 1, none⟩) (lt_of_cell i1)).trans i1
                  go_simp
                  exact ⟨rfl, Below.refl _ _, fun h => by cases h⟩
                · go_simp
                  exact ⟨rfl, Below.refl _ _, fun h => by cases h⟩
                · have e2 : u 2 = .int .i64 0 := hd 2 (by omega) (by kernel_rfl)
                  rw [e2]
                  go_simp
                  refine (HOT.out wz).mono ?_
                  rintro r w2 ⟨rfl, hw2⟩
                  obtain rfl := hw2.symm
                  exact ⟨rfl, Below.refl _ _, fun h => by cases h⟩
                · have e1 : u 1 = .int .i64 (A : Int) := hd 1 (by omega) (by kernel_rfl)
                  rw [e1]
                  go_simp
                  exact ⟨rfl, Below.refl _ _, fun h => by cases h⟩
                · have e4 : u 4 = .pointer (some ⟨w.heap.size + 1, A * 2, none⟩) := hd 4 (by omega) (by kernel_rfl)
                  have e3 : u 3 = .int .i64 1 := hd 3 (by omega) (by kernel_rfl)
                  rw [e4, e3]
                  go_simp
                  exact ⟨rfl, Below.refl _ _, fun h => by cases h⟩
              case restF =>
                intro u wz hb hf hp
                have f0 : u 0 = .pointer (some ⟨g9, 1, none⟩) := hf 0 (by omega)
                have f1 : u 1 = .int .i64 (A : Int) := hf 1 (by omega)
                have f2 : u 2 = .int .i64 0 := hf 2 (by omega)
                have f3 : u 3 = .int .i64 1 := hf 3 (by omega)
                have f4 : u 4 = .pointer (some ⟨w.heap.size + 1, A * 2, none⟩) := hf 4 (by omega)
                have f5 : u 5 = .pointer (some ⟨w.heap.size + 1, A * 2 + 1, none⟩) := hf 5 (by omega)
                refine UptoW.rest 1 6 (by rfl) (by kernel_rfl) ?_
                simp only [List.take, List.drop, putOps, Act.put, List.setIfInBounds_toArray, List.set_cons_zero, List.set_cons_succ, Nat.reduceAdd, f0, f1, f2, f3, f4, f5]
                clear f0 f1 f2 f3 f4 f5 hf hp
                have hgz := World.rowIs.of_block HGV.out (hb.block _ HGV.out.lt)
                have d0 := hgz.cell (i := A * 2 + 1) (by omega)
                have y0 := hgz.frozen (A * 2 + 1)
                have zg := hgz.lt
                have HN2 : Hid (GRow (wz.setCell ⟨w.heap.size + 1, A * 2 + 1, none⟩ (.bool true)) (w.heap.size + 1) (goF (mv.take (j + 1)) [])) := (GRow.put hgz (A * 2 + 1)).congr HNF.out
                have HNB := hide ((bl_on HBV.out hb).setCell (p := ⟨w.heap.size + 1, A * 2 + 1, none⟩) (by simp only; omega) (.bool true))
                clear hb hgz i0 i1 i2 i3 i4 i5 zi
                go_wp2_with fail
                go_roundw
                case rel => exact ⟨j + 1, by omega, by go_num, HN2.out, HNB.out⟩
                case measure => simp [intOf]; omega
            · have q4 : (x.d == 4) = false := by simpa using e4
              have HN : Hid (GRow V (w.heap.size + 1) (goF (mv.take (j + 1)) [])) := HGV.out.congr fun i hi => by rw [HST.out i]; simp [e3, e4]
              clear e3 e4 hxm
              go_wp2_with fail
              go_roundw
              case rel => exact ⟨j + 1, by omega, by go_num, HN.out, HBV.out⟩
              case measure => simp [intOf]; omega
        · have hjz : ¬ (j : Int) < (ml : Int) := by omega
          obtain rfl : j = ml := by omega
          have e1 : mv.take j = mv := List.take_of_length_le (by have := HM.out.1; omega)
          rw [e1] at hg
          have HG3 := hide hg
          have HB3 := hide hbv
          clear hg hbv e1
          go_wp2_with fail
          go_roundw
          case rel => exact ⟨1, by omega, by go_num, HG3.out, HB3.out⟩
          case measure => simp [intOf]
    · have hix := idx2_1 (.slice ma ml mc) (.slice ka kl kc)
      go_wp2_with fail
      go_loopw [18] (fun v18 wv => ∃ j : Nat, j ≤ kl ∧ v18 = .int .i64 j ∧ GRow wv (w.heap.size + 1) (goF mv (mk.take j)) ∧ Below w.heap.size w wv) (fun v18 _ => kl - (intOf v18).toNat)
      case atStart => exact ⟨0, by omega, rfl, HGR.out, HBR.out⟩
      case round =>
        clear hix
        obtain ⟨j, hj, rfl, hg, hbv⟩ := hrel
        by_cases hjl : j < kl
        · have hjz : (j : Int) < (kl : Int) := by omega
          obtain ⟨b, off, rfl, hin⟩ := HK.out.2.2.resolve_left (by omega)
          obtain ⟨k0, k1, k2, k3, k4, k5⟩ := (hin j hjl).below hbv
          obtain ⟨x, hx⟩ : ∃ x, x = mk[j]?.getD inD := ⟨_, rfl⟩
          have hjm : j < mk.length := by have := HK.out.1; omega
          have hxm : x.d = 3 ∨ x.d = 4 → 0 ≤ x.a ∧ x.a < 16 := HKS.out x (by rw [hx]; exact mem_getI _ _ hjm)
          have hst := fun i => goF_mk (mv := mv) (mk := mk) hjm i
          rw [← hx] at k0 k1 k2 k3 k4 k5
          simp only [← hx] at hst
          obtain ⟨V, hV⟩ : ∃ V, V = wr.alloc (.cells #[.int .i64 x.d, .int .i64 x.a, .int .i64 x.b, .int .i64 x.c, .int .i64 x.n, .int .i64 x.v] 50) := ⟨_, rfl⟩
          have hbV : Below wr.heap.size wr V := by rw [hV]; exact bl_new _
          have hI : InBlk V wr.heap.size x := by rw [hV]; exact InBlk.new _ _
          have hgV : GRow V (w.heap.size + 1) (goF mv (mk.take j)) := World.rowIs.of_block hg (hbV.block _ hg.lt)
          obtain ⟨g9, hg9⟩ : ∃ g9, g9 = wr.heap.size := ⟨_, rfl⟩
          rw [← hg9] at hI
          have hgn : g9 ≠ w.heap.size + 1 := fun e => by
            have h1 := hg.lt
            omega
          have zk := lt_of_cell k0
          simp only at zk
          have HV := hide hV
          have H9 := hide hg9
          have HI := hide hI
          have HGV := hide hgV
          have HBV := hide (bl_on hbv hbV)
          have HST := hide hst
          have HGN := hide hgn
          clear hin hbV hI hgV hV hg9 hst hbv hg hgn hx
          go_upto_region 8 with fail
          rw [← HV.out, ← H9.out]
          clear k0 k1 k2 k3 k4 k5 zk
          obtain ⟨⟨i0, i1, i2, i3, i4, i5⟩, zi⟩ := HI.out.cells
          by_cases e3 : x.d = 3
          · have q3 : (x.d == 3) = true := by simpa using e3
            obtain ⟨A, hA⟩ : ∃ A : Nat, x.a = (A : Int) := ⟨x.a.toNat, by have := hxm (.inl e3); omega⟩
            have hA2 : A < 16 := by have := hxm (.inl e3); omega
            have hAz : (A : Int) < 16 := by omega
            rw [hA] at i1
            have d0 := HGV.out.cell (i := A * 2 + 1) (by omega)
            have y0 := HGV.out.frozen (A * 2 + 1)
            have zg := HGV.out.lt
            have HN : Hid (GRow (V.setCell ⟨w.heap.size + 1, A * 2 + 1, none⟩ (.bool true)) (w.heap.size + 1) (goF mv (mk.take (j + 1)))) := (HGV.out.put (A * 2 + 1)).congr fun i hi => by
              rw [HST.out i, e3, hA]
              by_cases e : i = A * 2 + 1
              · rw [if_pos e]; subst e
                have e1 : (A * 2 + 1) / 2 = A := by omega
                have e2 : (A * 2 + 1) % 2 = 1 := by omega
                rw [e1, e2]; simp
              · rw [if_neg e]
                have e1 : decide ((A : Int) = ((i / 2 : Nat) : Int)) = false ∨ decide (i % 2 = 1) = false := by
                  by_cases h : A = i / 2
                  · exact .inr (decide_eq_false (by omega))
                  · exact .inl (decide_eq_false (by omega))
                rcases e1 with h | h <;> rw [h] <;> simp
            have HNB := hide (HBV.out.setCell (p := ⟨w.heap.size + 1, A * 2 + 1, none⟩) (by simp only; omega) (.bool true))
            clear e3 hxm hA
            go_wp2_with fail
            go_roundw
            case rel => exact ⟨j + 1, by omega, by go_num, HN.out, HNB.out⟩
            case measure => simp [intOf]; omega
          · have q3 : (x.d == 3) = false := by simpa using e3
            by_cases e4 : x.d = 4
            · have q4 : (x.d == 4) = true := by simpa using e4
              obtain ⟨A, hA⟩ : ∃ A : Nat, x.a = (A : Int) := ⟨x.a.toNat, by have := hxm (.inr e4); omega⟩
              have hA2 : A < 16 := by have := hxm (.inr e4); omega
              have hAz : (A : Int) < 16 := by omega
              rw [hA] at i1
              have HNF : Hid (∀ i, i < 32 → (if i = A * 2 then true else goF mv (mk.take j) i) = (goF mv (mk.take (j + 1))) i) := fun i hi => by
                rw [HST.out i, e4, hA]
                by_cases e : i = A * 2
                · rw [if_pos e]; subst e
                  have e1 : (A * 2) / 2 = A := by omega
                  have e2 : (A * 2) % 2 = 0 := by omega
                  rw [e1, e2]; simp
                · rw [if_neg e]
                  have e1 : decide ((A : Int) = ((i / 2 : Nat) : Int)) = false ∨ decide (i % 2 = 0) = false := by
                    by_cases h : A = i / 2
                    · exact .inr (decide_eq_false (by omega))
                    · exact .inl (decide_eq_false (by omega))
                  rcases e1 with h | h <;> rw [h] <;> simp
              have HOT : Hid (∀ V', Calls Tryz.prog 33 #[.int .i64 1] V' fun r w' => r = .returned (.int .i64 0) ∧ w' = V') := fun V' => other_any false V'
              clear e3 e4 hxm hA
              go_upto_region 12 with fail
              refine region_made 6 7 [fIs (.pointer (some ⟨g9, 1, none⟩)), fIs (.int .i64 (A : Int)), fIs (.int .i64 1), fIs (.int .i64 0), fIs (.pointer (some ⟨w.heap.size + 1, A * 2, none⟩)), fIs (.pointer (some ⟨w.heap.size + 1, A * 2, none⟩))] (by kernel_rfl) (by kernel_rfl) (by kernel_rfl) (fun ch p q w3 e h => by obtain ⟨t1, d1⟩ := p; obtain ⟨t2, d2⟩ := q; cases e; exact h) ⟨fIs_good _, fIs_good _, fIs_good _, fIs_good _, fIs_good _, fIs_good _, trivial⟩ ?mkF ?restF
              case mkF =>
                refine ⟨fun u wz hb hd => ?_, fun u wz hb hd => ?_, fun u wz hb hd => ?_, fun u wz hb hd => ?_, fun u wz hb hd => ?_, fun u wz hb hd => ?_, trivial⟩
                all_goals simp only [Act.put, List.setIfInBounds_toArray, List.set_cons_zero, List.set_cons_succ]
                · go_simp
                  exact ⟨rfl, Below.refl _ _, fun h => by cases h⟩
                · have e0 : u 0 = .pointer (some ⟨g9, 1, none⟩) := hd 0 (by omega) (by kernel_rfl)
                  rw [e0]
                  have i1' := (hb.cell (p := ⟨g9, 1, none⟩) (lt_of_cell i1)).trans i1
                  go_simp
                  exact ⟨rfl, Below.refl _ _, fun h => by cases h⟩
                · go_simp
                  exact ⟨rfl, Below.refl _ _, fun h => by cases h⟩
                · have e2 : u 2 = .int .i64 1 := hd 2 (by omega) (by kernel_rfl)
                  rw [e2]
                  go_simp
                  refine (HOT.out wz).mono ?_
                  rintro r w2 ⟨rfl, hw2⟩
                  obtain rfl := hw2.symm
                  exact ⟨rfl, Below.refl _ _, fun h => by cases h⟩
                · have e1 : u 1 = .int .i64 (A : Int) := hd 1 (by omega) (by kernel_rfl)
                  rw [e1]
                  go_simp
                  exact ⟨rfl, Below.refl _ _, fun h => by cases h⟩
                · have e4 : u 4 = .pointer (some ⟨w.heap.size + 1, A * 2, none⟩) := hd 4 (by omega) (by kernel_rfl)
                  have e3 : u 3 = .int .i64 0 := hd 3 (by omega) (by kernel_rfl)
                  rw [e4, e3]
                  go_simp
                  exact ⟨rfl, Below.refl _ _, fun h => by cases h⟩
              case restF =>
                intro u wz hb hf hp
                have f0 : u 0 = .pointer (some ⟨g9, 1, none⟩) := hf 0 (by omega)
                have f1 : u 1 = .int .i64 (A : Int) := hf 1 (by omega)
                have f2 : u 2 = .int .i64 1 := hf 2 (by omega)
                have f3 : u 3 = .int .i64 0 := hf 3 (by omega)
                have f4 : u 4 = .pointer (some ⟨w.heap.size + 1, A * 2, none⟩) := hf 4 (by omega)
                have f5 : u 5 = .pointer (some ⟨w.heap.size + 1, A * 2, none⟩) := hf 5 (by omega)
                refine UptoW.rest 1 6 (by rfl) (by kernel_rfl) ?_
                simp only [List.take, List.drop, putOps, Act.put, List.setIfInBounds_toArray, List.set_cons_zero, List.set_cons_succ, Nat.reduceAdd, f0, f1, f2, f3, f4, f5]
                clear f0 f1 f2 f3 f4 f5 hf hp
                have hgz := World.rowIs.of_block HGV.out (hb.block _ HGV.out.lt)
                have d0 := hgz.cell (i := A * 2) (by omega)
                have y0 := hgz.frozen (A * 2)
                have zg := hgz.lt
                have HN2 : Hid (GRow (wz.setCell ⟨w.heap.size + 1, A * 2, none⟩ (.bool true)) (w.heap.size + 1) (goF mv (mk.take (j + 1)))) := (GRow.put hgz (A * 2)).congr HNF.out
                have HNB := hide ((bl_on HBV.out hb).setCell (p := ⟨w.heap.size + 1, A * 2, none⟩) (by simp only; omega) (.bool true))
                clear hb hgz i0 i1 i2 i3 i4 i5 zi
                go_wp2_with fail
                go_roundw
                case rel => exact ⟨j + 1, by omega, by go_num, HN2.out, HNB.out⟩
                case measure => simp [intOf]; omega
            · have q4 : (x.d == 4) = false := by simpa using e4
              have HN : Hid (GRow V (w.heap.size + 1) (goF mv (mk.take (j + 1)))) := HGV.out.congr fun i hi => by rw [HST.out i]; simp [e3, e4]
              clear e3 e4 hxm
              go_wp2_with fail
              go_roundw
              case rel => exact ⟨j + 1, by omega, by go_num, HN.out, HBV.out⟩
              case measure => simp [intOf]; omega
        · have hjz : ¬ (j : Int) < (kl : Int) := by omega
          obtain rfl : j = kl := by omega
          have e1 : mk.take j = mk := List.take_of_length_le (by have := HK.out.1; omega)
          rw [e1] at hg
          have HG3 := hide hg
          have HB3 := hide hbv
          clear hg hbv e1
          go_wp2_with fail
          go_roundw
          case rel => exact ⟨2, by omega, by go_num, HG3.out, HB3.out⟩
          case measure => simp [intOf]
    · have hcl : R = (List.range 16).any fun s => goF mv mk (s * 2) && goF mv mk (s * 2 + 1) := by
        rw [HR.out]
        unfold clashV semV goF goV
        congr 1
        funext s
        have e1 : s * 2 / 2 = s := by omega
        have e2 : s * 2 % 2 = 0 := by omega
        have e3 : (s * 2 + 1) / 2 = s := by omega
        have e4 : (s * 2 + 1) % 2 = 1 := by omega
        simp [e1, e2, e3, e4]
      have HCL := hide hcl
      obtain ⟨cs, hcs, hcn, hcv⟩ := HGR.out
      have hci : (Tryz.prog.info? 72).map (·.size) = some cs.size := by rw [hcn]; kernel_rfl
      have HCV := hide hcv
      clear hcl hcv
      go_wp2_with (refine wpList_load_row rfl 72 _ rfl (w.heap.size + 1) rfl 72 cs (0, 0) _ hcs Tryz.underlying72 rfl hci ?_)
      clear hcs hci hcn
      go_loopw [42] (fun v42 wr => ∃ s : Nat, s ≤ 16 ∧ v42 = .int .i64 s ∧ (∀ t, t < s → (goF mv mk (t * 2) && goF mv mk (t * 2 + 1)) = false) ∧ Below w.heap.size w wr) (fun v42 _ => 16 - (intOf v42).toNat)
      case atStart => exact ⟨0, by omega, rfl, fun t ht => by omega, HBR.out⟩
      case round =>
        obtain ⟨s, hs, rfl, hno, hbs⟩ := hrel
        have HNO := hide hno
        have HBS := hide hbs
        clear hno hbs
        by_cases hsl : s < 16
        · have hsz : (s : Int) < 16 := by omega
          obtain ⟨a, ha⟩ : ∃ a, a = goF mv mk (s * 2) := ⟨_, rfl⟩
          obtain ⟨b, hb⟩ : ∃ b, b = goF mv mk (s * 2 + 1) := ⟨_, rfl⟩
          have hix := idx16 cs s (.bool a) (.bool b) hsl (by rw [ha]; exact HCV.out _ (by omega)) (by rw [hb]; exact HCV.out _ (by omega))
          have heq := eq2 a b
          have HAB := hide (And.intro ha hb)
          clear ha hb
          cases hab : (a && b)
          · rw [hab] at heq
            have HAZ := hide hab
            clear hab
            go_wp2_with fail
            go_roundw
            case rel => exact ⟨s + 1, by omega, by go_num, fun t ht => by
              by_cases e : t = s
              · subst e; rw [← HAB.out.1, ← HAB.out.2]; exact HAZ.out
              · exact HNO.out t (by omega), bl_on HBS.out (bl_new _)⟩
            case measure => simp [intOf]; omega
          · have hr : R = true := by
              rw [HCL.out, List.any_eq_true]
              exact ⟨s, by simpa using hsl, by rw [← HAB.out.1, ← HAB.out.2]; exact hab⟩
            rw [hab] at heq
            clear hab
            go_wp2_with fail
            go_ret
            exact ⟨by first | rfl | (rw [hr]; rfl), bl_on HBS.out (bl_new _)⟩
        · have hsz : ¬ (s : Int) < 16 := by omega
          have hr : R = false := by
            rw [HCL.out, List.any_eq_false]
            intro t ht
            rw [HNO.out t (by have : t < 16 := by simpa using ht
                              omega)]
            simp
          go_wp2_with fail
          go_ret
          exact ⟨by first | rfl | (rw [hr]; rfl), HBS.out⟩
end Go.Proofs.YtoabffmiedbkkaaGreat.V
namespace Go.Proofs.YtoabffmiedbkkaaGreat.V
set_option maxRecDepth 20000
open Go Go.RowKit
set_option linter.unusedVariables false

theorem inssE_ok {pad mem : Int} {e : Bool} : ∀ {l : List In}, inssE pad mem e l = 0 → ∀ x ∈ l, insE pad mem e x = 0
  | y :: l, h, x, hx => by
    unfold inssE at h
    by_cases h1 : insE pad mem e y ≠ 0
    · rw [if_pos h1] at h; exact absurd h h1
    · rw [if_neg h1] at h
      rcases List.mem_cons.1 hx with rfl | hx
      · simpa using h1
      · exact inssE_ok h x hx
theorem insE_sem {pad mem : Int} {e : Bool} {x : In} (h : insE pad mem e x = 0) (hd : x.d = 3 ∨ x.d = 4) : 0 ≤ x.a ∧ x.a < 16 := by
  unfold insE at h
  by_cases h1 : hasV e x.d = false
  · rw [if_pos h1] at h; omega
  rw [if_neg h1, if_pos hd] at h
  by_cases h2 : x.a < 0 ∨ 16 ≤ x.a
  · rw [if_pos h2] at h; omega
  · omega
theorem inssE_take {pad mem : Int} {e : Bool} : ∀ (l : List In) (k : Nat), k < l.length → inssE pad mem e (l.take k) = 0 → insE pad mem e (l[k]?.getD inD) = 0 → inssE pad mem e (l.take (k + 1)) = 0
  | [], k, h, _, _ => by simp at h
  | y :: l, 0, h, _, h3 => by
    simp only [List.getElem?_cons_zero, Option.getD_some] at h3
    simp [inssE, h3]
  | y :: l, k + 1, h, h2, h3 => by
    simp only [List.take_succ_cons, inssE] at h2 ⊢
    by_cases h1 : insE pad mem e y ≠ 0
    · rw [if_pos h1] at h2; exact absurd h2 h1
    · rw [if_neg h1] at h2 ⊢
      exact inssE_take l k (by simpa using h) h2 (by simpa using h3)
theorem inssE_at {pad mem : Int} {e : Bool} : ∀ (l : List In) (k : Nat), k < l.length → inssE pad mem e (l.take k) = 0 → insE pad mem e (l[k]?.getD inD) ≠ 0 → inssE pad mem e l = insE pad mem e (l[k]?.getD inD)
  | [], k, h, _, _ => by simp at h
  | y :: l, 0, h, _, h3 => by
    simp only [List.getElem?_cons_zero, Option.getD_some] at h3 ⊢
    rw [inssE, if_pos h3]
  | y :: l, k + 1, h, h2, h3 => by
    simp only [List.take_succ_cons, inssE] at h2
    by_cases h1 : insE pad mem e y ≠ 0
    · rw [if_pos h1] at h2; exact absurd h2 h1
    · rw [if_neg h1] at h2
      rw [inssE, if_neg h1]
      have := inssE_at l k (by simpa using h) h2 (by simpa using h3)
      simpa using this
theorem codeE_rest {pad mem : Int} {mv mk : List In} (h1 : ¬ (pad < 0 ∨ 4096 < pad ∨ mem < 0 ∨ 1048576 < mem)) (h2 : ¬ (262144 < mv.length ∨ 262144 < mk.length)) : codeE pad mem mv mk = if inssE pad mem true mv ≠ 0 then inssE pad mem true mv else if inssE pad mem false mk ≠ 0 then inssE pad mem false mk else if clashV mv mk = true then 11 else 0 := by
  unfold codeE
  rw [if_neg h1, if_neg h2]
set_option maxRecDepth 100000 in
set_option maxHeartbeats 4000000 in
theorem coWrong_any (c : CV) (mv mk : List In) (w : World) (hm : Inss w c.ma c.ml mv) (hk : Inss w c.ka c.kl mk) :
    Calls Tryz.prog 8 #[c.v] w fun r w' => r = .returned (.int .i64 (codeE c.pad c.mem mv mk)) ∧ Below w.heap.size w w' := by
  obtain ⟨W, hW⟩ : ∃ W, W = w.alloc (.cells #[.int .i64 c.pad, .int .i64 c.mem, .slice c.ma c.ml c.mc, .slice c.ka c.kl c.kc] 24) := ⟨_, rfl⟩
  have hb : Below w.heap.size w W := by rw [hW]; exact bl_new _
  have hC : CBlk W w.heap.size c := by rw [hW]; exact CBlk.new w c
  have HEN := hide (fun V => engines_any c V)
  have HWI0 : Hid (∀ (x : In) (V : World), Calls Tryz.prog 20 #[c.v, .int .i64 0, x.v6] V fun r w' => r = .returned (.int .i64 (insE c.pad c.mem true x)) ∧ Below V.heap.size V w') := fun x V => wrongIns_any c true x V
  have HWI1 : Hid (∀ (x : In) (V : World), Calls Tryz.prog 20 #[c.v, .int .i64 1, x.v6] V fun r w' => r = .returned (.int .i64 (insE c.pad c.mem false x)) ∧ Below V.heap.size V w') := fun x V => wrongIns_any c false x V
  have HCL := hide (fun (V : World) (hV : Below w.heap.size w V) => clashes_any c mv mk V (hm.below hV) (hk.below hV))
  obtain ⟨⟨c0, c1, c2, c3⟩, zc⟩ := hC.cells
  have HB := hide hb
  have HC := hide hC
  have HW := hide hW
  have HM := hide hm
  have HK := hide hk
  obtain ⟨R, hR⟩ : ∃ R, R = codeE c.pad c.mem mv mk := ⟨_, rfl⟩
  rw [← hR]
  have HR := hide hR
  have hml := hm.2.1
  have hkl := hk.2.1
  clear hb hC hW hm hk hR
  obtain ⟨pad, mem, ma, ml, mc, ka, kl, kc⟩ := c
  unfold CV.v at HEN HWI0 HWI1 HCL ⊢
  unfold In.v6 at HWI0 HWI1
  simp only at *
  go_enter Tryz.func8, Tryz.ntmps8
  go_upto_region 1 with fail
  rw [← HW.out]
  by_cases p1 : pad < 0
  · have hr : R = 4 := by rw [HR.out, codeE, if_pos (.inl p1)]
    go_wp2_with fail
    go_ret
    exact ⟨by first | rfl | (rw [hr]; rfl), HB.out⟩
  by_cases p2 : 4096 < pad
  · have hr : R = 4 := by rw [HR.out, codeE, if_pos (.inr (.inl p2))]
    go_wp2_with fail
    go_ret
    exact ⟨by first | rfl | (rw [hr]; rfl), HB.out⟩
  by_cases p3 : mem < 0
  · have hr : R = 4 := by rw [HR.out, codeE, if_pos (.inr (.inr (.inl p3)))]
    go_wp2_with fail
    go_ret
    exact ⟨by first | rfl | (rw [hr]; rfl), HB.out⟩
  by_cases p4 : 1048576 < mem
  · have hr : R = 4 := by rw [HR.out, codeE, if_pos (.inr (.inr (.inr p4)))]
    go_wp2_with fail
    go_ret
    exact ⟨by first | rfl | (rw [hr]; rfl), HB.out⟩
  have HP := hide (show ¬ (pad < 0 ∨ 4096 < pad ∨ mem < 0 ∨ 1048576 < mem) by omega)
  have HL := hide (And.intro HM.out.1 HK.out.1)
  by_cases p5 : 262144 < ml
  · have hr : R = 2 := by rw [HR.out, codeE, if_neg HP.out, if_pos (.inl (by rw [HL.out.1]; exact p5))]
    go_wp2_with fail
    go_ret
    exact ⟨by first | rfl | (rw [hr]; rfl), HB.out⟩
  by_cases p6 : 262144 < kl
  · have hr : R = 2 := by rw [HR.out, codeE, if_neg HP.out, if_pos (.inr (by rw [HL.out.2]; exact p6))]
    go_wp2_with fail
    go_ret
    exact ⟨by first | rfl | (rw [hr]; rfl), HB.out⟩
  have hr0 : R = if inssE pad mem true mv ≠ 0 then inssE pad mem true mv else if inssE pad mem false mk ≠ 0 then inssE pad mem false mk else if clashV mv mk = true then 11 else 0 := by
    rw [HR.out, codeE_rest HP.out (by rw [HL.out.1, HL.out.2]; omega)]
  have HR0 := hide hr0
  clear hr0 HR HP
  go_wp2_with fail
  refine (HEN.out W).mono ?_
  rintro r w2 ⟨rfl, hb2⟩
  have HB2 := hide (bl_on HB.out hb2)
  have HC2 := hide (HC.out.below hb2)
  clear hb2 c0 c1 c2 c3 zc HB HC HW HEN p1 p2 p3 p4
  go_wp2_with fail
  go_loopw [38] (fun v38 wr => ∃ k : Int, (k = 0 ∨ k = 1 ∨ k = 2) ∧ v38 = .int .i64 k ∧ (1 ≤ k → inssE pad mem true mv = 0) ∧ (2 ≤ k → inssE pad mem false mk = 0) ∧ CBlk wr w.heap.size ⟨pad, mem, ma, ml, mc, ka, kl, kc⟩ ∧ Below w.heap.size w wr) (fun v38 _ => (2 - intOf v38).toNat)
  case atStart => exact ⟨0, by omega, rfl, fun h => by omega, fun h => by omega, HC2.out, HB2.out⟩
  case round =>
    clear HC2 HB2
    obtain ⟨k, hk2, rfl, hk0, hk1, hc, hbr⟩ := hrel
    have HK0 := hide hk0
    have HK1 := hide hk1
    have HCR := hide hc
    have HBR := hide hbr
    clear hk0 hk1 hc hbr
    obtain rfl | rfl | rfl := hk2
    · have hix := idx2_0 (.slice ma ml mc) (.slice ka kl kc)
      go_wp2_with fail
      go_loopw [44] (fun v44 wv => ∃ j : Nat, j ≤ ml ∧ v44 = .int .i64 j ∧ inssE pad mem true (mv.take j) = 0 ∧ CBlk wv w.heap.size ⟨pad, mem, ma, ml, mc, ka, kl, kc⟩ ∧ Below w.heap.size w wv) (fun v44 _ => ml - (intOf v44).toNat)
      case atStart => exact ⟨0, by omega, rfl, rfl, HCR.out, HBR.out⟩
      case round =>
        clear hix
        obtain ⟨j, hj, rfl, hin0, hc, hbv⟩ := hrel
        by_cases hjl : j < ml
        · have hjz : (j : Int) < (ml : Int) := by omega
          obtain ⟨b, off, rfl, hin⟩ := HM.out.2.2.resolve_left (by omega)
          obtain ⟨k0, k1, k2, k3, k4, k5⟩ := (hin j hjl).below hbv
          obtain ⟨x, hx⟩ : ∃ x, x = mv[j]?.getD inD := ⟨_, rfl⟩
          have hjm : j < mv.length := by have := HM.out.1; omega
          have hst := inssE_take (pad := pad) (mem := mem) (e := true) mv j hjm hin0
          have hse := inssE_at (pad := pad) (mem := mem) (e := true) mv j hjm hin0
          rw [← hx] at k0 k1 k2 k3 k4 k5
          rw [← hx] at hst hse
          obtain ⟨V, hV⟩ : ∃ V, V = wr.alloc (.cells #[.int .i64 x.d, .int .i64 x.a, .int .i64 x.b, .int .i64 x.c, .int .i64 x.n, .int .i64 x.v] 50) := ⟨_, rfl⟩
          have hbV : Below wr.heap.size wr V := by rw [hV]; exact bl_new _
          have hI : InBlk V wr.heap.size x := by rw [hV]; exact InBlk.new _ _
          obtain ⟨g9, hg9⟩ : ∃ g9, g9 = wr.heap.size := ⟨_, rfl⟩
          rw [← hg9] at hI
          have zk := lt_of_cell k0
          simp only at zk
          have HV := hide hV
          have H9 := hide hg9
          have HI := hide hI
          have HCV := hide (hc.below hbV)
          have HBV := hide (bl_on hbv hbV)
          have HST := hide hst
          have HSE := hide hse
          clear hin hbV hI hV hg9 hst hse hbv hc hx hin0
          go_upto_region 11 with fail
          rw [← HV.out, ← H9.out]
          clear k0 k1 k2 k3 k4 k5 zk
          obtain ⟨⟨i0, i1, i2, i3, i4, i5⟩, zi⟩ := HI.out.cells
          obtain ⟨⟨c0, c1, c2, c3⟩, zc⟩ := HCV.out.cells
          simp only at c0 c1 c2 c3
          go_wp2_with fail
          refine (HWI0.out x V).mono ?_
          rintro r w3 ⟨rfl, hb3⟩
          have HC3 := hide (HCV.out.below hb3)
          have HB3 := hide (bl_on HBV.out hb3)
          clear hb3 i0 i1 i2 i3 i4 i5 zi c0 c1 c2 c3 zc
          by_cases h0 : insE pad mem true x = 0
          · have HN := hide (HST.out h0)
            rw [h0]
            clear h0
            go_wp2_with fail
            go_roundw
            case rel => exact ⟨j + 1, by omega, by go_num, HN.out, HC3.out, HB3.out⟩
            case measure => simp [intOf]; omega
          · have hr : R = insE pad mem true x := by
              have h1 := HSE.out h0
              rw [HR0.out, h1, if_pos h0]
            have h0b : (insE pad mem true x != 0) = true := by simpa using h0
            obtain ⟨E, hE⟩ : ∃ E, E = insE pad mem true x := ⟨_, rfl⟩
            rw [← hE] at h0b hr ⊢
            clear h0 hE
            go_wp2_with fail
            go_ret
            exact ⟨by first | rfl | (rw [hr]; rfl), HB3.out⟩
        · have hjz : ¬ (j : Int) < (ml : Int) := by omega
          obtain rfl : j = ml := by omega
          have e1 : mv.take j = mv := List.take_of_length_le (by have := HM.out.1; omega)
          rw [e1] at hin0
          have HI3 := hide hin0
          have HC3 := hide hc
          have HB3 := hide hbv
          clear hin0 hc hbv e1
          go_wp2_with fail
          go_roundw
          case rel => exact ⟨1, by omega, rfl, fun _ => HI3.out, fun h => by omega, HC3.out, HB3.out⟩
          case measure => simp [intOf]
    · have hix := idx2_1 (.slice ma ml mc) (.slice ka kl kc)
      go_wp2_with fail
      go_loopw [44] (fun v44 wv => ∃ j : Nat, j ≤ kl ∧ v44 = .int .i64 j ∧ inssE pad mem false (mk.take j) = 0 ∧ CBlk wv w.heap.size ⟨pad, mem, ma, ml, mc, ka, kl, kc⟩ ∧ Below w.heap.size w wv) (fun v44 _ => kl - (intOf v44).toNat)
      case atStart => exact ⟨0, by omega, rfl, rfl, HCR.out, HBR.out⟩
      case round =>
        clear hix
        obtain ⟨j, hj, rfl, hin0, hc, hbv⟩ := hrel
        by_cases hjl : j < kl
        · have hjz : (j : Int) < (kl : Int) := by omega
          obtain ⟨b, off, rfl, hin⟩ := HK.out.2.2.resolve_left (by omega)
          obtain ⟨k0, k1, k2, k3, k4, k5⟩ := (hin j hjl).below hbv
          obtain ⟨x, hx⟩ : ∃ x, x = mk[j]?.getD inD := ⟨_, rfl⟩
          have hjm : j < mk.length := by have := HK.out.1; omega
          have hst := inssE_take (pad := pad) (mem := mem) (e := false) mk j hjm hin0
          have hse := inssE_at (pad := pad) (mem := mem) (e := false) mk j hjm hin0
          rw [← hx] at k0 k1 k2 k3 k4 k5
          rw [← hx] at hst hse
          obtain ⟨V, hV⟩ : ∃ V, V = wr.alloc (.cells #[.int .i64 x.d, .int .i64 x.a, .int .i64 x.b, .int .i64 x.c, .int .i64 x.n, .int .i64 x.v] 50) := ⟨_, rfl⟩
          have hbV : Below wr.heap.size wr V := by rw [hV]; exact bl_new _
          have hI : InBlk V wr.heap.size x := by rw [hV]; exact InBlk.new _ _
          obtain ⟨g9, hg9⟩ : ∃ g9, g9 = wr.heap.size := ⟨_, rfl⟩
          rw [← hg9] at hI
          have zk := lt_of_cell k0
          simp only at zk
          have HV := hide hV
          have H9 := hide hg9
          have HI := hide hI
          have HCV := hide (hc.below hbV)
          have HBV := hide (bl_on hbv hbV)
          have HST := hide hst
          have HSE := hide hse
          clear hin hbV hI hV hg9 hst hse hbv hc hx hin0
          go_upto_region 11 with fail
          rw [← HV.out, ← H9.out]
          clear k0 k1 k2 k3 k4 k5 zk
          obtain ⟨⟨i0, i1, i2, i3, i4, i5⟩, zi⟩ := HI.out.cells
          obtain ⟨⟨c0, c1, c2, c3⟩, zc⟩ := HCV.out.cells
          simp only at c0 c1 c2 c3
          go_wp2_with fail
          refine (HWI1.out x V).mono ?_
          rintro r w3 ⟨rfl, hb3⟩
          have HC3 := hide (HCV.out.below hb3)
          have HB3 := hide (bl_on HBV.out hb3)
          clear hb3 i0 i1 i2 i3 i4 i5 zi c0 c1 c2 c3 zc
          by_cases h0 : insE pad mem false x = 0
          · have HN := hide (HST.out h0)
            rw [h0]
            clear h0
            go_wp2_with fail
            go_roundw
            case rel => exact ⟨j + 1, by omega, by go_num, HN.out, HC3.out, HB3.out⟩
            case measure => simp [intOf]; omega
          · have hr : R = insE pad mem false x := by
              have h1 := HSE.out h0
              rw [HR0.out, HK0.out (by omega), if_neg (by simp), h1, if_pos h0]
            have h0b : (insE pad mem false x != 0) = true := by simpa using h0
            obtain ⟨E, hE⟩ : ∃ E, E = insE pad mem false x := ⟨_, rfl⟩
            rw [← hE] at h0b hr ⊢
            clear h0 hE
            go_wp2_with fail
            go_ret
            exact ⟨by first | rfl | (rw [hr]; rfl), HB3.out⟩
        · have hjz : ¬ (j : Int) < (kl : Int) := by omega
          obtain rfl : j = kl := by omega
          have e1 : mk.take j = mk := List.take_of_length_le (by have := HK.out.1; omega)
          rw [e1] at hin0
          have HI3 := hide hin0
          have HC3 := hide hc
          have HB3 := hide hbv
          clear hin0 hc hbv e1
          go_wp2_with fail
          go_roundw
          case rel => exact ⟨2, by omega, rfl, fun _ => HK0.out (by omega), fun _ => HI3.out, HC3.out, HB3.out⟩
          case measure => simp [intOf]
    · have h0 := HK0.out (by omega)
      have h1 := HK1.out (by omega)
      have hr0 : R = if clashV mv mk = true then 11 else 0 := by rw [HR0.out, h0, if_neg (by simp), h1, if_neg (by simp)]
      obtain ⟨⟨c0, c1, c2, c3⟩, zc⟩ := HCR.out.cells
      simp only at c0 c1 c2 c3
      have HCC := hide (HCL.out wr HBR.out (fun x hx hd => insE_sem (inssE_ok h0 x hx) hd) (fun x hx hd => insE_sem (inssE_ok h1 x hx) hd))
      clear h0 h1
      have HR1 := hide hr0
      clear hr0
      go_wp2_with fail
      refine HCC.out.mono ?_
      rintro r w3 ⟨rfl, hb3⟩
      have HB3 := hide (bl_on HBR.out hb3)
      clear hb3 c0 c1 c2 c3 zc
      cases hcl : clashV mv mk
      · have hr : R = 0 := by rw [HR1.out, hcl]; rfl
        go_wp2_with fail
        go_ret
        exact ⟨by first | rfl | (rw [hr]; rfl), HB3.out⟩
      · have hr : R = 11 := by rw [HR1.out, hcl]; rfl
        go_wp2_with fail
        go_ret
        exact ⟨by first | rfl | (rw [hr]; rfl), HB3.out⟩
end Go.Proofs.YtoabffmiedbkkaaGreat.V
