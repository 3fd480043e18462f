/-
  The document's Run.
-/
import Derived.Test.YtoabffmiedbkkaaGreatRJ49
import Derived.BigQuiet
namespace Go.Proofs.YtoabffmiedbkkaaGreat.V
set_option maxRecDepth 20000
open Go Go.RowKit
set_option linter.unusedVariables false
set_option linter.unusedSimpArgs false

/-- A whole row is loaded, by an operation that is wanted. -/
theorem wpl_load_g {P : Program} {ops : Array Oper} {rest : List Oper} {o : Oper} {a : Act} {w : World} {Q : Exit → Act → World → Prop} (hw : Region.wanted o (yielded ops a.tmps) = true) (ty : TypeId) (x : Operand) (ho : o.op = .load ty x)
    (g : Nat) (hx : a.eval x = .pointer (some ⟨g, 0, none⟩)) (t : TypeId) (cs : Array Value) (fr : Nat × Nat) (d : TypeDesc) (hg : w.heap[g]? = some (.cells cs t fr))
    (hu : P.underlying ty = some d) (hd : (match d with | .struct _ | .array _ _ => true | _ => false) = true) (hi : (P.info? ty).map (·.size) = some cs.size)
    (h : wpList P ops Q rest (a.put o.dst (.agg cs)) w) : wpList P ops Q (o :: rest) a w := by
  unfold wpList
  rw [if_pos hw]
  exact .inl (wp_load_row ty x ho g hx t cs fr d hg hu hd hi h)
/-- How long a slice is. -/
def sLen13 : Value → Nat
  | .slice _ n _ => n
  | _ => 0
def fEm0 : Fact := ⟨fun u W => ∃ B, u = .slice (some ⟨B, 0, none⟩) 0 0, false⟩
theorem fEm0_good : fEm0.Good := ⟨fun _ _ _ h _ => h, fun h => by cases h⟩
/-- Words of their own; new. -/
def fWr (N m : Nat) (f : Int → Int) : Fact := ⟨fun u W => ∃ g cap, u = .slice (some ⟨g, 0, none⟩) m cap ∧ WrdAt W ⟨some ⟨g, 0, none⟩, m, cap⟩ g 0 f ∧ N ≤ g ∧ g < W.heap.size, true⟩
theorem fWr_good (N m : Nat) (f : Int → Int) : (fWr N m f).Good := ⟨fun _ _ _ ⟨g, cap, h1, h2, h3, h4⟩ hb => ⟨g, cap, h1, h2.below hb, h3, Nat.lt_of_lt_of_le h4 hb.size⟩, fun _ v w b ⟨g, cap, h1, h2, h3, h4⟩ hb => by
  rw [h1] at hb
  simp only [blk, Option.some.injEq] at hb
  rw [← hb]
  exact h4⟩
def fW0 : Fact := ⟨fun u W => ∃ g cap, u = .slice (some ⟨g, 0, none⟩) 0 cap, false⟩
theorem fW0_good : fW0.Good := ⟨fun _ _ _ h _ => h, fun h => by cases h⟩
set_option maxRecDepth 100000 in
set_option maxHeartbeats 16000000 in
theorem rRun_any (c : CV) (mv mk : List In) (xa : Option Addr) (M xc : Nat) (ms : List Int) (ya : Option Addr) (yl yc : Nat) (ps : List Int) (w : World) (hm : Inss w c.ma c.ml mv) (hk : Inss w c.ka c.kl mk) (hmc : c.ml ≤ c.mc) (hkc : c.kl ≤ c.kc) (hvm : VOk mv) (hvk : VOk mk) (hx : Ints w xa M ms) (hy : Ints w ya yl ps) :
    Calls Tryz.prog 6 #[c.v, .slice xa M xc, .slice ya yl yc] w fun e w' => TellsN (runL c.pad c.mem mv mk ps ms) (runE c.pad c.mem mv mk ps ms) w.heap.size e w' ∧ Below w.heap.size w w' := by
  obtain ⟨W, hW⟩ : ∃ W, W = w.alloc (.cells #[.int .i64 c.pad, .int .i64 c.mem, .slice c.ma c.ml c.mc, .slice c.ka c.kl c.kc] 24) := ⟨_, rfl⟩
  have hbW : Below w.heap.size w W := by rw [hW]; exact bl_new _
  have hC : CBlk W w.heap.size c := by rw [hW]; exact CBlk.new w c
  have HWR := hide (fun (V : World) (hV : Below w.heap.size w V) => rCoWrong_any c mv mk V (hm.below hV) (hk.below hV))
  obtain ⟨cb, hcb⟩ : ∃ cb, cb = w.heap.size := ⟨_, rfl⟩
  have hC' : CBlk W cb c := by rw [hcb]; exact hC
  obtain ⟨⟨c0, c1, c2, c3⟩, zc⟩ := hC'.cells
  have HW := hide hW
  have HB := hide hbW
  have HC := hide hC'
  have HCB := hide hcb
  have HMV := hide (fun (V : World) (hV : Below w.heap.size w V) => hm.below hV)
  have HMK := hide (fun (V : World) (hV : Below w.heap.size w V) => hk.below hV)
  have HMS := hide (fun (V : World) (hV : Below w.heap.size w V) => hx.below hV)
  have HPS := hide (fun (V : World) (hV : Below w.heap.size w V) => hy.below hV)
  have hml : mv.length = c.ml := hm.1
  have hkl : mk.length = c.kl := hk.1
  have hxl : ms.length = M := hx.1
  have HXB := hide hx.2.2.1
  have HML := hide hml
  have HKL := hide hkl
  have HXL := hide hxl
  have HMC := hide hmc
  have HKC := hide hkc
  have HMA : Hid (∀ b off, (c.ma = some ⟨b, off, none⟩ ∧ 0 < c.ml) ∨ (c.ka = some ⟨b, off, none⟩ ∧ 0 < c.kl) → b < w.heap.size) := by
    intro b off h
    rcases h with ⟨e, h0⟩ | ⟨e, h0⟩
    · rcases hm.2.2 with h1 | ⟨b', o', e', hc⟩
      · omega
      · rw [e] at e'; cases e'
        exact lt_of_cell (hc 0 h0).1
    · rcases hk.2.2 with h1 | ⟨b', o', e', hc⟩
      · omega
      · rw [e] at e'; cases e'
        exact lt_of_cell (hc 0 h0).1
  have HVM := hide hvm
  have HVK := hide hvk
  obtain ⟨E, hE⟩ : ∃ E, E = codeE c.pad c.mem mv mk := ⟨_, rfl⟩
  have HE := hide hE
  simp only [← hE] at HWR
  obtain ⟨RE, hRE⟩ : ∃ RE, RE = runE c.pad c.mem mv mk ps ms := ⟨_, rfl⟩
  obtain ⟨RL, hRL⟩ : ∃ RL, RL = runL c.pad c.mem mv mk ps ms := ⟨_, rfl⟩
  rw [← hRE, ← hRL]
  have HRE := hide hRE
  have HRL := hide hRL
  clear hRE hRL hW hbW hC hC' hcb hm hk hmc hkc hvm hvk hx hy hml hkl hxl hE
  obtain ⟨pad, mem, ma, ml, mc, ka, kl, kc⟩ := c
  unfold CV.v at HWR ⊢
  simp only at *
  go_enter Tryz.func6, Tryz.ntmps6
  go_upto_region 1 with fail
  rw [← HW.out, ← HCB.out]
  go_upto_region 2 with (go_at_call 9; refine (HWR.out W HB.out).mono ?_; rintro r w3 ⟨rfl, hb3⟩; have HB3 := hide (bl_on HB.out hb3); have HC3 := hide (HC.out.below hb3); clear hb3 c0 c1 c2 c3 zc)
  by_cases h0 : E ≠ 0
  · have h0b : (E != 0) = true := by simpa using h0
    have e1 : runE pad mem mv mk ps ms = E := by unfold runE; rw [← HE.out, if_pos h0]
    have e2 : runL pad mem mv mk ps ms = [] := by unfold runL; rw [e1, if_neg h0]
    obtain rfl : RE = E := HRE.out.trans e1
    obtain rfl : RL = [] := HRL.out.trans e2
    clear h0 e1 e2 HE HRE HRL
    go_wp2_with fail
    refine bodyPost_ret (v := .tuple #[.slice none 0 0, .int .i64 RE]) (by simp [results, Tryz.results6, go_sem]) rfl ⟨⟨none, 0, 0, rfl, ⟨rfl, by omega, fun _ h => (by cases h), .inl rfl⟩, Nat.le_refl _⟩, HB3.out⟩
  replace h0 : E = 0 := by simpa using h0
  have hce : codeE pad mem mv mk = 0 := by rw [← HE.out, h0]
  have hok := code_ok hce
  have HCE := hide hce
  subst h0
  obtain ⟨⟨d0, d1, d2, d3⟩, zc⟩ := HC3.out.cells
  simp only at d0 d1 d2 d3
  by_cases h1 : (M : Int) = mem
  · have h1b : ((M : Int) != mem) = false := by simp [h1]
    obtain ⟨P, hP⟩ : ∃ P : Nat, pad = (P : Int) := ⟨pad.toNat, by have := hok.pd; omega⟩
    have hP4 : P ≤ 4096 := by have := hok.pd; omega
    have hM4 : M ≤ 1048576 := by have := hok.mm; omega
    have HOK := hide hok
    subst hP
    subst h1
    clear hok hce
    have hmk := run_make_row' (P := Tryz.prog) 25 2 (.int .i64 0) 8 Tryz.underlying25 cr_info64 rfl .i64 .i64 P (by omega) (by omega)
    have HBV := hide HB3.out
    go_upto_region 6 with fail
    go_cut [9, 10] (fun v9 v10 wc => ∃ GP GM gm mC : Nat, v9 = .slice (some ⟨GP, 0, none⟩) P P ∧ v10 = .slice (some ⟨GM, 0, none⟩) M mC ∧ WrdAt wc ⟨some ⟨GP, 0, none⟩, P, P⟩ GP 0 (fun _ => 0) ∧ WrdAt wc ⟨some ⟨GM, 0, none⟩, M, mC⟩ gm 0 (macO ms).mem ∧ GP ≠ gm ∧ w.heap.size ≤ GP ∧ w.heap.size ≤ gm ∧ GP < wc.heap.size ∧ gm ≠ wc.heap.size ∧ Below w3.heap.size w3 wc)
    case first =>
      by_cases hM0 : M = 0
      · refine region_made 6 8 [fIs (.pointer (some ⟨cb, 0, none⟩)), fIs (.int .i64 (P : Int)), fRow64 w.heap.size P (fun _ => 0), fEm0, fIs (.slice xa M xc), fW0] (by kernel_rfl) (by kernel_rfl) (by kernel_rfl) (fun _ ⟨_, _⟩ ⟨_, _⟩ _ e h => by cases e; exact h) ⟨fIs_good _, fIs_good _, fRow64_good _ _ _, fEm0_good, fIs_good _, fW0_good, trivial⟩ ?mkA ?restA
        case mkA =>
          refine ⟨fun u wz hb hd => ?_, fun u wz hb hd => ?_, fun u wz hb hd => ?_, fun u wz hb hd => ?_, fun u wz hb hd => ?_, fun u wz hb hd => ?_, trivial⟩
          all_goals simp only [Act.put, List.setIfInBounds_toArray, List.set_cons_zero, List.set_cons_succ]
          · go_simp
            exact ⟨rfl, Below.refl _ _, fun h => by cases h⟩
          · have e0 : u 0 = .pointer (some ⟨cb, 0, none⟩) := hd 0 (by omega) (by kernel_rfl)
            rw [e0]
            have d0' := (hb.cell (p := ⟨cb, 0, none⟩) (lt_of_cell d0)).trans d0
            go_simp
            exact ⟨rfl, Below.refl _ _, fun h => by cases h⟩
          · have e1 : u 1 = .int .i64 (P : Int) := hd 1 (by omega) (by kernel_rfl)
            rw [e1]
            go_simp
            exact ⟨⟨_, rfl, row_made wz P, Nat.le_trans HBV.out.size hb.size⟩, bl_new _, fun _ b e => by simp only [blk, Option.some.injEq] at e; omega⟩
          · go_simp
            exact ⟨⟨_, rfl⟩, bl_new _, fun h => by cases h⟩
          · go_simp
            exact ⟨rfl, Below.refl _ _, fun h => by cases h⟩
          · obtain ⟨BE, e3⟩ := hd 3 (by omega) (by kernel_rfl)
            have e4 : u 4 = .slice xa M xc := hd 4 (by omega) (by kernel_rfl)
            rw [e3, e4]
            exact wp_wrd_e (.tmp 30) (.tmp 31) rfl BE M xc xa (macO ms).mem rfl rfl (fun h0 => by omega) (by omega) (fun g cap w2 k1 k2 k3 => ⟨_, rfl, ⟨g, cap, by rw [hM0]⟩, k3, fun h => by cases h⟩)
        case restA =>
          intro u wz hb hf hp
          have f0 : u 0 = .pointer (some ⟨cb, 0, none⟩) := hf 0 (by omega)
          have f1 : u 1 = .int .i64 (P : Int) := hf 1 (by omega)
          obtain ⟨GP, f2, hgp, hgpl⟩ := hf 2 (by omega)
          obtain ⟨BE, f3⟩ := hf 3 (by omega)
          have f4 : u 4 = .slice xa M xc := hf 4 (by omega)
          obtain ⟨GM, mC, f5⟩ := hf 5 (by omega)
          refine UptoW.rest 2 6 (by rfl) (by kernel_rfl) ?_
          simp only [List.take, List.drop, putOps, Act.put, List.setIfInBounds_toArray, List.set_cons_zero, List.set_cons_succ, Nat.reduceAdd, f0, f1, f2, f3, f4, f5]
          clear f0 f1 f2 f3 f4 f5 hf hp
          have HBZ := hide hb
          have HGP := hide hgp
          have lgp := hgp.lt
          clear hb hgp
          go_wp2_with fail
          go_meet
          exact ⟨GP, GM, wz.heap.size + 1, mC, rfl, by first | rfl | (rw [hM0]), HGP.out.wrd (fun k hk => rfl), ⟨fun h => by simp only at h; omega, fun h => by simp only at h; omega, by simp only; omega⟩, by omega, hgpl, by have := HBZ.out.size; have := HBV.out.size; omega, lgp, by omega, HBZ.out⟩
      · refine region_made 6 8 [fIs (.pointer (some ⟨cb, 0, none⟩)), fIs (.int .i64 (P : Int)), fRow64 w.heap.size P (fun _ => 0), fEm0, fIs (.slice xa M xc), fWr w.heap.size M (macO ms).mem] (by kernel_rfl) (by kernel_rfl) (by kernel_rfl) (fun _ ⟨_, _⟩ ⟨_, _⟩ _ e h => by cases e; exact h) ⟨fIs_good _, fIs_good _, fRow64_good _ _ _, fEm0_good, fIs_good _, fWr_good _ _ _, trivial⟩ ?mkB ?restB
        case mkB =>
          refine ⟨fun u wz hb hd => ?_, fun u wz hb hd => ?_, fun u wz hb hd => ?_, fun u wz hb hd => ?_, fun u wz hb hd => ?_, fun u wz hb hd => ?_, trivial⟩
          all_goals simp only [Act.put, List.setIfInBounds_toArray, List.set_cons_zero, List.set_cons_succ]
          · go_simp
            exact ⟨rfl, Below.refl _ _, fun h => by cases h⟩
          · have e0 : u 0 = .pointer (some ⟨cb, 0, none⟩) := hd 0 (by omega) (by kernel_rfl)
            rw [e0]
            have d0' := (hb.cell (p := ⟨cb, 0, none⟩) (lt_of_cell d0)).trans d0
            go_simp
            exact ⟨rfl, Below.refl _ _, fun h => by cases h⟩
          · have e1 : u 1 = .int .i64 (P : Int) := hd 1 (by omega) (by kernel_rfl)
            rw [e1]
            go_simp
            exact ⟨⟨_, rfl, row_made wz P, Nat.le_trans HBV.out.size hb.size⟩, bl_new _, fun _ b e => by simp only [blk, Option.some.injEq] at e; omega⟩
          · go_simp
            exact ⟨⟨_, rfl⟩, bl_new _, fun h => by cases h⟩
          · go_simp
            exact ⟨rfl, Below.refl _ _, fun h => by cases h⟩
          · obtain ⟨BE, e3⟩ := hd 3 (by omega) (by kernel_rfl)
            have e4 : u 4 = .slice xa M xc := hd 4 (by omega) (by kernel_rfl)
            rw [e3, e4]
            exact wp_wrd_e (.tmp 30) (.tmp 31) rfl BE M xc xa (macO ms).mem rfl rfl (fun h0 => by { obtain ⟨b, off, e, _, hc⟩ := (HMS.out wz (Below.on HBV.out hb)).at h0; exact ⟨b, off, e, fun k hk => by rw [hc k hk]; simp [macO]⟩ }) (by omega) (fun g cap w2 k1 k2 k3 => ⟨_, rfl, ⟨g, cap, rfl, k1, Nat.le_trans (Below.on HBV.out hb).size (k2 (by omega)), k1.lt (by first | omega | (simp only; omega))⟩, k3, fun _ b e => by have := k2 (by omega); simp only [blk, Option.some.injEq] at e; omega⟩)
        case restB =>
          intro u wz hb hf hp
          have f0 : u 0 = .pointer (some ⟨cb, 0, none⟩) := hf 0 (by omega)
          have f1 : u 1 = .int .i64 (P : Int) := hf 1 (by omega)
          obtain ⟨GP, f2, hgp, hgpl⟩ := hf 2 (by omega)
          obtain ⟨BE, f3⟩ := hf 3 (by omega)
          have f4 : u 4 = .slice xa M xc := hf 4 (by omega)
          obtain ⟨GM, mC, f5, hgm, hgml, hgmz⟩ := hf 5 (by omega)
          have hne : GP ≠ GM := fun e => hp 2 5 (by omega) (by omega) (by omega) rfl rfl GP (by rw [f2]; rfl) (by rw [f5, e]; rfl)
          refine UptoW.rest 2 6 (by rfl) (by kernel_rfl) ?_
          simp only [List.take, List.drop, putOps, Act.put, List.setIfInBounds_toArray, List.set_cons_zero, List.set_cons_succ, Nat.reduceAdd, f0, f1, f2, f3, f4, f5]
          clear f0 f1 f2 f3 f4 f5 hf hp
          have HBZ := hide hb
          have HGP := hide hgp
          have lgp := hgp.lt
          clear hb hgp
          go_wp2_with fail
          go_meet
          exact ⟨GP, GM, GM, mC, rfl, rfl, HGP.out.wrd (fun k hk => rfl), hgm, hne, hgpl, hgml, lgp, by omega, HBZ.out⟩
    case rest =>
      obtain ⟨GP, GM, gm, mC, rfl, rfl, hgp, hgm, hne, n1, n2, n3, n4, hb⟩ := hcut
      have HGP := hide hgp
      have HGM := hide hgm
      have HBC := hide (Below.on HBV.out hb)
      have HBC3 := hide hb
      have e2 := (hb.cell (p := ⟨cb, 2, none⟩) (lt_of_cell d2)).trans d2
      have e3 := (hb.cell (p := ⟨cb, 3, none⟩) (lt_of_cell d3)).trans d3
      have zc2 := lt_of_cell e2
      simp only at zc2
      clear hgp hgm hb d0 d1 d2 d3 zc hmk
      obtain ⟨V, hV⟩ : ∃ V, V = wc.alloc (.cells (semA (fun _ => 0)) 41) := ⟨_, rfl⟩
      obtain ⟨sg, hsg⟩ : ∃ g, g = wc.heap.size := ⟨_, rfl⟩
      have hbV : Below wc.heap.size wc V := by rw [hV]; exact bl_new _
      have hsm : V.heap[sg]? = some (.cells (semA (fun _ => 0)) 41 (0, 0)) := by rw [hV, hsg]; exact World.alloc_heap_new _ _
      have sn : GP < sg ∧ gm ≠ sg ∧ w.heap.size ≤ sg := by rw [hsg]; exact ⟨n3, n4, HBC.out.size⟩
      have HV := hide hV
      have HSG := hide hsg
      have g2 := (hbV.cell (p := ⟨cb, 2, none⟩) zc2).trans e2
      have g3 := (hbV.cell (p := ⟨cb, 3, none⟩) zc2).trans e3
      have zg := lt_of_cell g2
      simp only at zg
      have HBV2 := hide (Below.on HBC.out hbV)
      have HR0 : Hid (RrI w.heap.size V ⟨(P : Int), (M : Int), ma, ml, mc, ka, kl, kc⟩ mv mk P GP gm sg ⟨some ⟨GM, 0, none⟩, M, mC⟩ ps (lastM mv mk ps ms) 0 (macO ms) ma ml mc ka kl kc V) :=
        ⟨HMV.out V HBV2.out, HMC.out, HMK.out V HBV2.out, HKC.out, HMA.out, HGP.out.below hbV, HGM.out.below hbV, hsm, macO_ok mv mk ms, rfl, Nat.zero_le _, WrB.refl _ _⟩
      clear hV hsg hbV hsm e2 e3 zc2 n3 n4
      go_upto_region 8 with fail
      rw [show (wc.alloc (.cells #[.int .i64 0, .int .i64 0, .int .i64 0, .int .i64 0, .int .i64 0, .int .i64 0, .int .i64 0, .int .i64 0, .int .i64 0, .int .i64 0, .int .i64 0, .int .i64 0, .int .i64 0, .int .i64 0, .int .i64 0, .int .i64 0] 41)) = V from HV.out.symm, ← HSG.out]
      go_quiet (fail)
      go_wp2_with fail
      clear g2 g3 zg
      have HSN := hide sn
      clear sn
      go_loopw [12, 13, 14] (fun v12 v13 v14 wr => ∃ (t : Nat) (s : Mac) (A : Option Addr) (n cA : Nat) (B : Option Addr) (m cB : Nat), v12 = .slice A n cA ∧ v13 = .slice B m cB ∧ v14 = .int .i64 (t : Int) ∧ RrI w.heap.size V ⟨(P : Int), (M : Int), ma, ml, mc, ka, kl, kc⟩ mv mk P GP gm sg ⟨some ⟨GM, 0, none⟩, M, mC⟩ ps (lastM mv mk ps ms) t s A n cA B m cB wr) (fun v12 v13 _ _ => sLen13 v12 + sLen13 v13)
      case atStart => exact ⟨0, macO ms, ma, ml, mc, ka, kl, kc, rfl, rfl, rfl, HR0.out.below ⟨rfl, rfl, rfl, Nat.le_refl _, fun _ _ => rfl⟩⟩
      case round =>
        obtain ⟨t, s, A, n, cA, B, m, cB, rfl, rfl, rfl, hr⟩ := hrel
        have HR := hide hr
        have HBc : Hid (Below wr.heap.size wr wr) := Below.refl _ _
        have HSF : Hid (∀ V, Below wr.heap.size wr V → V.heap[sg]? = some (.cells (semA s.sem) 41 (0, 0))) := fun V hV => (hV.block sg (Array.getElem?_eq_some_iff.1 hr.sem).1).trans hr.sem
        have hgn : ∀ (l : List In) (i : Nat), getI (l.drop i) 0 = getI l i := fun l i => by unfold getI; rw [List.getElem?_drop, Nat.add_zero]
        have HSA : Hid ((getI (mv.drop s.i) 0).d = 4 → 0 ≤ (getI (mv.drop s.i) 0).a ∧ (getI (mv.drop s.i) 0).a < 16) := by
          intro h4
          rw [hgn] at h4 ⊢
          by_cases hi : s.i < mv.length
          · exact ins_sem (HOK.out.a s.i hi) (.inr h4)
          · unfold getI at h4
            rw [List.getElem?_eq_none (by omega)] at h4
            simp [inD] at h4
        have HSB : Hid ((getI (mk.drop s.j) 0).d = 4 → 0 ≤ (getI (mk.drop s.j) 0).a ∧ (getI (mk.drop s.j) 0).a < 16) := by
          intro h4
          rw [hgn] at h4 ⊢
          by_cases hi : s.j < mk.length
          · exact ins_sem (HOK.out.b s.j hi) (.inr h4)
          · unfold getI at h4
            rw [List.getElem?_eq_none (by omega)] at h4
            simp [inD] at h4
        have htb : t ≤ 524288 := by have h1 := hr.tb; have h2 := hr.i.i; have h3 := hr.i.j; have h4 := HOK.out.lv; have h5 := HOK.out.lk; omega
        have HAL : Hid (n = mv.length - s.i) := by have := hr.a.1; rw [List.length_drop] at this; exact this.symm
        have HBL : Hid (m = mk.length - s.j) := by have := hr.b.1; rw [List.length_drop] at this; exact this.symm
        clear hr hgn
        cases ga : goI mv s.i s.sem with
        | true =>
          cases gb : goI mk s.j s.sem with
          | true =>
            by_cases hps : ps = []
            · have hyl : yl = 0 := by have := (HPS.out w (Below.refl _ _)).1; rw [hps] at this; exact this.symm
              subst hyl
              have HPK : Hid (pickB ps t = true) := by show pickB ps t = true; unfold pickB; rw [if_pos hps]
              clear hps
              go_upto_region 12 with (first | (refine wpl_load_g rfl 41 _ rfl sg rfl 41 (semA s.sem) (0, 0) _ (HSF.out _ HBc.out) Tryz.underlying41 rfl sem_info ?_) | (go_at_call_of 16 (Value.slice A n cA); refine (goes13_any A n cA (mv.drop s.i) s.sem _ (HR.out.a.below HBc.out) HSA.out).mono ?_; rintro e wn ⟨rfl, hbn⟩; rw [goI_drop, ga]; have HBc := hide (Below.on HBc.out hbn); clear hbn; (try clear z0 z1 z2 z3 z4 z5 z6 z7 z8 z9 z10 z11 z12 z13 z14 z15 zs)) | (go_at_call_of 16 (Value.slice B m cB); refine (goes13_any B m cB (mk.drop s.j) s.sem _ (HR.out.b.below HBc.out) HSB.out).mono ?_; rintro e wn ⟨rfl, hbn⟩; rw [goI_drop, gb]; have HBc := hide (Below.on HBc.out hbn); clear hbn; (try clear z0 z1 z2 z3 z4 z5 z6 z7 z8 z9 z10 z11 z12 z13 z14 z15 zs)))
              go_upto_region 16 with (first | (refine wpl_load_g rfl 41 _ rfl sg rfl 41 (semA s.sem) (0, 0) _ (HSF.out _ HBc.out) Tryz.underlying41 rfl sem_info ?_) | (go_at_call_of 16 (Value.slice A n cA); refine (goes13_any A n cA (mv.drop s.i) s.sem _ (HR.out.a.below HBc.out) HSA.out).mono ?_; rintro e wn ⟨rfl, hbn⟩; rw [goI_drop, ga]; have HBc := hide (Below.on HBc.out hbn); clear hbn; (try clear z0 z1 z2 z3 z4 z5 z6 z7 z8 z9 z10 z11 z12 z13 z14 z15 zs)) | (go_at_call_of 16 (Value.slice B m cB); refine (goes13_any B m cB (mk.drop s.j) s.sem _ (HR.out.b.below HBc.out) HSB.out).mono ?_; rintro e wn ⟨rfl, hbn⟩; rw [goI_drop, gb]; have HBc := hide (Below.on HBc.out hbn); clear hbn; (try clear z0 z1 z2 z3 z4 z5 z6 z7 z8 z9 z10 z11 z12 z13 z14 z15 zs)))
              have hn0 : 0 < n := by have h8 := go_lt ga; have h9 := HAL.out; omega
              obtain ⟨ab, ao, hA0, hat⟩ := (HR.out.a.below HBc.out).2.2.resolve_left (by omega)
              obtain ⟨x0, x1, x2, x3, x4, x5⟩ := hat 0 hn0
              obtain ⟨x, hx⟩ : ∃ x, x = getI mv s.i := ⟨_, rfl⟩
              rw [show (mv.drop s.i)[0]?.getD inD = x by rw [hx, List.getElem?_drop, Nat.add_zero]; rfl] at x0 x1 x2 x3 x4 x5
              simp only [Nat.zero_mul, Nat.add_zero] at x0 x1 x2 x3 x4 x5
              have hAC := HR.out.ac
              have HAT := hide hA0
              have HX := hide hx
              clear hat hx hA0
              obtain ⟨V2, hV2⟩ : ∃ V, V = wn.alloc (.cells #[.int .i64 0, .int .i64 0, .int .i64 0, .int .i64 0, .int .i64 0, .int .i64 0] 50) := ⟨_, rfl⟩
              obtain ⟨xb, hxb⟩ : ∃ b, b = wn.heap.size := ⟨_, rfl⟩
              have hb2 : Below wn.heap.size wn V2 := by rw [hV2]; exact bl_new _
              have hXB : V2.heap[xb]? = some (.cells #[.int .i64 0, .int .i64 0, .int .i64 0, .int .i64 0, .int .i64 0, .int .i64 0] 50 (0, 0)) := by rw [hV2, hxb]; exact World.alloc_heap_new _ _
              have hxl : wr.heap.size ≤ xb := by rw [hxb]; exact HBc.out.size
              have xz := lt_of_cell x0
              simp only at xz
              have x0 := (hb2.cell (p := ⟨ab, ao, none⟩) xz).trans x0
              have x1 := (hb2.cell (p := ⟨ab, ao + 1, none⟩) xz).trans x1
              have x2 := (hb2.cell (p := ⟨ab, ao + 2, none⟩) xz).trans x2
              have x3 := (hb2.cell (p := ⟨ab, ao + 3, none⟩) xz).trans x3
              have x4 := (hb2.cell (p := ⟨ab, ao + 4, none⟩) xz).trans x4
              have x5 := (hb2.cell (p := ⟨ab, ao + 5, none⟩) xz).trans x5
              have xz : ab < V2.heap.size := Nat.lt_of_lt_of_le xz hb2.size
              have HB2 := hide (Below.on HBc.out hb2)
              have HXBk := hide hXB
              have HV2 := hide hV2
              have HXE := hide hxb
              clear hV2 hxb hb2 hXB
              (try clear z0 z1 z2 z3 z4 z5 z6 z7 z8 z9 z10 z11 z12 z13 z14 z15 zs)
              go_upto_region 18 with fail
              rw [← HV2.out, ← HXE.out, HAT.out]
              go_cut [12] from 37 to 102 (fun v12 wd => ∃ A' : Option Addr, v12 = .slice A' (n - 1) (cA - 1) ∧ (0 < n - 1 → A' = some ⟨ab, ao + 6, none⟩) ∧ InB wd xb x.d x.a x.b x.c x.n x.v ∧ Below wr.heap.size wr wd)
              case first =>
                have y0 : V2.cell? ⟨xb, 0, none⟩ = some (.int .i64 0) := by simp only [World.cell?, HXBk.out]; rfl
                have y1 : V2.cell? ⟨xb, 1, none⟩ = some (.int .i64 0) := by simp only [World.cell?, HXBk.out]; rfl
                have y2 : V2.cell? ⟨xb, 2, none⟩ = some (.int .i64 0) := by simp only [World.cell?, HXBk.out]; rfl
                have y3 : V2.cell? ⟨xb, 3, none⟩ = some (.int .i64 0) := by simp only [World.cell?, HXBk.out]; rfl
                have y4 : V2.cell? ⟨xb, 4, none⟩ = some (.int .i64 0) := by simp only [World.cell?, HXBk.out]; rfl
                have y5 : V2.cell? ⟨xb, 5, none⟩ = some (.int .i64 0) := by simp only [World.cell?, HXBk.out]; rfl
                have yf : ∀ q, V2.frozen? ⟨xb, q, none⟩ = false := fun q => by simp [World.frozen?, HXBk.out]
                have tz := (Array.getElem?_eq_some_iff.1 HXBk.out).1
                have hxa : ab ≠ xb := fun e => by have h9 := HR.out.far ab ao (.inl ⟨HAT.out, hn0⟩); have := HBV2.out.size; have := HR.out.w.2.1; omega
                have q1 : (0 : Int) < (n : Int) := by omega
                have hc2 : (1 : Int) ≤ (cA : Int) := by omega
                have hn2 : (1 : Int) ≤ (n : Int) := by omega
                obtain ⟨U, hU⟩ : ∃ U, U = (((((V2.setCell ⟨xb, 0, none⟩ (.int .i64 x.d)).setCell ⟨xb, 1, none⟩ (.int .i64 x.a)).setCell ⟨xb, 2, none⟩ (.int .i64 x.b)).setCell ⟨xb, 3, none⟩ (.int .i64 x.c)).setCell ⟨xb, 4, none⟩ (.int .i64 x.n)).setCell ⟨xb, 5, none⟩ (.int .i64 x.v) := ⟨_, rfl⟩
                have hIB : InB U xb x.d x.a x.b x.c x.n x.v := by unfold InB; rw [hU]; simp [World.setCell, Array.getElem?_modify, HXBk.out]
                have hBU : Below wr.heap.size wr U := by
                  rw [hU]
                  exact (((((HB2.out.setCell hxl _).setCell hxl _).setCell hxl _).setCell hxl _).setCell hxl _).setCell hxl _
                have HU := hide hU
                have HIB := hide hIB
                have HBU := hide hBU
                clear hU hIB hBU
                by_cases hc1 : cA = 1
                · have hn1 : n = 1 := by omega
                  go_region
                  go_wp2
                  go_meet
                  refine ⟨_, by rw [hc1, hn1], fun h => by omega, ?_, ?_⟩
                  · rw [← HU.out]
                    exact HIB.out.below ⟨rfl, rfl, rfl, Nat.le_refl _, fun _ _ => rfl⟩
                  · rw [← HU.out]
                    exact Below.on HBU.out ⟨rfl, rfl, rfl, Nat.le_refl _, fun _ _ => rfl⟩
                · go_region
                  go_wp2
                  go_meet
                  refine ⟨_, rfl, fun _ => rfl, ?_, ?_⟩
                  · rw [← HU.out]
                    exact HIB.out.below ⟨rfl, rfl, rfl, Nat.le_refl _, fun _ _ => rfl⟩
                  · rw [← HU.out]
                    exact Below.on HBU.out ⟨rfl, rfl, rfl, Nat.le_refl _, fun _ _ => rfl⟩
              case rest =>
                obtain ⟨A', rfl, hA', hIB, hBU⟩ := hcut
                have HRU := hide (HR.out.below hBU)
                have HWU := hide (WrB.of (F := fun b => b = GP ∨ b = gm ∨ b = sg) hBU)
                obtain ⟨i0, i1, i2, i3, i4, i5⟩ := hIB.cells
                have zi := hIB.lt
                clear hIB hBU x0 x1 x2 x3 x4 x5 xz
                obtain ⟨U, hUU⟩ : ∃ U, U = wc := ⟨_, rfl⟩
                rw [← hUU] at HRU HWU i0 i1 i2 i3 i4 i5 zi ⊢
                clear hUU
                have hxg := HSN.out
                by_cases h3 : x.d = 3
                · obtain ⟨q0, q9⟩ := ins_sem (HOK.out.a s.i (go_lt ga)) (by rw [← HX.out]; exact .inl h3)
                  rw [← HX.out] at q0 q9
                  obtain ⟨qa, hqa⟩ : ∃ k : Nat, x.a = (k : Int) := ⟨x.a.toNat, by omega⟩
                  have q16 : qa < 16 := by omega
                  have hbd := HR.out.i.bd HOK.out.lv HOK.out.lk (qa : Int)
                  have sc : U.cell? ⟨sg, qa, none⟩ = some (.int .i64 (s.sem (qa : Int))) := by
                    simp only [World.cell?, HRU.out.sem]
                    exact semA_at s.sem qa q16
                  have sf : ∀ k, U.frozen? ⟨sg, k, none⟩ = false := fun k => by simp [World.frozen?, HRU.out.sem]
                  have sz := (Array.getElem?_eq_some_iff.1 HRU.out.sem).1
                  obtain ⟨sv, hsv⟩ : ∃ v, v = s.sem (qa : Int) := ⟨_, rfl⟩
                  rw [← hsv] at sc hbd
                  have q2 : (0 : Int) ≤ (qa : Int) := by omega
                  have q3 : (qa : Int) < 16 := by omega
                  rw [h3] at i0
                  rw [hqa] at i1
                  have HQA := hide hqa
                  have HSV := hide hsv
                  have HD := hide h3
                  clear hqa hsv h3 q0 q9 hxg
                  go_wp2_with fail
                  go_roundw
                  case rel => exact ⟨t + 1, stA mv s, A', n - 1, cA - 1, B, m, cB, rfl, rfl, by first | rfl | go_num, HR.out.stepA HOK.out.oneWay ga (.inl ⟨gb, HPK.out, rfl⟩) HAT.out hA' (HWU.out.set (.inr (.inr rfl)) _) ⟨n1, n2, HSN.out.2.2, Nat.le_trans HBV2.out.size HR.out.w.2.1⟩ (by show WrdAt _ _ _ _ (doP (getI mv s.i) s.pad s.mem); rw [← HX.out, (st_quiet (.inl HD.out) _ _).1]; exact HRU.out.p.keep (fun _ => Below.heap_setCell _ _ _ _ (by have := HSN.out; simp only; omega))) (by show WrdAt _ _ _ _ (doMm (getI mv s.i) s.pad s.mem); rw [← HX.out, (st_quiet (.inl HD.out) _ _).2]; exact HRU.out.y.keep (fun _ => Below.heap_setCell _ _ _ _ (by have := HSN.out; simp only; omega))) (by show _ = some (Obj.cells (semA (fun q => s.sem q + dlS (getI mv s.i) q)) _ _); rw [← HX.out, sem_step (.inl HD.out) s.sem HQA.out]; have h9 := sem_put HRU.out.sem q16 (sv + 1); rw [HSV.out] at h9 ⊢; rw [if_pos HD.out]; exact h9)⟩
                  case measure => simp only [sLen13]; omega
                by_cases h4 : x.d = 4
                · obtain ⟨q0, q9⟩ := ins_sem (HOK.out.a s.i (go_lt ga)) (by rw [← HX.out]; exact .inr h4)
                  rw [← HX.out] at q0 q9
                  obtain ⟨qa, hqa⟩ : ∃ k : Nat, x.a = (k : Int) := ⟨x.a.toNat, by omega⟩
                  have q16 : qa < 16 := by omega
                  have hbd := HR.out.i.bd HOK.out.lv HOK.out.lk (qa : Int)
                  have sc : U.cell? ⟨sg, qa, none⟩ = some (.int .i64 (s.sem (qa : Int))) := by
                    simp only [World.cell?, HRU.out.sem]
                    exact semA_at s.sem qa q16
                  have sf : ∀ k, U.frozen? ⟨sg, k, none⟩ = false := fun k => by simp [World.frozen?, HRU.out.sem]
                  have sz := (Array.getElem?_eq_some_iff.1 HRU.out.sem).1
                  obtain ⟨sv, hsv⟩ : ∃ v, v = s.sem (qa : Int) := ⟨_, rfl⟩
                  rw [← hsv] at sc hbd
                  have q2 : (0 : Int) ≤ (qa : Int) := by omega
                  have q3 : (qa : Int) < 16 := by omega
                  rw [h4] at i0
                  rw [hqa] at i1
                  have HQA := hide hqa
                  have HSV := hide hsv
                  have HD := hide h4
                  clear hqa hsv h4 q0 q9 hxg h3
                  go_wp2_with fail
                  go_roundw
                  case rel => exact ⟨t + 1, stA mv s, A', n - 1, cA - 1, B, m, cB, rfl, rfl, by first | rfl | go_num, HR.out.stepA HOK.out.oneWay ga (.inl ⟨gb, HPK.out, rfl⟩) HAT.out hA' (HWU.out.set (.inr (.inr rfl)) _) ⟨n1, n2, HSN.out.2.2, Nat.le_trans HBV2.out.size HR.out.w.2.1⟩ (by show WrdAt _ _ _ _ (doP (getI mv s.i) s.pad s.mem); rw [← HX.out, (st_quiet (.inr HD.out) _ _).1]; exact HRU.out.p.keep (fun _ => Below.heap_setCell _ _ _ _ (by have := HSN.out; simp only; omega))) (by show WrdAt _ _ _ _ (doMm (getI mv s.i) s.pad s.mem); rw [← HX.out, (st_quiet (.inr HD.out) _ _).2]; exact HRU.out.y.keep (fun _ => Below.heap_setCell _ _ _ _ (by have := HSN.out; simp only; omega))) (by show _ = some (Obj.cells (semA (fun q => s.sem q + dlS (getI mv s.i) q)) _ _); rw [← HX.out, sem_step (.inr HD.out) s.sem HQA.out]; have h9 := sem_put HRU.out.sem q16 (sv - 1); rw [HSV.out] at h9 ⊢; rw [if_neg (by rw [HD.out]; decide)]; exact h9)⟩
                  case measure => simp only [sLen13]; omega
                · have b3 : (x.d == 3) = false := by simpa using h3
                  have b4 : (x.d == 4) = false := by simpa using h4
                  have hins : insE (P : Int) (M : Int) true x = 0 := by rw [HX.out]; exact HOK.out.a s.i (go_lt ga)
                  have hdo := rdo13_at x GP P GM M mC gm s.pad s.mem U HRU.out.p HRU.out.y hne true hins ⟨h3, h4⟩ hP4 hM4
                  clear hins
                  have HDO := hide hdo
                  clear hdo
                  have HD3 := hide (show x.d ≠ 3 ∧ x.d ≠ 4 from ⟨h3, h4⟩)
                  clear h3 h4 hxg
                  go_wp2_with (go_at_call 17; refine HDO.out.mono ?_; rintro e w9 ⟨rfl, hp9, hm9, hw9⟩; have HP9 := hide hp9; have HM9 := hide hm9; have HW9 := hide hw9; clear hp9 hm9 hw9)
                  go_roundw
                  case rel => exact ⟨t + 1, stA mv s, A', n - 1, cA - 1, B, m, cB, rfl, rfl, by first | rfl | go_num, HR.out.stepA HOK.out.oneWay ga (.inl ⟨gb, HPK.out, rfl⟩) HAT.out hA' (HWU.out.trans (HW9.out.mono fun b e => by rcases e with e | e <;> first | exact .inl e | exact .inr (.inl e))) ⟨n1, n2, HSN.out.2.2, Nat.le_trans HBV2.out.size HR.out.w.2.1⟩ (by show WrdAt _ _ _ _ (doP (getI mv s.i) s.pad s.mem); rw [← HX.out]; exact HP9.out) (by show WrdAt _ _ _ _ (doMm (getI mv s.i) s.pad s.mem); rw [← HX.out]; exact HM9.out) (by show _ = some (Obj.cells (semA (fun q => s.sem q + dlS (getI mv s.i) q)) _ _); rw [← HX.out, sem_same HD3.out]; exact (HW9.out.2.2 sg (Array.getElem?_eq_some_iff.1 HRU.out.sem).1 (fun e => by have := HSN.out; omega)).trans HRU.out.sem)⟩
                  case measure => simp only [sLen13]; omega
            · have hpy : ps.length = yl := (HPS.out w (Below.refl _ _)).1
              have hyp : 0 < yl := by have := List.length_pos_iff.2 hps; omega
              obtain ⟨kp, hkp⟩ : ∃ k, k = t % ps.length := ⟨_, rfl⟩
              have hkl : kp < yl := by rw [hkp, ← hpy]; exact Nat.mod_lt _ (by omega)
              obtain ⟨pv, hpv⟩ : ∃ v, v = ps[kp]?.getD 0 := ⟨_, rfl⟩
              have HPV := hide hpv
              have HMOD : Hid ((t : Int) % (yl : Int) = (kp : Int)) := by show (t : Int) % (yl : Int) = (kp : Int); rw [hkp, hpy]; simp
              have HPKV : Hid (pickB ps t = decide (pv.tmod 2 = 0)) := by
                show pickB ps t = _
                unfold pickB
                rw [if_neg hps, ← hkp, ← hpv]
              have q0 : (0 : Int) < (yl : Int) := by omega
              clear hpy hpv hkp hps
              go_upto_region 12 with (first | (refine wpl_load_g rfl 41 _ rfl sg rfl 41 (semA s.sem) (0, 0) _ (HSF.out _ HBc.out) Tryz.underlying41 rfl sem_info ?_) | (go_at_call_of 16 (Value.slice A n cA); refine (goes13_any A n cA (mv.drop s.i) s.sem _ (HR.out.a.below HBc.out) HSA.out).mono ?_; rintro e wn ⟨rfl, hbn⟩; rw [goI_drop, ga]; have HBc := hide (Below.on HBc.out hbn); clear hbn; (try clear z0 z1 z2 z3 z4 z5 z6 z7 z8 z9 z10 z11 z12 z13 z14 z15 zs)) | (go_at_call_of 16 (Value.slice B m cB); refine (goes13_any B m cB (mk.drop s.j) s.sem _ (HR.out.b.below HBc.out) HSB.out).mono ?_; rintro e wn ⟨rfl, hbn⟩; rw [goI_drop, gb]; have HBc := hide (Below.on HBc.out hbn); clear hbn; (try clear z0 z1 z2 z3 z4 z5 z6 z7 z8 z9 z10 z11 z12 z13 z14 z15 zs)))
              go_upto_region 14 with (first | (refine wpl_load_g rfl 41 _ rfl sg rfl 41 (semA s.sem) (0, 0) _ (HSF.out _ HBc.out) Tryz.underlying41 rfl sem_info ?_) | (go_at_call_of 16 (Value.slice A n cA); refine (goes13_any A n cA (mv.drop s.i) s.sem _ (HR.out.a.below HBc.out) HSA.out).mono ?_; rintro e wn ⟨rfl, hbn⟩; rw [goI_drop, ga]; have HBc := hide (Below.on HBc.out hbn); clear hbn; (try clear z0 z1 z2 z3 z4 z5 z6 z7 z8 z9 z10 z11 z12 z13 z14 z15 zs)) | (go_at_call_of 16 (Value.slice B m cB); refine (goes13_any B m cB (mk.drop s.j) s.sem _ (HR.out.b.below HBc.out) HSB.out).mono ?_; rintro e wn ⟨rfl, hbn⟩; rw [goI_drop, gb]; have HBc := hide (Below.on HBc.out hbn); clear hbn; (try clear z0 z1 z2 z3 z4 z5 z6 z7 z8 z9 z10 z11 z12 z13 z14 z15 zs)))
              have hbwr : Below w.heap.size w wr := by
                have h9 := HBV2.out
                have h8 := HR.out.w
                have h7 := HSN.out
                exact h9.trans ⟨h8.1.1, h8.1.2.1, h8.1.2.2, h8.2.1, fun i hi => h8.2.2 i (by have := h9.size; omega) (fun e => by rcases e with e | e | e <;> omega)⟩
              obtain ⟨pb, po, hya, hpb, hpc⟩ := (HPS.out wn (Below.on hbwr HBc.out)).at hyp
              have p1 := hpc kp hkl
              rw [← HPV.out] at p1
              have HYA := hide hya
              clear hbwr hpc hya
              rw [HYA.out]
              have hmod := HMOD.out
              have q1 : (0 : Int) ≤ (kp : Int) := by omega
              have q2 : (kp : Int) < (yl : Int) := by omega
              have q3 : ¬ ((yl : Int) = 0) := by omega
              have q5 : ¬ (yl = 0) := by omega
              by_cases hp2 : pv.tmod 2 = 0
              · have hp2b : (pv.tmod 2 == 0) = true := by simp [hp2]
                have HPK : Hid (pickB ps t = true) := by show pickB ps t = true; rw [HPKV.out]; simp [hp2]
                go_upto_region 16 with fail
                rw [← HYA.out]
                clear hp2 hp2b p1 hmod q0 q1 q2 q3 q5 hpb HMOD HPKV HPV HYA hkl hyp
                have hn0 : 0 < n := by have h8 := go_lt ga; have h9 := HAL.out; omega
                obtain ⟨ab, ao, hA0, hat⟩ := (HR.out.a.below HBc.out).2.2.resolve_left (by omega)
                obtain ⟨x0, x1, x2, x3, x4, x5⟩ := hat 0 hn0
                obtain ⟨x, hx⟩ : ∃ x, x = getI mv s.i := ⟨_, rfl⟩
                rw [show (mv.drop s.i)[0]?.getD inD = x by rw [hx, List.getElem?_drop, Nat.add_zero]; rfl] at x0 x1 x2 x3 x4 x5
                simp only [Nat.zero_mul, Nat.add_zero] at x0 x1 x2 x3 x4 x5
                have hAC := HR.out.ac
                have HAT := hide hA0
                have HX := hide hx
                clear hat hx hA0
                obtain ⟨V2, hV2⟩ : ∃ V, V = wn.alloc (.cells #[.int .i64 0, .int .i64 0, .int .i64 0, .int .i64 0, .int .i64 0, .int .i64 0] 50) := ⟨_, rfl⟩
                obtain ⟨xb, hxb⟩ : ∃ b, b = wn.heap.size := ⟨_, rfl⟩
                have hb2 : Below wn.heap.size wn V2 := by rw [hV2]; exact bl_new _
                have hXB : V2.heap[xb]? = some (.cells #[.int .i64 0, .int .i64 0, .int .i64 0, .int .i64 0, .int .i64 0, .int .i64 0] 50 (0, 0)) := by rw [hV2, hxb]; exact World.alloc_heap_new _ _
                have hxl : wr.heap.size ≤ xb := by rw [hxb]; exact HBc.out.size
                have xz := lt_of_cell x0
                simp only at xz
                have x0 := (hb2.cell (p := ⟨ab, ao, none⟩) xz).trans x0
                have x1 := (hb2.cell (p := ⟨ab, ao + 1, none⟩) xz).trans x1
                have x2 := (hb2.cell (p := ⟨ab, ao + 2, none⟩) xz).trans x2
                have x3 := (hb2.cell (p := ⟨ab, ao + 3, none⟩) xz).trans x3
                have x4 := (hb2.cell (p := ⟨ab, ao + 4, none⟩) xz).trans x4
                have x5 := (hb2.cell (p := ⟨ab, ao + 5, none⟩) xz).trans x5
                have xz : ab < V2.heap.size := Nat.lt_of_lt_of_le xz hb2.size
                have HB2 := hide (Below.on HBc.out hb2)
                have HXBk := hide hXB
                have HV2 := hide hV2
                have HXE := hide hxb
                clear hV2 hxb hb2 hXB
                (try clear z0 z1 z2 z3 z4 z5 z6 z7 z8 z9 z10 z11 z12 z13 z14 z15 zs)
                go_upto_region 18 with fail
                rw [← HV2.out, ← HXE.out, HAT.out]
                go_cut [12] from 37 to 102 (fun v12 wd => ∃ A' : Option Addr, v12 = .slice A' (n - 1) (cA - 1) ∧ (0 < n - 1 → A' = some ⟨ab, ao + 6, none⟩) ∧ InB wd xb x.d x.a x.b x.c x.n x.v ∧ Below wr.heap.size wr wd)
                case first =>
                  have y0 : V2.cell? ⟨xb, 0, none⟩ = some (.int .i64 0) := by simp only [World.cell?, HXBk.out]; rfl
                  have y1 : V2.cell? ⟨xb, 1, none⟩ = some (.int .i64 0) := by simp only [World.cell?, HXBk.out]; rfl
                  have y2 : V2.cell? ⟨xb, 2, none⟩ = some (.int .i64 0) := by simp only [World.cell?, HXBk.out]; rfl
                  have y3 : V2.cell? ⟨xb, 3, none⟩ = some (.int .i64 0) := by simp only [World.cell?, HXBk.out]; rfl
                  have y4 : V2.cell? ⟨xb, 4, none⟩ = some (.int .i64 0) := by simp only [World.cell?, HXBk.out]; rfl
                  have y5 : V2.cell? ⟨xb, 5, none⟩ = some (.int .i64 0) := by simp only [World.cell?, HXBk.out]; rfl
                  have yf : ∀ q, V2.frozen? ⟨xb, q, none⟩ = false := fun q => by simp [World.frozen?, HXBk.out]
                  have tz := (Array.getElem?_eq_some_iff.1 HXBk.out).1
                  have hxa : ab ≠ xb := fun e => by have h9 := HR.out.far ab ao (.inl ⟨HAT.out, hn0⟩); have := HBV2.out.size; have := HR.out.w.2.1; omega
                  have q1 : (0 : Int) < (n : Int) := by omega
                  have hc2 : (1 : Int) ≤ (cA : Int) := by omega
                  have hn2 : (1 : Int) ≤ (n : Int) := by omega
                  obtain ⟨U, hU⟩ : ∃ U, U = (((((V2.setCell ⟨xb, 0, none⟩ (.int .i64 x.d)).setCell ⟨xb, 1, none⟩ (.int .i64 x.a)).setCell ⟨xb, 2, none⟩ (.int .i64 x.b)).setCell ⟨xb, 3, none⟩ (.int .i64 x.c)).setCell ⟨xb, 4, none⟩ (.int .i64 x.n)).setCell ⟨xb, 5, none⟩ (.int .i64 x.v) := ⟨_, rfl⟩
                  have hIB : InB U xb x.d x.a x.b x.c x.n x.v := by unfold InB; rw [hU]; simp [World.setCell, Array.getElem?_modify, HXBk.out]
                  have hBU : Below wr.heap.size wr U := by
                    rw [hU]
                    exact (((((HB2.out.setCell hxl _).setCell hxl _).setCell hxl _).setCell hxl _).setCell hxl _).setCell hxl _
                  have HU := hide hU
                  have HIB := hide hIB
                  have HBU := hide hBU
                  clear hU hIB hBU
                  by_cases hc1 : cA = 1
                  · have hn1 : n = 1 := by omega
                    go_region
                    go_wp2
                    go_meet
                    refine ⟨_, by rw [hc1, hn1], fun h => by omega, ?_, ?_⟩
                    · rw [← HU.out]
                      exact HIB.out.below ⟨rfl, rfl, rfl, Nat.le_refl _, fun _ _ => rfl⟩
                    · rw [← HU.out]
                      exact Below.on HBU.out ⟨rfl, rfl, rfl, Nat.le_refl _, fun _ _ => rfl⟩
                  · go_region
                    go_wp2
                    go_meet
                    refine ⟨_, rfl, fun _ => rfl, ?_, ?_⟩
                    · rw [← HU.out]
                      exact HIB.out.below ⟨rfl, rfl, rfl, Nat.le_refl _, fun _ _ => rfl⟩
                    · rw [← HU.out]
                      exact Below.on HBU.out ⟨rfl, rfl, rfl, Nat.le_refl _, fun _ _ => rfl⟩
                case rest =>
                  obtain ⟨A', rfl, hA', hIB, hBU⟩ := hcut
                  have HRU := hide (HR.out.below hBU)
                  have HWU := hide (WrB.of (F := fun b => b = GP ∨ b = gm ∨ b = sg) hBU)
                  obtain ⟨i0, i1, i2, i3, i4, i5⟩ := hIB.cells
                  have zi := hIB.lt
                  clear hIB hBU x0 x1 x2 x3 x4 x5 xz
                  obtain ⟨U, hUU⟩ : ∃ U, U = wc := ⟨_, rfl⟩
                  rw [← hUU] at HRU HWU i0 i1 i2 i3 i4 i5 zi ⊢
                  clear hUU
                  have hxg := HSN.out
                  by_cases h3 : x.d = 3
                  · obtain ⟨q0, q9⟩ := ins_sem (HOK.out.a s.i (go_lt ga)) (by rw [← HX.out]; exact .inl h3)
                    rw [← HX.out] at q0 q9
                    obtain ⟨qa, hqa⟩ : ∃ k : Nat, x.a = (k : Int) := ⟨x.a.toNat, by omega⟩
                    have q16 : qa < 16 := by omega
                    have hbd := HR.out.i.bd HOK.out.lv HOK.out.lk (qa : Int)
                    have sc : U.cell? ⟨sg, qa, none⟩ = some (.int .i64 (s.sem (qa : Int))) := by
                      simp only [World.cell?, HRU.out.sem]
                      exact semA_at s.sem qa q16
                    have sf : ∀ k, U.frozen? ⟨sg, k, none⟩ = false := fun k => by simp [World.frozen?, HRU.out.sem]
                    have sz := (Array.getElem?_eq_some_iff.1 HRU.out.sem).1
                    obtain ⟨sv, hsv⟩ : ∃ v, v = s.sem (qa : Int) := ⟨_, rfl⟩
                    rw [← hsv] at sc hbd
                    have q2 : (0 : Int) ≤ (qa : Int) := by omega
                    have q3 : (qa : Int) < 16 := by omega
                    rw [h3] at i0
                    rw [hqa] at i1
                    have HQA := hide hqa
                    have HSV := hide hsv
                    have HD := hide h3
                    clear hqa hsv h3 q0 q9 hxg
                    go_wp2_with fail
                    go_roundw
                    case rel => exact ⟨t + 1, stA mv s, A', n - 1, cA - 1, B, m, cB, rfl, rfl, by first | rfl | go_num, HR.out.stepA HOK.out.oneWay ga (.inl ⟨gb, HPK.out, rfl⟩) HAT.out hA' (HWU.out.set (.inr (.inr rfl)) _) ⟨n1, n2, HSN.out.2.2, Nat.le_trans HBV2.out.size HR.out.w.2.1⟩ (by show WrdAt _ _ _ _ (doP (getI mv s.i) s.pad s.mem); rw [← HX.out, (st_quiet (.inl HD.out) _ _).1]; exact HRU.out.p.keep (fun _ => Below.heap_setCell _ _ _ _ (by have := HSN.out; simp only; omega))) (by show WrdAt _ _ _ _ (doMm (getI mv s.i) s.pad s.mem); rw [← HX.out, (st_quiet (.inl HD.out) _ _).2]; exact HRU.out.y.keep (fun _ => Below.heap_setCell _ _ _ _ (by have := HSN.out; simp only; omega))) (by show _ = some (Obj.cells (semA (fun q => s.sem q + dlS (getI mv s.i) q)) _ _); rw [← HX.out, sem_step (.inl HD.out) s.sem HQA.out]; have h9 := sem_put HRU.out.sem q16 (sv + 1); rw [HSV.out] at h9 ⊢; rw [if_pos HD.out]; exact h9)⟩
                    case measure => simp only [sLen13]; omega
                  by_cases h4 : x.d = 4
                  · obtain ⟨q0, q9⟩ := ins_sem (HOK.out.a s.i (go_lt ga)) (by rw [← HX.out]; exact .inr h4)
                    rw [← HX.out] at q0 q9
                    obtain ⟨qa, hqa⟩ : ∃ k : Nat, x.a = (k : Int) := ⟨x.a.toNat, by omega⟩
                    have q16 : qa < 16 := by omega
                    have hbd := HR.out.i.bd HOK.out.lv HOK.out.lk (qa : Int)
                    have sc : U.cell? ⟨sg, qa, none⟩ = some (.int .i64 (s.sem (qa : Int))) := by
                      simp only [World.cell?, HRU.out.sem]
                      exact semA_at s.sem qa q16
                    have sf : ∀ k, U.frozen? ⟨sg, k, none⟩ = false := fun k => by simp [World.frozen?, HRU.out.sem]
                    have sz := (Array.getElem?_eq_some_iff.1 HRU.out.sem).1
                    obtain ⟨sv, hsv⟩ : ∃ v, v = s.sem (qa : Int) := ⟨_, rfl⟩
                    rw [← hsv] at sc hbd
                    have q2 : (0 : Int) ≤ (qa : Int) := by omega
                    have q3 : (qa : Int) < 16 := by omega
                    rw [h4] at i0
                    rw [hqa] at i1
                    have HQA := hide hqa
                    have HSV := hide hsv
                    have HD := hide h4
                    clear hqa hsv h4 q0 q9 hxg h3
                    go_wp2_with fail
                    go_roundw
                    case rel => exact ⟨t + 1, stA mv s, A', n - 1, cA - 1, B, m, cB, rfl, rfl, by first | rfl | go_num, HR.out.stepA HOK.out.oneWay ga (.inl ⟨gb, HPK.out, rfl⟩) HAT.out hA' (HWU.out.set (.inr (.inr rfl)) _) ⟨n1, n2, HSN.out.2.2, Nat.le_trans HBV2.out.size HR.out.w.2.1⟩ (by show WrdAt _ _ _ _ (doP (getI mv s.i) s.pad s.mem); rw [← HX.out, (st_quiet (.inr HD.out) _ _).1]; exact HRU.out.p.keep (fun _ => Below.heap_setCell _ _ _ _ (by have := HSN.out; simp only; omega))) (by show WrdAt _ _ _ _ (doMm (getI mv s.i) s.pad s.mem); rw [← HX.out, (st_quiet (.inr HD.out) _ _).2]; exact HRU.out.y.keep (fun _ => Below.heap_setCell _ _ _ _ (by have := HSN.out; simp only; omega))) (by show _ = some (Obj.cells (semA (fun q => s.sem q + dlS (getI mv s.i) q)) _ _); rw [← HX.out, sem_step (.inr HD.out) s.sem HQA.out]; have h9 := sem_put HRU.out.sem q16 (sv - 1); rw [HSV.out] at h9 ⊢; rw [if_neg (by rw [HD.out]; decide)]; exact h9)⟩
                    case measure => simp only [sLen13]; omega
                  · have b3 : (x.d == 3) = false := by simpa using h3
                    have b4 : (x.d == 4) = false := by simpa using h4
                    have hins : insE (P : Int) (M : Int) true x = 0 := by rw [HX.out]; exact HOK.out.a s.i (go_lt ga)
                    have hdo := rdo13_at x GP P GM M mC gm s.pad s.mem U HRU.out.p HRU.out.y hne true hins ⟨h3, h4⟩ hP4 hM4
                    clear hins
                    have HDO := hide hdo
                    clear hdo
                    have HD3 := hide (show x.d ≠ 3 ∧ x.d ≠ 4 from ⟨h3, h4⟩)
                    clear h3 h4 hxg
                    go_wp2_with (go_at_call 17; refine HDO.out.mono ?_; rintro e w9 ⟨rfl, hp9, hm9, hw9⟩; have HP9 := hide hp9; have HM9 := hide hm9; have HW9 := hide hw9; clear hp9 hm9 hw9)
                    go_roundw
                    case rel => exact ⟨t + 1, stA mv s, A', n - 1, cA - 1, B, m, cB, rfl, rfl, by first | rfl | go_num, HR.out.stepA HOK.out.oneWay ga (.inl ⟨gb, HPK.out, rfl⟩) HAT.out hA' (HWU.out.trans (HW9.out.mono fun b e => by rcases e with e | e <;> first | exact .inl e | exact .inr (.inl e))) ⟨n1, n2, HSN.out.2.2, Nat.le_trans HBV2.out.size HR.out.w.2.1⟩ (by show WrdAt _ _ _ _ (doP (getI mv s.i) s.pad s.mem); rw [← HX.out]; exact HP9.out) (by show WrdAt _ _ _ _ (doMm (getI mv s.i) s.pad s.mem); rw [← HX.out]; exact HM9.out) (by show _ = some (Obj.cells (semA (fun q => s.sem q + dlS (getI mv s.i) q)) _ _); rw [← HX.out, sem_same HD3.out]; exact (HW9.out.2.2 sg (Array.getElem?_eq_some_iff.1 HRU.out.sem).1 (fun e => by have := HSN.out; omega)).trans HRU.out.sem)⟩
                    case measure => simp only [sLen13]; omega
              · have hp2b : (pv.tmod 2 == 0) = false := by simp [hp2]
                have HPK : Hid (pickB ps t = false) := by show pickB ps t = false; rw [HPKV.out]; simp [hp2]
                go_upto_region 16 with fail
                rw [← HYA.out]
                clear hp2 hp2b p1 hmod q0 q1 q2 q3 q5 hpb HMOD HPKV HPV HYA hkl hyp
                have hn0 : 0 < m := by have h8 := go_lt gb; have h9 := HBL.out; omega
                obtain ⟨ab, ao, hA0, hat⟩ := (HR.out.b.below HBc.out).2.2.resolve_left (by omega)
                obtain ⟨x0, x1, x2, x3, x4, x5⟩ := hat 0 hn0
                obtain ⟨x, hx⟩ : ∃ x, x = getI mk s.j := ⟨_, rfl⟩
                rw [show (mk.drop s.j)[0]?.getD inD = x by rw [hx, List.getElem?_drop, Nat.add_zero]; rfl] at x0 x1 x2 x3 x4 x5
                simp only [Nat.zero_mul, Nat.add_zero] at x0 x1 x2 x3 x4 x5
                have hAC := HR.out.bc
                have HAT := hide hA0
                have HX := hide hx
                clear hat hx hA0
                obtain ⟨V2, hV2⟩ : ∃ V, V = wn.alloc (.cells #[.int .i64 0, .int .i64 0, .int .i64 0, .int .i64 0, .int .i64 0, .int .i64 0] 50) := ⟨_, rfl⟩
                obtain ⟨xb, hxb⟩ : ∃ b, b = wn.heap.size := ⟨_, rfl⟩
                have hb2 : Below wn.heap.size wn V2 := by rw [hV2]; exact bl_new _
                have hXB : V2.heap[xb]? = some (.cells #[.int .i64 0, .int .i64 0, .int .i64 0, .int .i64 0, .int .i64 0, .int .i64 0] 50 (0, 0)) := by rw [hV2, hxb]; exact World.alloc_heap_new _ _
                have hxl : wr.heap.size ≤ xb := by rw [hxb]; exact HBc.out.size
                have xz := lt_of_cell x0
                simp only at xz
                have x0 := (hb2.cell (p := ⟨ab, ao, none⟩) xz).trans x0
                have x1 := (hb2.cell (p := ⟨ab, ao + 1, none⟩) xz).trans x1
                have x2 := (hb2.cell (p := ⟨ab, ao + 2, none⟩) xz).trans x2
                have x3 := (hb2.cell (p := ⟨ab, ao + 3, none⟩) xz).trans x3
                have x4 := (hb2.cell (p := ⟨ab, ao + 4, none⟩) xz).trans x4
                have x5 := (hb2.cell (p := ⟨ab, ao + 5, none⟩) xz).trans x5
                have xz : ab < V2.heap.size := Nat.lt_of_lt_of_le xz hb2.size
                have HB2 := hide (Below.on HBc.out hb2)
                have HXBk := hide hXB
                have HV2 := hide hV2
                have HXE := hide hxb
                clear hV2 hxb hb2 hXB
                (try clear z0 z1 z2 z3 z4 z5 z6 z7 z8 z9 z10 z11 z12 z13 z14 z15 zs)
                go_upto_region 19 with fail
                rw [← HV2.out, ← HXE.out, HAT.out]
                go_cut [13] from 37 to 102 (fun v12 wd => ∃ A' : Option Addr, v12 = .slice A' (m - 1) (cB - 1) ∧ (0 < m - 1 → A' = some ⟨ab, ao + 6, none⟩) ∧ InB wd xb x.d x.a x.b x.c x.n x.v ∧ Below wr.heap.size wr wd)
                case first =>
                  have y0 : V2.cell? ⟨xb, 0, none⟩ = some (.int .i64 0) := by simp only [World.cell?, HXBk.out]; rfl
                  have y1 : V2.cell? ⟨xb, 1, none⟩ = some (.int .i64 0) := by simp only [World.cell?, HXBk.out]; rfl
                  have y2 : V2.cell? ⟨xb, 2, none⟩ = some (.int .i64 0) := by simp only [World.cell?, HXBk.out]; rfl
                  have y3 : V2.cell? ⟨xb, 3, none⟩ = some (.int .i64 0) := by simp only [World.cell?, HXBk.out]; rfl
                  have y4 : V2.cell? ⟨xb, 4, none⟩ = some (.int .i64 0) := by simp only [World.cell?, HXBk.out]; rfl
                  have y5 : V2.cell? ⟨xb, 5, none⟩ = some (.int .i64 0) := by simp only [World.cell?, HXBk.out]; rfl
                  have yf : ∀ q, V2.frozen? ⟨xb, q, none⟩ = false := fun q => by simp [World.frozen?, HXBk.out]
                  have tz := (Array.getElem?_eq_some_iff.1 HXBk.out).1
                  have hxa : ab ≠ xb := fun e => by have h9 := HR.out.far ab ao (.inr ⟨HAT.out, hn0⟩); have := HBV2.out.size; have := HR.out.w.2.1; omega
                  have q1 : (0 : Int) < (m : Int) := by omega
                  have hc2 : (1 : Int) ≤ (cB : Int) := by omega
                  have hn2 : (1 : Int) ≤ (m : Int) := by omega
                  obtain ⟨U, hU⟩ : ∃ U, U = (((((V2.setCell ⟨xb, 0, none⟩ (.int .i64 x.d)).setCell ⟨xb, 1, none⟩ (.int .i64 x.a)).setCell ⟨xb, 2, none⟩ (.int .i64 x.b)).setCell ⟨xb, 3, none⟩ (.int .i64 x.c)).setCell ⟨xb, 4, none⟩ (.int .i64 x.n)).setCell ⟨xb, 5, none⟩ (.int .i64 x.v) := ⟨_, rfl⟩
                  have hIB : InB U xb x.d x.a x.b x.c x.n x.v := by unfold InB; rw [hU]; simp [World.setCell, Array.getElem?_modify, HXBk.out]
                  have hBU : Below wr.heap.size wr U := by
                    rw [hU]
                    exact (((((HB2.out.setCell hxl _).setCell hxl _).setCell hxl _).setCell hxl _).setCell hxl _).setCell hxl _
                  have HU := hide hU
                  have HIB := hide hIB
                  have HBU := hide hBU
                  clear hU hIB hBU
                  by_cases hc1 : cB = 1
                  · have hn1 : m = 1 := by omega
                    go_region
                    go_wp2
                    go_meet
                    refine ⟨_, by rw [hc1, hn1], fun h => by omega, ?_, ?_⟩
                    · rw [← HU.out]
                      exact HIB.out.below ⟨rfl, rfl, rfl, Nat.le_refl _, fun _ _ => rfl⟩
                    · rw [← HU.out]
                      exact Below.on HBU.out ⟨rfl, rfl, rfl, Nat.le_refl _, fun _ _ => rfl⟩
                  · go_region
                    go_wp2
                    go_meet
                    refine ⟨_, rfl, fun _ => rfl, ?_, ?_⟩
                    · rw [← HU.out]
                      exact HIB.out.below ⟨rfl, rfl, rfl, Nat.le_refl _, fun _ _ => rfl⟩
                    · rw [← HU.out]
                      exact Below.on HBU.out ⟨rfl, rfl, rfl, Nat.le_refl _, fun _ _ => rfl⟩
                case rest =>
                  obtain ⟨A', rfl, hA', hIB, hBU⟩ := hcut
                  have HRU := hide (HR.out.below hBU)
                  have HWU := hide (WrB.of (F := fun b => b = GP ∨ b = gm ∨ b = sg) hBU)
                  obtain ⟨i0, i1, i2, i3, i4, i5⟩ := hIB.cells
                  have zi := hIB.lt
                  clear hIB hBU x0 x1 x2 x3 x4 x5 xz
                  obtain ⟨U, hUU⟩ : ∃ U, U = wc := ⟨_, rfl⟩
                  rw [← hUU] at HRU HWU i0 i1 i2 i3 i4 i5 zi ⊢
                  clear hUU
                  have hxg := HSN.out
                  by_cases h3 : x.d = 3
                  · obtain ⟨q0, q9⟩ := ins_sem (HOK.out.b s.j (go_lt gb)) (by rw [← HX.out]; exact .inl h3)
                    rw [← HX.out] at q0 q9
                    obtain ⟨qa, hqa⟩ : ∃ k : Nat, x.a = (k : Int) := ⟨x.a.toNat, by omega⟩
                    have q16 : qa < 16 := by omega
                    have hbd := HR.out.i.bd HOK.out.lv HOK.out.lk (qa : Int)
                    have sc : U.cell? ⟨sg, qa, none⟩ = some (.int .i64 (s.sem (qa : Int))) := by
                      simp only [World.cell?, HRU.out.sem]
                      exact semA_at s.sem qa q16
                    have sf : ∀ k, U.frozen? ⟨sg, k, none⟩ = false := fun k => by simp [World.frozen?, HRU.out.sem]
                    have sz := (Array.getElem?_eq_some_iff.1 HRU.out.sem).1
                    obtain ⟨sv, hsv⟩ : ∃ v, v = s.sem (qa : Int) := ⟨_, rfl⟩
                    rw [← hsv] at sc hbd
                    have q2 : (0 : Int) ≤ (qa : Int) := by omega
                    have q3 : (qa : Int) < 16 := by omega
                    rw [h3] at i0
                    rw [hqa] at i1
                    have HQA := hide hqa
                    have HSV := hide hsv
                    have HD := hide h3
                    clear hqa hsv h3 q0 q9 hxg
                    go_wp2_with fail
                    go_roundw
                    case rel => exact ⟨t + 1, stB mk s, A, n, cA, A', m - 1, cB - 1, rfl, rfl, by first | rfl | go_num, HR.out.stepB HOK.out.oneWay gb (.inl ⟨ga, HPK.out, rfl⟩) HAT.out hA' (HWU.out.set (.inr (.inr rfl)) _) ⟨n1, n2, HSN.out.2.2, Nat.le_trans HBV2.out.size HR.out.w.2.1⟩ (by show WrdAt _ _ _ _ (doP (getI mk s.j) s.pad s.mem); rw [← HX.out, (st_quiet (.inl HD.out) _ _).1]; exact HRU.out.p.keep (fun _ => Below.heap_setCell _ _ _ _ (by have := HSN.out; simp only; omega))) (by show WrdAt _ _ _ _ (doMm (getI mk s.j) s.pad s.mem); rw [← HX.out, (st_quiet (.inl HD.out) _ _).2]; exact HRU.out.y.keep (fun _ => Below.heap_setCell _ _ _ _ (by have := HSN.out; simp only; omega))) (by show _ = some (Obj.cells (semA (fun q => s.sem q + dlS (getI mk s.j) q)) _ _); rw [← HX.out, sem_step (.inl HD.out) s.sem HQA.out]; have h9 := sem_put HRU.out.sem q16 (sv + 1); rw [HSV.out] at h9 ⊢; rw [if_pos HD.out]; exact h9)⟩
                    case measure => simp only [sLen13]; omega
                  by_cases h4 : x.d = 4
                  · obtain ⟨q0, q9⟩ := ins_sem (HOK.out.b s.j (go_lt gb)) (by rw [← HX.out]; exact .inr h4)
                    rw [← HX.out] at q0 q9
                    obtain ⟨qa, hqa⟩ : ∃ k : Nat, x.a = (k : Int) := ⟨x.a.toNat, by omega⟩
                    have q16 : qa < 16 := by omega
                    have hbd := HR.out.i.bd HOK.out.lv HOK.out.lk (qa : Int)
                    have sc : U.cell? ⟨sg, qa, none⟩ = some (.int .i64 (s.sem (qa : Int))) := by
                      simp only [World.cell?, HRU.out.sem]
                      exact semA_at s.sem qa q16
                    have sf : ∀ k, U.frozen? ⟨sg, k, none⟩ = false := fun k => by simp [World.frozen?, HRU.out.sem]
                    have sz := (Array.getElem?_eq_some_iff.1 HRU.out.sem).1
                    obtain ⟨sv, hsv⟩ : ∃ v, v = s.sem (qa : Int) := ⟨_, rfl⟩
                    rw [← hsv] at sc hbd
                    have q2 : (0 : Int) ≤ (qa : Int) := by omega
                    have q3 : (qa : Int) < 16 := by omega
                    rw [h4] at i0
                    rw [hqa] at i1
                    have HQA := hide hqa
                    have HSV := hide hsv
                    have HD := hide h4
                    clear hqa hsv h4 q0 q9 hxg h3
                    go_wp2_with fail
                    go_roundw
                    case rel => exact ⟨t + 1, stB mk s, A, n, cA, A', m - 1, cB - 1, rfl, rfl, by first | rfl | go_num, HR.out.stepB HOK.out.oneWay gb (.inl ⟨ga, HPK.out, rfl⟩) HAT.out hA' (HWU.out.set (.inr (.inr rfl)) _) ⟨n1, n2, HSN.out.2.2, Nat.le_trans HBV2.out.size HR.out.w.2.1⟩ (by show WrdAt _ _ _ _ (doP (getI mk s.j) s.pad s.mem); rw [← HX.out, (st_quiet (.inr HD.out) _ _).1]; exact HRU.out.p.keep (fun _ => Below.heap_setCell _ _ _ _ (by have := HSN.out; simp only; omega))) (by show WrdAt _ _ _ _ (doMm (getI mk s.j) s.pad s.mem); rw [← HX.out, (st_quiet (.inr HD.out) _ _).2]; exact HRU.out.y.keep (fun _ => Below.heap_setCell _ _ _ _ (by have := HSN.out; simp only; omega))) (by show _ = some (Obj.cells (semA (fun q => s.sem q + dlS (getI mk s.j) q)) _ _); rw [← HX.out, sem_step (.inr HD.out) s.sem HQA.out]; have h9 := sem_put HRU.out.sem q16 (sv - 1); rw [HSV.out] at h9 ⊢; rw [if_neg (by rw [HD.out]; decide)]; exact h9)⟩
                    case measure => simp only [sLen13]; omega
                  · have b3 : (x.d == 3) = false := by simpa using h3
                    have b4 : (x.d == 4) = false := by simpa using h4
                    have hins : insE (P : Int) (M : Int) false x = 0 := by rw [HX.out]; exact HOK.out.b s.j (go_lt gb)
                    have hdo := rdo13_at x GP P GM M mC gm s.pad s.mem U HRU.out.p HRU.out.y hne false hins ⟨h3, h4⟩ hP4 hM4
                    clear hins
                    have HDO := hide hdo
                    clear hdo
                    have HD3 := hide (show x.d ≠ 3 ∧ x.d ≠ 4 from ⟨h3, h4⟩)
                    clear h3 h4 hxg
                    go_wp2_with (go_at_call 17; refine HDO.out.mono ?_; rintro e w9 ⟨rfl, hp9, hm9, hw9⟩; have HP9 := hide hp9; have HM9 := hide hm9; have HW9 := hide hw9; clear hp9 hm9 hw9)
                    go_roundw
                    case rel => exact ⟨t + 1, stB mk s, A, n, cA, A', m - 1, cB - 1, rfl, rfl, by first | rfl | go_num, HR.out.stepB HOK.out.oneWay gb (.inl ⟨ga, HPK.out, rfl⟩) HAT.out hA' (HWU.out.trans (HW9.out.mono fun b e => by rcases e with e | e <;> first | exact .inl e | exact .inr (.inl e))) ⟨n1, n2, HSN.out.2.2, Nat.le_trans HBV2.out.size HR.out.w.2.1⟩ (by show WrdAt _ _ _ _ (doP (getI mk s.j) s.pad s.mem); rw [← HX.out]; exact HP9.out) (by show WrdAt _ _ _ _ (doMm (getI mk s.j) s.pad s.mem); rw [← HX.out]; exact HM9.out) (by show _ = some (Obj.cells (semA (fun q => s.sem q + dlS (getI mk s.j) q)) _ _); rw [← HX.out, sem_same HD3.out]; exact (HW9.out.2.2 sg (Array.getElem?_eq_some_iff.1 HRU.out.sem).1 (fun e => by have := HSN.out; omega)).trans HRU.out.sem)⟩
                    case measure => simp only [sLen13]; omega
          | false =>
            go_upto_region 12 with (first | (refine wpl_load_g rfl 41 _ rfl sg rfl 41 (semA s.sem) (0, 0) _ (HSF.out _ HBc.out) Tryz.underlying41 rfl sem_info ?_) | (go_at_call_of 16 (Value.slice A n cA); refine (goes13_any A n cA (mv.drop s.i) s.sem _ (HR.out.a.below HBc.out) HSA.out).mono ?_; rintro e wn ⟨rfl, hbn⟩; rw [goI_drop, ga]; have HBc := hide (Below.on HBc.out hbn); clear hbn; (try clear z0 z1 z2 z3 z4 z5 z6 z7 z8 z9 z10 z11 z12 z13 z14 z15 zs)) | (go_at_call_of 16 (Value.slice B m cB); refine (goes13_any B m cB (mk.drop s.j) s.sem _ (HR.out.b.below HBc.out) HSB.out).mono ?_; rintro e wn ⟨rfl, hbn⟩; rw [goI_drop, gb]; have HBc := hide (Below.on HBc.out hbn); clear hbn; (try clear z0 z1 z2 z3 z4 z5 z6 z7 z8 z9 z10 z11 z12 z13 z14 z15 zs)))
            go_upto_region 16 with (first | (refine wpl_load_g rfl 41 _ rfl sg rfl 41 (semA s.sem) (0, 0) _ (HSF.out _ HBc.out) Tryz.underlying41 rfl sem_info ?_) | (go_at_call_of 16 (Value.slice A n cA); refine (goes13_any A n cA (mv.drop s.i) s.sem _ (HR.out.a.below HBc.out) HSA.out).mono ?_; rintro e wn ⟨rfl, hbn⟩; rw [goI_drop, ga]; have HBc := hide (Below.on HBc.out hbn); clear hbn; (try clear z0 z1 z2 z3 z4 z5 z6 z7 z8 z9 z10 z11 z12 z13 z14 z15 zs)) | (go_at_call_of 16 (Value.slice B m cB); refine (goes13_any B m cB (mk.drop s.j) s.sem _ (HR.out.b.below HBc.out) HSB.out).mono ?_; rintro e wn ⟨rfl, hbn⟩; rw [goI_drop, gb]; have HBc := hide (Below.on HBc.out hbn); clear hbn; (try clear z0 z1 z2 z3 z4 z5 z6 z7 z8 z9 z10 z11 z12 z13 z14 z15 zs)))
            have hn0 : 0 < n := by have h8 := go_lt ga; have h9 := HAL.out; omega
            obtain ⟨ab, ao, hA0, hat⟩ := (HR.out.a.below HBc.out).2.2.resolve_left (by omega)
            obtain ⟨x0, x1, x2, x3, x4, x5⟩ := hat 0 hn0
            obtain ⟨x, hx⟩ : ∃ x, x = getI mv s.i := ⟨_, rfl⟩
            rw [show (mv.drop s.i)[0]?.getD inD = x by rw [hx, List.getElem?_drop, Nat.add_zero]; rfl] at x0 x1 x2 x3 x4 x5
            simp only [Nat.zero_mul, Nat.add_zero] at x0 x1 x2 x3 x4 x5
            have hAC := HR.out.ac
            have HAT := hide hA0
            have HX := hide hx
            clear hat hx hA0
            obtain ⟨V2, hV2⟩ : ∃ V, V = wn.alloc (.cells #[.int .i64 0, .int .i64 0, .int .i64 0, .int .i64 0, .int .i64 0, .int .i64 0] 50) := ⟨_, rfl⟩
            obtain ⟨xb, hxb⟩ : ∃ b, b = wn.heap.size := ⟨_, rfl⟩
            have hb2 : Below wn.heap.size wn V2 := by rw [hV2]; exact bl_new _
            have hXB : V2.heap[xb]? = some (.cells #[.int .i64 0, .int .i64 0, .int .i64 0, .int .i64 0, .int .i64 0, .int .i64 0] 50 (0, 0)) := by rw [hV2, hxb]; exact World.alloc_heap_new _ _
            have hxl : wr.heap.size ≤ xb := by rw [hxb]; exact HBc.out.size
            have xz := lt_of_cell x0
            simp only at xz
            have x0 := (hb2.cell (p := ⟨ab, ao, none⟩) xz).trans x0
            have x1 := (hb2.cell (p := ⟨ab, ao + 1, none⟩) xz).trans x1
            have x2 := (hb2.cell (p := ⟨ab, ao + 2, none⟩) xz).trans x2
            have x3 := (hb2.cell (p := ⟨ab, ao + 3, none⟩) xz).trans x3
            have x4 := (hb2.cell (p := ⟨ab, ao + 4, none⟩) xz).trans x4
            have x5 := (hb2.cell (p := ⟨ab, ao + 5, none⟩) xz).trans x5
            have xz : ab < V2.heap.size := Nat.lt_of_lt_of_le xz hb2.size
            have HB2 := hide (Below.on HBc.out hb2)
            have HXBk := hide hXB
            have HV2 := hide hV2
            have HXE := hide hxb
            clear hV2 hxb hb2 hXB
            (try clear z0 z1 z2 z3 z4 z5 z6 z7 z8 z9 z10 z11 z12 z13 z14 z15 zs)
            go_upto_region 18 with fail
            rw [← HV2.out, ← HXE.out, HAT.out]
            go_cut [12] from 37 to 102 (fun v12 wd => ∃ A' : Option Addr, v12 = .slice A' (n - 1) (cA - 1) ∧ (0 < n - 1 → A' = some ⟨ab, ao + 6, none⟩) ∧ InB wd xb x.d x.a x.b x.c x.n x.v ∧ Below wr.heap.size wr wd)
            case first =>
              have y0 : V2.cell? ⟨xb, 0, none⟩ = some (.int .i64 0) := by simp only [World.cell?, HXBk.out]; rfl
              have y1 : V2.cell? ⟨xb, 1, none⟩ = some (.int .i64 0) := by simp only [World.cell?, HXBk.out]; rfl
              have y2 : V2.cell? ⟨xb, 2, none⟩ = some (.int .i64 0) := by simp only [World.cell?, HXBk.out]; rfl
              have y3 : V2.cell? ⟨xb, 3, none⟩ = some (.int .i64 0) := by simp only [World.cell?, HXBk.out]; rfl
              have y4 : V2.cell? ⟨xb, 4, none⟩ = some (.int .i64 0) := by simp only [World.cell?, HXBk.out]; rfl
              have y5 : V2.cell? ⟨xb, 5, none⟩ = some (.int .i64 0) := by simp only [World.cell?, HXBk.out]; rfl
              have yf : ∀ q, V2.frozen? ⟨xb, q, none⟩ = false := fun q => by simp [World.frozen?, HXBk.out]
              have tz := (Array.getElem?_eq_some_iff.1 HXBk.out).1
              have hxa : ab ≠ xb := fun e => by have h9 := HR.out.far ab ao (.inl ⟨HAT.out, hn0⟩); have := HBV2.out.size; have := HR.out.w.2.1; omega
              have q1 : (0 : Int) < (n : Int) := by omega
              have hc2 : (1 : Int) ≤ (cA : Int) := by omega
              have hn2 : (1 : Int) ≤ (n : Int) := by omega
              obtain ⟨U, hU⟩ : ∃ U, U = (((((V2.setCell ⟨xb, 0, none⟩ (.int .i64 x.d)).setCell ⟨xb, 1, none⟩ (.int .i64 x.a)).setCell ⟨xb, 2, none⟩ (.int .i64 x.b)).setCell ⟨xb, 3, none⟩ (.int .i64 x.c)).setCell ⟨xb, 4, none⟩ (.int .i64 x.n)).setCell ⟨xb, 5, none⟩ (.int .i64 x.v) := ⟨_, rfl⟩
              have hIB : InB U xb x.d x.a x.b x.c x.n x.v := by unfold InB; rw [hU]; simp [World.setCell, Array.getElem?_modify, HXBk.out]
              have hBU : Below wr.heap.size wr U := by
                rw [hU]
                exact (((((HB2.out.setCell hxl _).setCell hxl _).setCell hxl _).setCell hxl _).setCell hxl _).setCell hxl _
              have HU := hide hU
              have HIB := hide hIB
              have HBU := hide hBU
              clear hU hIB hBU
              by_cases hc1 : cA = 1
              · have hn1 : n = 1 := by omega
                go_region
                go_wp2
                go_meet
                refine ⟨_, by rw [hc1, hn1], fun h => by omega, ?_, ?_⟩
                · rw [← HU.out]
                  exact HIB.out.below ⟨rfl, rfl, rfl, Nat.le_refl _, fun _ _ => rfl⟩
                · rw [← HU.out]
                  exact Below.on HBU.out ⟨rfl, rfl, rfl, Nat.le_refl _, fun _ _ => rfl⟩
              · go_region
                go_wp2
                go_meet
                refine ⟨_, rfl, fun _ => rfl, ?_, ?_⟩
                · rw [← HU.out]
                  exact HIB.out.below ⟨rfl, rfl, rfl, Nat.le_refl _, fun _ _ => rfl⟩
                · rw [← HU.out]
                  exact Below.on HBU.out ⟨rfl, rfl, rfl, Nat.le_refl _, fun _ _ => rfl⟩
            case rest =>
              obtain ⟨A', rfl, hA', hIB, hBU⟩ := hcut
              have HRU := hide (HR.out.below hBU)
              have HWU := hide (WrB.of (F := fun b => b = GP ∨ b = gm ∨ b = sg) hBU)
              obtain ⟨i0, i1, i2, i3, i4, i5⟩ := hIB.cells
              have zi := hIB.lt
              clear hIB hBU x0 x1 x2 x3 x4 x5 xz
              obtain ⟨U, hUU⟩ : ∃ U, U = wc := ⟨_, rfl⟩
              rw [← hUU] at HRU HWU i0 i1 i2 i3 i4 i5 zi ⊢
              clear hUU
              have hxg := HSN.out
              by_cases h3 : x.d = 3
              · obtain ⟨q0, q9⟩ := ins_sem (HOK.out.a s.i (go_lt ga)) (by rw [← HX.out]; exact .inl h3)
                rw [← HX.out] at q0 q9
                obtain ⟨qa, hqa⟩ : ∃ k : Nat, x.a = (k : Int) := ⟨x.a.toNat, by omega⟩
                have q16 : qa < 16 := by omega
                have hbd := HR.out.i.bd HOK.out.lv HOK.out.lk (qa : Int)
                have sc : U.cell? ⟨sg, qa, none⟩ = some (.int .i64 (s.sem (qa : Int))) := by
                  simp only [World.cell?, HRU.out.sem]
                  exact semA_at s.sem qa q16
                have sf : ∀ k, U.frozen? ⟨sg, k, none⟩ = false := fun k => by simp [World.frozen?, HRU.out.sem]
                have sz := (Array.getElem?_eq_some_iff.1 HRU.out.sem).1
                obtain ⟨sv, hsv⟩ : ∃ v, v = s.sem (qa : Int) := ⟨_, rfl⟩
                rw [← hsv] at sc hbd
                have q2 : (0 : Int) ≤ (qa : Int) := by omega
                have q3 : (qa : Int) < 16 := by omega
                rw [h3] at i0
                rw [hqa] at i1
                have HQA := hide hqa
                have HSV := hide hsv
                have HD := hide h3
                clear hqa hsv h3 q0 q9 hxg
                go_wp2_with fail
                go_roundw
                case rel => exact ⟨t, stA mv s, A', n - 1, cA - 1, B, m, cB, rfl, rfl, by first | rfl | go_num, HR.out.stepA HOK.out.oneWay ga (.inr ⟨gb, rfl⟩) HAT.out hA' (HWU.out.set (.inr (.inr rfl)) _) ⟨n1, n2, HSN.out.2.2, Nat.le_trans HBV2.out.size HR.out.w.2.1⟩ (by show WrdAt _ _ _ _ (doP (getI mv s.i) s.pad s.mem); rw [← HX.out, (st_quiet (.inl HD.out) _ _).1]; exact HRU.out.p.keep (fun _ => Below.heap_setCell _ _ _ _ (by have := HSN.out; simp only; omega))) (by show WrdAt _ _ _ _ (doMm (getI mv s.i) s.pad s.mem); rw [← HX.out, (st_quiet (.inl HD.out) _ _).2]; exact HRU.out.y.keep (fun _ => Below.heap_setCell _ _ _ _ (by have := HSN.out; simp only; omega))) (by show _ = some (Obj.cells (semA (fun q => s.sem q + dlS (getI mv s.i) q)) _ _); rw [← HX.out, sem_step (.inl HD.out) s.sem HQA.out]; have h9 := sem_put HRU.out.sem q16 (sv + 1); rw [HSV.out] at h9 ⊢; rw [if_pos HD.out]; exact h9)⟩
                case measure => simp only [sLen13]; omega
              by_cases h4 : x.d = 4
              · obtain ⟨q0, q9⟩ := ins_sem (HOK.out.a s.i (go_lt ga)) (by rw [← HX.out]; exact .inr h4)
                rw [← HX.out] at q0 q9
                obtain ⟨qa, hqa⟩ : ∃ k : Nat, x.a = (k : Int) := ⟨x.a.toNat, by omega⟩
                have q16 : qa < 16 := by omega
                have hbd := HR.out.i.bd HOK.out.lv HOK.out.lk (qa : Int)
                have sc : U.cell? ⟨sg, qa, none⟩ = some (.int .i64 (s.sem (qa : Int))) := by
                  simp only [World.cell?, HRU.out.sem]
                  exact semA_at s.sem qa q16
                have sf : ∀ k, U.frozen? ⟨sg, k, none⟩ = false := fun k => by simp [World.frozen?, HRU.out.sem]
                have sz := (Array.getElem?_eq_some_iff.1 HRU.out.sem).1
                obtain ⟨sv, hsv⟩ : ∃ v, v = s.sem (qa : Int) := ⟨_, rfl⟩
                rw [← hsv] at sc hbd
                have q2 : (0 : Int) ≤ (qa : Int) := by omega
                have q3 : (qa : Int) < 16 := by omega
                rw [h4] at i0
                rw [hqa] at i1
                have HQA := hide hqa
                have HSV := hide hsv
                have HD := hide h4
                clear hqa hsv h4 q0 q9 hxg h3
                go_wp2_with fail
                go_roundw
                case rel => exact ⟨t, stA mv s, A', n - 1, cA - 1, B, m, cB, rfl, rfl, by first | rfl | go_num, HR.out.stepA HOK.out.oneWay ga (.inr ⟨gb, rfl⟩) HAT.out hA' (HWU.out.set (.inr (.inr rfl)) _) ⟨n1, n2, HSN.out.2.2, Nat.le_trans HBV2.out.size HR.out.w.2.1⟩ (by show WrdAt _ _ _ _ (doP (getI mv s.i) s.pad s.mem); rw [← HX.out, (st_quiet (.inr HD.out) _ _).1]; exact HRU.out.p.keep (fun _ => Below.heap_setCell _ _ _ _ (by have := HSN.out; simp only; omega))) (by show WrdAt _ _ _ _ (doMm (getI mv s.i) s.pad s.mem); rw [← HX.out, (st_quiet (.inr HD.out) _ _).2]; exact HRU.out.y.keep (fun _ => Below.heap_setCell _ _ _ _ (by have := HSN.out; simp only; omega))) (by show _ = some (Obj.cells (semA (fun q => s.sem q + dlS (getI mv s.i) q)) _ _); rw [← HX.out, sem_step (.inr HD.out) s.sem HQA.out]; have h9 := sem_put HRU.out.sem q16 (sv - 1); rw [HSV.out] at h9 ⊢; rw [if_neg (by rw [HD.out]; decide)]; exact h9)⟩
                case measure => simp only [sLen13]; omega
              · have b3 : (x.d == 3) = false := by simpa using h3
                have b4 : (x.d == 4) = false := by simpa using h4
                have hins : insE (P : Int) (M : Int) true x = 0 := by rw [HX.out]; exact HOK.out.a s.i (go_lt ga)
                have hdo := rdo13_at x GP P GM M mC gm s.pad s.mem U HRU.out.p HRU.out.y hne true hins ⟨h3, h4⟩ hP4 hM4
                clear hins
                have HDO := hide hdo
                clear hdo
                have HD3 := hide (show x.d ≠ 3 ∧ x.d ≠ 4 from ⟨h3, h4⟩)
                clear h3 h4 hxg
                go_wp2_with (go_at_call 17; refine HDO.out.mono ?_; rintro e w9 ⟨rfl, hp9, hm9, hw9⟩; have HP9 := hide hp9; have HM9 := hide hm9; have HW9 := hide hw9; clear hp9 hm9 hw9)
                go_roundw
                case rel => exact ⟨t, stA mv s, A', n - 1, cA - 1, B, m, cB, rfl, rfl, by first | rfl | go_num, HR.out.stepA HOK.out.oneWay ga (.inr ⟨gb, rfl⟩) HAT.out hA' (HWU.out.trans (HW9.out.mono fun b e => by rcases e with e | e <;> first | exact .inl e | exact .inr (.inl e))) ⟨n1, n2, HSN.out.2.2, Nat.le_trans HBV2.out.size HR.out.w.2.1⟩ (by show WrdAt _ _ _ _ (doP (getI mv s.i) s.pad s.mem); rw [← HX.out]; exact HP9.out) (by show WrdAt _ _ _ _ (doMm (getI mv s.i) s.pad s.mem); rw [← HX.out]; exact HM9.out) (by show _ = some (Obj.cells (semA (fun q => s.sem q + dlS (getI mv s.i) q)) _ _); rw [← HX.out, sem_same HD3.out]; exact (HW9.out.2.2 sg (Array.getElem?_eq_some_iff.1 HRU.out.sem).1 (fun e => by have := HSN.out; omega)).trans HRU.out.sem)⟩
                case measure => simp only [sLen13]; omega
        | false =>
          cases gb : goI mk s.j s.sem with
          | true =>
            go_upto_region 12 with (first | (refine wpl_load_g rfl 41 _ rfl sg rfl 41 (semA s.sem) (0, 0) _ (HSF.out _ HBc.out) Tryz.underlying41 rfl sem_info ?_) | (go_at_call_of 16 (Value.slice A n cA); refine (goes13_any A n cA (mv.drop s.i) s.sem _ (HR.out.a.below HBc.out) HSA.out).mono ?_; rintro e wn ⟨rfl, hbn⟩; rw [goI_drop, ga]; have HBc := hide (Below.on HBc.out hbn); clear hbn; (try clear z0 z1 z2 z3 z4 z5 z6 z7 z8 z9 z10 z11 z12 z13 z14 z15 zs)) | (go_at_call_of 16 (Value.slice B m cB); refine (goes13_any B m cB (mk.drop s.j) s.sem _ (HR.out.b.below HBc.out) HSB.out).mono ?_; rintro e wn ⟨rfl, hbn⟩; rw [goI_drop, gb]; have HBc := hide (Below.on HBc.out hbn); clear hbn; (try clear z0 z1 z2 z3 z4 z5 z6 z7 z8 z9 z10 z11 z12 z13 z14 z15 zs)))
            go_upto_region 16 with (first | (refine wpl_load_g rfl 41 _ rfl sg rfl 41 (semA s.sem) (0, 0) _ (HSF.out _ HBc.out) Tryz.underlying41 rfl sem_info ?_) | (go_at_call_of 16 (Value.slice A n cA); refine (goes13_any A n cA (mv.drop s.i) s.sem _ (HR.out.a.below HBc.out) HSA.out).mono ?_; rintro e wn ⟨rfl, hbn⟩; rw [goI_drop, ga]; have HBc := hide (Below.on HBc.out hbn); clear hbn; (try clear z0 z1 z2 z3 z4 z5 z6 z7 z8 z9 z10 z11 z12 z13 z14 z15 zs)) | (go_at_call_of 16 (Value.slice B m cB); refine (goes13_any B m cB (mk.drop s.j) s.sem _ (HR.out.b.below HBc.out) HSB.out).mono ?_; rintro e wn ⟨rfl, hbn⟩; rw [goI_drop, gb]; have HBc := hide (Below.on HBc.out hbn); clear hbn; (try clear z0 z1 z2 z3 z4 z5 z6 z7 z8 z9 z10 z11 z12 z13 z14 z15 zs)))
            have hn0 : 0 < m := by have h8 := go_lt gb; have h9 := HBL.out; omega
            obtain ⟨ab, ao, hA0, hat⟩ := (HR.out.b.below HBc.out).2.2.resolve_left (by omega)
            obtain ⟨x0, x1, x2, x3, x4, x5⟩ := hat 0 hn0
            obtain ⟨x, hx⟩ : ∃ x, x = getI mk s.j := ⟨_, rfl⟩
            rw [show (mk.drop s.j)[0]?.getD inD = x by rw [hx, List.getElem?_drop, Nat.add_zero]; rfl] at x0 x1 x2 x3 x4 x5
            simp only [Nat.zero_mul, Nat.add_zero] at x0 x1 x2 x3 x4 x5
            have hAC := HR.out.bc
            have HAT := hide hA0
            have HX := hide hx
            clear hat hx hA0
            obtain ⟨V2, hV2⟩ : ∃ V, V = wn.alloc (.cells #[.int .i64 0, .int .i64 0, .int .i64 0, .int .i64 0, .int .i64 0, .int .i64 0] 50) := ⟨_, rfl⟩
            obtain ⟨xb, hxb⟩ : ∃ b, b = wn.heap.size := ⟨_, rfl⟩
            have hb2 : Below wn.heap.size wn V2 := by rw [hV2]; exact bl_new _
            have hXB : V2.heap[xb]? = some (.cells #[.int .i64 0, .int .i64 0, .int .i64 0, .int .i64 0, .int .i64 0, .int .i64 0] 50 (0, 0)) := by rw [hV2, hxb]; exact World.alloc_heap_new _ _
            have hxl : wr.heap.size ≤ xb := by rw [hxb]; exact HBc.out.size
            have xz := lt_of_cell x0
            simp only at xz
            have x0 := (hb2.cell (p := ⟨ab, ao, none⟩) xz).trans x0
            have x1 := (hb2.cell (p := ⟨ab, ao + 1, none⟩) xz).trans x1
            have x2 := (hb2.cell (p := ⟨ab, ao + 2, none⟩) xz).trans x2
            have x3 := (hb2.cell (p := ⟨ab, ao + 3, none⟩) xz).trans x3
            have x4 := (hb2.cell (p := ⟨ab, ao + 4, none⟩) xz).trans x4
            have x5 := (hb2.cell (p := ⟨ab, ao + 5, none⟩) xz).trans x5
            have xz : ab < V2.heap.size := Nat.lt_of_lt_of_le xz hb2.size
            have HB2 := hide (Below.on HBc.out hb2)
            have HXBk := hide hXB
            have HV2 := hide hV2
            have HXE := hide hxb
            clear hV2 hxb hb2 hXB
            (try clear z0 z1 z2 z3 z4 z5 z6 z7 z8 z9 z10 z11 z12 z13 z14 z15 zs)
            go_upto_region 19 with fail
            rw [← HV2.out, ← HXE.out, HAT.out]
            go_cut [13] from 37 to 102 (fun v12 wd => ∃ A' : Option Addr, v12 = .slice A' (m - 1) (cB - 1) ∧ (0 < m - 1 → A' = some ⟨ab, ao + 6, none⟩) ∧ InB wd xb x.d x.a x.b x.c x.n x.v ∧ Below wr.heap.size wr wd)
            case first =>
              have y0 : V2.cell? ⟨xb, 0, none⟩ = some (.int .i64 0) := by simp only [World.cell?, HXBk.out]; rfl
              have y1 : V2.cell? ⟨xb, 1, none⟩ = some (.int .i64 0) := by simp only [World.cell?, HXBk.out]; rfl
              have y2 : V2.cell? ⟨xb, 2, none⟩ = some (.int .i64 0) := by simp only [World.cell?, HXBk.out]; rfl
              have y3 : V2.cell? ⟨xb, 3, none⟩ = some (.int .i64 0) := by simp only [World.cell?, HXBk.out]; rfl
              have y4 : V2.cell? ⟨xb, 4, none⟩ = some (.int .i64 0) := by simp only [World.cell?, HXBk.out]; rfl
              have y5 : V2.cell? ⟨xb, 5, none⟩ = some (.int .i64 0) := by simp only [World.cell?, HXBk.out]; rfl
              have yf : ∀ q, V2.frozen? ⟨xb, q, none⟩ = false := fun q => by simp [World.frozen?, HXBk.out]
              have tz := (Array.getElem?_eq_some_iff.1 HXBk.out).1
              have hxa : ab ≠ xb := fun e => by have h9 := HR.out.far ab ao (.inr ⟨HAT.out, hn0⟩); have := HBV2.out.size; have := HR.out.w.2.1; omega
              have q1 : (0 : Int) < (m : Int) := by omega
              have hc2 : (1 : Int) ≤ (cB : Int) := by omega
              have hn2 : (1 : Int) ≤ (m : Int) := by omega
              obtain ⟨U, hU⟩ : ∃ U, U = (((((V2.setCell ⟨xb, 0, none⟩ (.int .i64 x.d)).setCell ⟨xb, 1, none⟩ (.int .i64 x.a)).setCell ⟨xb, 2, none⟩ (.int .i64 x.b)).setCell ⟨xb, 3, none⟩ (.int .i64 x.c)).setCell ⟨xb, 4, none⟩ (.int .i64 x.n)).setCell ⟨xb, 5, none⟩ (.int .i64 x.v) := ⟨_, rfl⟩
              have hIB : InB U xb x.d x.a x.b x.c x.n x.v := by unfold InB; rw [hU]; simp [World.setCell, Array.getElem?_modify, HXBk.out]
              have hBU : Below wr.heap.size wr U := by
                rw [hU]
                exact (((((HB2.out.setCell hxl _).setCell hxl _).setCell hxl _).setCell hxl _).setCell hxl _).setCell hxl _
              have HU := hide hU
              have HIB := hide hIB
              have HBU := hide hBU
              clear hU hIB hBU
              by_cases hc1 : cB = 1
              · have hn1 : m = 1 := by omega
                go_region
                go_wp2
                go_meet
                refine ⟨_, by rw [hc1, hn1], fun h => by omega, ?_, ?_⟩
                · rw [← HU.out]
                  exact HIB.out.below ⟨rfl, rfl, rfl, Nat.le_refl _, fun _ _ => rfl⟩
                · rw [← HU.out]
                  exact Below.on HBU.out ⟨rfl, rfl, rfl, Nat.le_refl _, fun _ _ => rfl⟩
              · go_region
                go_wp2
                go_meet
                refine ⟨_, rfl, fun _ => rfl, ?_, ?_⟩
                · rw [← HU.out]
                  exact HIB.out.below ⟨rfl, rfl, rfl, Nat.le_refl _, fun _ _ => rfl⟩
                · rw [← HU.out]
                  exact Below.on HBU.out ⟨rfl, rfl, rfl, Nat.le_refl _, fun _ _ => rfl⟩
            case rest =>
              obtain ⟨A', rfl, hA', hIB, hBU⟩ := hcut
              have HRU := hide (HR.out.below hBU)
              have HWU := hide (WrB.of (F := fun b => b = GP ∨ b = gm ∨ b = sg) hBU)
              obtain ⟨i0, i1, i2, i3, i4, i5⟩ := hIB.cells
              have zi := hIB.lt
              clear hIB hBU x0 x1 x2 x3 x4 x5 xz
              obtain ⟨U, hUU⟩ : ∃ U, U = wc := ⟨_, rfl⟩
              rw [← hUU] at HRU HWU i0 i1 i2 i3 i4 i5 zi ⊢
              clear hUU
              have hxg := HSN.out
              by_cases h3 : x.d = 3
              · obtain ⟨q0, q9⟩ := ins_sem (HOK.out.b s.j (go_lt gb)) (by rw [← HX.out]; exact .inl h3)
                rw [← HX.out] at q0 q9
                obtain ⟨qa, hqa⟩ : ∃ k : Nat, x.a = (k : Int) := ⟨x.a.toNat, by omega⟩
                have q16 : qa < 16 := by omega
                have hbd := HR.out.i.bd HOK.out.lv HOK.out.lk (qa : Int)
                have sc : U.cell? ⟨sg, qa, none⟩ = some (.int .i64 (s.sem (qa : Int))) := by
                  simp only [World.cell?, HRU.out.sem]
                  exact semA_at s.sem qa q16
                have sf : ∀ k, U.frozen? ⟨sg, k, none⟩ = false := fun k => by simp [World.frozen?, HRU.out.sem]
                have sz := (Array.getElem?_eq_some_iff.1 HRU.out.sem).1
                obtain ⟨sv, hsv⟩ : ∃ v, v = s.sem (qa : Int) := ⟨_, rfl⟩
                rw [← hsv] at sc hbd
                have q2 : (0 : Int) ≤ (qa : Int) := by omega
                have q3 : (qa : Int) < 16 := by omega
                rw [h3] at i0
                rw [hqa] at i1
                have HQA := hide hqa
                have HSV := hide hsv
                have HD := hide h3
                clear hqa hsv h3 q0 q9 hxg
                go_wp2_with fail
                go_roundw
                case rel => exact ⟨t, stB mk s, A, n, cA, A', m - 1, cB - 1, rfl, rfl, by first | rfl | go_num, HR.out.stepB HOK.out.oneWay gb (.inr ⟨ga, rfl⟩) HAT.out hA' (HWU.out.set (.inr (.inr rfl)) _) ⟨n1, n2, HSN.out.2.2, Nat.le_trans HBV2.out.size HR.out.w.2.1⟩ (by show WrdAt _ _ _ _ (doP (getI mk s.j) s.pad s.mem); rw [← HX.out, (st_quiet (.inl HD.out) _ _).1]; exact HRU.out.p.keep (fun _ => Below.heap_setCell _ _ _ _ (by have := HSN.out; simp only; omega))) (by show WrdAt _ _ _ _ (doMm (getI mk s.j) s.pad s.mem); rw [← HX.out, (st_quiet (.inl HD.out) _ _).2]; exact HRU.out.y.keep (fun _ => Below.heap_setCell _ _ _ _ (by have := HSN.out; simp only; omega))) (by show _ = some (Obj.cells (semA (fun q => s.sem q + dlS (getI mk s.j) q)) _ _); rw [← HX.out, sem_step (.inl HD.out) s.sem HQA.out]; have h9 := sem_put HRU.out.sem q16 (sv + 1); rw [HSV.out] at h9 ⊢; rw [if_pos HD.out]; exact h9)⟩
                case measure => simp only [sLen13]; omega
              by_cases h4 : x.d = 4
              · obtain ⟨q0, q9⟩ := ins_sem (HOK.out.b s.j (go_lt gb)) (by rw [← HX.out]; exact .inr h4)
                rw [← HX.out] at q0 q9
                obtain ⟨qa, hqa⟩ : ∃ k : Nat, x.a = (k : Int) := ⟨x.a.toNat, by omega⟩
                have q16 : qa < 16 := by omega
                have hbd := HR.out.i.bd HOK.out.lv HOK.out.lk (qa : Int)
                have sc : U.cell? ⟨sg, qa, none⟩ = some (.int .i64 (s.sem (qa : Int))) := by
                  simp only [World.cell?, HRU.out.sem]
                  exact semA_at s.sem qa q16
                have sf : ∀ k, U.frozen? ⟨sg, k, none⟩ = false := fun k => by simp [World.frozen?, HRU.out.sem]
                have sz := (Array.getElem?_eq_some_iff.1 HRU.out.sem).1
                obtain ⟨sv, hsv⟩ : ∃ v, v = s.sem (qa : Int) := ⟨_, rfl⟩
                rw [← hsv] at sc hbd
                have q2 : (0 : Int) ≤ (qa : Int) := by omega
                have q3 : (qa : Int) < 16 := by omega
                rw [h4] at i0
                rw [hqa] at i1
                have HQA := hide hqa
                have HSV := hide hsv
                have HD := hide h4
                clear hqa hsv h4 q0 q9 hxg h3
                go_wp2_with fail
                go_roundw
                case rel => exact ⟨t, stB mk s, A, n, cA, A', m - 1, cB - 1, rfl, rfl, by first | rfl | go_num, HR.out.stepB HOK.out.oneWay gb (.inr ⟨ga, rfl⟩) HAT.out hA' (HWU.out.set (.inr (.inr rfl)) _) ⟨n1, n2, HSN.out.2.2, Nat.le_trans HBV2.out.size HR.out.w.2.1⟩ (by show WrdAt _ _ _ _ (doP (getI mk s.j) s.pad s.mem); rw [← HX.out, (st_quiet (.inr HD.out) _ _).1]; exact HRU.out.p.keep (fun _ => Below.heap_setCell _ _ _ _ (by have := HSN.out; simp only; omega))) (by show WrdAt _ _ _ _ (doMm (getI mk s.j) s.pad s.mem); rw [← HX.out, (st_quiet (.inr HD.out) _ _).2]; exact HRU.out.y.keep (fun _ => Below.heap_setCell _ _ _ _ (by have := HSN.out; simp only; omega))) (by show _ = some (Obj.cells (semA (fun q => s.sem q + dlS (getI mk s.j) q)) _ _); rw [← HX.out, sem_step (.inr HD.out) s.sem HQA.out]; have h9 := sem_put HRU.out.sem q16 (sv - 1); rw [HSV.out] at h9 ⊢; rw [if_neg (by rw [HD.out]; decide)]; exact h9)⟩
                case measure => simp only [sLen13]; omega
              · have b3 : (x.d == 3) = false := by simpa using h3
                have b4 : (x.d == 4) = false := by simpa using h4
                have hins : insE (P : Int) (M : Int) false x = 0 := by rw [HX.out]; exact HOK.out.b s.j (go_lt gb)
                have hdo := rdo13_at x GP P GM M mC gm s.pad s.mem U HRU.out.p HRU.out.y hne false hins ⟨h3, h4⟩ hP4 hM4
                clear hins
                have HDO := hide hdo
                clear hdo
                have HD3 := hide (show x.d ≠ 3 ∧ x.d ≠ 4 from ⟨h3, h4⟩)
                clear h3 h4 hxg
                go_wp2_with (go_at_call 17; refine HDO.out.mono ?_; rintro e w9 ⟨rfl, hp9, hm9, hw9⟩; have HP9 := hide hp9; have HM9 := hide hm9; have HW9 := hide hw9; clear hp9 hm9 hw9)
                go_roundw
                case rel => exact ⟨t, stB mk s, A, n, cA, A', m - 1, cB - 1, rfl, rfl, by first | rfl | go_num, HR.out.stepB HOK.out.oneWay gb (.inr ⟨ga, rfl⟩) HAT.out hA' (HWU.out.trans (HW9.out.mono fun b e => by rcases e with e | e <;> first | exact .inl e | exact .inr (.inl e))) ⟨n1, n2, HSN.out.2.2, Nat.le_trans HBV2.out.size HR.out.w.2.1⟩ (by show WrdAt _ _ _ _ (doP (getI mk s.j) s.pad s.mem); rw [← HX.out]; exact HP9.out) (by show WrdAt _ _ _ _ (doMm (getI mk s.j) s.pad s.mem); rw [← HX.out]; exact HM9.out) (by show _ = some (Obj.cells (semA (fun q => s.sem q + dlS (getI mk s.j) q)) _ _); rw [← HX.out, sem_same HD3.out]; exact (HW9.out.2.2 sg (Array.getElem?_eq_some_iff.1 HRU.out.sem).1 (fun e => by have := HSN.out; omega)).trans HRU.out.sem)⟩
                case measure => simp only [sLen13]; omega
          | false =>
            have hs : s = lastM mv mk ps ms := by have h9 := HR.out.r; rw [run_stop ga gb] at h9; exact h9
            have hsi := HR.out.i.i
            have hsj := HR.out.i.j
            have hal := HAL.out
            have hbl := HBL.out
            have HS := hide hs
            have hbd := BdM.run HVM.out HVK.out (mv.length + mk.length) 0 (macO ms) (ps := ps) ⟨fun q => by simp [macO, bd64], fun q => by
              unfold macO
              simp only
              split
              · cases e : ms[q.toNat]? with
                | none => simp [bd64]
                | some v => simp only [Option.getD_some]; exact HXB.out v (List.mem_of_getElem? e)
              · simp [bd64]⟩
            have HBD : Hid (BdM (lastM mv mk ps ms)) := hbd
            have hbwr : Below w.heap.size w wr := by
              have h9 := HBV2.out
              have h8 := HR.out.w
              have h7 := HSN.out
              exact h9.trans ⟨h8.1.1, h8.1.2.1, h8.1.2.2, h8.2.1, fun i hi => h8.2.2 i (by have := h9.size; omega) (fun e => by rcases e with e | e | e <;> omega)⟩
            have HBWR := hide hbwr
            clear hs hbd hbwr
            by_cases h9 : n = 0 ∧ m = 0
            · obtain ⟨hn0, hm0⟩ := h9
              have qn : ¬ ((0 : Int) < (n : Int)) := by omega
              have qm : ¬ ((0 : Int) < (m : Int)) := by omega
              have e1 : runE (P : Int) (M : Int) mv mk ps ms = 0 := by
                unfold runE endS
                rw [HCE.out, if_neg (by simp), if_neg (by rw [HXL.out]; simp), ← HS.out, decide_eq_true (show s.i = mv.length ∧ s.j = mk.length from ⟨by omega, by omega⟩)]
                rfl
              have e2 : runL (P : Int) (M : Int) mv mk ps ms = memL s.mem M := by
                unfold runL
                rw [e1, if_pos rfl, ← HS.out, HXL.out]
              obtain rfl : RE = 0 := HRE.out.trans e1
              obtain rfl : RL = memL s.mem M := HRL.out.trans e2
              clear HRE HRL e1 e2 hal hbl hsi hsj hn0 hm0
              go_wp2_with (first | (refine wpl_load_g rfl 41 _ rfl sg rfl 41 (semA s.sem) (0, 0) _ (HSF.out _ HBc.out) Tryz.underlying41 rfl sem_info ?_) | (go_at_call_of 16 (Value.slice A n cA); refine (goes13_any A n cA (mv.drop s.i) s.sem _ (HR.out.a.below HBc.out) HSA.out).mono ?_; rintro e wn ⟨rfl, hbn⟩; rw [goI_drop, ga]; have HBc := hide (Below.on HBc.out hbn); clear hbn; (try clear z0 z1 z2 z3 z4 z5 z6 z7 z8 z9 z10 z11 z12 z13 z14 z15 zs)) | (go_at_call_of 16 (Value.slice B m cB); refine (goes13_any B m cB (mk.drop s.j) s.sem _ (HR.out.b.below HBc.out) HSB.out).mono ?_; rintro e wn ⟨rfl, hbn⟩; rw [goI_drop, gb]; have HBc := hide (Below.on HBc.out hbn); clear hbn; (try clear z0 z1 z2 z3 z4 z5 z6 z7 z8 z9 z10 z11 z12 z13 z14 z15 zs)))
              refine bodyPost_ret (v := .tuple #[.slice (some ⟨GM, 0, none⟩) M mC, .int .i64 0]) (by simp [results, Tryz.results6, go_sem]) rfl ⟨⟨some ⟨GM, 0, none⟩, M, mC, rfl, ((HR.out.below HBc.out).y.memL (by rw [HS.out]; exact HBD.out.2) (by simp only; omega)), (HR.out.y.2.2)⟩, Below.on HBWR.out HBc.out⟩
            · have e1 : runE (P : Int) (M : Int) mv mk ps ms = 12 := by
                unfold runE endS
                rw [HCE.out, if_neg (by simp), if_neg (by rw [HXL.out]; simp), ← HS.out, decide_eq_false (show ¬ (s.i = mv.length ∧ s.j = mk.length) from fun e => h9 ⟨by omega, by omega⟩)]
                rfl
              have e2 : runL (P : Int) (M : Int) mv mk ps ms = [] := by
                unfold runL
                rw [e1, if_neg (by simp)]
              obtain rfl : RE = 12 := HRE.out.trans e1
              obtain rfl : RL = [] := HRL.out.trans e2
              clear HRE HRL e1 e2 hal hbl hsi hsj
              by_cases hn : n = 0
              · have hm0 : 0 < m := by omega
                have q1 : (0 : Int) < (m : Int) := by omega
                have qn : ¬ ((0 : Int) < (n : Int)) := by omega
                clear h9 hn hm0
                go_wp2_with (first | (refine wpl_load_g rfl 41 _ rfl sg rfl 41 (semA s.sem) (0, 0) _ (HSF.out _ HBc.out) Tryz.underlying41 rfl sem_info ?_) | (go_at_call_of 16 (Value.slice A n cA); refine (goes13_any A n cA (mv.drop s.i) s.sem _ (HR.out.a.below HBc.out) HSA.out).mono ?_; rintro e wn ⟨rfl, hbn⟩; rw [goI_drop, ga]; have HBc := hide (Below.on HBc.out hbn); clear hbn; (try clear z0 z1 z2 z3 z4 z5 z6 z7 z8 z9 z10 z11 z12 z13 z14 z15 zs)) | (go_at_call_of 16 (Value.slice B m cB); refine (goes13_any B m cB (mk.drop s.j) s.sem _ (HR.out.b.below HBc.out) HSB.out).mono ?_; rintro e wn ⟨rfl, hbn⟩; rw [goI_drop, gb]; have HBc := hide (Below.on HBc.out hbn); clear hbn; (try clear z0 z1 z2 z3 z4 z5 z6 z7 z8 z9 z10 z11 z12 z13 z14 z15 zs)))
                refine bodyPost_ret (v := .tuple #[.slice none 0 0, .int .i64 12]) (by simp [results, Tryz.results6, go_sem]) rfl ⟨⟨none, 0, 0, rfl, ⟨rfl, by omega, fun _ h => (by cases h), .inl rfl⟩, Nat.le_refl _⟩, Below.on HBWR.out HBc.out⟩
              · have q1 : (0 : Int) < (n : Int) := by omega
                clear h9
                go_wp2_with (first | (refine wpl_load_g rfl 41 _ rfl sg rfl 41 (semA s.sem) (0, 0) _ (HSF.out _ HBc.out) Tryz.underlying41 rfl sem_info ?_) | (go_at_call_of 16 (Value.slice A n cA); refine (goes13_any A n cA (mv.drop s.i) s.sem _ (HR.out.a.below HBc.out) HSA.out).mono ?_; rintro e wn ⟨rfl, hbn⟩; rw [goI_drop, ga]; have HBc := hide (Below.on HBc.out hbn); clear hbn; (try clear z0 z1 z2 z3 z4 z5 z6 z7 z8 z9 z10 z11 z12 z13 z14 z15 zs)) | (go_at_call_of 16 (Value.slice B m cB); refine (goes13_any B m cB (mk.drop s.j) s.sem _ (HR.out.b.below HBc.out) HSB.out).mono ?_; rintro e wn ⟨rfl, hbn⟩; rw [goI_drop, gb]; have HBc := hide (Below.on HBc.out hbn); clear hbn; (try clear z0 z1 z2 z3 z4 z5 z6 z7 z8 z9 z10 z11 z12 z13 z14 z15 zs)))
                refine bodyPost_ret (v := .tuple #[.slice none 0 0, .int .i64 12]) (by simp [results, Tryz.results6, go_sem]) rfl ⟨⟨none, 0, 0, rfl, ⟨rfl, by omega, fun _ h => (by cases h), .inl rfl⟩, Nat.le_refl _⟩, Below.on HBWR.out HBc.out⟩
  · have h1b : ((M : Int) != mem) = true := by simpa using h1
    have e1 : runE pad mem mv mk ps ms = 6 := by unfold runE; rw [HCE.out, if_neg (by simp), HXL.out, if_pos h1]
    have e2 : runL pad mem mv mk ps ms = [] := by unfold runL; rw [e1, if_neg (by simp)]
    obtain rfl : RE = 6 := HRE.out.trans e1
    obtain rfl : RL = [] := HRL.out.trans e2
    clear HRE HRL
    clear h1 e1 e2 hok hce
    go_wp2_with fail
    refine bodyPost_ret (v := .tuple #[.slice none 0 0, .int .i64 6]) (by simp [results, Tryz.results6, go_sem]) rfl ⟨⟨none, 0, 0, rfl, ⟨rfl, by omega, fun _ h => (by cases h), .inl rfl⟩, Nat.le_refl _⟩, HB3.out⟩
end Go.Proofs.YtoabffmiedbkkaaGreat.V
