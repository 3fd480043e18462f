/-
  The reader: chain.
-/
import Derived.Test.YtadhlnlcdljamaaGreatDoorTxSev
import Derived.Deep.RegionWith
import Derived.RegionDies
namespace Go.Proofs.YtadhlnlcdljamaaGreatDoor.V
set_option maxRecDepth 20000
open Go.RowKit

abbrev z7 : Array Value := #[.int .i64 0, .string ⟨#[]⟩, .int .i64 0, .bool false, .slice none 0 0, .slice none 0 0, .slice none 0 0]
abbrev SevZ (w : World) (b : Nat) : Prop := SevAt w b (.int .i64 0) (.string ⟨#[]⟩) (.int .i64 0) (.bool false) (.slice none 0 0) (.slice none 0 0) (.slice none 0 0)

theorem grown_drew (w : World) (row : Option Nat) : w.grownBy w.drew row := ⟨rfl, rfl, rfl, Nat.le_refl _, fun _ _ _ => rfl⟩
theorem SevAt.drew {w : World} {b : Nat} {c0 c1 c2 c3 c4 c5 c6 : Value} (h : SevAt w b c0 c1 c2 c3 c4 c5 c6) : SevAt w.drew b c0 c1 c2 c3 c4 c5 c6 := h

theorem SliceV.none {α : Type} (p : World → (Nat → Prop) → α → List Value → Prop) (w : World) (S : Nat → Prop) (A : Option Addr) (c : Nat) : SliceV p w S [] (.slice A 0 c) := ⟨[], RowV.nil _ _ _ _, rfl⟩
theorem cell_of_block {w : World} {K : Nat} {cs : List Value} {ty : TypeId} (hb : w.heap[K]? = some (.cells cs.toArray ty (0, 0))) (j : Nat) : w.cell? ⟨K, j, none⟩ = cs[j]? := by
  unfold World.cell?
  rw [show w.heap[(⟨K, j, none⟩ : Addr).block]? = some (.cells cs.toArray ty (0, 0)) from hb]
  simp
/-- A tree of two kids that lie side by side. -/
theorem TreeV.twoKids {w : World} {S : Nat → Prop} {k nu : Int} {nm : ByteArray} {t1 t2 : Tr} {cs1 cs2 : List Value} {K : Nat} {ty : TypeId} (h1 : TreeV w S t1 cs1) (h2 : TreeV w S t2 cs2) (hK : S K) (hb : w.heap[K]? = some (.cells (cs1 ++ cs2).toArray ty (0, 0))) :
    TreeV w S (.mk k nm nu false [] [] [t1, t2]) [.int .i64 k, .string nm, .int .i64 nu, .bool false, .slice none 0 0, .slice none 0 0, .slice (some ⟨K, 0, none⟩) 2 2] := by
  rw [TreeV.iff]
  refine ⟨_, _, _, rfl, SliceV.none _ _ _ _ _, SliceV.none _ _ _ _ _, cs1 ++ cs2, ⟨_, 2, rfl, Nat.le_refl _, .inr ⟨K, rfl, hK, (Array.getElem?_eq_some_iff.1 hb).1, fun j _ => cell_of_block hb j⟩⟩, cs1, cs2, rfl, h1, cs2, [], by simp, h2, rfl⟩

set_option maxRecDepth 100000 in
set_option maxHeartbeats 8000000 in
theorem tChain {X : Tks} {R G c : Nat} {w : World} {i : Nat} (P : Nat → Res Tr) (sg : ByteArray → Bool) (SF : FuncId) (PF : FuncId) (cap : Array Value)
    (hcs : ∀ (args : Array Value) (w : World), (callFunc SF args).run Tryz.prog w = .ok (.enter SF args) w) (hcp : ∀ (args : Array Value) (w : World), (callFunc PF args).run Tryz.prog w = .ok (.enter PF args) w)
    (hsg : ∀ (s : ByteArray) (W : World), Calls Tryz.prog SF #[.string s] W fun e W' => e = .returned (.bool (sg s)) ∧ W' = W) (hlt : ∀ j, sg (X.tx j) = true → j < X.ts.length)
    (hP : ∀ W j, RdAt X R G c W j → w.grownBy W (some R) → Calls Tryz.prog PF cap W (Parsed X R G c (repT W) (P j) W))
    (h : RdAt X R G c w i) :
    Calls Tryz.prog 67 #[.pointer (some ⟨R, 0, none⟩), .func (Fn.func SF) #[] #[], .func (Fn.func PF) #[] cap] w (Parsed X R G c (repT w) (chainS X P sg i) w) := by
  have HSG := hide hsg
  have HLT := hide hlt
  have HP := hide hP
  have HR := hide h
  have hf0 := field_text
  have HRR := hide h.ltR
  have HGG := hide h.lt
  clear hsg hlt hP h
  unfold chainS
  have HA := hide (World.grownBy_alloc w (.cells z7 47) (some R))
  have HP1 := hide (HP.out _ i (HR.out.alloc (.cells z7 47)) HA.out)
  cases hp : P i with
  | bad T k =>
    rw [hp] at HP1
    unfold Parsed thrown faultV at *
    simp only [Res.bind_bad]
    go_enter Tryz.func67, Tryz.ntmps67
    go_wp2_with (refine HP1.out.mono ?_; rintro e w1 ⟨hg, rfl⟩; have HG := hide hg; clear hg)
    exact ⟨rfl, HA.out.then' HG.out, rfl⟩
  | ok t i1 =>
    rw [hp] at HP1
    simp only [Res.bind_ok]
    obtain ⟨r0, hr0⟩ : ∃ r0, r0 = chainL X P sg 64 i1 t := ⟨_, rfl⟩
    rw [← hr0]
    have HR0 := hide hr0
    clear hr0
    go_enter Tryz.func67, Tryz.ntmps67
    go_wp2_with (refine HP1.out.mono ?_; rintro e w1 ⟨hg, hr1, v, rfl, tk, tn, tu, ts, A, n, m, A', n', m', A'', n'', m'', rfl, htr⟩; have HG := hide hg; have HR1 := hide hr1; have HT1 := hide htr; clear hg hr1 htr)
    have HD1 : Hid (SevZ w1 w.heap.size) := (SevAt.new w _ _ _ _ _ _ _).grown HG.out (by have := HRR.out; simp; omega)
    have hs1 : w.heap.size + 1 ≤ w1.heap.size := by have := HG.out.size; simpa using this
    go_loopw [8] (fun v wr => ∃ (f j : Nat) (t : Tr) (k : Int) (nm : ByteArray) (nu : Int) (sh : Bool) (A : Option Addr) (n m : Nat) (A' : Option Addr) (n' m' : Nat) (A'' : Option Addr) (n'' m'' : Nat),
      (v = .int .i64 ((64 - f : Nat) : Int) ∧ f ≤ 64) ∧ RdAt X R G c wr j ∧ w.grownBy wr (some R) ∧ r0 = chainL X P sg f j t ∧ SevZ wr w.heap.size ∧
      SevAt wr w1.heap.size (.int .i64 k) (.string nm) (.int .i64 nu) (.bool sh) (.slice A n m) (.slice A' n' m') (.slice A'' n'' m'') ∧
      TreeV wr (fun b => from_ w b ∧ b ≠ w.heap.size ∧ b ≠ w1.heap.size) t [.int .i64 k, .string nm, .int .i64 nu, .bool sh, .slice A n m, .slice A' n' m', .slice A'' n'' m'']) (fun v _ => 65 - (intOf v).toNat)
    case atStart =>
      refine ⟨64, i1, t, tk, tn, tu, ts, A, n, m, A', n', m', A'', n'', m'', ⟨rfl, Nat.le_refl _⟩, HR1.out.alloc _, (HA.out.then' HG.out).then' (World.grownBy_alloc _ _ _), HR0.out, HD1.out.alloc _, SevAt.new w1 _ _ _ _ _ _ _, ?_⟩
      refine TreeV.stays.keep (TreeV.stays.weaken HT1.out ?_) (Keep.alloc _ _)
      intro b hb hf
      have : w.heap.size + 1 ≤ b := by simpa [from_] using hf
      exact ⟨by unfold from_; omega, by omega, by omega⟩
    case round =>
      obtain ⟨f, j, t', k, nm, nu, sh, B, n1, m1, B', n1', m1', B'', n1'', m1'', ⟨rfl, hf⟩, hR, hG, hsl, hD, hT, hV⟩ := hrel
      have HR2 := hide hR
      have HG2 := hide hG
      have HD2 := hide hD
      have HT2 := hide hT
      have HV2 := hide hV
      obtain ⟨q0, q1, q2, q3, q4, q5, q6⟩ := hT.cells
      clear hR hG hD hT hV HR1 HT1 HD1 HG
      cases hb : sg (X.tx j) with
      | false =>
        have hsl' : r0 = .ok t' j := by
          cases f with
          | zero => rw [hsl, chainL, if_neg (by rw [hb]; simp)]
          | succ f => rw [hsl, chainL, if_neg (by rw [hb]; simp)]
        have HSL := hide hsl'
        clear hsl hsl'
        go_wp2_with (first
          | (go_at_call 64; refine (tNext HR2.out).mono ?_; rintro e w3 ⟨rfl, hb3⟩; have HB3 := hide hb3; obtain ⟨q0, q1, q2, q3, q4, q5, q6⟩ := (HT2.out.below hb3).cells; obtain ⟨f0, f1, f2, f3, f4, f5, f6⟩ := (HD2.out.below hb3).frozen; obtain ⟨p0, p1, p2, p3, p4, p5, p6⟩ := (HD2.out.below hb3).cells; clear hb3)
          | (refine (HSG.out _ _).mono ?_; rw [hb]; rintro e w4 ⟨rfl, hw4⟩; obtain rfl := hw4.symm; clear hw4))
        have HJ := hide ((HD2.out.below HB3.out).put (.int .i64 k) (.string nm) (.int .i64 nu) (.bool sh) (.slice B n1 m1) (.slice B' n1' m1') (.slice B'' n1'' m1''))
        have HO := hide (SevAt.out w3 w.heap.size (.int .i64 k) (.string nm) (.int .i64 nu) (.bool sh) (.slice B n1 m1) (.slice B' n1' m1') (.slice B'' n1'' m1''))
        obtain ⟨u0, u1, u2, u3, u4, u5, u6⟩ := HJ.out.cells
        obtain ⟨wf, hwf⟩ : ∃ wf, wf = (((((((w3.setCell ⟨w.heap.size, 0, none⟩ (.int .i64 k)).setCell ⟨w.heap.size, 1, none⟩ (.string nm)).setCell ⟨w.heap.size, 2, none⟩ (.int .i64 nu)).setCell ⟨w.heap.size, 3, none⟩ (.bool sh)).setCell ⟨w.heap.size, 4, none⟩ (.slice B n1 m1)).setCell ⟨w.heap.size, 5, none⟩ (.slice B' n1' m1')).setCell ⟨w.heap.size, 6, none⟩ (.slice B'' n1'' m1'')) := ⟨_, rfl⟩
        rw [← hwf] at HO u0 u1 u2 u3 u4 u5 u6 ⊢
        clear hwf
        refine bodyPost_ret (v := .agg #[.int .i64 k, .string nm, .int .i64 nu, .bool sh, .slice B n1 m1, .slice B' n1' m1', .slice B'' n1'' m1'']) (by simp [results, Tryz.results67, go_sem, u0, u1, u2, u3, u4, u5, u6]) rfl ?_
        rw [HSL.out]
        have hr1 := HRR.out
        have hr2 := HGG.out
        refine ⟨(HG2.out.then' (HB3.out.by _)).onto HO.out (fun g e => by cases e; exact Nat.le_refl _), (HR2.out.below HB3.out).grown HO.out (by simp; omega) (by simp; omega), _, rfl, k, nm, nu, sh, B, n1, m1, B', n1', m1', B'', n1'', m1'', rfl, ?_⟩
        exact TreeV.stays.weaken (TreeV.stays.keep (TreeV.stays.keep HV2.out (Keep.of_below HB3.out)) (Keep.of_grown HO.out (fun b hb _ => by simpa using hb.2.1))) (fun _ _ h => h.1)
      | true =>
        have hjl := HLT.out j hb
        have hxl := HR2.out.len
        cases f with
        | zero =>
          have HSL : Hid (r0 = .bad 5 (X.ps j)) := by rw [Hid, hsl, chainL, if_pos hb]
          clear hsl
          go_wp2_with (first
            | (go_at_call 64; refine (tNext HR2.out).mono ?_; rintro e w3 ⟨rfl, hb3⟩; have HB3 := hide hb3; clear hb3)
            | (go_at_call 52; refine (tBad (HR2.out.below HB3.out) 5).mono ?_; unfold thrown faultV; rintro e w5 ⟨rfl, hb5⟩; have HB5 := hide hb5; clear hb5)
            | (refine (HSG.out _ _).mono ?_; rw [hb]; rintro e w4 ⟨rfl, hw4⟩; obtain rfl := hw4.symm; clear hw4))
          refine ⟨rfl, ?_⟩
          rw [HSL.out]
          exact ⟨(HG2.out.then' (HB3.out.by _)).then' (HB5.out.by _), rfl⟩
        | succ f =>
          have HSL : Hid (r0 = (P (j + 1)).bind fun b j' => chainL X P sg f j' (.two (X.tx j) t' b)) := by rw [Hid, hsl, chainL, if_pos hb]
          have hne : ((64 - (f + 1) : Nat) : Int) ≠ 64 := by omega
          have HTK : Hid (takeS X sg j = .ok (X.tx j) (j + 1)) := if_pos hb
          clear hsl
          go_wp2_with (first
            | (go_at_call 64; refine (tNext HR2.out).mono ?_; rintro e w3 ⟨rfl, hb3⟩; have HB3 := hide hb3; clear hb3)
            | (go_at_call 53; refine (tTake (HR2.out.below HB3.out) sg SF hcs (fun W => HSG.out _ W) (HLT.out j)).mono ?_; rw [HTK.out]; rintro e w5 ⟨hg5, hr5, v5, rfl, hv5⟩; unfold repS at hv5; subst hv5; have HR5 := hide hr5; have HG5 := hide ((HB3.out.by _).then' hg5); clear hg5 hr5)
            | (refine (HSG.out _ _).mono ?_; rw [hb]; rintro e w4 ⟨rfl, hw4⟩; obtain rfl := hw4.symm; clear hw4))
          have HT5 := hide (HT2.out.grown HG5.out (by have := HRR.out; simp; omega))
          have HD5 := hide (HD2.out.grown HG5.out (by have := HRR.out; simp; omega))
          have HP5 := hide (HP.out w5.drew (j + 1) (HR5.out.grown (grown_drew _ none) (by simp) (by simp)) ((HG2.out.then' HG5.out).then' (grown_drew _ _)))
          obtain ⟨q0, q1, q2, q3, q4, q5, q6⟩ := HT5.out.cells
          cases hp2 : P (j + 1) with
          | bad T k2 =>
            rw [hp2] at HP5 HSL
            go_region_dies
            all_goals
              refine HP5.out.mono ?_
              unfold Parsed thrown faultV
              rintro e w6 ⟨hg6, rfl⟩
              refine ⟨rfl, ?_⟩
              rw [HSL.out, Res.bind_bad]
              exact ⟨((HG2.out.then' HG5.out).then' (grown_drew _ _)).then' hg6, rfl⟩
          | ok b2 j2 =>
            rw [hp2] at HP5 HSL
            go_region_with (refine HP5.out.mono ?_; rintro e w6 ⟨hg6, hr6, v6, rfl, k6, nm6, nu6, sh6, C, n6, m6, C', n6', m6', C'', n6'', m6'', rfl, htr⟩; have HG6 := hide hg6; have HR6 := hide hr6; have HV6 := hide htr; have HT6 := hide (HT5.out.drew.grown hg6 (by have := HRR.out; simp; omega)); obtain ⟨q0, q1, q2, q3, q4, q5, q6⟩ := HT6.out.cells; obtain ⟨f0, f1, f2, f3, f4, f5, f6⟩ := HT6.out.frozen; have h6 := HT6.out.lt; clear hg6 hr6 htr)
            all_goals
              go_wp2
              have HE := hide (SevAt.out w6 w1.heap.size (.int .i64 4) (.string (X.tx j)) (.int .i64 0) (.bool false) (.slice none 0 0) (.slice none 0 0) (.slice (some ⟨w6.heap.size, 0, none⟩) 2 2))
              have HTE := hide (HT6.out.put (.int .i64 4) (.string (X.tx j)) (.int .i64 0) (.bool false) (.slice none 0 0) (.slice none 0 0) (.slice (some ⟨w6.heap.size, 0, none⟩) 2 2))
              have HGA := hide (((HG2.out.then' HG5.out).then' (grown_drew _ _)).then' HG6.out)
              have HDE := hide ((HD5.out.drew.grown HG6.out (by have := HRR.out; simp; omega)).grown HE.out (by simp; omega))
              have hs5 := HT5.out.lt
              have hs6 := HG6.out.size
              have hr1 := HRR.out
              have hr2 := HGG.out
              have HRE := hide (HR6.out.grown HE.out (by simp; omega) (by simp; omega))
              have HGE := hide (HGA.out.onto HE.out (fun g e => by cases e; omega))
              have HK2 := hide (TreeV.stays.keep (TreeV.stays.keep (TreeV.stays.keep HV2.out (Keep.of_grown HG5.out (fun b hb _ => by have : w.heap.size ≤ b := hb.1; simp; omega))) (Keep.of_grown ((grown_drew w5 (some R)).then' HG6.out) (fun b hb _ => by have : w.heap.size ≤ b := hb.1; simp; omega))) (Keep.of_grown HE.out (fun b hb _ => by simpa using hb.2.2)))
              have HK6 := hide (TreeV.stays.keep (TreeV.stays.weaken (S' := fun b => from_ w b ∧ b ≠ w.heap.size ∧ b ≠ w1.heap.size) HV6.out (fun b _ hb => by have : w5.heap.size ≤ b := hb; have := HD5.out.lt; exact ⟨by unfold from_; omega, by omega, by omega⟩)) (Keep.of_grown HE.out (fun b hb _ => by simpa using hb.2.2)))
              have hEs : ((((((((w6.setCell ⟨w1.heap.size, 0, none⟩ (.int .i64 4)).setCell ⟨w1.heap.size, 1, none⟩ (.string (X.tx j))).setCell ⟨w1.heap.size, 2, none⟩ (.int .i64 0)).setCell ⟨w1.heap.size, 3, none⟩ (.bool false)).setCell ⟨w1.heap.size, 4, none⟩ (.slice none 0 0)).setCell ⟨w1.heap.size, 5, none⟩ (.slice none 0 0)).setCell ⟨w1.heap.size, 6, none⟩ (.slice (some ⟨w6.heap.size, 0, none⟩) 2 2))).heap.size = w6.heap.size := by simp [World.setCell]
              obtain ⟨wE, hwE⟩ : ∃ wE, wE = (((((((w6.setCell ⟨w1.heap.size, 0, none⟩ (.int .i64 4)).setCell ⟨w1.heap.size, 1, none⟩ (.string (X.tx j))).setCell ⟨w1.heap.size, 2, none⟩ (.int .i64 0)).setCell ⟨w1.heap.size, 3, none⟩ (.bool false)).setCell ⟨w1.heap.size, 4, none⟩ (.slice none 0 0)).setCell ⟨w1.heap.size, 5, none⟩ (.slice none 0 0)).setCell ⟨w1.heap.size, 6, none⟩ (.slice (some ⟨w6.heap.size, 0, none⟩) 2 2)) := ⟨_, rfl⟩
              rw [← hwE] at HE HTE HDE HRE HGE HK2 HK6 hEs ⊢
              clear hwE
              go_roundw
              case rel =>
                refine ⟨f, j2, .two (X.tx j) t' b2, 4, X.tx j, 0, false, none, 0, 0, none, 0, 0, some ⟨w6.heap.size, 0, none⟩, 2, 2, ⟨by go_num, by omega⟩, HRE.out.alloc _, HGE.out.then' (World.grownBy_alloc _ _ _), HSL.out, HDE.out.alloc _, HTE.out.alloc _, ?_⟩
                refine TreeV.twoKids (TreeV.stays.keep HK2.out (Keep.alloc _ _)) (TreeV.stays.keep HK6.out (Keep.alloc _ _)) ⟨by unfold from_; omega, by omega, by omega⟩ (ty := 47) ?_
                rw [← hEs]
                exact World.alloc_heap_new wE _
              case measure => simp [intOf]; omega
end Go.Proofs.YtadhlnlcdljamaaGreatDoor.V
