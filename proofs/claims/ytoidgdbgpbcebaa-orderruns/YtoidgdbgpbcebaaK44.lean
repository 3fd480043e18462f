/-
  Contract: the document's Run. The document's Run: its contract.
-/
import Derived.Test.YtoidgdbgpbcebaaK42
import Derived.Test.YtoidgdbgpbcebaaK43
import Derived.Test.YtoidgdbgpbcebaaK35
import Derived.Test.YtoidgdbgpbcebaaK11
import Derived.Deep.DeepCutAuto
import Derived.Deep.CutRange
namespace Go.Proofs.Ytoidgdbgpbcebaa.V
open Go.RowKit
set_option linter.unusedVariables false

theorem append_int {w : World} {ops : Array Oper} {rest : List Oper} {op : Oper} {a : Act} {Q : Exit → Act → World → Prop} (hgd : op.guard = none) (s x : Operand)
    (ho : op.op = .call { callee := .builtin .append, args := #[s, x], argTypes := #[22, 22] }) (B : Nat)
    (v : Value) (xs : List Int) (hs : a.eval s = v) (n : Int) (hown : w.ownsRow B 3 1 v xs.length (xs.map (Value.int .i64)))
    (hx : a.eval x = .slice (some ⟨w.heap.size, 0, none⟩) 1 1) (hl : xs.length ≤ 2000) (hB : B ≤ w.heap.size)
    (h : ∀ v' w', w'.ownsRow B 3 1 v' (xs.length + 1) ((xs ++ [n]).map (Value.int .i64)) → Below B w w' → wpList Try.prog ops Q rest (a.put op.dst v') w') :
    wpList Try.prog ops Q (op :: rest) a (w.alloc (.cells #[.int .i64 n] 3)) := by
  obtain ⟨i0, hi, hz0, hz1, hz2⟩ := info_parts info_int
  have hown' := hown.alloc (.cells #[.int .i64 n] 3)
  refine wpList_append_own _ hgd s x 22 ho B 3 i0 (.int .i64 0) 1 8 Try.underlying22 hi hz0 hz1 hz2 rfl (by decide) v xs.length _ hs hown' ⟨w.heap.size, 0, none⟩ 1 1 [.int .i64 n] hx rfl ?_ ?_ (by unfold maxLen; omega) (by omega) (by simp; omega) (fun v' w' k1 k2 _ => h v' w' (by rw [List.map_append]; exact k1) ?_)
  · intro j u hj
    have hjl : j = 0 := by have := (List.getElem?_eq_some_iff.1 hj).1; simp at this; exact this
    subst hjl
    simp at hj
    rw [← hj, Go.WideShapes.add_plain]
    show (w.alloc (.cells #[.int .i64 n] 3)).cell? ⟨w.heap.size, 0 + 0, none⟩ = _
    unfold World.cell?
    rw [World.alloc_heap_new w (.cells #[.int .i64 n] 3)]
    rfl
  · intro u hu; simp at hu; subst hu; rfl
  · exact ((Below.refl B w).alloc hB _).grown k2 (by simp; omega) (fun j e => (hown.lt j e).1)
/-- A list of the call's own that has one number alone. -/
theorem ownI_one (w : World) (B : Nat) (h : B ≤ w.heap.size) (n : Int) : (w.alloc (.cells #[.int .i64 n] 3)).ownsRow B 3 1 (.slice (some ⟨w.heap.size, 0, none⟩) 1 1) 1 [.int .i64 n] :=
  ⟨rfl, .inr ⟨w.heap.size, 1, _, rfl, h, World.alloc_heap_new w _, Nat.le_refl _, by unfold maxLen; omega, rfl, rfl⟩⟩
/-- What such a list is, in words. -/
theorem own_words {w : World} {B n : Nat} {v : Value} {xs : List Value} (h : w.ownsRow B 3 1 v n xs) : ∃ X cap, v = .slice X n cap ∧ n ≤ cap ∧ (0 < n → ∃ g, X = some ⟨g, 0, none⟩ ∧ ∀ j, j < n → w.cell? ⟨g, j, none⟩ = xs[j]?) := by
  obtain ⟨h0, h⟩ := h
  rcases h with ⟨rfl, rfl⟩ | ⟨g, cap, cur, rfl, _, hb, hc, _, hs, ht⟩
  · exact ⟨none, 0, rfl, Nat.le_refl _, fun h => by omega⟩
  · refine ⟨some ⟨g, 0, none⟩, cap, rfl, hc, fun _ => ⟨g, rfl, fun j hj => ?_⟩⟩
    rw [← ht]
    simp [World.cell?, hb, hj]
theorem minI_one (f : Nat → Nat → Int) : minI f (0 + 1) = [0] := by
  unfold minI
  simp [List.range_succ, befB_irr]
theorem emod_tmod (y n : Int) (h : 0 < n) : y % n = if y.tmod n < 0 then y.tmod n + n else y.tmod n := by
  rw [Int.tmod_eq_emod]
  have h1 := Int.emod_nonneg y (show n ≠ 0 by omega)
  have h2 := Int.emod_lt_of_pos y h
  split <;> split <;> omega
def natV (l : List Nat) : List Int := l.map (fun i : Nat => (i : Int))
def sliceL : Value → Nat
  | .slice _ n _ => n
  | _ => 0
set_option maxRecDepth 100000 in
set_option maxHeartbeats 16000000 in
theorem rORun_ok (za : Option Addr) (zl zc : Nat) (zs : List Int) (ta : Option Addr) (tl tc : Nat) (ss : List Stm) (ma : Option Addr) (ml mc : Nat) (T : Tms) (a : Option Addr) (len cap : Nat) (L : Mem) (xa : Option Addr) (xl xc : Nat) (mix : List Int) (w : World) (hz : Ints w za zl zs) (hs : Stms w ta tl ss) (hT : TimesA w ma ml T) (hA : MemA w a len L) (hb24 : len * 24 ≤ 140737488355328) (hx : Ints w xa xl mix) (hE : ordRunE zs ss T L = 0) :
    Calls Try.prog 9 #[.agg #[.slice za zl zc, .slice ta tl tc], .slice ma ml mc, .slice a len cap, .slice xa xl xc] w fun e w' => (∃ A n c, e = .returned (.tuple #[.slice A n c, .int .i64 0]) ∧ MemA w' A n ((playL T mix (spK ss ss.length).length 0 (spK ss ss.length)).foldl (spM ss) L)) ∧ Below w.heap.size w w' := by
  have c1 : rightE zs ss T = 0 := by
    unfold ordRunE at hE
    by_cases h : rightE zs ss T ≠ 0
    · rw [if_pos h] at hE; exact absurd hE h
    · simpa using h
  have c2 : fitsE zs L = 0 := by unfold ordRunE at hE; rw [if_neg (by simpa using c1)] at hE; exact hE
  have hR := rightE_ok c1
  have hok := nestE_ok hR.ord.nest
  obtain ⟨f1, f2⟩ := fits_ok c2
  have hsm := fits_small c2 hok.sizes
  have hml : ml = ss.length := by have := hT.1; have := hR.ord.len; omega
  have B1 : Below w.heap.size w (w.alloc (.cells #[.slice za zl zc, .slice ta tl tc] 25)) := bl_new _
  have P0 := NsBlk.new w za zl zc ta tl tc
  obtain ⟨p0, p1⟩ := P0.cells
  have HW := hide (rRight_any za zl zc zs ta tl tc ss ma ml mc T _ (hz.below B1) (hs.below B1) (hT.below B1))
  have HF := hide (fun W (hb : Below w.heap.size w W) => rFits_any za zl zc zs (.slice ta tl tc) a len cap L W (hz.below hb) (hA.below hb))
  have HB := hide B1
  have HP := hide P0
  have h256 : tl ≤ 256 := by have := hok.many; have := hs.1; omega
  have HCO := hide (fun W (hb : Below w.heap.size w W) => (rCopy_any a len cap L W (hA.below hb) hb24 hsm))
  have HSP := hide (fun W (hb : Below w.heap.size w W) => rSpots_cap (.slice za zl zc) ta tl tc ss W (hs.below hb) h256 (fun s h => ptE_ok (hok.stms s h).pt))
  have HTM := hide (fun (V : World) (hb : Below w.heap.size w V) (sp : Nat × List Int) (h : SpOk ss T sp) (ya : Option Addr) (yl yc : Nat) (hy : Ints V ya yl sp.2) => rTime_sp (zs := zs) ma ml mc sp ya yl yc V hml (hT.below hb) h hy)
  have HZ := hide hz
  have HS := hide hs
  have HX := hide hx
  have hm1 := hz.2.1
  have hm3 := hs.2.1
  have hm4 := hx.2.1
  have HL := hide hA.1
  have HSL := hide hs.1
  have HZL := hide hz.1
  have HXL := hide hx.1
  have C1 := hide c1
  have C2 := hide c2
  have HOK := hide hok
  have HRO := hide hR
  have F2 := hide f2
  have hfew := hR.few
  rw [hs.1] at hfew
  rw [hs.1]
  have hlz : len = zl := by have := hA.1; have := hz.1; omega
  obtain rfl := hlz
  have HLM := hide hA.2.1
  clear hz hs hT hx hA hE c1 c2 hok f1 f2 hsm B1 P0 hR hml
  go_enter Try.func9, Try.ntmps9
  go_wp2_with (first | (go_at_call 22; refine HW.out.mono ?_; rintro e w1 ⟨rfl, hb⟩; rw [C1.out]; have HB1 := hide (bl_on HB.out hb); have P1 := HP.out.below hb; obtain ⟨p0, p1⟩ := P1.cells; have zP := P1.lt; have HP1 := hide P1; clear hb P1) | (go_at_call 23; refine (HF.out w1 HB1.out).mono ?_; rintro e w2 ⟨rfl, hb⟩; rw [C2.out]; have HB2 := hide (bl_on HB1.out hb); have P2 := HP1.out.below hb; obtain ⟨p0, p1⟩ := P2.cells; have zP := P2.lt; have HP2 := hide P2; clear hb P2) | (go_at_call 24; refine (HCO.out w2 HB2.out).mono ?_; rintro e w3 ⟨⟨A, c, rfl, hc, G, C, hM⟩, hb⟩; have HM3 := hide hM; have HB3 := hide (bl_on HB2.out hb); have P3 := HP2.out.below hb; obtain ⟨p0, p1⟩ := P3.cells; have zP := P3.lt; have HP3 := hide P3; clear hb P3 hM) | (go_at_call 25; refine (HSP.out w3 HB3.out).mono ?_; rintro e w4 ⟨⟨A2, c4, rfl, hc4, hS⟩, hb⟩; have HS4 := hide hS; have HM4 := hide (HM3.out.below hb); have HB4 := hide (bl_on HB3.out hb); have P4 := HP3.out.below hb; obtain ⟨p0, p1⟩ := P4.cells; have zP := P4.lt; have HP4 := hide P4; clear hb P4 hS))
  have hsz3 := HB2.out.size
  have HMW : Hid (Mems w4 w.heap.size A G C L) := ⟨HM4.out.head, HM4.out.rows, HM4.out.apart, fun k hk => Nat.le_trans hsz3 (HM4.out.lo k hk), HM4.out.bd, HM4.out.small⟩
  obtain ⟨S, hS⟩ : ∃ S, S = spK ss tl := ⟨_, rfl⟩
  have HSO := hide (fun (sp : Spn) (h : sp ∈ S) => sp_ok HRO.out (show sp ∈ spK ss ss.length by rw [HSL.out, ← hS]; exact h))
  rw [← hS] at hfew HS4 hc4
  rw [← hS]
  have HSE := hide hS
  clear p0 p1 HW HF HCO HSP HM3 HM4 hS zP hsz3
  go_loopw [13, 14] (fun v13 v14 wr => ∃ (k : Nat) (l dn : List Spn) (A3 : Option Addr) (c3 : Nat), l.length + k = S.length ∧ v13 = .slice A3 l.length c3 ∧ l.length ≤ c3 ∧ v14 = .int .i64 (if mix = [] then 0 else (k : Int)) ∧ SP wr A3 l.length l ∧ Mems wr w.heap.size A G C (dn.foldl (spM ss) L) ∧ dn ++ playL T mix l.length k l = playL T mix S.length 0 S ∧ (∀ sp ∈ l, sp ∈ S) ∧ Below w.heap.size w wr ∧ NsBlk wr w.heap.size za len zc ta tl tc) (fun v13 _ _ => sliceL v13)
  case atStart => exact ⟨0, S, [], A2, c4, rfl, rfl, hc4, by simp, HS4.out, HMW.out, by simp, fun _ h => h, HB4.out, HP4.out⟩
  case round =>
    clear HMW HS4 HP4 HB4 hc4
    obtain ⟨k, l, dn, A3, c3, hlk, rfl, hc3, rfl, hSP, hM, hpl, hin, hB, hP⟩ := hrel
    have HM := hide hM
    have HBr := hide hB
    have HPr := hide hP
    have HSr := hide hSP
    have HPL := hide hpl
    have HIN := hide hin
    have HLK := hide hlk
    clear hM hB hP hSP hpl hin
    obtain ⟨n, hn⟩ : ∃ n, n = l.length := ⟨_, rfl⟩
    rw [← hn] at hlk hc3 HSr HPL
    rw [← hn]
    have HN := hide hn
    have hn1 : n ≤ 1024 := by omega
    obtain ⟨tv, htv⟩ : ∃ tv : Int, tv = if mix = [] then 0 else (k : Int) := ⟨_, rfl⟩
    rw [← htv]
    have HTV := hide htv
    have hkb : k ≤ 1024 := by omega
    clear hlk hn htv
    by_cases hn0 : n = 0
    · subst hn0
      have hm := HM.out
      have hp := HPL.out
      simp only [playL, List.append_nil] at hp
      rw [hp] at hm
      have HMF := hide (hm.memA (by rw [(spM_arr_len ss _ L).2]; exact HL.out) HLM.out)
      clear hm hp
      go_wp2_with fail
      go_ret2
      exact ⟨⟨A, _, c, rfl, by rw [← HSE.out]; exact HMF.out⟩, HBr.out⟩
    have hnp : 0 < n := by omega
    clear hn0
    obtain ⟨f, hf⟩ : ∃ f : Nat → Nat → Int, f = fun i => spT T (l[i]?.getD spD) := ⟨_, rfl⟩
    have HFF := hide hf
    clear hf
    go_wp2_with fail
    obtain ⟨V0, hV0⟩ : ∃ V0, V0 = wr := ⟨_, rfl⟩
    obtain rfl := hV0
    go_loopw [15, 41] (fun v15 v41 wr2 => ∃ q : Nat, q ≤ n ∧ v41 = .int .i64 q ∧ wr2.ownsRow V0.heap.size 3 1 v15 (natV (minI f q)).length ((natV (minI f q)).map (Value.int .i64)) ∧ Below V0.heap.size V0 wr2) (fun _ i _ => n - (intOf i).toNat)
    case atStart => exact ⟨0, Nat.zero_le _, rfl, by rw [minI_zero]; exact World.ownsRow_nil _ _ _ _, Below.refl _ _⟩
    case round =>
      obtain ⟨q, hq, rfl, hown, hB⟩ := hrel
      have HOWN := hide hown
      have HBi := hide hB
      have hml : (natV (minI f q)).length ≤ q := by unfold natV; rw [List.length_map]; exact minI_le f q
      clear hown hB
      by_cases hlt : q < n
      · have hql : q < l.length := by rw [← HN.out]; exact hlt
        have HSQ := hide (HSO.out (l[q]?.getD spD) (HIN.out _ (by simp [hql])))
        have HFQ : Hid (f q = spT T (l[q]?.getD spD)) := by rw [HFF.out]; exact rfl
        obtain ⟨sb, so, rfl, hat⟩ := (HSr.out.below HBi.out).at2 hnp
        obtain ⟨ya, yl, yc, y1, y2, y3, y4⟩ := hat q hlt
        have zy := lt_of_cell y1
        simp only at zy
        have HY := hide y3.1
        obtain ⟨b, hbq⟩ : ∃ b, b = l[q]?.getD spD := ⟨_, rfl⟩
        rw [← hbq] at y1 HY HSQ HFQ
        obtain ⟨bi, bx⟩ := b
        simp only at y1 HY
        obtain ⟨X, cp, hv, hcp, hcl⟩ := own_words HOWN.out
        obtain ⟨nl, hnl⟩ : ∃ nl, nl = (natV (minI f q)).length := ⟨_, rfl⟩
        rw [← hnl] at hv hcp hcl hml
        subst hv
        have HNL := hide hnl
        obtain ⟨w6, hw6⟩ : ∃ w6, w6 = wr.alloc (.cells #[.int .i64 (bi : Int), .slice ya yl yc] 36) := ⟨_, rfl⟩
        have B6 : Below wr.heap.size wr w6 := by rw [hw6]; exact bl_new _
        have P6 : SpBlk w6 wr.heap.size bi ya yl yc := by rw [hw6]; exact World.alloc_heap_new _ _
        have HW6 := hide hw6
        have HB6 := hide B6
        have HB60 := hide (bl_on HBr.out (bl_on HBi.out B6))
        have HP6 := hide P6
        have HY6 := hide (HY.out.below B6)
        have HT1 := hide (fun (V : World) (hb : Below w6.heap.size w6 V) => HTM.out V (bl_on HB60.out hb) (bi, bx) HSQ.out ya yl yc (HY6.out.below hb))
        simp only at HT1
        rw [← HFQ.out] at HT1
        have HAT := hide hat
        have HCL := hide hcl
        clear y3 y4 hbq hw6 B6 P6 hnl hat hcl hql
        go_wp2_with fail
        rw [← HW6.out]
        clear y1 y2 zy
        obtain ⟨B17, hB17⟩ : ∃ B17, B17 = wr.heap.size := ⟨_, rfl⟩
        rw [← hB17] at HP6
        rw [← hB17]
        clear hB17 HW6
        obtain ⟨s0, s1⟩ := HP6.out.cells
        have zs := HP6.out.lt
        obtain ⟨m, hm⟩ : ∃ m, m = (minI f q)[0]?.getD 0 := ⟨_, rfl⟩
        have HMM := hide hm
        clear hm
        go_cut [41, 62] from 41 to 81 (fun v41 v62 wc => v41 = .int .i64 (q : Int) ∧ v62 = .bool (decide (q = 0) || befB (f q) (f m)) ∧ Below w6.heap.size w6 wc)
        case first =>
          by_cases hq0 : q = 0
          · have hnl0 : nl = 0 := by omega
            have qn : ((nl : Int) == 0) = true := by simp [hnl0]
            have HQ0 := hide hq0
            clear hq0 hnl0
            refine region_madeG 17 18 [fIs (.slice X nl cp), fIs (.int .i64 (nl : Int)), fIs (.bool true), fIs (.bool true), fIs undef, fIs undef, fIs undef, fIs undef, fIs undef, fIs undef, fIs undef, fIs undef, fIs undef, fIs undef, fIs undef, fIs undef, fIs (.bool true)] [none, none, none, some true, none, none, none, none, none, none, none, none, none, none, none, none, none] [true, true, true, true, false, false, false, false, false, false, false, false, false, false, false, false, true] (by kernel_rfl) (by kernel_rfl) (by kernel_rfl) (fun ch p q w3 e h => by obtain ⟨t1, d1⟩ := p; obtain ⟨t2, d2⟩ := q; cases e; exact h) ⟨fIs_good _, fIs_good _, fIs_good _, fIs_good _, fIs_good _, fIs_good _, fIs_good _, fIs_good _, fIs_good _, fIs_good _, fIs_good _, fIs_good _, fIs_good _, fIs_good _, fIs_good _, fIs_good _, fIs_good _, trivial⟩ ⟨fun _ _ h => h, rfl⟩ ?mkRA ?restRA
            case mkRA =>
              refine ⟨fun u wz hb hd => ?_, fun u wz hb hd => ?_, fun u wz hb hd => ?_, fun u wz hb hd => ?_, ⟨fun _ => rfl, rfl⟩, ⟨fun _ => rfl, rfl⟩, ⟨fun _ => rfl, rfl⟩, ⟨fun _ => rfl, rfl⟩, ⟨fun _ => rfl, rfl⟩, ⟨fun _ => rfl, rfl⟩, ⟨fun _ => rfl, rfl⟩, ⟨fun _ => rfl, rfl⟩, ⟨fun _ => rfl, rfl⟩, ⟨fun _ => rfl, rfl⟩, ⟨fun _ => rfl, rfl⟩, ⟨fun _ => rfl, rfl⟩, fun u wz hb hd => ?_, trivial⟩
              all_goals simp only [Act.put, List.setIfInBounds_toArray, List.set_cons_zero, List.set_cons_succ]
              · go_simp
                exact ⟨rfl, Below.refl _ _, fun h => by cases h⟩
              · have e0 : u 0 = .slice X nl cp := hd 0 (by omega) (by kernel_rfl)
                rw [e0]
                go_simp
                exact ⟨rfl, Below.refl _ _, fun h => by cases h⟩
              · have e1 : u 1 = .int .i64 (nl : Int) := hd 1 (by omega) (by kernel_rfl)
                rw [e1]
                go_simp
                exact ⟨rfl, Below.refl _ _, fun h => by cases h⟩
              · have e2 : u 2 = .bool true := hd 2 (by omega) (by kernel_rfl)
                rw [e2]
                go_simp
                exact ⟨rfl, Below.refl _ _, fun h => by cases h⟩
              · have e3 : u 3 = .bool true := hd 3 (by omega) (by kernel_rfl)
                rw [e3]
                go_simp
                exact ⟨rfl, Below.refl _ _, fun h => by cases h⟩
            case restRA =>
              intro u wz hb hf hp
              have f0 : u 0 = .slice X nl cp := hf 0 (by omega)
              have f1 : u 1 = .int .i64 (nl : Int) := hf 1 (by omega)
              have f2 : u 2 = .bool true := hf 2 (by omega)
              have f3 : u 3 = .bool true := hf 3 (by omega)
              have f4 : u 4 = undef := hf 4 (by omega)
              have f5 : u 5 = undef := hf 5 (by omega)
              have f6 : u 6 = undef := hf 6 (by omega)
              have f7 : u 7 = undef := hf 7 (by omega)
              have f8 : u 8 = undef := hf 8 (by omega)
              have f9 : u 9 = undef := hf 9 (by omega)
              have f10 : u 10 = undef := hf 10 (by omega)
              have f11 : u 11 = undef := hf 11 (by omega)
              have f12 : u 12 = undef := hf 12 (by omega)
              have f13 : u 13 = undef := hf 13 (by omega)
              have f14 : u 14 = undef := hf 14 (by omega)
              have f15 : u 15 = undef := hf 15 (by omega)
              have f16 : u 16 = .bool true := hf 16 (by omega)
              refine UptoW.rest 0 17 (by rfl) (by kernel_rfl) ?_
              simp only [List.take, List.drop, putOps, Act.put, List.setIfInBounds_toArray, List.set_cons_zero, List.set_cons_succ, Nat.reduceAdd, f0, f1, f2, f3, f4, f5, f6, f7, f8, f9, f10, f11, f12, f13, f14, f15, f16]
              clear f0 f1 f2 f3 f4 f5 f6 f7 f8 f9 f10 f11 f12 f13 f14 f15 f16 hf hp
              have HC3 := hide hb
              clear hb
              go_wp2_with fail
              go_meet
              exact ⟨rfl, by simp [HQ0.out], HC3.out⟩
          · have HQ0 := hide hq0
            have hmm : m ∈ minI f q := by
              rw [HMM.out]
              have := minI_pos f (show 0 < q by omega)
              simp [List.getElem?_eq_getElem this]
            have hmq := (minI_mem.1 hmm).1
            have hnlp : 0 < nl := by rw [HNL.out]; unfold natV; rw [List.length_map]; exact minI_pos f (by omega)
            obtain ⟨g, rfl, hc0⟩ := HCL.out hnlp
            have hg0 := hc0 0 hnlp
            have hgm : ((natV (minI f q)).map (Value.int .i64))[0]? = some (.int .i64 (m : Int)) := by
              rw [HMM.out]
              have := minI_pos f (show 0 < q by omega)
              simp [natV, List.getElem?_eq_getElem this]
            rw [hgm] at hg0
            have hg := (HB6.out.cell (p := ⟨g, 0, none⟩) (lt_of_cell hg0)).trans hg0
            have zg := lt_of_cell hg
            simp only at zg
            obtain ⟨pa, pl, pc, x1', x2', x3, x4⟩ := HAT.out m (by omega)
            have hml2 : m < l.length := by rw [← HN.out]; omega
            have HSM := hide (HSO.out (l[m]?.getD spD) (HIN.out _ (by simp [hml2])))
            have HFM : Hid (f m = spT T (l[m]?.getD spD)) := by rw [HFF.out]; exact rfl
            obtain ⟨aa, haq⟩ : ∃ aa, aa = l[m]?.getD spD := ⟨_, rfl⟩
            rw [← haq] at x1' x3 HSM HFM
            obtain ⟨ai, ax⟩ := aa
            simp only at x1' x3
            have x1 := (HB6.out.cell (p := ⟨sb, so + m * 2, none⟩) (lt_of_cell x1')).trans x1'
            have x2 := (HB6.out.cell (p := ⟨sb, so + m * 2 + 1, none⟩) (lt_of_cell x2')).trans x2'
            have zx := lt_of_cell x1
            simp only at zx
            have HX6 := hide (x3.1.below HB6.out)
            have HT2 := hide (fun (V : World) (hb : Below w6.heap.size w6 V) => HTM.out V (bl_on HB60.out hb) (ai, ax) HSM.out pa pl pc (HX6.out.below hb))
            simp only at HT2
            rw [← HFM.out] at HT2
            have hmn : m < n := by omega
            have qn : ((nl : Int) == 0) = false := by simp; omega
            clear x1' x2' x3 x4 haq hml2 hmm hgm hg0 hc0 hq0
            refine region_madeG 17 18 [fIs (.slice (some ⟨g, 0, none⟩) nl cp), fIs (.int .i64 (nl : Int)), fIs (.bool false), fIs (.bool false), fIs (.slice ma ml mc), fIs (.agg #[.int .i64 (bi : Int), .slice ya yl yc]), fIs (arr8 (f q)), fIs (.slice ma ml mc), fIs (.slice (some ⟨sb, so, none⟩) n c3), fIs (.slice (some ⟨g, 0, none⟩) nl cp), fIs (.pointer (some ⟨g, 0, none⟩)), fIs (.int .i64 (m : Int)), fIs (.pointer (some ⟨sb, so + m * 2, none⟩)), fIs (.agg #[.int .i64 (ai : Int), .slice pa pl pc]), fIs (arr8 (f m)), fIs (.bool (befB (f q) (f m))), fIs (.bool (befB (f q) (f m)))] [none, none, none, some false, none, none, none, none, none, none, none, none, none, none, none, none, none] [true, true, true, true, true, true, true, true, true, true, true, true, true, true, true, true, true] (by kernel_rfl) (by kernel_rfl) (by kernel_rfl) (fun ch p q w3 e h => by obtain ⟨t1, d1⟩ := p; obtain ⟨t2, d2⟩ := q; cases e; exact h) ⟨fIs_good _, fIs_good _, fIs_good _, fIs_good _, fIs_good _, fIs_good _, fIs_good _, fIs_good _, fIs_good _, fIs_good _, fIs_good _, fIs_good _, fIs_good _, fIs_good _, fIs_good _, fIs_good _, fIs_good _, trivial⟩ ⟨fun _ _ h => h, rfl⟩ ?mkRB ?restRB
            case mkRB =>
              refine ⟨fun u wz hb hd => ?_, fun u wz hb hd => ?_, fun u wz hb hd => ?_, fun u wz hb hd => ?_, fun u wz hb hd => ?_, fun u wz hb hd => ?_, fun u wz hb hd => ?_, fun u wz hb hd => ?_, fun u wz hb hd => ?_, fun u wz hb hd => ?_, fun u wz hb hd => ?_, fun u wz hb hd => ?_, fun u wz hb hd => ?_, fun u wz hb hd => ?_, fun u wz hb hd => ?_, fun u wz hb hd => ?_, fun u wz hb hd => ?_, trivial⟩
              all_goals simp only [Act.put, List.setIfInBounds_toArray, List.set_cons_zero, List.set_cons_succ]
              · go_simp
                exact ⟨rfl, Below.refl _ _, fun h => by cases h⟩
              · have e0 : u 0 = .slice (some ⟨g, 0, none⟩) nl cp := hd 0 (by omega) (by kernel_rfl)
                rw [e0]
                go_simp
                exact ⟨rfl, Below.refl _ _, fun h => by cases h⟩
              · have e1 : u 1 = .int .i64 (nl : Int) := hd 1 (by omega) (by kernel_rfl)
                rw [e1]
                go_simp
                exact ⟨rfl, Below.refl _ _, fun h => by cases h⟩
              · have e2 : u 2 = .bool false := hd 2 (by omega) (by kernel_rfl)
                rw [e2]
                go_simp
                exact ⟨rfl, Below.refl _ _, fun h => by cases h⟩
              · go_simp
                exact ⟨rfl, Below.refl _ _, fun h => by cases h⟩
              · have s0' := (hb.cell (p := ⟨B17, 0, none⟩) (lt_of_cell s0)).trans s0
                have s1' := (hb.cell (p := ⟨B17, 1, none⟩) (lt_of_cell s1)).trans s1
                go_simp
                exact ⟨rfl, Below.refl _ _, fun h => by cases h⟩
              · have e4 : u 4 = .slice ma ml mc := hd 4 (by omega) (by kernel_rfl)
                have e5 : u 5 = .agg #[.int .i64 (bi : Int), .slice ya yl yc] := hd 5 (by omega) (by kernel_rfl)
                rw [e4, e5]
                go_simp
                refine (HT1.out wz hb).mono ?_
                rintro e w2 ⟨rfl, hb2⟩
                exact ⟨rfl, hb2, fun h => by cases h⟩
              · go_simp
                exact ⟨rfl, Below.refl _ _, fun h => by cases h⟩
              · go_simp
                exact ⟨rfl, Below.refl _ _, fun h => by cases h⟩
              · go_simp
                exact ⟨rfl, Below.refl _ _, fun h => by cases h⟩
              · have e9 : u 9 = .slice (some ⟨g, 0, none⟩) nl cp := hd 9 (by omega) (by kernel_rfl)
                rw [e9]
                go_simp
                exact ⟨rfl, Below.refl _ _, fun h => by cases h⟩
              · have e10 : u 10 = .pointer (some ⟨g, 0, none⟩) := hd 10 (by omega) (by kernel_rfl)
                rw [e10]
                have hg' := (hb.cell (p := ⟨g, 0, none⟩) (lt_of_cell hg)).trans hg
                go_simp
                exact ⟨rfl, Below.refl _ _, fun h => by cases h⟩
              · have e8 : u 8 = .slice (some ⟨sb, so, none⟩) n c3 := hd 8 (by omega) (by kernel_rfl)
                have e11 : u 11 = .int .i64 (m : Int) := hd 11 (by omega) (by kernel_rfl)
                rw [e8, e11]
                go_simp
                exact ⟨rfl, Below.refl _ _, fun h => by cases h⟩
              · have e12 : u 12 = .pointer (some ⟨sb, so + m * 2, none⟩) := hd 12 (by omega) (by kernel_rfl)
                rw [e12]
                have x1' := (hb.cell (p := ⟨sb, so + m * 2, none⟩) (lt_of_cell x1)).trans x1
                have x2' := (hb.cell (p := ⟨sb, so + m * 2 + 1, none⟩) (lt_of_cell x2)).trans x2
                go_simp
                exact ⟨rfl, Below.refl _ _, fun h => by cases h⟩
              · have e7 : u 7 = .slice ma ml mc := hd 7 (by omega) (by kernel_rfl)
                have e13 : u 13 = .agg #[.int .i64 (ai : Int), .slice pa pl pc] := hd 13 (by omega) (by kernel_rfl)
                rw [e7, e13]
                go_simp
                refine (HT2.out wz hb).mono ?_
                rintro e w2 ⟨rfl, hb2⟩
                exact ⟨rfl, hb2, fun h => by cases h⟩
              · have e6 : u 6 = arr8 (f q) := hd 6 (by omega) (by kernel_rfl)
                have e14 : u 14 = arr8 (f m) := hd 14 (by omega) (by kernel_rfl)
                rw [e6, e14]
                go_simp
                refine (rBefore_any (f q) (f m) wz).mono ?_
                rintro e w2 ⟨rfl, hb2⟩
                exact ⟨rfl, hb2, fun h => by cases h⟩
              · have e3 : u 3 = .bool false := hd 3 (by omega) (by kernel_rfl)
                have e15 : u 15 = .bool (befB (f q) (f m)) := hd 15 (by omega) (by kernel_rfl)
                rw [e3, e15]
                go_simp
                exact ⟨rfl, Below.refl _ _, fun h => by cases h⟩
            case restRB =>
              intro u wz hb hf hp
              have f0 : u 0 = .slice (some ⟨g, 0, none⟩) nl cp := hf 0 (by omega)
              have f1 : u 1 = .int .i64 (nl : Int) := hf 1 (by omega)
              have f2 : u 2 = .bool false := hf 2 (by omega)
              have f3 : u 3 = .bool false := hf 3 (by omega)
              have f4 : u 4 = .slice ma ml mc := hf 4 (by omega)
              have f5 : u 5 = .agg #[.int .i64 (bi : Int), .slice ya yl yc] := hf 5 (by omega)
              have f6 : u 6 = arr8 (f q) := hf 6 (by omega)
              have f7 : u 7 = .slice ma ml mc := hf 7 (by omega)
              have f8 : u 8 = .slice (some ⟨sb, so, none⟩) n c3 := hf 8 (by omega)
              have f9 : u 9 = .slice (some ⟨g, 0, none⟩) nl cp := hf 9 (by omega)
              have f10 : u 10 = .pointer (some ⟨g, 0, none⟩) := hf 10 (by omega)
              have f11 : u 11 = .int .i64 (m : Int) := hf 11 (by omega)
              have f12 : u 12 = .pointer (some ⟨sb, so + m * 2, none⟩) := hf 12 (by omega)
              have f13 : u 13 = .agg #[.int .i64 (ai : Int), .slice pa pl pc] := hf 13 (by omega)
              have f14 : u 14 = arr8 (f m) := hf 14 (by omega)
              have f15 : u 15 = .bool (befB (f q) (f m)) := hf 15 (by omega)
              have f16 : u 16 = .bool (befB (f q) (f m)) := hf 16 (by omega)
              refine UptoW.rest 0 17 (by rfl) (by kernel_rfl) ?_
              simp only [List.take, List.drop, putOps, Act.put, List.setIfInBounds_toArray, List.set_cons_zero, List.set_cons_succ, Nat.reduceAdd, f0, f1, f2, f3, f4, f5, f6, f7, f8, f9, f10, f11, f12, f13, f14, f15, f16]
              clear f0 f1 f2 f3 f4 f5 f6 f7 f8 f9 f10 f11 f12 f13 f14 f15 f16 hf hp
              have HC3 := hide hb
              clear hb
              go_wp2_with fail
              go_meet
              exact ⟨rfl, by simp [HQ0.out], HC3.out⟩
        case rest =>
          obtain ⟨rfl, rfl, hb⟩ := hcut
          obtain ⟨V1, hV1⟩ : ∃ V1, V1 = wc := ⟨_, rfl⟩
          obtain rfl := hV1
          have HBc := hide hb
          have HPc := hide (HP6.out.below hb)
          clear hb s0 s1 zs
          obtain ⟨s0, s1⟩ := HPc.out.cells
          have zs := HPc.out.lt
          have hsz0 : V0.heap.size ≤ V1.heap.size := by have h1 := (bl_on HBi.out (bl_on HB6.out HBc.out)).size; exact h1
          cases hbb : (decide (q = 0) || befB (f q) (f m)) with
          | true =>
            have HMI : Hid (minI f (q + 1) = [q]) := by
              by_cases hq0 : q = 0
              · subst hq0; exact minI_one f
              · have hb2 : befB (f q) (f m) = true := by simpa [hq0] using hbb
                refine minI_new (m := m) ?_ hb2
                rw [HMM.out]
                have := minI_pos f (show 0 < q by omega)
                simp [List.getElem?_eq_getElem this]
            clear hbb
            go_wp2_with fail
            go_roundw
            case rel =>
              refine ⟨q + 1, by omega, by go_num, ?_, bl_on HBi.out (bl_on HB6.out (bl_on HBc.out (bl_new _)))⟩
              rw [HMI.out]
              exact ownI_one V1 V0.heap.size hsz0 (q : Int)
            case measure => simp [intOf]; omega
          | false =>
            have hq0 : ¬ q = 0 := fun e => by simp [e] at hbb
            have hbf : befB (f q) (f m) = false := by simpa [hq0] using hbb
            have HBF := hide hbf
            have HQ0 := hide hq0
            clear hbb hbf
            have hmm0 : m ∈ minI f q := by
              rw [HMM.out]
              have := minI_pos f (show 0 < q by omega)
              simp [List.getElem?_eq_getElem this]
            have hmq := (minI_mem.1 hmm0).1
            have hnlp : 0 < nl := by rw [HNL.out]; unfold natV; rw [List.length_map]; exact minI_pos f (by omega)
            obtain ⟨g, rfl, hc0⟩ := HCL.out hnlp
            have hg0 := hc0 0 hnlp
            have hgm : ((natV (minI f q)).map (Value.int .i64))[0]? = some (.int .i64 (m : Int)) := by
              rw [HMM.out]
              have := minI_pos f (show 0 < q by omega)
              simp [natV, List.getElem?_eq_getElem this]
            rw [hgm] at hg0
            have hg := (HB6.out.cell (p := ⟨g, 0, none⟩) (lt_of_cell hg0)).trans hg0
            have zg := lt_of_cell hg
            simp only at zg
            obtain ⟨pa, pl, pc, x1', x2', x3, x4⟩ := HAT.out m (by omega)
            have hml2 : m < l.length := by rw [← HN.out]; omega
            have HSM := hide (HSO.out (l[m]?.getD spD) (HIN.out _ (by simp [hml2])))
            have HFM : Hid (f m = spT T (l[m]?.getD spD)) := by rw [HFF.out]; exact rfl
            obtain ⟨aa, haq⟩ : ∃ aa, aa = l[m]?.getD spD := ⟨_, rfl⟩
            rw [← haq] at x1' x3 HSM HFM
            obtain ⟨ai, ax⟩ := aa
            simp only at x1' x3
            have x1 := (HB6.out.cell (p := ⟨sb, so + m * 2, none⟩) (lt_of_cell x1')).trans x1'
            have x2 := (HB6.out.cell (p := ⟨sb, so + m * 2 + 1, none⟩) (lt_of_cell x2')).trans x2'
            have zx := lt_of_cell x1
            simp only at zx
            have HX6 := hide (x3.1.below HB6.out)
            have HT2 := hide (fun (V : World) (hb : Below w6.heap.size w6 V) => HTM.out V (bl_on HB60.out hb) (ai, ax) HSM.out pa pl pc (HX6.out.below hb))
            simp only at HT2
            rw [← HFM.out] at HT2
            have hmn : m < n := by omega
            have qn : ((nl : Int) == 0) = false := by simp; omega
            clear x1' x2' x3 x4 haq hml2 hgm hg0 hc0
            have HMMEM := hide hmm0
            have hgc := (HBc.out.cell (p := ⟨g, 0, none⟩) zg).trans hg
            have x1c := (HBc.out.cell (p := ⟨sb, so + m * 2, none⟩) zx).trans x1
            have x2c := (HBc.out.cell (p := ⟨sb, so + m * 2 + 1, none⟩) zx).trans x2
            have zgc := lt_of_cell hgc
            have zxc := lt_of_cell x1c
            simp only at zgc zxc
            have HT3 := hide (fun (V : World) (hb : Below V1.heap.size V1 V) => HT1.out V (bl_on HBc.out hb))
            have HT4 := hide (fun (V : World) (hb : Below V1.heap.size V1 V) => HT2.out V (bl_on HBc.out hb))
            have HEQ : ∀ V, (Op.equalIn 10000 54 (arr8 (f q)) (arr8 (f m))).run Try.prog V = .ok (eq8 (f q) (f m)) V := fun V => run_equalIn8 (f q) (f m) V
            simp only [arr8] at HEQ
            clear hg x1 x2 zg zx hmm0 hq0
            go_upto_region 17 with fail
            go_cut [41, 76] from 41 to 81 (fun v41 v76 wd => v41 = .int .i64 (q : Int) ∧ v76 = .bool (eq8 (f q) (f m)) ∧ Below V1.heap.size V1 wd)
            case first =>
              refine region_madeG 12 14 [fIs (.slice ma ml mc), fIs (.agg #[.int .i64 (bi : Int), .slice ya yl yc]), fIs (arr8 (f q)), fIs (.slice ma ml mc), fIs (.slice (some ⟨sb, so, none⟩) n c3), fIs (.slice (some ⟨g, 0, none⟩) nl cp), fIs (.pointer (some ⟨g, 0, none⟩)), fIs (.int .i64 (m : Int)), fIs (.pointer (some ⟨sb, so + m * 2, none⟩)), fIs (.agg #[.int .i64 (ai : Int), .slice pa pl pc]), fIs (arr8 (f m)), fIs (.bool (eq8 (f q) (f m)))] [none, none, none, none, none, none, none, none, none, none, none, none] [true, true, true, true, true, true, true, true, true, true, true, true] (by kernel_rfl) (by kernel_rfl) (by kernel_rfl) (fun ch p q w3 e h => by obtain ⟨t1, d1⟩ := p; obtain ⟨t2, d2⟩ := q; cases e; exact h) ⟨fIs_good _, fIs_good _, fIs_good _, fIs_good _, fIs_good _, fIs_good _, fIs_good _, fIs_good _, fIs_good _, fIs_good _, fIs_good _, fIs_good _, trivial⟩ rfl ?mkRC ?restRC
              case mkRC =>
                refine ⟨fun u wz hb hd => ?_, fun u wz hb hd => ?_, fun u wz hb hd => ?_, fun u wz hb hd => ?_, fun u wz hb hd => ?_, fun u wz hb hd => ?_, fun u wz hb hd => ?_, fun u wz hb hd => ?_, fun u wz hb hd => ?_, fun u wz hb hd => ?_, fun u wz hb hd => ?_, fun u wz hb hd => ?_, trivial⟩
                all_goals simp only [Act.put, List.setIfInBounds_toArray, List.set_cons_zero, List.set_cons_succ]
                · go_simp
                  exact ⟨rfl, Below.refl _ _, fun h => by cases h⟩
                · have s0' := (hb.cell (p := ⟨B17, 0, none⟩) (lt_of_cell s0)).trans s0
                  have s1' := (hb.cell (p := ⟨B17, 1, none⟩) (lt_of_cell s1)).trans s1
                  go_simp
                  exact ⟨rfl, Below.refl _ _, fun h => by cases h⟩
                · have e0 : u 0 = .slice ma ml mc := hd 0 (by omega) (by kernel_rfl)
                  have e1 : u 1 = .agg #[.int .i64 (bi : Int), .slice ya yl yc] := hd 1 (by omega) (by kernel_rfl)
                  rw [e0, e1]
                  go_simp
                  refine (HT3.out wz hb).mono ?_
                  rintro e w2 ⟨rfl, hb2⟩
                  exact ⟨rfl, hb2, fun h => by cases h⟩
                · go_simp
                  exact ⟨rfl, Below.refl _ _, fun h => by cases h⟩
                · go_simp
                  exact ⟨rfl, Below.refl _ _, fun h => by cases h⟩
                · go_simp
                  exact ⟨rfl, Below.refl _ _, fun h => by cases h⟩
                · have e5 : u 5 = .slice (some ⟨g, 0, none⟩) nl cp := hd 5 (by omega) (by kernel_rfl)
                  rw [e5]
                  go_simp
                  exact ⟨rfl, Below.refl _ _, fun h => by cases h⟩
                · have e6 : u 6 = .pointer (some ⟨g, 0, none⟩) := hd 6 (by omega) (by kernel_rfl)
                  rw [e6]
                  have hgc' := (hb.cell (p := ⟨g, 0, none⟩) (lt_of_cell hgc)).trans hgc
                  go_simp
                  exact ⟨rfl, Below.refl _ _, fun h => by cases h⟩
                · have e4 : u 4 = .slice (some ⟨sb, so, none⟩) n c3 := hd 4 (by omega) (by kernel_rfl)
                  have e7 : u 7 = .int .i64 (m : Int) := hd 7 (by omega) (by kernel_rfl)
                  rw [e4, e7]
                  go_simp
                  exact ⟨rfl, Below.refl _ _, fun h => by cases h⟩
                · have e8 : u 8 = .pointer (some ⟨sb, so + m * 2, none⟩) := hd 8 (by omega) (by kernel_rfl)
                  rw [e8]
                  have x1c' := (hb.cell (p := ⟨sb, so + m * 2, none⟩) (lt_of_cell x1c)).trans x1c
                  have x2c' := (hb.cell (p := ⟨sb, so + m * 2 + 1, none⟩) (lt_of_cell x2c)).trans x2c
                  go_simp
                  exact ⟨rfl, Below.refl _ _, fun h => by cases h⟩
                · have e3 : u 3 = .slice ma ml mc := hd 3 (by omega) (by kernel_rfl)
                  have e9 : u 9 = .agg #[.int .i64 (ai : Int), .slice pa pl pc] := hd 9 (by omega) (by kernel_rfl)
                  rw [e3, e9]
                  go_simp
                  refine (HT4.out wz hb).mono ?_
                  rintro e w2 ⟨rfl, hb2⟩
                  exact ⟨rfl, hb2, fun h => by cases h⟩
                · have e2 : u 2 = arr8 (f q) := hd 2 (by omega) (by kernel_rfl)
                  have e10 : u 10 = arr8 (f m) := hd 10 (by omega) (by kernel_rfl)
                  rw [e2, e10]
                  simp only [arr8]
                  go_simp
                  exact ⟨rfl, Below.refl _ _, fun h => by cases h⟩
              case restRC =>
                intro u wz hb hf hp
                have f0 : u 0 = .slice ma ml mc := hf 0 (by omega)
                have f1 : u 1 = .agg #[.int .i64 (bi : Int), .slice ya yl yc] := hf 1 (by omega)
                have f2 : u 2 = arr8 (f q) := hf 2 (by omega)
                have f3 : u 3 = .slice ma ml mc := hf 3 (by omega)
                have f4 : u 4 = .slice (some ⟨sb, so, none⟩) n c3 := hf 4 (by omega)
                have f5 : u 5 = .slice (some ⟨g, 0, none⟩) nl cp := hf 5 (by omega)
                have f6 : u 6 = .pointer (some ⟨g, 0, none⟩) := hf 6 (by omega)
                have f7 : u 7 = .int .i64 (m : Int) := hf 7 (by omega)
                have f8 : u 8 = .pointer (some ⟨sb, so + m * 2, none⟩) := hf 8 (by omega)
                have f9 : u 9 = .agg #[.int .i64 (ai : Int), .slice pa pl pc] := hf 9 (by omega)
                have f10 : u 10 = arr8 (f m) := hf 10 (by omega)
                have f11 : u 11 = .bool (eq8 (f q) (f m)) := hf 11 (by omega)
                refine UptoW.rest 0 12 (by rfl) (by kernel_rfl) ?_
                simp only [List.take, List.drop, putOps, Act.put, List.setIfInBounds_toArray, List.set_cons_zero, List.set_cons_succ, Nat.reduceAdd, f0, f1, f2, f3, f4, f5, f6, f7, f8, f9, f10, f11]
                clear f0 f1 f2 f3 f4 f5 f6 f7 f8 f9 f10 f11 hf hp
                have HC3 := hide hb
                clear hb
                go_wp2_with fail
                go_meet
                exact ⟨rfl, rfl, HC3.out⟩
            case rest =>
              obtain ⟨rfl, rfl, hb⟩ := hcut
              have HBd := hide hb
              have HOWX := hide (ownsRow_below HOWN.out (bl_on HB6.out (bl_on HBc.out hb)))
              have hsz1 : V0.heap.size ≤ wc.heap.size := by have h1 := hb.size; omega
              have HALL := hide (bl_on HBi.out (bl_on HB6.out (bl_on HBc.out hb)))
              have hxl : (natV (minI f q)).length ≤ 2000 := by rw [← HNL.out]; omega
              clear hb s0 s1 zs hgc x1c x2c zgc zxc HEQ
              cases hee : eq8 (f q) (f m) with
              | true =>
                have HMI : Hid (minI f (q + 1) = minI f q ++ [q]) := by rw [Hid, minI_old HMMEM.out HBF.out, if_pos hee]
                clear hee
                go_wp2_with (at_builtin; refine append_int rfl (.tmp 77) (.tmp 79) rfl V0.heap.size _ (natV (minI f q)) rfl (q : Int) HOWX.out rfl hxl hsz1 ?_; intro v4 w4 hown4 hb4; have HO4 := hide hown4; have HB4 := hide hb4; clear hown4 hb4)
                go_roundw
                case rel =>
                  refine ⟨q + 1, by omega, by go_num, ?_, HALL.out.trans HB4.out⟩
                  rw [HMI.out]
                  have e : natV (minI f q ++ [q]) = natV (minI f q) ++ [(q : Int)] := by simp [natV]
                  rw [e, List.length_append]
                  exact HO4.out
                case measure => simp [intOf]; omega
              | false =>
                have HMI : Hid (minI f (q + 1) = minI f q) := by rw [Hid, minI_old HMMEM.out HBF.out, if_neg (by rw [hee]; decide), List.append_nil]
                clear hee
                go_wp2_with fail
                go_roundw
                case rel =>
                  refine ⟨q + 1, by omega, by go_num, ?_, HALL.out⟩
                  rw [HMI.out]
                  exact HOWX.out
                case measure => simp [intOf]; omega
      · obtain rfl : q = n := by omega
        obtain ⟨X, cp, hv, hcp, hcl⟩ := own_words HOWN.out
        have HNOW := hide (minI_pos f hnp)
        obtain ⟨nl, hnl⟩ : ∃ nl, nl = (natV (minI f q)).length := ⟨_, rfl⟩
        have hnlp : 0 < nl := by rw [hnl]; unfold natV; rw [List.length_map]; exact minI_pos f hnp
        rw [← hnl] at hv hcp hcl hml
        subst hv
        have hnl2 : nl = (minI f q).length := by rw [hnl]; unfold natV; rw [List.length_map]
        have HNL := hide hnl2
        obtain ⟨g, rfl, hc0⟩ := hcl hnlp
        have HC0 : Hid (∀ j, j < nl → wr.cell? ⟨g, j, none⟩ = some (.int .i64 (((minI f q)[j]?.getD 0 : Nat) : Int))) := fun j hj => by
          rw [hc0 j hj]
          have : j < (minI f q).length := by rw [← hnl2]; exact hj
          simp [natV, this]
        have g0 := HC0.out 0 hnlp
        have zg := lt_of_cell g0
        simp only at zg
        obtain ⟨m0, hm0⟩ : ∃ m0, m0 = (minI f q)[0]?.getD 0 := ⟨_, rfl⟩
        rw [← hm0] at g0
        have HM0 := hide hm0
        obtain ⟨I, hI⟩ : ∃ I, I = pickI T mix k l := ⟨_, rfl⟩
        have HI := hide hI
        have HPI : Hid (I = if mix = [] then (minI f q)[0]?.getD 0 else (minI f q)[((mix[k % mix.length]?.getD 0) % ((minI f q).length : Int)).toNat]?.getD 0) := by
          rw [Hid, hI]
          unfold pickI
          rw [← HN.out, HFF.out]
        clear hnl hnl2 hcl hc0 hm0 hI
        go_upto_if 87 with fail
        go_cut [14, 18] from 36 to 136 (fun v14 v18 wc => v14 = .int .i64 (if mix = [] then 0 else ((k + 1 : Nat) : Int)) ∧ v18 = .int .i64 (I : Int) ∧ wc = wr)
        case first =>
          by_cases hmix : mix = []
          · have hxl0 : xl = 0 := by rw [← HXL.out, hmix]; rfl
            subst hxl0
            have HII : Hid (I = m0) := by rw [Hid, HPI.out, if_pos hmix, HM0.out]
            have HTZ : Hid (tv = 0) := by rw [Hid, HTV.out, if_pos hmix]
            have HMX := hide hmix
            clear hmix
            go_wp2_with fail
            go_meet
            exact ⟨by rw [if_pos HMX.out, HTZ.out], by rw [HII.out], rfl⟩
          · have hxlp : 0 < xl := by
              rw [← HXL.out]
              exact List.length_pos_iff.2 hmix
            have htk : tv = (k : Int) := by rw [HTV.out, if_neg hmix]
            obtain ⟨xb, xo, rfl, hxb, hxc⟩ := ((HX.out.below HBr.out).below HBi.out).at hxlp
            have hkx : k % xl < xl := Nat.mod_lt _ hxlp
            have hyc := hxc (k % xl) hkx
            obtain ⟨y, hy⟩ : ∃ y, y = mix[k % xl]?.getD 0 := ⟨_, rfl⟩
            have hyb := HX.out.2.2.1 _ (mem_getD mix (k % xl) (by rw [HXL.out]; exact hkx))
            rw [← hy] at hyc hyb
            obtain ⟨R, hR⟩ : ∃ R, R = y.tmod (nl : Int) := ⟨_, rfl⟩
            have hRb : -(nl : Int) < R ∧ R < (nl : Int) := by
              rw [hR]
              have h1 := Int.tmod_lt_of_pos y (show (0 : Int) < nl by omega)
              have h2 := Int.lt_tmod_of_pos y (show (0 : Int) < nl by omega)
              omega
            obtain ⟨J, hJ⟩ : ∃ J : Nat, J = (y % (nl : Int)).toNat := ⟨_, rfl⟩
            have hJn : J < nl := by
              rw [hJ]
              have h1 := Int.emod_lt_of_pos y (show (0 : Int) < nl by omega)
              have h2 := Int.emod_nonneg y (show (nl : Int) ≠ 0 by omega)
              omega
            have hRJ : (J : Int) = if R < 0 then R + nl else R := by
              rw [hJ, Int.toNat_of_nonneg (Int.emod_nonneg y (by omega)), hR]
              exact emod_tmod y nl (by omega)
            have gJ := HC0.out J hJn
            have HII : Hid (I = (minI f q)[J]?.getD 0) := by
              rw [Hid, HPI.out, if_neg hmix, HXL.out, ← hy, hJ, HNL.out]
            obtain ⟨mJ, hmJ⟩ : ∃ mJ, mJ = (minI f q)[J]?.getD 0 := ⟨_, rfl⟩
            rw [← hmJ] at gJ HII
            have t1 : (k : Int).tmod (xl : Int) = ((k % xl : Nat) : Int) := by rw [Int.tmod_eq_emod_of_nonneg (by omega)]; rfl
            obtain ⟨kx, hkx2⟩ : ∃ kx, kx = k % xl := ⟨_, rfl⟩
            rw [← hkx2] at hyc t1 hkx
            have zx := lt_of_cell hyc
            simp only at zx
            have HMX := hide hmix
            have t2 : y.tmod (nl : Int) = R := hR.symm
            subst htk
            clear hmix hy hR hJ hmJ hkx2 hxc hxb
            by_cases hR0 : R < 0
            · rw [if_pos hR0] at hRJ
              obtain rfl : R = (J : Int) - nl := by omega
              have t3 : (J : Int) - nl + nl = J := by omega
              clear hRJ
              go_wp2_with fail
              go_meet
              exact ⟨by rw [if_neg HMX.out]; go_num, by rw [HII.out], rfl⟩
            · rw [if_neg hR0] at hRJ
              obtain rfl : R = (J : Int) := by omega
              clear hRJ
              go_wp2_with fail
              go_meet
              exact ⟨by rw [if_neg HMX.out]; go_num, by rw [HII.out], rfl⟩
        case rest =>
          obtain ⟨rfl, rfl, hwc⟩ := hcut
          subst hwc
          obtain ⟨tv2, htv2⟩ : ∃ tv2 : Int, tv2 = if mix = [] then 0 else ((k + 1 : Nat) : Int) := ⟨_, rfl⟩
          rw [← htv2]
          have HTV2 := hide htv2
          clear htv2
          have hIm := pickI_mem T mix k (l := l) (fun e => by have := HN.out; rw [e] at this; simp at this; omega)
          rw [← HI.out, ← HN.out] at hIm
          have hIq := (minI_mem.1 hIm).1
          have hIl : I < l.length := by rw [← HN.out]; exact hIq
          have HSK := hide (HSO.out (l[I]?.getD spD) (HIN.out _ (by simp [hIl])))
          obtain ⟨sb, so, rfl, hat⟩ := (HSr.out.below HBi.out).at2 hnp
          obtain ⟨ya, yl, yc, y1, y2, y3, y4⟩ := hat I hIq
          obtain ⟨sp, hsp⟩ : ∃ sp, sp = l[I]?.getD spD := ⟨_, rfl⟩
          rw [← hsp] at y1 y3 HSK
          have HSPE := hide hsp
          obtain ⟨si, sx⟩ := sp
          simp only at y1 y3
          have hsi : si < ss.length := HSK.out.lt
          have hsit : si < tl := by rw [← HSL.out]; exact hsi
          have hso := HOK.out.stms _ (mem_getS ss si hsi)
          rw [HZL.out] at hso
          obtain ⟨tb, tq, rfl, hat2⟩ := HS.out.at (by omega)
          obtain ⟨qs, hqs, k0', k1', k2', k3', k4', k5', k6', k7'⟩ := hat2 si hsit
          have Ball := bl_on HBr.out HBi.out
          have k0 := (Ball.cell (p := ⟨tb, tq + si * 8, none⟩) (lt_of_cell k0')).trans k0'
          have k1 := (Ball.cell (p := ⟨tb, tq + si * 8 + 1, none⟩) (lt_of_cell k1')).trans k1'
          have k2 := (Ball.cell (p := ⟨tb, tq + si * 8 + 2, none⟩) (lt_of_cell k2')).trans k2'
          have k3 := (Ball.cell (p := ⟨tb, tq + si * 8 + 3, none⟩) (lt_of_cell k3')).trans k3'
          have k4 := (Ball.cell (p := ⟨tb, tq + si * 8 + 4, none⟩) (lt_of_cell k4')).trans k4'
          have k5 := (Ball.cell (p := ⟨tb, tq + si * 8 + 5, none⟩) (lt_of_cell k5')).trans k5'
          have k6 := (Ball.cell (p := ⟨tb, tq + si * 8 + 6, none⟩) (lt_of_cell k6')).trans k6'
          have k7 := (Ball.cell (p := ⟨tb, tq + si * 8 + 7, none⟩) (lt_of_cell k7')).trans k7'
          obtain ⟨n0, n1⟩ := (HPr.out.below HBi.out).cells
          have zN := (HPr.out.below HBi.out).lt
          obtain ⟨s, hs⟩ : ∃ s, s = ss[si]?.getD stmD := ⟨_, rfl⟩
          rw [← hs] at hqs hso
          have hlx : sx.length = s.box.length := by rw [hs]; exact HSK.out.len
          have hxl : yl = qs.bl := by have := y3.1.1; have := hqs.box.1.1; omega
          have hlens := spM_arr_len ss dn L
          have HDO := hide (fun (V : World) (hb : Below wc.heap.size wc V) => rdo_any w.heap.size A len c G C _ za zc zs (.slice (some ⟨tb, tq, none⟩) tl tc) qs s ya yl yc sx V ((HM.out.below HBi.out).below hb) (by rw [hlens.2]; exact HL.out) ((HZ.out.below (bl_on Ball hb))) (fun j hj => by rw [hlens.1 j]; exact F2.out j (by rw [HL.out]; exact hj)) (hqs.below (bl_on Ball hb)) hso (y3.1.below hb) hxl HSK.out.bd)
          have HST := hide hs
          have z1 := lt_of_cell y1
          have z0 := lt_of_cell k0
          simp only at z1 z0
          obtain ⟨ba, bl, bc, ra, rl, rc, kd, va, ⟨parr, pca, pcl, pcc, pcon⟩, ga, gl, gc⟩ := qs
          simp only [SW.v, SW.cs] at *
          clear hat hat2 y3 y4 hsp hsi hso hqs hs hxl hlens Ball hlx k0' k1' k2' k3' k4' k5' k6' k7' hIm g0 zg
          go_upto_region 27 with fail
          refine region_madeG 16 18 [fIs (.agg #[.slice za len zc, .slice (some ⟨tb, tq, none⟩) tl tc]), fIs (.pointer (some ⟨w.heap.size, 1, none⟩)), fIs (.slice (some ⟨tb, tq, none⟩) tl tc), fIs (.slice (some ⟨sb, so, none⟩) q c3), fIs (.int .i64 (I : Int)), fIs (.pointer (some ⟨sb, so + I * 2, none⟩)), fIs (.pointer (some ⟨sb, so + I * 2, none⟩)), fIs (.int .i64 (si : Int)), fIs (.pointer (some ⟨tb, tq + si * 8, none⟩)), fIs (.agg #[.slice ba bl bc, .slice ra rl rc, .int .i64 kd, .int .i64 va, .int .i64 parr, .slice pca pcl pcc, .int .i64 pcon, .slice ga gl gc]), fIs (.slice (some ⟨sb, so, none⟩) q c3), fIs (.int .i64 (I : Int)), fIs (.pointer (some ⟨sb, so + I * 2, none⟩)), fIs (.pointer (some ⟨sb, so + I * 2 + 1, none⟩)), fIs (.slice ya yl yc), fIs (.slice A len c)] [none, none, none, none, none, none, none, none, none, none, none, none, none, none, none, none] [true, true, true, true, true, true, true, true, true, true, true, true, true, true, true, true] (by kernel_rfl) (by kernel_rfl) (by kernel_rfl) (fun ch p q w3 e h => by obtain ⟨t1, d1⟩ := p; obtain ⟨t2, d2⟩ := q; cases e; exact h) ⟨fIs_good _, fIs_good _, fIs_good _, fIs_good _, fIs_good _, fIs_good _, fIs_good _, fIs_good _, fIs_good _, fIs_good _, fIs_good _, fIs_good _, fIs_good _, fIs_good _, fIs_good _, fIs_good _, trivial⟩ rfl ?mkRD ?restRD
          case mkRD =>
            refine ⟨fun u wz hb hd => ?_, fun u wz hb hd => ?_, fun u wz hb hd => ?_, fun u wz hb hd => ?_, fun u wz hb hd => ?_, fun u wz hb hd => ?_, fun u wz hb hd => ?_, fun u wz hb hd => ?_, fun u wz hb hd => ?_, fun u wz hb hd => ?_, fun u wz hb hd => ?_, fun u wz hb hd => ?_, fun u wz hb hd => ?_, fun u wz hb hd => ?_, fun u wz hb hd => ?_, fun u wz hb hd => ?_, trivial⟩
            all_goals simp only [Act.put, List.setIfInBounds_toArray, List.set_cons_zero, List.set_cons_succ]
            · have n0' := (hb.cell (p := ⟨w.heap.size, 0, none⟩) (lt_of_cell n0)).trans n0
              have n1' := (hb.cell (p := ⟨w.heap.size, 1, none⟩) (lt_of_cell n1)).trans n1
              go_simp
              exact ⟨rfl, Below.refl _ _, fun h => by cases h⟩
            · go_simp
              exact ⟨rfl, Below.refl _ _, fun h => by cases h⟩
            · have e1 : u 1 = .pointer (some ⟨w.heap.size, 1, none⟩) := hd 1 (by omega) (by kernel_rfl)
              rw [e1]
              have n1' := (hb.cell (p := ⟨w.heap.size, 1, none⟩) (lt_of_cell n1)).trans n1
              go_simp
              exact ⟨rfl, Below.refl _ _, fun h => by cases h⟩
            · go_simp
              exact ⟨rfl, Below.refl _ _, fun h => by cases h⟩
            · go_simp
              exact ⟨rfl, Below.refl _ _, fun h => by cases h⟩
            · have e3 : u 3 = .slice (some ⟨sb, so, none⟩) q c3 := hd 3 (by omega) (by kernel_rfl)
              have e4 : u 4 = .int .i64 (I : Int) := hd 4 (by omega) (by kernel_rfl)
              rw [e3, e4]
              go_simp
              exact ⟨rfl, Below.refl _ _, fun h => by cases h⟩
            · have e5 : u 5 = .pointer (some ⟨sb, so + I * 2, none⟩) := hd 5 (by omega) (by kernel_rfl)
              rw [e5]
              go_simp
              exact ⟨rfl, Below.refl _ _, fun h => by cases h⟩
            · have e6 : u 6 = .pointer (some ⟨sb, so + I * 2, none⟩) := hd 6 (by omega) (by kernel_rfl)
              rw [e6]
              have y1' := (hb.cell (p := ⟨sb, so + I * 2, none⟩) (lt_of_cell y1)).trans y1
              go_simp
              exact ⟨rfl, Below.refl _ _, fun h => by cases h⟩
            · have e2 : u 2 = .slice (some ⟨tb, tq, none⟩) tl tc := hd 2 (by omega) (by kernel_rfl)
              have e7 : u 7 = .int .i64 (si : Int) := hd 7 (by omega) (by kernel_rfl)
              rw [e2, e7]
              go_simp
              exact ⟨rfl, Below.refl _ _, fun h => by cases h⟩
            · have e8 : u 8 = .pointer (some ⟨tb, tq + si * 8, none⟩) := hd 8 (by omega) (by kernel_rfl)
              rw [e8]
              have k0' := (hb.cell (p := ⟨tb, tq + si * 8, none⟩) (lt_of_cell k0)).trans k0
              have k1' := (hb.cell (p := ⟨tb, tq + si * 8 + 1, none⟩) (lt_of_cell k1)).trans k1
              have k2' := (hb.cell (p := ⟨tb, tq + si * 8 + 2, none⟩) (lt_of_cell k2)).trans k2
              have k3' := (hb.cell (p := ⟨tb, tq + si * 8 + 3, none⟩) (lt_of_cell k3)).trans k3
              have k4' := (hb.cell (p := ⟨tb, tq + si * 8 + 4, none⟩) (lt_of_cell k4)).trans k4
              have k5' := (hb.cell (p := ⟨tb, tq + si * 8 + 5, none⟩) (lt_of_cell k5)).trans k5
              have k6' := (hb.cell (p := ⟨tb, tq + si * 8 + 6, none⟩) (lt_of_cell k6)).trans k6
              have k7' := (hb.cell (p := ⟨tb, tq + si * 8 + 7, none⟩) (lt_of_cell k7)).trans k7
              go_simp
              exact ⟨rfl, Below.refl _ _, fun h => by cases h⟩
            · go_simp
              exact ⟨rfl, Below.refl _ _, fun h => by cases h⟩
            · go_simp
              exact ⟨rfl, Below.refl _ _, fun h => by cases h⟩
            · have e10 : u 10 = .slice (some ⟨sb, so, none⟩) q c3 := hd 10 (by omega) (by kernel_rfl)
              have e11 : u 11 = .int .i64 (I : Int) := hd 11 (by omega) (by kernel_rfl)
              rw [e10, e11]
              go_simp
              exact ⟨rfl, Below.refl _ _, fun h => by cases h⟩
            · have e12 : u 12 = .pointer (some ⟨sb, so + I * 2, none⟩) := hd 12 (by omega) (by kernel_rfl)
              rw [e12]
              go_simp
              exact ⟨rfl, Below.refl _ _, fun h => by cases h⟩
            · have e13 : u 13 = .pointer (some ⟨sb, so + I * 2 + 1, none⟩) := hd 13 (by omega) (by kernel_rfl)
              rw [e13]
              have y2' := (hb.cell (p := ⟨sb, so + I * 2 + 1, none⟩) (lt_of_cell y2)).trans y2
              go_simp
              exact ⟨rfl, Below.refl _ _, fun h => by cases h⟩
            · go_simp
              exact ⟨rfl, Below.refl _ _, fun h => by cases h⟩
          case restRD =>
            intro u wz hb hf hp
            have f0 : u 0 = .agg #[.slice za len zc, .slice (some ⟨tb, tq, none⟩) tl tc] := hf 0 (by omega)
            have f1 : u 1 = .pointer (some ⟨w.heap.size, 1, none⟩) := hf 1 (by omega)
            have f2 : u 2 = .slice (some ⟨tb, tq, none⟩) tl tc := hf 2 (by omega)
            have f3 : u 3 = .slice (some ⟨sb, so, none⟩) q c3 := hf 3 (by omega)
            have f4 : u 4 = .int .i64 (I : Int) := hf 4 (by omega)
            have f5 : u 5 = .pointer (some ⟨sb, so + I * 2, none⟩) := hf 5 (by omega)
            have f6 : u 6 = .pointer (some ⟨sb, so + I * 2, none⟩) := hf 6 (by omega)
            have f7 : u 7 = .int .i64 (si : Int) := hf 7 (by omega)
            have f8 : u 8 = .pointer (some ⟨tb, tq + si * 8, none⟩) := hf 8 (by omega)
            have f9 : u 9 = .agg #[.slice ba bl bc, .slice ra rl rc, .int .i64 kd, .int .i64 va, .int .i64 parr, .slice pca pcl pcc, .int .i64 pcon, .slice ga gl gc] := hf 9 (by omega)
            have f10 : u 10 = .slice (some ⟨sb, so, none⟩) q c3 := hf 10 (by omega)
            have f11 : u 11 = .int .i64 (I : Int) := hf 11 (by omega)
            have f12 : u 12 = .pointer (some ⟨sb, so + I * 2, none⟩) := hf 12 (by omega)
            have f13 : u 13 = .pointer (some ⟨sb, so + I * 2 + 1, none⟩) := hf 13 (by omega)
            have f14 : u 14 = .slice ya yl yc := hf 14 (by omega)
            have f15 : u 15 = .slice A len c := hf 15 (by omega)
            refine UptoW.rest 1 16 (by rfl) (by kernel_rfl) ?_
            simp only [List.take, List.drop, putOps, Act.put, List.setIfInBounds_toArray, List.set_cons_zero, List.set_cons_succ, Nat.reduceAdd, f0, f1, f2, f3, f4, f5, f6, f7, f8, f9, f10, f11, f12, f13, f14, f15]
            clear f0 f1 f2 f3 f4 f5 f6 f7 f8 f9 f10 f11 f12 f13 f14 f15 hf hp
            have HBz := hide hb
            clear hb
            go_wp2_with (go_at_call 28; refine (HDO.out wz HBz.out).mono ?_; rintro e w6 ⟨⟨rv, rfl⟩, hm6, hc6⟩; have HM6 := hide hm6; have HC6 := hide hc6; clear hm6 hc6)
            have HMz := (HM.out.below HBi.out).below HBz.out
            have hBw : Below w.heap.size w wz := bl_on HBr.out (bl_on HBi.out HBz.out)
            have hPz := (HPr.out.below (bl_on HBi.out HBz.out))
            have hSz := HSr.out.below (bl_on HBi.out HBz.out)
            have HRES : Hid (Mems w6 w.heap.size A G C ((dn ++ [(si, sx)]).foldl (spM ss) L) ∧ Below w.heap.size w w6 ∧ NsBlk w6 w.heap.size za len zc (some ⟨tb, tq, none⟩) tl tc ∧ SP w6 (some ⟨sb, so, none⟩) q l) := by
              refine ⟨?_, HC6.out.below (fun j hj => HMz.lo j hj) hBw hBw.size, ?_, hSz.cells (fun b cur e => HC6.out.typed HMz (by decide) b cur e) (fun b cur e => HC6.out.typed HMz (by decide) b cur e)⟩
              · rw [List.foldl_append]
                show Mems w6 w.heap.size A G C (spM ss (dn.foldl (spM ss) L) (si, sx))
                unfold spM
                rw [← HST.out]
                exact HM6.out
              · exact (HC6.out.typed HMz (t := 25) (by decide) _ _ hPz).trans hPz
            clear HMz hBw hPz hSz
            obtain ⟨J, hJ⟩ : ∃ J, J = I + 1 := ⟨_, rfl⟩
            obtain ⟨m8, hm8⟩ : ∃ m8, m8 = q - J := ⟨_, rfl⟩
            obtain ⟨d8, hd8⟩ : ∃ d8, d8 = c3 - J := ⟨_, rfl⟩
            have hIc : I ≤ c3 := by omega
            have hIcz : (I : Int) ≤ (c3 : Int) := by omega
            have hIq' : I ≤ q := by omega
            have hJz : (J : Int) ≤ (q : Int) := by omega
            have hJq : J ≤ q := by omega
            have hJc : J ≤ c3 := by omega
            have hJm : J + m8 = q := by omega
            have hqm : q - J = m8 := hm8.symm
            have hcd : c3 - J = d8 := hd8.symm
            have HJ : Hid ((I : Int) + 1 = (J : Int)) := by show (I : Int) + 1 = (J : Int); omega
            have HJI := hide hJ
            clear hm8 hd8 hJ
            refine region_made 9 11 [fSpNo w6.heap.size, fIs (.slice (some ⟨sb, so, none⟩) q c3), fIs (.int .i64 (I : Int)), fIs (.slice (some ⟨sb, so, none⟩) I c3), fOutS w6.heap.size (l.take I), fIs (.slice (some ⟨sb, so, none⟩) q c3), fIs (.int .i64 (I : Int)), fIs (.int .i64 ((I : Int) + 1)), fSpTl sb (so + J * 2) m8 d8] (by kernel_rfl) (by kernel_rfl) (by kernel_rfl) (fun _ ⟨_, _⟩ ⟨_, _⟩ _ e h => by cases e; exact h) ⟨fSpNo_good _, fIs_good _, fIs_good _, fIs_good _, fOutS_good _ _, fIs_good _, fIs_good _, fIs_good _, fSpTl_good _ _ _ _, trivial⟩ ?mk ?rest
            case mk =>
              refine ⟨fun u wz hb hd => ?_, fun u wz hb hd => ?_, fun u wz hb hd => ?_, fun u wz hb hd => ?_, fun u wz hb hd => ?_, fun u wz hb hd => ?_, fun u wz hb hd => ?_, fun u wz hb hd => ?_, fun u wz hb hd => ?_, trivial⟩
              all_goals simp only [Act.put, List.setIfInBounds_toArray, List.set_cons_zero, List.set_cons_succ]
              · go_simp
                exact ⟨⟨_, rfl, World.alloc_heap_new _ _, hb.size⟩, bl_new _, fun h => by cases h⟩
              · go_simp
                exact ⟨rfl, Below.refl _ _, fun h => by cases h⟩
              · go_simp
                exact ⟨rfl, Below.refl _ _, fun h => by cases h⟩
              · have e1 : u 1 = .slice (some ⟨sb, so, none⟩) q c3 := hd 1 (by omega) (by kernel_rfl)
                have e2 : u 2 = .int .i64 (I : Int) := hd 2 (by omega) (by kernel_rfl)
                rw [e1, e2]
                go_simp
                exact ⟨rfl, Below.refl _ _, fun h => by cases h⟩
              · obtain ⟨B0, e0, hB0, hB0n⟩ := hd 0 (by omega) (by kernel_rfl)
                have e3 : u 3 = .slice (some ⟨sb, so, none⟩) I c3 := hd 3 (by omega) (by kernel_rfl)
                rw [e0, e3]
                exact spots_fresh (.tmp 127) (.tmp 130) rfl w6.heap.size B0 sb so I c3 (l.take I) rfl hB0 hB0n rfl (sp_take (HRES.out.2.2.2.below hb) hIq') (by omega) hb.size (fun v w' k1 k2 => ⟨v, rfl, k1, k2, fun h => by cases h⟩)
              · go_simp
                exact ⟨rfl, Below.refl _ _, fun h => by cases h⟩
              · go_simp
                exact ⟨rfl, Below.refl _ _, fun h => by cases h⟩
              · have e6 : u 6 = .int .i64 (I : Int) := hd 6 (by omega) (by kernel_rfl)
                rw [e6]
                go_simp
                rw [show IntKind.i64.wrap ((I : Int) + 1) = (I : Int) + 1 by rw [IntKind.wrap_i64]; omega]
                exact ⟨rfl, Below.refl _ _, fun h => by cases h⟩
              · have e5 : u 5 = .slice (some ⟨sb, so, none⟩) q c3 := hd 5 (by omega) (by kernel_rfl)
                have e7 : u 7 = .int .i64 ((I : Int) + 1) := hd 7 (by omega) (by kernel_rfl)
                rw [e5, e7]
                rw [HJ.out]
                by_cases hc : c3 = J
                · go_simp
                  exact ⟨⟨sb, so, by rw [show d8 = 0 by omega], fun h => by omega⟩, Below.refl _ _, fun h => by cases h⟩
                · go_simp
                  exact ⟨⟨_, _, rfl, fun _ => ⟨rfl, rfl⟩⟩, Below.refl _ _, fun h => by cases h⟩
            case rest =>
              intro u wz hb hf hp
              obtain ⟨B0, f0, _⟩ := hf 0 (by omega)
              have f1 : u 1 = .slice (some ⟨sb, so, none⟩) q c3 := hf 1 (by omega)
              have f2 : u 2 = .int .i64 (I : Int) := hf 2 (by omega)
              have f3 : u 3 = .slice (some ⟨sb, so, none⟩) I c3 := hf 3 (by omega)
              have f4 := hf 4 (by omega)
              have f5 : u 5 = .slice (some ⟨sb, so, none⟩) q c3 := hf 5 (by omega)
              have f6 : u 6 = .int .i64 (I : Int) := hf 6 (by omega)
              have f7 : u 7 = .int .i64 ((I : Int) + 1) := hf 7 (by omega)
              have f8 := hf 8 (by omega)
              refine UptoW.rest 2 9 (by rfl) (by kernel_rfl) ?_
              simp only [List.take, List.drop, putOps, Act.put, List.setIfInBounds_toArray, List.set_cons_zero, List.set_cons_succ, Nat.reduceAdd, f0, f1, f2, f3, f5, f6, f7]
              clear f0 f1 f2 f3 f5 f6 f7 hf hp
              obtain ⟨b8, o8, f8', h8⟩ := f8
              rw [f8']
              have HS8 := hide (sp_drop (J := J) (m := m8) (HRES.out.2.2.2.below hb) hJm h8)
              have HO4 : Hid (OutS wz w6.heap.size (u 4) (l.take I)) := f4
              have HBz6 := hide hb
              have HER : Hid (l.take I ++ l.drop J = l.eraseIdx I) := by
                rw [Hid, HJI.out, List.eraseIdx_eq_take_drop_succ]
              have hlen9 : (l.eraseIdx I).length + 1 = q := by
                rw [List.length_eraseIdx_of_lt hIl]
                have := HN.out
                omega
              have HPL2 : Hid ((dn ++ [(si, sx)]) ++ playL T mix (l.eraseIdx I).length (k + 1) (l.eraseIdx I) = playL T mix S.length 0 S) := by
                rw [Hid, ← HPL.out, ← hlen9]
                have hne : l ≠ [] := fun e => by rw [e] at hIl; simp at hIl
                have e1 : playL T mix ((l.eraseIdx I).length + 1) k l = (l[pickI T mix k l]?.getD spD) :: playL T mix (l.eraseIdx I).length (k + 1) (l.eraseIdx (pickI T mix k l)) := by
                  show (if l = [] then [] else _) = _
                  rw [if_neg hne]
                rw [e1, ← HI.out, ← HSPE.out, List.append_assoc]
                rfl
              have HIN2 : Hid (∀ sp ∈ l.eraseIdx I, sp ∈ S) := fun sp h => HIN.out sp (List.mem_of_mem_eraseIdx h)
              have hlk := HLK.out
              have hnn := HN.out
              clear f4 f8' h8 hb
              go_wp2_with (first | (at_builtin; refine append_spots (by rfl) (.tmp 131) (.tmp 135) (by rfl) w6.heap.size (u 4) (by rfl) (l.take I) (l.drop J) b8 o8 m8 d8 HO4.out HS8.out (by rfl) (by simp; omega) HBz6.out.size ?_; intro v' w8 hO8 hb8 hk8; obtain ⟨A8, c8, e8, hc8, hS8⟩ := hO8.spc; rw [HER.out] at e8 hc8 hS8; subst e8; have HS9 := hide hS8; have HB9 := hide (HBz6.out.trans hb8); have HC9 := hide hc8; clear hO8 hb8 hk8 hS8 hc8) | fail)
              have HB10 := hide (bl_on HRES.out.2.1 HB9.out)
              go_roundw
              case rel => exact ⟨k + 1, l.eraseIdx I, dn ++ [(si, sx)], A8, c8, by omega, rfl, HC9.out, by rw [← HTV2.out], HS9.out, HRES.out.1.below HB9.out, HPL2.out, HIN2.out, HB10.out, HRES.out.2.2.1.below HB9.out⟩
              case measure => simp [sliceL]; omega
end Go.Proofs.Ytoidgdbgpbcebaa.V
namespace Go.Proofs.Ytoidgdbgpbcebaa.V
open Go.RowKit

theorem rORun_any (za : Option Addr) (zl zc : Nat) (zs : List Int) (ta : Option Addr) (tl tc : Nat) (ss : List Stm) (ma : Option Addr) (ml mc : Nat) (T : Tms) (a : Option Addr) (len cap : Nat) (L : Mem) (xa : Option Addr) (xl xc : Nat) (mix : List Int) (w : World) (hz : Ints w za zl zs) (hs : Stms w ta tl ss) (hT : TimesA w ma ml T) (hA : MemA w a len L) (hb24 : len * 24 ≤ 140737488355328) (hx : Ints w xa xl mix) :
    Calls Try.prog 9 #[.agg #[.slice za zl zc, .slice ta tl tc], .slice ma ml mc, .slice a len cap, .slice xa xl xc] w fun e w' => (∃ A n c, e = .returned (.tuple #[.slice A n c, .int .i64 (ordRunE zs ss T L)]) ∧ MemA w' A n (ordM zs ss T mix L)) ∧ Below w.heap.size w w' := by
  by_cases h : ordRunE zs ss T L = 0
  · unfold ordM
    rw [if_pos h, h]
    exact rORun_ok za zl zc zs ta tl tc ss ma ml mc T a len cap L xa xl xc mix w hz hs hT hA hb24 hx h
  · unfold ordM
    rw [if_neg h]
    refine (rORun_no za zl zc zs ta tl tc ss ma ml mc T a len cap L _ w hz hs hT hA h).mono ?_
    rintro e w' ⟨rfl, hb⟩
    exact ⟨⟨none, 0, 0, rfl, rfl, by omega, .inl rfl⟩, hb⟩
end Go.Proofs.Ytoidgdbgpbcebaa.V
