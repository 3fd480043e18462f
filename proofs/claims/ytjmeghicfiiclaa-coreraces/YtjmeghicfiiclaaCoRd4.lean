/-
  The document: Races.
-/
import Derived.Test.YtjmeghicfiiclaaCoRd3
import Derived.Test.YtjmeghicfiiclaaCoR4
import Derived.Test.YtjmeghicfiiclaaCoRc7
namespace Go.Proofs.Ytjmeghicfiiclaa.V
open Go Go.RowKit
set_option linter.unusedVariables false

theorem rsm_of {pad mem : Int} {e : Bool} {x : In} (h : insE pad mem e x = 0) : (rTchV x).Sm ∧ 1 ≤ x.d ∧ x.d ≤ 14 := by
  unfold insE at h
  by_cases h1 : hasV e x.d = false
  · rw [if_pos h1] at h; omega
  have hd14 : 1 ≤ x.d ∧ x.d ≤ 14 := by
    unfold hasV at h1
    by_cases h5 : x.d = 1 ∨ x.d = 2
    · omega
    · rw [if_neg h5] at h1
      simp at h1
      omega
  rw [if_neg h1] at h
  refine ⟨?_, hd14⟩
  by_cases hd : x.d = 3 ∨ x.d = 4
  · have e0 : rTchV x = ⟨zS, zS, zS, zS⟩ := by unfold rTchV; rw [if_neg (by omega), if_neg (by omega), if_neg (by omega), if_neg (by omega), if_neg (by omega), if_neg (by omega)]
    rw [e0]
    exact ⟨zS_sm, zS_sm, zS_sm, zS_sm⟩
  rw [if_neg hd] at h
  by_cases h2 : x.n < 0 ∨ 4096 < x.n ∨ farV x.a = true ∨ farV x.b = true ∨ farV x.c = true
  · rw [if_pos h2] at h; omega
  have fa : farV x.a = false := by cases h6 : farV x.a; rfl; exact absurd (.inr (.inr (.inl h6))) h2
  have fb : farV x.b = false := by cases h6 : farV x.b; rfl; exact absurd (.inr (.inr (.inr (.inl h6)))) h2
  have fc : farV x.c = false := by cases h6 : farV x.c; rfl; exact absurd (.inr (.inr (.inr (.inr h6)))) h2
  simp only [farV, Bool.or_eq_false_iff, decide_eq_false_iff_not] at fa fb fc
  exact rtch_sm ⟨by omega, by omega, by omega, by omega⟩
/-- What is ahead of each of the first n. -/
def fl (own others : List In) (n : Nat) : List Int := (List.range n).map fun k => fenTo own others (k + 1)
theorem fl_len (own others : List In) (n : Nat) : (fl own others n).length = n := by simp [fl]
theorem fl_succ (own others : List In) (n : Nat) : fl own others (n + 1) = fl own others n ++ [fenTo own others (n + 1)] := by simp [fl, List.range_succ]
theorem fl_at (own others : List In) {n j : Nat} (h : j < n) : (fl own others n)[j]?.getD 0 = fenTo own others (j + 1) := by simp [fl, h]
def mF (u0 : Value) (l0 : List Int) (u1 : Value) (l1 : List Int) : Nat → Mb := fun i => if i = 0 then ⟨u0, 3, 1, l0.length, ivsI l0⟩ else ⟨u1, 3, 1, l1.length, ivsI l1⟩
theorem mF_nil (w : World) (B : Nat) : Fm w B 2 (mF (.slice none 0 0) [] (.slice none 0 0) []) := by
  refine ⟨fun i hi => ?_, fun i j g hi hj e _ => ?_⟩
  · unfold mF
    split
    · exact World.ownsRow_nil _ _ _ _
    · exact World.ownsRow_nil _ _ _ _
  · unfold mF at e
    split at e <;> cases e
theorem mF_put0 (u0 v : Value) (l0 : List Int) (u1 : Value) (l1 : List Int) (x : Int) (i : Nat) : mF v (l0 ++ [x]) u1 l1 i = upF (mF u0 l0 u1 l1) 0 ⟨v, 3, 1, l0.length + 1, ivsI l0 ++ [.int .i64 x]⟩ i := by
  unfold mF upF
  by_cases h : i = 0
  · simp [h, ivsI]
  · simp [h]
theorem mF_put1 (u0 v : Value) (l0 : List Int) (u1 : Value) (l1 : List Int) (x : Int) (i : Nat) (hi : i < 2) : mF u0 l0 v (l1 ++ [x]) i = upF (mF u0 l0 u1 l1) 1 ⟨v, 3, 1, l1.length + 1, ivsI l1 ++ [.int .i64 x]⟩ i := by
  unfold mF upF
  by_cases h : i = 0
  · simp [h]
  · have : i = 1 := by omega
    simp [this, ivsI]
theorem own_cells {w : World} {B : Nat} {v : Value} {l : List Int} (h : (⟨v, 3, 1, l.length, ivsI l⟩ : Mb).own w B) (h0 : 0 < l.length) : ∃ g cap, v = .slice (some ⟨g, 0, none⟩) l.length cap ∧ ∀ j, j < l.length → w.cell? ⟨g, j, none⟩ = some (.int .i64 (l[j]?.getD 0)) := by
  rcases h.2 with ⟨_, h2⟩ | ⟨g, cap, cur, e, h4, h5, h6, h7, h8, h9⟩
  · simp only at h2; omega
  · simp only at e h5 h9
    refine ⟨g, cap, e, fun j hj => ?_⟩
    have : (cur.toList.take (l.length * 1))[j]? = (ivsI l)[j]? := by rw [h9]
    rw [List.getElem?_take_of_lt (by omega), Array.getElem?_toList] at this
    simp [World.cell?, h5, this, hj, ivsI]
set_option maxRecDepth 100000 in
set_option maxHeartbeats 8000000 in
theorem rRaces_any (c : CV) (mv mk : List In) (w : World) (hm : Inss w c.ma c.ml mv) (hk : Inss w c.ka c.kl mk) :
    Calls Try.prog 5 #[c.v] w fun r w' => RcAns c.pad c.mem mv mk r ∧ Below w.heap.size w w' := by
  obtain ⟨W1, hW1⟩ : ∃ W, W = w.alloc (.cells #[.int .i64 c.pad, .int .i64 c.mem, .slice c.ma c.ml c.mc, .slice c.ka c.kl c.kc] 24) := ⟨_, rfl⟩
  obtain ⟨W, hW⟩ : ∃ W, W = W1.alloc (.cells #[.bool false, .int .i64 0, .int .i64 0] 26) := ⟨_, rfl⟩
  have s1 : W1.heap.size = w.heap.size + 1 := by rw [hW1]; simp
  have b1 : Below w.heap.size w W1 := by rw [hW1]; exact bl_new _
  have b2 : Below W1.heap.size W1 W := by rw [hW]; exact bl_new _
  have hb : Below w.heap.size w W := bl_on b1 b2
  have hC : CBlk W w.heap.size c := by
    have : CBlk W1 w.heap.size c := by rw [hW1]; exact CBlk.new w c
    exact this.below b2
  have hP : RcBlk W (w.heap.size + 1) false 0 0 := by rw [hW, ← s1]; exact World.alloc_heap_new _ _
  have hW2 : W = (w.alloc (.cells #[.int .i64 c.pad, .int .i64 c.mem, .slice c.ma c.ml c.mc, .slice c.ka c.kl c.kc] 24)).alloc (.cells #[.bool false, .int .i64 0, .int .i64 0] 26) := by rw [hW, hW1]
  have HWR := hide (fun (V : World) (hV : Below w.heap.size w V) => rCoWrong_any c mv mk V (hm.below hV) (hk.below hV))
  obtain ⟨⟨c0, c1, c2, c3⟩, zc⟩ := hC.cells
  have HW := hide hW2
  have HB := hide hb
  have HC := hide hC
  have HP := hide hP
  have HM := hide hm
  have HK := hide hk
  have hml0 := hm.2.1
  have hkl0 := hk.2.1
  obtain ⟨E, hE⟩ : ∃ E, E = codeE c.pad c.mem mv mk := ⟨_, rfl⟩
  have HE := hide hE
  simp only [← hE] at HWR
  clear hW hW1 hW2 s1 b1 b2 hb hC hP hm hk hE
  obtain ⟨pad, mem, ma, ml, mc, ka, kl, kc⟩ := c
  unfold CV.v at HWR ⊢
  simp only at *
  go_enter Try.func5, Try.ntmps5
  go_upto_region 1 with fail
  rw [← HW.out]
  go_wp2_with fail
  refine (HWR.out W HB.out).mono ?_
  rintro r w3 ⟨rfl, hb3⟩
  have HB3 := hide (bl_on HB.out hb3)
  have HC3 := hide (HC.out.below hb3)
  have HP3 : Hid (RcBlk w3 (w.heap.size + 1) false 0 0) := (hb3.block _ (Array.getElem?_eq_some_iff.1 HP.out).1).trans HP.out
  clear hb3 c0 c1 c2 c3 zc HC HP HB HW
  by_cases h0 : E = 0
  · have hcode : mv.length ≤ 262144 ∧ mk.length ≤ 262144 ∧ (∀ x ∈ mv, insE pad mem true x = 0) ∧ ∀ x ∈ mk, insE pad mem false x = 0 := by
      have h9 : codeE pad mem mv mk = 0 := by rw [← HE.out]; exact h0
      have h1 : ¬ (pad < 0 ∨ 4096 < pad ∨ mem < 0 ∨ 1048576 < mem) := fun h => by rw [codeE, if_pos h] at h9; omega
      have h2 : ¬ (262144 < mv.length ∨ 262144 < mk.length) := fun h => by rw [codeE, if_neg h1, if_pos h] at h9; omega
      rw [codeE_rest h1 h2] at h9
      by_cases h3 : inssE pad mem true mv ≠ 0
      · rw [if_pos h3] at h9; exact absurd h9 h3
      rw [if_neg h3] at h9
      by_cases h4 : inssE pad mem false mk ≠ 0
      · rw [if_pos h4] at h9; exact absurd h9 h4
      exact ⟨by omega, by omega, fun x hx => inssE_ok (by simpa using h3) x hx, fun x hx => inssE_ok (by simpa using h4) x hx⟩
    have hml : ml ≤ 262144 := by have h1 := hcode.1; have h2 := HM.out.1; omega
    have hkl : kl ≤ 262144 := by have h1 := hcode.2.1; have h2 := HK.out.1; omega
    have HMO : Hid (∀ x ∈ mv, (rTchV x).Sm ∧ 1 ≤ x.d ∧ x.d ≤ 14) := fun x hx => rsm_of (hcode.2.2.1 x hx)
    have HKO : Hid (∀ x ∈ mk, (rTchV x).Sm ∧ 1 ≤ x.d ∧ x.d ≤ 14) := fun x hx => rsm_of (hcode.2.2.2 x hx)
    have HF1 := hide (fun (V : World) (hV : Below w.heap.size w V) (k : Nat) (h : k < ml) => rBefore_any ma ml mc mv k ka kl kc mk V (HM.out.below hV) (HK.out.below hV) hml hkl h)
    have HF2 := hide (fun (V : World) (hV : Below w.heap.size w V) (k : Nat) (h : k < kl) => rBefore_any ka kl kc mk k ma ml mc mv V (HK.out.below hV) (HM.out.below hV) hkl hml h)
    subst h0
    clear hcode hml0 hkl0 HWR
    obtain ⟨⟨c0, c1, c2, c3⟩, zc⟩ := HC3.out.cells
    simp only at c0 c1 c2 c3
    go_wp2_with fail
    go_loopw [5, 22] (fun vs vi wr => ∃ (k : Nat) (u : Value), k ≤ ml ∧ vi = .int .i64 k ∧ u = vs ∧ Fm wr w3.heap.size 2 (mF u (fl mv mk k) (.slice none 0 0) []) ∧ Below w3.heap.size w3 wr) (fun vs vi _ => ml - (intOf vi).toNat)
    case atStart => exact ⟨0, .slice none 0 0, by omega, rfl, rfl, mF_nil _ _, Below.refl _ _⟩
    case round =>
      clear c0 c1 c2 c3 zc
      obtain ⟨k, u0, hk, rfl, hu, hF, hbr⟩ := hrel
      subst hu
      obtain ⟨⟨c0, c1, c2, c3⟩, zc⟩ := (HC3.out.below hbr).cells
      simp only at c0 c1 c2 c3
      by_cases hkl2 : k < ml
      · have hkz : (k : Int) < (ml : Int) := by omega
        have HFF := hide hF
        have HBR := hide hbr
        clear hF hbr
        go_wp2_with fail
        refine (HF1.out wr (bl_on HB3.out HBR.out) k hkl2).mono ?_
        rintro r w5 ⟨rfl, hb5⟩
        have HF5 := hide (HFF.out.below hb5)
        have HB5 := hide (bl_on HBR.out hb5)
        have HLL : Hid ((fl mv mk k).length + 1 ≤ 1000000000) := by rw [Hid, fl_len]; omega
        have HSZ : Hid (w3.heap.size ≤ w5.heap.size) := HB5.out.size
        obtain ⟨x, hx⟩ : ∃ x, x = fenTo mv mk (k + 1) := ⟨_, rfl⟩
        rw [← hx]
        have HX := hide hx
        clear hb5 hx HFF HBR c0 c1 c2 c3 zc
        go_wp2_with (at_builtin; refine append_fm rfl (.tmp 25) (.tmp 32) 33 3 _ 1 8 rfl Try.underlying33 ci_info rfl (by decide) (by decide) w3.heap.size 2 _ HF5.out 0 (by omega) ⟨u0, 3, 1, (fl mv mk k).length, ivsI (fl mv mk k)⟩ rfl rfl rfl rfl #[.int .i64 x] 1 rfl (by simp [Value.oneCell']) rfl HLL.out HSZ.out ?_; intro v6 w6 hF2 hb2; have HG := hide hF2; have HB6 := hide (HB5.out.trans hb2); clear hF2 hb2)
        go_roundw
        case rel =>
          refine ⟨k + 1, v6, by omega, by go_num, rfl, ?_, HB6.out⟩
          rw [fl_succ, ← HX.out]
          exact HG.out.congr fun i hi => mF_put0 _ _ _ _ _ _ i
        case measure => simp [intOf]; omega
      · have hkz : ¬ (k : Int) < (ml : Int) := by omega
        obtain rfl : ml = k := by omega
        have HR0 := hide hF
        have HBR0 := hide hbr
        clear hF hbr
        go_wp2_with fail
        go_loopw [6, 38] (fun vs vi wr => ∃ (k : Nat) (u : Value), k ≤ kl ∧ vi = .int .i64 k ∧ u = vs ∧ Fm wr w3.heap.size 2 (mF u0 (fl mv mk ml) u (fl mk mv k)) ∧ Below w3.heap.size w3 wr) (fun vs vi _ => kl - (intOf vi).toNat)
        case atStart => exact ⟨0, .slice none 0 0, by omega, rfl, rfl, HR0.out, HBR0.out⟩
        case round =>
          clear c0 c1 c2 c3 zc
          obtain ⟨k, u1, hk, rfl, hu, hF, hbr⟩ := hrel
          subst hu
          obtain ⟨⟨c0, c1, c2, c3⟩, zc⟩ := (HC3.out.below hbr).cells
          simp only at c0 c1 c2 c3
          by_cases hkl2 : k < kl
          · have hkz : (k : Int) < (kl : Int) := by omega
            have HFF := hide hF
            have HBR := hide hbr
            clear hF hbr
            go_wp2_with fail
            refine (HF2.out wr (bl_on HB3.out HBR.out) k hkl2).mono ?_
            rintro r w5 ⟨rfl, hb5⟩
            have HF5 := hide (HFF.out.below hb5)
            have HB5 := hide (bl_on HBR.out hb5)
            have HLL : Hid ((fl mk mv k).length + 1 ≤ 1000000000) := by rw [Hid, fl_len]; omega
            have HSZ : Hid (w3.heap.size ≤ w5.heap.size) := HB5.out.size
            obtain ⟨x, hx⟩ : ∃ x, x = fenTo mk mv (k + 1) := ⟨_, rfl⟩
            rw [← hx]
            have HX := hide hx
            clear hb5 hx HFF HBR c0 c1 c2 c3 zc
            go_wp2_with (at_builtin; refine append_fm rfl (.tmp 41) (.tmp 48) 33 3 _ 1 8 rfl Try.underlying33 ci_info rfl (by decide) (by decide) w3.heap.size 2 _ HF5.out 1 (by omega) ⟨u1, 3, 1, (fl mk mv k).length, ivsI (fl mk mv k)⟩ rfl rfl rfl rfl #[.int .i64 x] 1 rfl (by simp [Value.oneCell']) rfl HLL.out HSZ.out ?_; intro v6 w6 hF2 hb2; have HG := hide hF2; have HB6 := hide (HB5.out.trans hb2); clear hF2 hb2)
            go_roundw
            case rel =>
              refine ⟨k + 1, v6, by omega, by go_num, rfl, ?_, HB6.out⟩
              rw [fl_succ, ← HX.out]
              exact HG.out.congr fun i hi => mF_put1 _ _ _ _ _ _ i hi
            case measure => simp [intOf]; omega
          · have hkz : ¬ (k : Int) < (kl : Int) := by omega
            obtain rfl : kl = k := by omega
            have HR1 := hide hF
            have HBR1 := hide hbr
            clear hF hbr
            go_wp2_with fail
            go_loopw [54] (fun v54 wr => ∃ i : Nat, i ≤ ml ∧ v54 = .int .i64 i ∧ Fm wr w3.heap.size 2 (mF u0 (fl mv mk ml) u1 (fl mk mv kl)) ∧ Below w3.heap.size w3 wr ∧ ∀ i' j, i' < i → ¬ RaceAt mv mk i' j) (fun v54 _ => ml - (intOf v54).toNat)
            case atStart => exact ⟨0, by omega, rfl, HR1.out, HBR1.out, fun i' j h => by omega⟩
            case round =>
              clear c0 c1 c2 c3 zc HR1 HBR1 HR0 HBR0
              obtain ⟨i, hi, rfl, hF, hbr, hno⟩ := hrel
              obtain ⟨⟨c0, c1, c2, c3⟩, zc⟩ := (HC3.out.below hbr).cells
              simp only at c0 c1 c2 c3
              by_cases hil : i < ml
              · have hiz : (i : Int) < (ml : Int) := by omega
                obtain ⟨b, off, rfl, hin⟩ := HM.out.2.2.resolve_left (by omega)
                obtain ⟨k0, k1, k2, k3, k4, k5⟩ := ((hin i hil).below HB3.out).below hbr
                obtain ⟨x, hx⟩ : ∃ x, x = mv[i]?.getD inD := ⟨_, rfl⟩
                have him : i < mv.length := by have := HM.out.1; omega
                have hxo := HMO.out x (by rw [hx]; exact mem_getI _ _ him)
                have hgx : getI mv i = x := by rw [hx]; rfl
                rw [← hx] at k0 k1 k2 k3 k4 k5
                obtain ⟨V, hV⟩ : ∃ V, V = wr.alloc (.cells #[.int .i64 x.d, .int .i64 x.a, .int .i64 x.b, .int .i64 x.c, .int .i64 x.n, .int .i64 x.v] 36) := ⟨_, rfl⟩
                have hbV : Below wr.heap.size wr V := by rw [hV]; exact bl_new _
                have hI : InBlk V wr.heap.size x := by rw [hV]; exact InBlk.new _ _
                obtain ⟨G, hG⟩ : ∃ G, G = wr.heap.size := ⟨_, rfl⟩
                rw [← hG] at hI
                have zk := lt_of_cell k0
                simp only at zk
                have HV := hide hV
                have H9 := hide hG
                have HI := hide hI
                have HFV := hide (hF.below hbV)
                have HBV := hide (bl_on hbr hbV)
                have HNO := hide hno
                have HGX := hide hgx
                have HXO := hide hxo
                have HIM := hide him
                clear hin hx hgx hxo him hV hbV hI hG hF hbr hno
                go_upto_region 18 with fail
                rw [← HV.out, ← H9.out]
                clear k0 k1 k2 k3 k4 k5 zk c0 c1 c2 c3 zc HV H9
                obtain ⟨⟨c0, c1, c2, c3⟩, zc⟩ := (HC3.out.below HBV.out).cells
                simp only at c0 c1 c2 c3
                go_wp2_with fail
                go_loopw [62] (fun v62 wv => ∃ j : Nat, j ≤ kl ∧ v62 = .int .i64 j ∧ Fm wv w3.heap.size 2 (mF u0 (fl mv mk ml) u1 (fl mk mv kl)) ∧ Below w3.heap.size w3 wv ∧ InBlk wv G x ∧ ∀ j', j' < j → ¬ RaceAt mv mk i j') (fun v62 _ => kl - (intOf v62).toNat)
                case atStart => exact ⟨0, by omega, rfl, HFV.out, HBV.out, HI.out, fun j' h => by omega⟩
                case round =>
                  clear c0 c1 c2 c3 zc HFV HBV HI
                  obtain ⟨j, hj, rfl, hF, hbr, hI, hnj⟩ := hrel
                  by_cases hjl : j < kl
                  · have hjz : (j : Int) < (kl : Int) := by omega
                    obtain ⟨b2, o2, hka, hin⟩ := HK.out.2.2.resolve_left (by omega)
                    obtain ⟨k0, k1, k2, k3, k4, k5⟩ := ((hin j hjl).below HB3.out).below hbr
                    obtain ⟨y, hy⟩ : ∃ y, y = mk[j]?.getD inD := ⟨_, rfl⟩
                    have hjm : j < mk.length := by have := HK.out.1; omega
                    have hyo := HKO.out y (by rw [hy]; exact mem_getI _ _ hjm)
                    have hgy : getI mk j = y := by rw [hy]; rfl
                    rw [← hy] at k0 k1 k2 k3 k4 k5
                    obtain ⟨V, hV⟩ : ∃ V, V = wr.alloc (.cells #[.int .i64 y.d, .int .i64 y.a, .int .i64 y.b, .int .i64 y.c, .int .i64 y.n, .int .i64 y.v] 36) := ⟨_, rfl⟩
                    have hbV : Below wr.heap.size wr V := by rw [hV]; exact bl_new _
                    have hJ : InBlk V wr.heap.size y := by rw [hV]; exact InBlk.new _ _
                    obtain ⟨G2, hG2⟩ : ∃ G2, G2 = wr.heap.size := ⟨_, rfl⟩
                    rw [← hG2] at hJ
                    have zk := lt_of_cell k0
                    simp only at zk
                    have hfv := hF.below hbV
                    have h0r := hfv.row 0 (by omega)
                    have h1r := hfv.row 1 (by omega)
                    obtain ⟨g0, cap0, hu0, hc0⟩ := own_cells (v := u0) (l := fl mv mk ml) h0r (by rw [fl_len]; omega)
                    obtain ⟨g1, cap1, hu1, hc1⟩ := own_cells (v := u1) (l := fl mk mv kl) h1r (by rw [fl_len]; omega)
                    have d0 := hc0 i (by rw [fl_len]; exact hil)
                    have d1 := hc1 j (by rw [fl_len]; exact hjl)
                    rw [fl_at _ _ hil] at d0
                    rw [fl_at _ _ hjl] at d1
                    rw [fl_len] at hu0 hu1
                    have zd0 := lt_of_cell d0
                    have zd1 := lt_of_cell d1
                    simp only at zd0 zd1
                    have HFV := hide hfv
                    have HBV := hide (bl_on hbr hbV)
                    have HI2 := hide (hI.below hbV)
                    have HV := hide hV
                    have H9 := hide hG2
                    have HJ := hide hJ
                    have HNJ := hide hnj
                    have HGY := hide hgy
                    have HYO := hide hyo
                    have HJM := hide hjm
                    obtain ⟨AH, hAH⟩ : ∃ AH, AH = fenTo mv mk (i + 1) := ⟨_, rfl⟩
                    obtain ⟨BH, hBH⟩ : ∃ BH, BH = fenTo mk mv (j + 1) := ⟨_, rfl⟩
                    rw [← hAH] at d0
                    rw [← hBH] at d1
                    have HAH := hide hAH
                    have HBH := hide hBH
                    subst hka
                    clear hin hy hgy hyo hjm hV hbV hJ hG2 hF hbr hI hnj hfv h0r h1r hc0 hc1 hAH hBH
                    go_upto_region 21 with fail
                    rw [← HV.out, ← H9.out]
                    clear k0 k1 k2 k3 k4 k5 zk HV H9
                    subst hu0
                    subst hu1
                    have HNX : Hid (¬ RaceAt mv mk i j → ∀ j', j' < j + 1 → ¬ RaceAt mv mk i j') := fun h j' hj' => by
                      by_cases e : j' = j
                      · rw [e]; exact h
                      · exact HNJ.out j' (by omega)
                    by_cases p1 : AH ≤ (j : Int)
                    · by_cases p2 : BH ≤ (i : Int)
                      · have HCL := hide (rClash_any x y HXO.out.1 HYO.out.1 V)
                        have hcl := rClash_is x y HXO.out.2.1 HXO.out.2.2 HYO.out.2.1 HYO.out.2.2
                        rw [hcl] at HCL
                        obtain ⟨cb, hcb⟩ : ∃ cb, cb = clashI x y := ⟨_, rfl⟩
                        rw [← hcb] at HCL
                        have HCB := hide hcb
                        unfold In.v6 at HCL
                        obtain ⟨⟨i0, i1, i2, i3, i4, i5⟩, zi⟩ := HI2.out.cells
                        obtain ⟨⟨j0, j1, j2, j3, j4, j5⟩, zj⟩ := HJ.out.cells
                        clear hcl hcb
                        go_wp2_with fail
                        refine HCL.out.mono ?_
                        rintro r w5 ⟨rfl, hb5⟩
                        have HF5 := hide (HFV.out.below hb5)
                        have HB5 := hide (bl_on HBV.out hb5)
                        have HI5 := hide (HI2.out.below hb5)
                        clear hb5 i0 i1 i2 i3 i4 i5 zi j0 j1 j2 j3 j4 j5 zj d0 d1 zd0 zd1
                        cases cb
                        · have HN : Hid (∀ j', j' < j + 1 → ¬ RaceAt mv mk i j') := HNX.out fun h => by
                            have h1 := h.cl
                            rw [HGX.out, HGY.out, ← HCB.out] at h1
                            cases h1
                          go_wp2_with fail
                          go_roundw
                          case rel => exact ⟨j + 1, by omega, by go_num, HF5.out, HB5.out, HI5.out, HN.out⟩
                          case measure => simp [intOf]; omega
                        · have HSP : Hid (RaceSp mv mk true i j) := .inl ⟨rfl, ⟨HIM.out, HJM.out, by rw [← HAH.out]; exact p1, by rw [← HBH.out]; exact p2, by rw [HGX.out, HGY.out]; exact HCB.out.symm⟩, fun i' j' h => HNO.out i' j' h, fun j' h => HNJ.out j' h⟩
                          have HBB := hide (bl_on HB3.out HB5.out)
                          have HP4 : Hid (RcBlk w5 (w.heap.size + 1) false 0 0) := (HB5.out.block _ (Array.getElem?_eq_some_iff.1 HP3.out).1).trans HP3.out
                          obtain ⟨⟨p0, p3, p4⟩, zp⟩ := HP4.out.cells
                          have q0 := HP4.out.free 0
                          have q1 := HP4.out.free 1
                          have q2 := HP4.out.free 2
                          clear HNX
                          go_wp2_with fail
                          have PZ := HP4.out.put true (i : Int) (j : Int)
                          obtain ⟨⟨x0, x1, x2⟩, _⟩ := PZ.cells
                          refine bodyPost_ret (v := .tuple #[.agg #[.bool true, .int .i64 (i : Int), .int .i64 (j : Int)], .int .i64 0]) (by simp [results, Try.results5, go_sem, x0, x1, x2]) rfl ⟨⟨true, i, j, 0, rfl, HE.out, .inr ⟨rfl, HSP.out⟩⟩, ?_⟩
                          exact ((HBB.out.setCell (p := ⟨w.heap.size + 1, 0, none⟩) (by simp) _).setCell (p := ⟨w.heap.size + 1, 1, none⟩) (by simp) _).setCell (p := ⟨w.heap.size + 1, 2, none⟩) (by simp) _
                      · have HN : Hid (∀ j', j' < j + 1 → ¬ RaceAt mv mk i j') := HNX.out fun h => p2 (by rw [HBH.out]; exact h.bh)
                        clear HNX
                        go_wp2_with fail
                        go_roundw
                        case rel => exact ⟨j + 1, by omega, by go_num, HFV.out, HBV.out, HI2.out, HN.out⟩
                        case measure => simp [intOf]; omega
                    · have HN : Hid (∀ j', j' < j + 1 → ¬ RaceAt mv mk i j') := HNX.out fun h => p1 (by rw [HAH.out]; exact h.ah)
                      clear HNX
                      go_wp2_with fail
                      go_roundw
                      case rel => exact ⟨j + 1, by omega, by go_num, HFV.out, HBV.out, HI2.out, HN.out⟩
                      case measure => simp [intOf]; omega
                  · have hjz : ¬ (j : Int) < (kl : Int) := by omega
                    have HFE := hide hF
                    have HBE := hide hbr
                    have HNN : Hid (∀ i' j', i' < i + 1 → ¬ RaceAt mv mk i' j') := fun i' j' h hr => by
                      by_cases e : i' = i
                      · subst e
                        exact hnj j' (by have h1 := hr.hj; have h2 := HK.out.1; omega) hr
                      · exact HNO.out i' j' (by omega) hr
                    clear hF hbr hI hnj
                    go_wp2_with fail
                    go_roundw
                    case rel => exact ⟨i + 1, by omega, by go_num, HFE.out, HBE.out, HNN.out⟩
                    case measure => simp [intOf]; omega
              · have hiz : ¬ (i : Int) < (ml : Int) := by omega
                have HSP : Hid (RaceSp mv mk false 0 0) := .inr ⟨rfl, rfl, rfl, fun i' j h => hno i' j (by have h1 := h.hi; have h2 := HM.out.1; omega) h⟩
                have HBB := hide (bl_on HB3.out hbr)
                have HP4 : Hid (RcBlk wr (w.heap.size + 1) false 0 0) := (hbr.block _ (Array.getElem?_eq_some_iff.1 HP3.out).1).trans HP3.out
                obtain ⟨⟨p0, p1, p2⟩, zp⟩ := HP4.out.cells
                have q0 := HP4.out.free 0
                have q1 := HP4.out.free 1
                have q2 := HP4.out.free 2
                clear hF hbr hno c0 c1 c2 c3 zc
                go_wp2_with fail
                have PZ := HP4.out.put false 0 0
                obtain ⟨⟨x0, x1, x2⟩, _⟩ := PZ.cells
                refine bodyPost_ret (v := .tuple #[.agg #[.bool false, .int .i64 0, .int .i64 0], .int .i64 0]) (by simp [results, Try.results5, go_sem, x0, x1, x2]) rfl ⟨⟨false, 0, 0, 0, rfl, HE.out, .inr ⟨rfl, HSP.out⟩⟩, ?_⟩
                exact ((HBB.out.setCell (p := ⟨w.heap.size + 1, 0, none⟩) (by simp) _).setCell (p := ⟨w.heap.size + 1, 1, none⟩) (by simp) _).setCell (p := ⟨w.heap.size + 1, 2, none⟩) (by simp) _
  · have h0b : (E != 0) = true := by simpa using h0
    have H0 := hide h0
    clear h0
    obtain ⟨⟨p0, p1, p2⟩, zp⟩ := HP3.out.cells
    have q0 := HP3.out.free 0
    have q1 := HP3.out.free 1
    have q2 := HP3.out.free 2
    go_wp2_with fail
    have PZ := HP3.out.put false 0 0
    obtain ⟨⟨x0, x1, x2⟩, _⟩ := PZ.cells
    refine bodyPost_ret (v := .tuple #[.agg #[.bool false, .int .i64 0, .int .i64 0], .int .i64 E]) (by simp [results, Try.results5, go_sem, x0, x1, x2]) rfl ⟨⟨false, 0, 0, E, rfl, HE.out, .inl ⟨H0.out, rfl, rfl, rfl⟩⟩, ?_⟩
    exact ((HB3.out.setCell (p := ⟨w.heap.size + 1, 0, none⟩) (by simp) _).setCell (p := ⟨w.heap.size + 1, 1, none⟩) (by simp) _).setCell (p := ⟨w.heap.size + 1, 2, none⟩) (by simp) _
end Go.Proofs.Ytjmeghicfiiclaa.V
