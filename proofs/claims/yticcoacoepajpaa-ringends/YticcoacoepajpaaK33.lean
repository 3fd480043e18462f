/-
  Contract: the document's Wanted. Contract: the document's Wanted (its walk).
-/
import Derived.Test.YticcoacoepajpaaK30
import Derived.Deep.CutBlock
namespace Go.Proofs.Yticcoacoepajpaa.V
open Go Go.RowKit
set_option linter.unusedVariables false
set_option linter.unusedSimpArgs false

/-- Words in a row of the call's own. -/
def Ow (W : World) (B : Nat) (v : Value) (xs : List Int) : Prop := W.ownsRow B 2 1 v xs.length (xs.map (Value.int .i64))
theorem Ow.start (W : World) (B : Nat) : Ow W B (.slice none 0 0) [] := ⟨rfl, .inl ⟨rfl, rfl⟩⟩
theorem Ow.below {W V : World} {B : Nat} {v : Value} {xs : List Int} (h : Ow W B v xs) (hb : Below W.heap.size W V) : Ow V B v xs := own_kp h fun g e => hb.block g (h.lt g e).2
theorem append_ow {w : World} {ops : Array Oper} {rest : List Oper} {o : Oper} {a : Act} {Q : Exit → Act → World → Prop} (hgd : o.guard = none) (s x : Operand)
    (ho : o.op = .call { callee := .builtin .append, args := #[s, x], argTypes := #[24, 24] }) (B : Nat) (v : Value) (xs : List Int) (hs : a.eval s = v) (h : Ow w B v xs)
    (X : Option Addr) (m c : Nat) (ys : List Int) (hx : a.eval x = .slice X m c) (hI : Ints w X m ys) (hl : xs.length + m ≤ 1000000) (hB : B ≤ w.heap.size)
    (hQ : ∀ v' w', Ow w' B v' (xs ++ ys) → Below B w w' → wpList Try.prog ops Q rest (a.put o.dst v') w') : wpList Try.prog ops Q (o :: rest) a w := by
  refine append_i64s hgd s x ho B v xs.length _ hs h X m c ys hx hI (by omega) hB fun v' w' h1 h2 => hQ v' w' ?_ ((Below.refl B w).grown h2 hB (fun j e => (h.lt j e).1))
  unfold Ow
  rw [List.length_append, hI.1, List.map_append]
  exact h1
/-- The word of all at a place, of the first j. -/
def sumJ (x : Nat → List Int) (k j : Nat) : Int := wrap64 (sumI j fun i => (x i)[k]?.getD 0)
theorem sumJ_zero (x : Nat → List Int) (k : Nat) : sumJ x k 0 = 0 := by unfold sumJ sumI wrap64; decide
theorem sumJ_step (x : Nat → List Int) (k j : Nat) : sumJ x k (j + 1) = wrap64 (sumJ x k j + (x j)[k]?.getD 0) := by
  unfold sumJ
  rw [sumI_last, Int.add_comm (wrap64 _), wrap_add, Int.add_comm]
theorem wrap_in2 (x : Int) : -9223372036854775808 ≤ wrap64 x ∧ wrap64 x ≤ 9223372036854775807 := by unfold wrap64; omega
/-- What member m is to have, one by one. -/
def wantG (d n : Nat) (x : Nat → List Int) (m : Nat) (p : Nat) : List Int := if d = 3 then x p else if d = 4 then pieceL (x p) m n else if d = 1 then pieceL (sumL n x) p n else if p = m then pieceL (sumL n x) m n else []
theorem flat_one {α : Type} (m : Nat) (y : List α) : ∀ n, m < n → (List.range n).flatMap (fun p => if p = m then y else []) = y
  | 0, h => by omega
  | n + 1, h => by
    rw [List.range_succ, List.flatMap_append]
    by_cases e : m = n
    · have h0 : (List.range n).flatMap (fun p => if p = m then y else []) = [] := by
        rw [List.flatMap_eq_nil_iff]
        intro p hp
        rw [if_neg (by have := List.mem_range.1 hp; omega)]
      rw [h0]
      simp [e]
    · rw [flat_one m y n (by omega)]
      simp [Ne.symm e]
theorem want_flat {d n : Nat} {x : Nat → List Int} (h : TmOk d n x) {m : Nat} (hm : m < n) : (List.range n).flatMap (wantG d n x m) = wantL d n x m := by
  unfold wantL
  have h1 := h.d1
  have h5 := h.d5
  by_cases h3 : d = 3
  · rw [if_pos h3]; congr 1; funext p; unfold wantG; rw [if_pos h3]
  · rw [if_neg h3]
    by_cases h4 : d = 4
    · rw [if_pos h4]; congr 1; funext p; unfold wantG; rw [if_neg h3, if_pos h4]
    · rw [if_neg h4]
      by_cases h1' : d = 1
      · rw [if_pos h1']; congr 1; funext p; unfold wantG; rw [if_neg h3, if_neg h4, if_pos h1']
      · rw [if_neg h1']
        have e : wantG d n x m = fun p => if p = m then pieceL (sumL n x) m n else [] := by funext p; unfold wantG; rw [if_neg h3, if_neg h4, if_neg h1']
        rw [e]
        exact flat_one m _ n hm
theorem wantG_len {d n : Nat} {x : Nat → List Int} (h : TmOk d n x) {m : Nat} (hm : m < n) {p : Nat} (hp : p < n) : (wantG d n x m p).length ≤ 200 := by
  unfold wantG
  have h0 := h.sm 0 h.n1
  have hs := sumL_len n x
  split
  · exact h.sm p hp
  · split
    · rw [piece_len _ _ _ hm]; exact Nat.le_trans (plN_le _ _ _ hm) (h.sm p hp)
    · split
      · rw [piece_len _ _ _ hp, hs]; exact Nat.le_trans (plN_le _ _ _ hp) h0
      · split
        · rw [piece_len _ _ _ hm, hs]; exact Nat.le_trans (plN_le _ _ _ hm) h0
        · simp
theorem flatG_len {f : Nat → List Int} {n : Nat} (hf : ∀ p, p < n → (f p).length ≤ 200) : ∀ j, j ≤ n → ((List.range j).flatMap f).length ≤ j * 200
  | 0, _ => by simp
  | j + 1, hj => by
    rw [List.range_succ, List.flatMap_append, List.length_append, Nat.succ_mul]
    have h1 := flatG_len hf j (by omega)
    have h2 := hf j (by omega)
    simp only [List.flatMap_cons, List.flatMap_nil, List.append_nil]
    omega
theorem sumL_in (n : Nat) (x : Nat → List Int) : ∀ w ∈ sumL n x, -9223372036854775808 ≤ w ∧ w ≤ 9223372036854775807 := fun w hw => by
  unfold sumL at hw
  obtain ⟨i, _, rfl⟩ := List.mem_map.1 hw
  exact wrap_in2 _
theorem want_in {d n : Nat} {x : Nat → List Int} (h : TmOk d n x) {m : Nat} (hm : m < n) : ∀ w ∈ wantL d n x m, -9223372036854775808 ≤ w ∧ w ≤ 9223372036854775807 := fun w hw => by
  rw [← want_flat h hm] at hw
  obtain ⟨p, hp, hw⟩ := List.mem_flatMap.1 hw
  have hp' := List.mem_range.1 hp
  unfold wantG at hw
  split at hw
  · exact h.rng p hp' w hw
  · split at hw
    · exact h.rng p hp' w (piece_in _ _ _ _ hw)
    · split at hw
      · exact sumL_in n x w (piece_in _ _ _ _ hw)
      · split at hw
        · exact sumL_in n x w (piece_in _ _ _ _ hw)
        · simp at hw
/-- Lists that were made, in a row of the call's own. -/
def OL (W : World) (B : Nat) (v : Value) (ys : List (Sl × List Int)) : Prop := W.ownsRow B 24 1 v ys.length (ys.map fun p => p.1.v) ∧ ∀ p ∈ ys, Num W p.1 p.2
theorem OL.start (W : World) (B : Nat) : OL W B (.slice none 0 0) [] := ⟨⟨rfl, .inl ⟨rfl, rfl⟩⟩, fun p hp => by simp at hp⟩
theorem OL.below {W V : World} {B : Nat} {v : Value} {ys : List (Sl × List Int)} (h : OL W B v ys) (hb : Below W.heap.size W V) : OL V B v ys := ⟨own_kp h.1 fun g e => hb.block g (h.1.lt g e).2, fun p hp => (h.2 p hp).below hb⟩
theorem info_ls : (Try.prog.info? 24).map (fun i => (i.zero, i.size, i.bytes)) = some (some (.slice none 0 0), 1, 24) := by kernel_rfl
theorem append_ol {w : World} {ops : Array Oper} {rest : List Oper} {o : Oper} {a : Act} {Q : Exit → Act → World → Prop} (hgd : o.guard = none) (s x : Operand)
    (ho : o.op = .call { callee := .builtin .append, args := #[s, x], argTypes := #[22, 22] }) (B : Nat) (v : Value) (ys : List (Sl × List Int)) (hs : a.eval s = v) (h : OL w B v ys)
    (g : Nat) (y : Sl) (xs : List Int) (hx : a.eval x = .slice (some ⟨g, 0, none⟩) 1 1) (hc : w.cell? ⟨g, 0, none⟩ = some (.slice y.a y.n y.c)) (hy : Num w y xs) (hl : ys.length ≤ 1000) (hB : B ≤ w.heap.size)
    (hQ : ∀ v' w', OL w' B v' (ys ++ [(y, xs)]) → Below B w w' → wpList Try.prog ops Q rest (a.put o.dst v') w') : wpList Try.prog ops Q (o :: rest) a w := by
  obtain ⟨i0, hi, hz0, hz1, hz2⟩ := info_parts info_ls
  refine wpList_append_own w hgd s x 22 ho B 24 i0 (.slice none 0 0) 1 24 Try.underlying22 hi hz0 hz1 hz2 rfl (by decide) v ys.length _ hs h.1 ⟨g, 0, none⟩ 1 1 [y.v] hx rfl ?_ ?_ (by unfold maxLen; omega) (by omega) hB (fun v' w' h1 h2 _ => hQ v' w' ⟨?_, fun p hp => ?_⟩ ((Below.refl B w).grown h2 hB (fun j e => (h.1.lt j e).1)))
  · intro j u hj
    have hj0 : j = 0 := by have := (List.getElem?_eq_some_iff.1 hj).1; simpa using this
    subst hj0
    have hu : u = y.v := by simpa using hj.symm
    rw [hu, add_pl]
    exact hc
  · intro u hu
    have : u = y.v := by simpa using hu
    rw [this]; rfl
  · rw [List.length_append, List.map_append]
    exact h1
  · have keep : ∀ (q : Sl) (zs : List Int), Num w q zs → Num w' q zs := fun q zs hq => hq.keep fun b hO => h2.block b (hq.lt hO) (fun e => by
      obtain ⟨cur, hcur⟩ := hq.blk b hO
      rcases h.1.2 with ⟨e1, _⟩ | ⟨g', cap', cur', e1, _, h3, _⟩
      · rw [e1] at e; simp [Value.ownBlock] at e
      · rw [e1] at e
        have : b = g' := by simpa [Value.ownBlock] using e
        subst this
        rw [hcur] at h3
        simp at h3)
    rcases List.mem_append.1 hp with h' | h'
    · exact keep _ _ (h.2 p h')
    · have : p = (y, xs) := by simpa using h'
      rw [this]
      exact keep _ _ hy
end Go.Proofs.Yticcoacoepajpaa.V
namespace Go.Proofs.Yticcoacoepajpaa.V
open Go Go.RowKit
set_option linter.unusedVariables false
set_option linter.unusedSimpArgs false

/-- What Wanted answers. -/
def WtAns (W : World) (d n : Nat) (x : Nat → List Int) (e : Ending) (w' : World) : Prop := ∃ (v : Value) (B : Nat) (ys : List (Sl × List Int)), e = .returned v ∧ OL w' B v ys ∧ ys.map (·.2) = (List.range n).map (wantL d n x) ∧ Below W.heap.size W w'
set_option maxRecDepth 20000 in
set_option maxHeartbeats 16000000 in
theorem rWanted_any (d : Int) (db doff dcap : Nat) (xss : List (List Int)) (W : World) (hd : DtA W db doff xss) (hA : AlkP d xss) (htm : TmOk d.toNat xss.length (fun i => xss[i]?.getD [])) :
    Calls Try.prog 13 #[.int .i64 d, .slice (some ⟨db, doff, none⟩) xss.length dcap] W fun e w' => WtAns W d.toNat xss.length (fun i => xss[i]?.getD []) e w' := by
  have HD := hide hd
  have HA := hide hA
  have HTM := hide htm
  have hn1 := hA.n1
  have hn6 := hA.n6
  have hd1 := hA.d1
  have hd4 := hA.d4
  have hall : ∀ i, i < xss.length → (xss[i]?.getD []).length ≤ 200 := fun i hi => (hA.all i hi).1
  have HALL := hide hall
  obtain ⟨x, hx⟩ : ∃ x : Nat → List Int, x = (fun i => xss[i]?.getD []) := ⟨_, rfl⟩
  have hxi : ∀ i, xss[i]?.getD [] = x i := fun i => by rw [hx]
  rw [← hx] at HTM ⊢
  have HXI := hide hxi
  obtain ⟨n, hnn⟩ : ∃ n, n = xss.length := ⟨_, rfl⟩
  rw [← hnn] at hn1 hn6 HTM ⊢
  have HN := hide hnn
  obtain ⟨X0, l0, c0, z0, zI, zC⟩ := hd 0 (by rw [← hnn]; omega)
  rw [Nat.add_zero] at z0
  have hz0 := lt_of_cell z0
  have hl0 : (x 0).length = l0 := by rw [← hxi]; exact zI.1
  have hl200 : l0 ≤ 200 := by rw [← hl0, ← hxi]; exact hall 0 (by rw [← hnn]; omega)
  have HL0 := hide hl0
  unfold WtAns
  clear hd hA htm hall hx hxi hnn zI zC hl0
  go_enter Try.func13, Try.ntmps13
  go_wp2_with fail
  go_loopw [6, 22] (fun v6 i wr => ∃ k : Nat, k ≤ l0 ∧ i = .int .i64 k ∧ Ow wr W.heap.size v6 ((List.range k).map (sumW n x)) ∧ Below W.heap.size W wr) (fun _ i _ => l0 - (intOf i).toNat)
  case atStart => exact ⟨0, Nat.zero_le _, by first | rfl | trivial, Ow.start _ _, Below.refl _ _⟩
  case round =>
    obtain ⟨k, hk, rfl, ho, hb⟩ := hrel
    have HO := hide ho
    have HB := hide hb
    clear ho hb
    by_cases hlt : k < l0
    · have hkz : (k : Int) < (l0 : Int) := by omega
      have HSL := hide (sumJ_zero x k)
      go_wp2_with fail
      go_loopw [8, 27] (fun v8 i wq => ∃ j : Nat, j ≤ n ∧ i = .int .i64 j ∧ v8 = .int .i64 (sumJ x k j) ∧ wq = wr) (fun _ i _ => n - (intOf i).toNat)
      case atStart => exact ⟨0, Nat.zero_le _, by first | rfl | trivial, by rw [HSL.out], by first | rfl | trivial⟩
      case round =>
        obtain ⟨j, hj, rfl, rfl, rfl⟩ := hrel
        by_cases hlt2 : j < n
        · obtain ⟨Xj, mj, cj, x0, xI, _⟩ := (HD.out.below HB.out) j (by rw [← HN.out]; exact hlt2)
          rw [HXI.out] at xI
          have xz := lt_of_cell x0
          have hjz : (j : Int) < (n : Int) := by omega
          have hst := sumJ_step x k j
          obtain ⟨s0, hs0⟩ : ∃ s0, s0 = sumJ x k j := ⟨_, rfl⟩
          obtain ⟨y0, hy0⟩ : ∃ y0, y0 = (x j)[k]?.getD 0 := ⟨_, rfl⟩
          have hsb : -9223372036854775808 ≤ s0 ∧ s0 ≤ 9223372036854775807 := by rw [hs0]; exact wrap_in2 _
          rw [← hs0, ← hy0] at hst
          rw [← hs0]
          by_cases hkm : k < mj
          · have hkm' : (k : Int) < (mj : Int) := by omega
            obtain ⟨b, off, rfl, hbz, hc⟩ := xI.at (by omega)
            have c1 := hc k hkm
            rw [← hy0] at c1
            have HST := hide hst
            clear xI hc hst hs0 hy0
            go_wp2_with fail
            go_roundw
            case rel => exact ⟨j + 1, by omega, by first | rfl | go_num, by rw [HST.out], by first | rfl | trivial⟩
            case measure => simp [intOf]; omega
          · have hkm' : ¬ (k : Int) < (mj : Int) := by omega
            have hy00 : y0 = 0 := by
              rw [hy0, List.getElem?_eq_none (by have := xI.1; omega)]; rfl
            have hst2 : sumJ x k (j + 1) = s0 := by rw [hst, hy00, Int.add_zero]; exact wrap_same hsb
            have HST := hide hst2
            clear xI hst hs0 hy0 hy00 hst2
            go_wp2_with fail
            go_roundw
            case rel => exact ⟨j + 1, by omega, by first | rfl | go_num, by rw [HST.out], by first | rfl | trivial⟩
            case measure => simp [intOf]; omega
        · obtain rfl : n = j := by omega
          have hsw : sumW n x k = sumJ x k n := rfl
          obtain ⟨s0, hs0⟩ : ∃ s0, s0 = sumJ x k n := ⟨_, rfl⟩
          have hsb : -9223372036854775808 ≤ s0 ∧ s0 ≤ 9223372036854775807 := by rw [hs0]; exact wrap_in2 _
          rw [← hs0] at hsw ⊢
          have HSW := hide hsw
          have HSB := hide hsb
          clear hsw hs0 hsb
          go_wp2_with (at_builtin; refine stp ?_)
          unfold Stp1
          refine append_ow (by rfl) (.tmp 42) (.tmp 44) (by rfl) W.heap.size _ _ (by rfl) (HO.out.below (bl_new _)) _ _ _ [s0] (by rfl) (lst_one wr s0 HSB.out 2).1 (by simp; omega) (by have := HB.out.size; simp; omega) ?_
          intro v9 w9 ho9 hb9
          have HO9 := hide ho9
          have HB9 := hide ((HB.out.alloc HB.out.size _).trans hb9)
          clear ho9 hb9
          go_wp2_with fail
          go_roundw
          case rel =>
            refine ⟨k + 1, by omega, by first | rfl | go_num, ?_, HB9.out⟩
            rw [List.range_succ, List.map_append]
            simp only [List.map_cons, List.map_nil]
            rw [HSW.out]
            exact HO9.out
          case measure => simp [intOf]; omega
    · obtain rfl : k = l0 := by omega
      have hsl : (List.range k).map (sumW n x) = sumL n x := by unfold sumL; rw [HL0.out]
      have ho := HO.out
      rw [hsl] at ho
      have hsn := sumL_len n x
      obtain ⟨⟨sa, sn, sc⟩, rfl, hsum, _⟩ := num_of_own ho (by rw [hsn, HL0.out]; omega) (fun w hw => by
        unfold sumL at hw
        obtain ⟨i, _, rfl⟩ := List.mem_map.1 hw
        exact wrap_in2 _)
      have HSU := hide hsum
      clear ho hsl hsn hsum HO
      obtain ⟨w2, rfl⟩ : ∃ w2, w2 = wr := ⟨_, rfl⟩
      go_wp2_with fail
      go_loopw [11, 49] (fun v11 i wr2 => ∃ m : Nat, m ≤ n ∧ i = .int .i64 m ∧ (∃ ys, OL wr2 w2.heap.size v11 ys ∧ ys.map (·.2) = (List.range m).map (wantL d.toNat n x)) ∧ Below w2.heap.size w2 wr2) (fun _ i _ => n - (intOf i).toNat)
      case atStart => exact ⟨0, Nat.zero_le _, by first | rfl | trivial, ⟨[], OL.start _ _, rfl⟩, Below.refl _ _⟩
      case round =>
        obtain ⟨m, hm, rfl, ⟨ys, hol, hys⟩, hb⟩ := hrel
        have HOL := hide hol
        have HYS := hide hys
        have HB2 := hide hb
        clear hol hys hb
        by_cases hlt3 : m < n
        · have hmz : (m : Int) < (n : Int) := by omega
          obtain ⟨w3, rfl⟩ : ∃ w3, w3 = wr := ⟨_, rfl⟩
          go_wp2_with fail
          go_loopw [13, 54] (fun v13 i wq => ∃ j : Nat, j ≤ n ∧ i = .int .i64 j ∧ Ow wq w3.heap.size v13 ((List.range j).flatMap (wantG d.toNat n x m)) ∧ Below w3.heap.size w3 wq) (fun _ i _ => n - (intOf i).toNat)
          case atStart => exact ⟨0, Nat.zero_le _, by first | rfl | trivial, Ow.start _ _, Below.refl _ _⟩
          case round =>
            obtain ⟨j, hj, rfl, ho, hb⟩ := hrel
            have HO3 := hide ho
            have HB3 := hide hb
            clear ho hb
            have hln : ((List.range j).flatMap (wantG d.toNat n x m)).length ≤ j * 200 := flatG_len (fun p hp => wantG_len HTM.out hlt3 hp) j hj
            have hln2 : ((List.range j).flatMap (wantG d.toNat n x m)).length ≤ 1200 := by omega
            have HLN := hide hln2
            clear hln hln2
            by_cases hlt4 : j < n
            · have hjz : (j : Int) < (n : Int) := by omega
              have hbw : Below W.heap.size W wr := bl_on (bl_on HB.out HB2.out) HB3.out
              obtain ⟨Xj, mj, cj, x0, xI, xC⟩ := (HD.out.below hbw) j (by rw [← HN.out]; exact hlt4)
              rw [HXI.out] at xI
              have xz := lt_of_cell x0
              have hmj : mj ≤ 200 := by rw [← xI.1, ← HXI.out]; exact HALL.out j (by rw [← HN.out]; exact hlt4)
              have HIJ := hide xI
              have HSJ := hide ((HSU.out.below HB2.out).below HB3.out)
              have hsn : sn = k := by have := HSU.out.len; rw [sumL_len, HL0.out] at this; exact this.symm
              have HSN := hide hsn
              have hsn2 : sn ≤ 200 := by omega
              clear hbw xI hsn
              by_cases d3 : d = 3
              · subst d3
                go_wp2_with (at_builtin; refine stp ?_)
                unfold Stp1
                refine append_ow (by rfl) (.tmp 71) (.tmp 72) (by rfl) w3.heap.size _ _ (by rfl) HO3.out _ _ _ (x j) (by rfl) HIJ.out (by have := HLN.out; omega) (by have := HB3.out.size; omega) ?_
                intro v9 w9 ho9 hb9
                have HO9 := hide ho9
                have HB9 := hide (HB3.out.trans hb9)
                clear ho9 hb9
                go_wp2_with fail
                go_roundw
                case rel =>
                  refine ⟨j + 1, by omega, by first | rfl | go_num, ?_, HB9.out⟩
                  rw [List.range_succ, List.flatMap_append]
                  simp only [List.flatMap_cons, List.flatMap_nil, List.append_nil]
                  rw [show wantG (3 : Int).toNat n x m j = x j from by unfold wantG; rw [if_pos (by decide)]]
                  exact HO9.out
                case measure => simp [intOf]; omega
              by_cases d4 : d = 4
              · subst d4
                have HPC := hide (rPiece_any (⟨Xj, mj, cj⟩ : Sl).a (⟨Xj, mj, cj⟩ : Sl).n (⟨Xj, mj, cj⟩ : Sl).c (x j) m n wr HIJ.out xC (by simp only; omega) hlt3 (by omega))
                go_wp2_with (first
                  | (go_at_call 15; refine HPC.out.mono ?_; rintro e w8 ⟨⟨A8, m8, c8, rfl, hI8, _, hm8, hml8⟩, hb8⟩; have HI8 := hide hI8; have HB8 := hide hb8; have HM8 := hide hm8; clear hI8 hb8 hm8)
                  | (at_builtin; refine stp ?_))
                unfold Stp1
                refine append_ow (by rfl) (.tmp 76) (.tmp 80) (by rfl) w3.heap.size _ _ (by rfl) (HO3.out.below HB8.out) _ _ _ (pieceL (x j) m n) (by rfl) HI8.out (by have := HLN.out; omega) (by have := HB8.out.size; have := HB3.out.size; omega) ?_
                intro v9 w9 ho9 hb9
                have HO9 := hide ho9
                have HB9 := hide ((HB3.out.trans (HB8.out.mono HB3.out.size)).trans hb9)
                clear ho9 hb9
                go_wp2_with fail
                go_roundw
                case rel =>
                  refine ⟨j + 1, by omega, by first | rfl | go_num, ?_, HB9.out⟩
                  rw [List.range_succ, List.flatMap_append]
                  simp only [List.flatMap_cons, List.flatMap_nil, List.append_nil]
                  rw [show wantG (4 : Int).toNat n x m j = pieceL (x j) m n from by unfold wantG; rw [if_neg (by decide), if_pos (by decide)]]
                  exact HO9.out
                case measure => simp [intOf]; omega
              by_cases d1 : d = 1
              · subst d1
                have HPC := hide (rPiece_any (⟨sa, sn, sc⟩ : Sl).a (⟨sa, sn, sc⟩ : Sl).n (⟨sa, sn, sc⟩ : Sl).c (sumL n x) j n wr HSJ.out.ints HSJ.out.cap (by simp only; omega) hlt4 (by omega))
                go_wp2_with (first
                  | (go_at_call 15; refine HPC.out.mono ?_; rintro e w8 ⟨⟨A8, m8, c8, rfl, hI8, _, hm8, hml8⟩, hb8⟩; have HI8 := hide hI8; have HB8 := hide hb8; have HM8 := hide hm8; clear hI8 hb8 hm8)
                  | (at_builtin; refine stp ?_))
                unfold Stp1
                refine append_ow (by rfl) (.tmp 84) (.tmp 88) (by rfl) w3.heap.size _ _ (by rfl) (HO3.out.below HB8.out) _ _ _ (pieceL (sumL n x) j n) (by rfl) HI8.out (by have := HLN.out; omega) (by have := HB8.out.size; have := HB3.out.size; omega) ?_
                intro v9 w9 ho9 hb9
                have HO9 := hide ho9
                have HB9 := hide ((HB3.out.trans (HB8.out.mono HB3.out.size)).trans hb9)
                clear ho9 hb9
                go_wp2_with fail
                go_roundw
                case rel =>
                  refine ⟨j + 1, by omega, by first | rfl | go_num, ?_, HB9.out⟩
                  rw [List.range_succ, List.flatMap_append]
                  simp only [List.flatMap_cons, List.flatMap_nil, List.append_nil]
                  rw [show wantG (1 : Int).toNat n x m j = pieceL (sumL n x) j n from by unfold wantG; rw [if_neg (by decide), if_neg (by decide), if_pos (by decide)]]
                  exact HO9.out
                case measure => simp [intOf]; omega
              obtain rfl : (2 : Int) = d := by omega
              by_cases e : j = m
              · have e1 : (j : Int) = (m : Int) := by omega
                have e2 : ((j : Int) == (m : Int)) = true := by simp; omega
                have E := hide e
                clear e e1
                have HPC := hide (rPiece_any (⟨sa, sn, sc⟩ : Sl).a (⟨sa, sn, sc⟩ : Sl).n (⟨sa, sn, sc⟩ : Sl).c (sumL n x) m n wr HSJ.out.ints HSJ.out.cap (by simp only; omega) hlt3 (by omega))
                go_wp2_with (first
                  | (go_at_call 15; refine HPC.out.mono ?_; rintro e w8 ⟨⟨A8, m8, c8, rfl, hI8, _, hm8, hml8⟩, hb8⟩; have HI8 := hide hI8; have HB8 := hide hb8; have HM8 := hide hm8; clear hI8 hb8 hm8)
                  | (at_builtin; refine stp ?_))
                unfold Stp1
                refine append_ow (by rfl) (.tmp 63) (.tmp 67) (by rfl) w3.heap.size _ _ (by rfl) (HO3.out.below HB8.out) _ _ _ (pieceL (sumL n x) m n) (by rfl) HI8.out (by have := HLN.out; omega) (by have := HB8.out.size; have := HB3.out.size; omega) ?_
                intro v9 w9 ho9 hb9
                have HO9 := hide ho9
                have HB9 := hide ((HB3.out.trans (HB8.out.mono HB3.out.size)).trans hb9)
                clear ho9 hb9
                go_wp2_with fail
                go_roundw
                case rel =>
                  refine ⟨j + 1, by omega, by first | rfl | go_num, ?_, HB9.out⟩
                  rw [List.range_succ, List.flatMap_append]
                  simp only [List.flatMap_cons, List.flatMap_nil, List.append_nil]
                  rw [show wantG (2 : Int).toNat n x m j = pieceL (sumL n x) m n from by unfold wantG; rw [if_neg (by decide), if_neg (by decide), if_neg (by decide), if_pos E.out]]
                  exact HO9.out
                case measure => simp [intOf]; omega
              · have e1 : ¬ ((j : Int) = (m : Int)) := by omega
                have e2 : ((j : Int) == (m : Int)) = false := by simp; omega
                have E := hide e
                clear e e1
                go_wp2_with fail
                go_roundw
                case rel =>
                  refine ⟨j + 1, by omega, by first | rfl | go_num, ?_, HB3.out⟩
                  rw [List.range_succ, List.flatMap_append]
                  simp only [List.flatMap_cons, List.flatMap_nil, List.append_nil]
                  rw [show wantG (2 : Int).toNat n x m j = [] from by unfold wantG; rw [if_neg (by decide), if_neg (by decide), if_neg (by decide), if_neg E.out], List.append_nil]
                  exact HO3.out
                case measure => simp [intOf]; omega
            · obtain rfl : n = j := by omega
              have ho := HO3.out
              rw [want_flat HTM.out hlt3] at ho
              have hlw : (wantL d.toNat n x m).length ≤ 1200 := by rw [← want_flat HTM.out hlt3]; exact HLN.out
              obtain ⟨⟨ya, yn, yc⟩, rfl, hyn, _⟩ := num_of_own ho (by omega) (fun w hw => want_in HTM.out hlt3 w hw)
              have HYN := hide hyn
              have HOL3 := hide (HOL.out.below HB3.out)
              have hyl : ys.length = m := by have := congrArg List.length HYS.out; simpa using this
              have HYL := hide hyl
              clear ho hlw hyn hyl
              go_wp2_with (at_builtin; refine stp ?_)
              unfold Stp1
              refine append_ol (by rfl) (.tmp 91) (.tmp 93) (by rfl) w2.heap.size _ ys (by rfl) (HOL3.out.below (bl_new _)) _ ⟨ya, yn, yc⟩ (wantL d.toNat n x m) (by rfl) (box_cell wr _ _ 0 _ rfl) (HYN.out.below (bl_new _)) (by have := HYL.out; omega) (by have := HB2.out.size; have := HB3.out.size; simp; omega) ?_
              intro v9 w9 ho9 hb9
              have HO9 := hide ho9
              have HB9 := hide (((HB2.out.trans (HB3.out.mono HB2.out.size)).alloc (by have := HB2.out.size; have := HB3.out.size; omega) _).trans hb9)
              clear ho9 hb9
              go_wp2_with fail
              go_roundw
              case rel =>
                refine ⟨m + 1, by omega, by first | rfl | go_num, ⟨ys ++ [(⟨ya, yn, yc⟩, wantL d.toNat n x m)], HO9.out, ?_⟩, HB9.out⟩
                rw [List.range_succ, List.map_append, List.map_append, HYS.out]
                rfl
              case measure => simp [intOf]; omega
        · obtain rfl : n = m := by omega
          go_wp2_with fail
          go_ret
          exact ⟨_, _, ys, rfl, HOL.out, HYS.out, bl_on HB.out HB2.out⟩
end Go.Proofs.Yticcoacoepajpaa.V
