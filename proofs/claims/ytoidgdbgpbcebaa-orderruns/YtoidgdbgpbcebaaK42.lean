/-
  Contracts: the document's Fits, Copy. Contract: the document's Run, where something is wrong; one number more in a list of the call's own. Spots appended to spots: what the document's Run does when it takes one out of its list. Equal times, as the machine compares them. Contract: the document's Run.
-/
import Derived.Test.YtoidgdbgpbcebaaK18
import Derived.Test.YtoidgdbgpbcebaaK11
import Derived.Test.YtoidgdbgpbcebaaK12
import Derived.Test.YtoidgdbgpbcebaaK15
import Derived.ArgAppend
import Derived.ChangeKeysEq
import Derived.Laws.StructEq
namespace Go.Proofs.Ytoidgdbgpbcebaa.V
open Go.RowKit
set_option linter.unusedVariables false

theorem append_list64 {w : World} {ops : Array Oper} {rest : List Oper} {o : Oper} {a : Act} {Q : Exit → Act → World → Prop} (hgd : o.guard = none) (s x : Operand)
    (ho : o.op = .call { callee := .builtin .append, args := #[s, x], argTypes := #[82, 82] }) (base : Nat)
    (v : Value) (n : Nat) (xs : List Value) (hs : a.eval s = v) (hown : w.ownsRow base 2 1 v n xs)
    (X : Option Addr) (m c : Nat) (ys : List Int) (hx : a.eval x = .slice X m c) (hl : Lst w X m c ys) (hbytes : (n + m) * 8 ≤ 140737488355328) (hbase : base ≤ w.heap.size)
    (h : ∀ v' w', w'.ownsRow base 2 1 v' (n + m) (xs ++ ys.map (Value.int .i64)) → w.grownBy w' v.ownBlock → (v ≠ .slice none 0 0 → v' ≠ .slice none 0 0) → wpList Try.prog ops Q rest (a.put o.dst v') w') : wpList Try.prog ops Q (o :: rest) a w := by
  obtain ⟨i0, hi, hz0, hz1, hz2⟩ := info_parts info_i64
  obtain ⟨hI, hmc, hnc⟩ := hl
  cases X with
  | none =>
    have hm0 : m = 0 := by
      rcases hI.2.2.2 with e | ⟨b, off, e, _⟩
      · exact e
      · cases e
    obtain rfl := hm0
    obtain rfl := hnc rfl
    have hys : ys = [] := by rw [← List.length_eq_zero_iff]; exact hI.1
    subst hys
    refine wpList_append_own_none hgd s x 82 ho base 2 i0 1 Try.underlying82 hi v n xs hs hown hx ?_
    exact h v w (by simpa using hown) (World.grownBy.refl w _) (fun hne => hne)
  | some ad =>
    refine wpList_append_own w hgd s x 82 ho base 2 i0 (.int .i64 0) 1 8 Try.underlying82 hi hz0 hz1 hz2 rfl (by decide) v n xs hs hown ad m c (ys.map (Value.int .i64)) hx (by simp [hI.1]) ?_ ?_ (by unfold maxLen; omega) hbytes hbase (fun v' w' h1 h2 h3 => h v' w' h1 h2 (fun hne e => hne (h3.1 e).1))
    · intro j u hj
      have hjl : j < m := by have := (List.getElem?_eq_some_iff.1 hj).1; simpa [hI.1] using this
      obtain ⟨b, off, e, _, hc⟩ := hI.at (by omega)
      cases e
      have h3 : u = .int .i64 (ys[j]?.getD 0) := by
        have : j < ys.length := by rw [hI.1]; exact hjl
        simp [this] at hj ⊢
        exact hj.symm
      rw [h3, Go.WideShapes.add_plain]
      exact hc j hjl
    · intro u hu; simp at hu; obtain ⟨y, _, rfl⟩ := hu; rfl

set_option maxRecDepth 100000 in
set_option maxHeartbeats 2000000 in
theorem rFits_any (za : Option Addr) (zl zc : Nat) (zs : List Int) (vt : Value) (a : Option Addr) (len cap : Nat) (L : Mem) (w : World) (hz : Ints w za zl zs) (hA : MemA w a len L) :
    Calls Try.prog 23 #[.agg #[.slice za zl zc, vt], .slice a len cap] w fun e w' => e = .returned (.int .i64 (fitsE zs L)) ∧ Below w.heap.size w w' := by
  have B1 : Below w.heap.size w (w.alloc (.cells #[.slice za zl zc, vt] 25)) := bl_new _
  obtain ⟨p0, p1⟩ := cells_two (World.alloc_heap_new w (.cells #[.slice za zl zc, vt] 25))
  have HB := hide B1
  have HZ := hide (hz.below B1)
  have HA := hide (hA.below B1)
  have hm1 := hz.2.1
  have hm2 := hA.2.1
  by_cases c2 : len = zl
  · have E6 : Hid (∀ k, k < len → ((arrM L k).length : Int) ≠ zs[k]?.getD 0 → fitsE zs L = 6) := fun k hk hn => fits_here (by rw [hA.1, hz.1]; exact c2) (by rw [hA.1]; exact hk) hn
    have E0 : Hid (∀ (_ : ∀ k, k < len → ((arrM L k).length : Int) = zs[k]?.getD 0), fitsE zs L = 0) := fun ha => fits_all (by rw [hA.1, hz.1]; exact c2) (fun k hk => ha k (by rw [← hA.1]; exact hk))
    obtain rfl := c2
    clear hz hA B1
    go_enter Try.func23, Try.ntmps23
    go_wp2_with fail
    go_loop [15] (fun i => ∃ k : Nat, k ≤ len ∧ i = .int .i64 k ∧ ∀ j, j < k → ((arrM L j).length : Int) = zs[j]?.getD 0) (fun i => len - (intOf i).toNat)
    case atStart => exact ⟨0, Nat.zero_le _, rfl, fun j hj => by omega⟩
    case round =>
      obtain ⟨k, hk, rfl, hn⟩ := hrel
      have HN := hide hn
      clear hn
      by_cases hlt : k < len
      · obtain ⟨b, off, rfl, hat⟩ := HA.out.at (by omega)
        obtain ⟨x, l, c, c1, c2⟩ := hat k hlt
        have hl2 : (arrM L k).length = l := c2.1.1
        have hlm := c2.1.2.1
        obtain ⟨zb, zo, rfl, hzb, hzc⟩ := HZ.out.at (by omega)
        have hzk := hzc k hlt
        have E6k := E6.out k hlt
        rw [hl2] at E6k
        have HLL := hide hl2
        obtain ⟨y, hy⟩ : ∃ y, y = zs[k]?.getD 0 := ⟨_, rfl⟩
        rw [← hy] at hzk E6k
        have HY := hide hy
        have HE6 := hide E6k
        clear hat c2 hl2 hzc hy E6k
        by_cases q : (l : Int) = y
        · have q1 : ((l : Int) != y) = false := by simpa using q
          have HQ := hide q
          clear q
          go_wp2_with fail
          go_round
          case rel =>
            refine ⟨k + 1, by omega, by go_num, fun j hj => ?_⟩
            by_cases e : j = k
            · subst e; rw [HLL.out, ← HY.out]; exact HQ.out
            · exact HN.out j (by omega)
          case measure => simp [intOf]; omega
        · have q1 : ((l : Int) != y) = true := by simpa using q
          have HQ := hide q
          clear q
          go_wp2_with fail
          go_ret
          exact ⟨by rw [HE6.out HQ.out]; rfl, HB.out⟩
      · have HE : Hid (fitsE zs L = 0) := E0.out (fun j hj => HN.out j (by omega))
        go_wp2_with fail
        go_ret
        exact ⟨by rw [HE.out]; rfl, HB.out⟩
  · have e2 : fitsE zs L = 2 := fits_len (by rw [hA.1, hz.1]; exact c2)
    have c3 : ((len : Int) != (zl : Int)) = true := by simp; omega
    rw [e2]
    clear hz hA B1 c2 e2
    go_enter Try.func23, Try.ntmps23
    go_wp2_with fail
    go_ret
    exact ⟨rfl, HB.out⟩

/-- The first k arrays, copied. -/
structure OutM (W : World) (B : Nat) (v : Value) (G C : Nat → Nat) (L : Mem) (k : Nat) : Prop where
  own : W.ownsRow B 82 1 v k ((List.range k).map fun j => .slice (some ⟨G j, 0, none⟩) (arrM L j).length (C j))
  rows : ∀ j, j < k → RowN W (G j) (C j) (arrM L j)
  apart : ∀ i j, i < k → j < k → G i = G j → i = j
  lo : ∀ j, j < k → B ≤ G j
theorem OutM.below {W W' : World} {B : Nat} {v : Value} {G C : Nat → Nat} {L : Mem} {k : Nat} (h : OutM W B v G C L k) (hb : Below W.heap.size W W') : OutM W' B v G C L k := ⟨ownsRow_below h.own hb, fun j hj => (h.rows j hj).below hb, h.apart, h.lo⟩
theorem RowN.left {w w1 : World} {o : Obj} {B n : Nat} {v : Value} {vs : List Value} {g c : Nat} {xs : List Int} (h : RowN w g c xs) (ho : w.ownsRow B 82 1 v n vs) (hg : (w.alloc o).grownBy w1 v.ownBlock) : RowN w1 g c xs := by
  obtain ⟨cur, h1, h2⟩ := h
  have hb := (Array.getElem?_eq_some_iff.1 h1).1
  refine ⟨cur, ((hg.block g (by simp; omega) (fun ev => ?_)).trans (Below.heap_alloc _ _ _ hb)).trans h1, h2⟩
  rcases ho.2 with ⟨rfl, _⟩ | ⟨g', cap, cur', rfl, _, hbk, _⟩
  · simp [Value.ownBlock] at ev
  · obtain rfl : g = g' := by simpa [Value.ownBlock] using ev
    rw [hbk] at h1
    cases h1
theorem OutM.mems {W : World} {B : Nat} {v : Value} {G C : Nat → Nat} {L : Mem} (h : OutM W B v G C L L.length) (hb : MemB L) (hs : ∀ k, (arrM L k).length ≤ 65536) : ∃ A c, v = .slice A L.length c ∧ L.length ≤ c ∧ Mems W B A G C L := by
  have ho := h.own
  rcases h.own.2 with ⟨rfl, h2⟩ | ⟨g, cap, cur, rfl, h3, hbk, h4, _⟩
  · exact ⟨none, 0, by rw [h2], by omega, ⟨.inl h2, h.rows, h.apart, h.lo, hb, hs⟩⟩
  · refine ⟨_, cap, rfl, h4, ⟨.inr ⟨g, 0, rfl, fun k hk => ⟨?_, fun e => ?_⟩⟩, h.rows, h.apart, h.lo, hb, hs⟩⟩
    · rw [Nat.zero_add, ho.cellAt k (by omega)]
      simp [hk]
    · obtain ⟨cur', h5, _⟩ := h.rows k hk
      rw [e, hbk] at h5
      cases h5
set_option maxRecDepth 100000 in
/-- append(out, array). -/
theorem append_arr {w : World} {ops : Array Oper} {rest : List Oper} {op : Oper} {a : Act} {Q : Exit → Act → World → Prop} (hgd : op.guard = none) (s x : Operand)
    (ho : op.op = .call { callee := .builtin .append, args := #[s, x], argTypes := #[28, 28] }) (B : Nat)
    (v : Value) (hs : a.eval s = v) (G C : Nat → Nat) (L : Mem) (k : Nat) (g c : Nat) (hout : OutM w B v G C L k) (hX : RowN w g c (arrM L k)) (hg : ∀ j, j < k → G j < g) (hBg : B ≤ g)
    (hx : a.eval x = .slice (some ⟨w.heap.size, 0, none⟩) 1 1) (hbytes : (k + 1) * 24 ≤ 140737488355328) (hB : B ≤ w.heap.size)
    (h : ∀ v' w', OutM w' B v' (fun j => if j = k then g else G j) (fun j => if j = k then c else C j) L (k + 1) → Below B w w' → wpList Try.prog ops Q rest (a.put op.dst v') w') :
    wpList Try.prog ops Q (op :: rest) a (w.alloc (.cells #[.slice (some ⟨g, 0, none⟩) (arrM L k).length c] 82)) := by
  obtain ⟨i0, hi, hz0, hz1, hz2⟩ := info_parts info_arrs
  refine wpList_append_own _ hgd s x 28 ho B 82 i0 (.slice none 0 0) 1 24 Try.underlying28 hi hz0 hz1 hz2 rfl (by decide) v k _ hs (hout.own.alloc _) ⟨w.heap.size, 0, none⟩ 1 1 [.slice (some ⟨g, 0, none⟩) (arrM L k).length c] hx rfl ?_ ?_ (by unfold maxLen; omega) hbytes (by simp; omega) (fun v' w' k1 k2 _ => h v' w' ⟨?_, fun j hj => ?_, fun i j hi hj => ?_, fun j hj => ?_⟩ (((Below.refl B w).alloc hB _).grown k2 (by simp; omega) (fun j e => (hout.own.lt j e).1)))
  · intro j u hj
    have hjl : j = 0 := by have := (List.getElem?_eq_some_iff.1 hj).1; simp at this; exact this
    subst hjl
    simp at hj
    rw [← hj, Go.WideShapes.add_plain]
    show (w.alloc (.cells #[.slice (some ⟨g, 0, none⟩) (arrM L k).length c] 82)).cell? ⟨w.heap.size, 0 + 0, none⟩ = _
    unfold World.cell?
    rw [World.alloc_heap_new w (.cells #[.slice (some ⟨g, 0, none⟩) (arrM L k).length c] 82)]
    rfl
  · intro u hu; simp at hu; subst hu; rfl
  · have e : (List.range (k + 1)).map (fun j => Value.slice (some ⟨if j = k then g else G j, 0, none⟩) (arrM L j).length (if j = k then c else C j)) = (List.range k).map (fun j => .slice (some ⟨G j, 0, none⟩) (arrM L j).length (C j)) ++ [.slice (some ⟨g, 0, none⟩) (arrM L k).length c] := by
      rw [List.range_succ, List.map_append]
      congr 1
      · refine List.map_congr_left (fun j hj => ?_)
        have : j ≠ k := by have := List.mem_range.1 hj; omega
        simp [this]
      · simp
    rw [e]; exact k1
  · by_cases e : j = k
    · subst e; simp only [if_true]; exact hX.left hout.own k2
    · simp only [if_neg e]; exact (hout.rows j (by omega)).left hout.own k2
  · by_cases e1 : i = k
    · by_cases e2 : j = k
      · omega
      · rw [if_pos e1, if_neg e2]; intro e; have := hg j (by omega); omega
    · by_cases e2 : j = k
      · rw [if_neg e1, if_pos e2]; intro e; have := hg i (by omega); omega
      · rw [if_neg e1, if_neg e2]; exact hout.apart i j (by omega) (by omega)
  · split
    · exact hBg
    · exact hout.lo j (by omega)
theorem rowN_of_own {w : World} {B : Nat} {v : Value} {n : Nat} {xs : List Int} (h : w.ownsRow B 2 1 v n (xs.map (Value.int .i64))) (hl : xs.length = n) (hv : v ≠ .slice none 0 0) : ∃ g c, v = .slice (some ⟨g, 0, none⟩) n c ∧ RowN w g c xs ∧ B ≤ g := by
  rcases h.2 with ⟨h1, _⟩ | ⟨g, cap, cur, rfl, h3, hbk, h4, _, h5, h6⟩
  · exact absurd h1 hv
  · refine ⟨g, cap, rfl, ⟨cur, hbk, by omega, by omega, fun j hj => ?_⟩, h3⟩
    have := congrArg (fun l => l[j]?) h6
    simp only [List.getElem?_take, Nat.mul_one] at this
    rw [if_pos (by omega)] at this
    simp [hj] at this
    rw [this]
    simp [hj]

set_option maxRecDepth 100000 in
set_option maxHeartbeats 2000000 in
theorem rCopy_any (a : Option Addr) (len cap : Nat) (L : Mem) (w : World) (hA : MemA w a len L) (hb24 : len * 24 ≤ 140737488355328) (hs : ∀ k, (arrM L k).length ≤ 65536) :
    Calls Try.prog 24 #[.slice a len cap] w fun e w' => (∃ A c, e = .returned (.slice A len c) ∧ len ≤ c ∧ ∃ G C, Mems w' w.heap.size A G C L) ∧ Below w.heap.size w w' := by
  have HA := hide hA
  have HL := hide hA.1
  have HBD := hide hA.bd
  have HS := hide hs
  have hm := hA.2.1
  clear hA hs
  go_enter Try.func24, Try.ntmps24
  go_wp2_with fail
  go_loopw [3, 8] (fun v i wr => ∃ k : Nat, k ≤ len ∧ i = .int .i64 k ∧ (∃ G C, OutM wr w.heap.size v G C L k) ∧ Below w.heap.size w wr) (fun _ i _ => len - (intOf i).toNat)
  case atStart => exact ⟨0, Nat.zero_le _, rfl, ⟨fun _ => 0, fun _ => 0, ⟨World.ownsRow_nil _ _ _ _, fun j hj => by omega, fun i j hi => by omega, fun j hj => by omega⟩⟩, Below.refl _ _⟩
  case round =>
    obtain ⟨k, hk, rfl, ⟨G, C, hO⟩, hB⟩ := hrel
    have HO := hide hO
    have HB := hide hB
    clear hO hB
    by_cases hlt : k < len
    · obtain ⟨b, off, rfl, hat⟩ := (HA.out.below HB.out).at (by omega)
      obtain ⟨x, l, c, c1, c2⟩ := hat k hlt
      have z1 := lt_of_cell c1
      simp only at z1
      have hl2 : (arrM L k).length = l := c2.1.1
      have hl6 : l ≤ 65536 := by rw [← hl2]; exact HS.out k
      have HLL := hide hl2
      have B1 : Below wr.heap.size wr (wr.alloc (.cells #[] 2)) := bl_new _
      have HO1 := hide (own_empty wr wr.heap.size 2 (Nat.le_refl _))
      have HX := hide (c2.below B1)
      have HB1 := hide B1
      have hsz := HB.out.size
      obtain ⟨ys, hys⟩ : ∃ ys, ys = arrM L k := ⟨_, rfl⟩
      rw [← hys] at HX HLL
      have HYS := hide hys
      clear hat c2 B1 hl2 hys
      have hgO := HO.out.rows
      have HGO := hide hgO
      clear hgO
      go_wp2_with (first
        | (at_builtin; refine append_arr rfl (.tmp 12) (.tmp 16) rfl w.heap.size _ rfl G C L k g c2 HO2.out HR2.out HGJ.out (by have := HG2.out; omega) rfl (by omega) (by omega) ?_; intro v4 w4 hout4 hb4; have HO4 := hide hout4; have HB4 := hide hb4; clear hout4 hb4)
        | (at_builtin; refine append_list64 rfl (.tmp 13) (.tmp 14) rfl wr.heap.size _ 0 [] rfl HO1.out x l c ys rfl HX.out (by omega) (by simp) ?_; intro v2 w2 hown hgrow hne; rw [List.nil_append] at hown; obtain ⟨g, c2, rfl, hR, hg⟩ := rowN_of_own hown (by rw [HLL.out]; omega) (hne (fun e => by cases e)); have HB2 := hide (HB1.out.grown hgrow (by simp) (fun j e => (HO1.out.lt j e).1)); have hz2 := hR.lt; have hs2 := HB2.out.size; have HG2 := hide hg; have HGJ : Hid (∀ j, j < k → G j < g) := fun j hj => Nat.lt_of_lt_of_le (HGO.out j hj).lt hg; rw [HYS.out] at hR; have HR2 := hide hR; have HO2 := hide (HO.out.below HB2.out); rw [show 0 + l = (arrM L k).length by rw [← HYS.out, HLL.out]; omega]; clear hown hgrow hne hR hg))
      go_roundw
      case rel => exact ⟨k + 1, by omega, by go_num, ⟨_, _, HO4.out⟩, HB.out.trans ((HB2.out.mono hsz).trans HB4.out)⟩
      case measure => simp [intOf]; omega
    · obtain rfl : len = k := by omega
      have hLn := HL.out
      have T := HO.out
      subst hLn
      obtain ⟨A, c, hv, hc, hM⟩ := T.mems HBD.out HS.out
      subst hv
      have HM := hide hM
      have HC := hide hc
      clear T hM hc
      go_wp2_with fail
      go_ret
      exact ⟨⟨A, c, rfl, HC.out, G, C, HM.out⟩, HB.out⟩
end Go.Proofs.Ytoidgdbgpbcebaa.V
namespace Go.Proofs.Ytoidgdbgpbcebaa.V
open Go.RowKit
set_option linter.unusedVariables false

set_option maxRecDepth 100000 in
set_option maxHeartbeats 4000000 in
theorem rORun_no (za : Option Addr) (zl zc : Nat) (zs : List Int) (ta : Option Addr) (tl tc : Nat) (ss : List Stm) (ma : Option Addr) (ml mc : Nat) (T : Tms) (a : Option Addr) (len cap : Nat) (L : Mem) (vx : Value) (w : World) (hz : Ints w za zl zs) (hs : Stms w ta tl ss) (hT : TimesA w ma ml T) (hA : MemA w a len L) (hE : ordRunE zs ss T L ≠ 0) :
    Calls Try.prog 9 #[.agg #[.slice za zl zc, .slice ta tl tc], .slice ma ml mc, .slice a len cap, vx] w fun e w' => e = .returned (.tuple #[.slice none 0 0, .int .i64 (ordRunE zs ss T L)]) ∧ Below w.heap.size w w' := by
  have B1 : Below w.heap.size w (w.alloc (.cells #[.slice za zl zc, .slice ta tl tc] 25)) := bl_new _
  have P0 := NsBlk.new w za zl zc ta tl tc
  obtain ⟨p0, p1⟩ := P0.cells
  have HW := hide (rRight_any za zl zc zs ta tl tc ss ma ml mc T _ (hz.below B1) (hs.below B1) (hT.below B1))
  have HF := hide (fun W (hb : Below w.heap.size w W) => rFits_any za zl zc zs (.slice ta tl tc) a len cap L W (hz.below hb) (hA.below hb))
  have HB := hide B1
  have HP := hide P0
  by_cases c1 : rightE zs ss T ≠ 0
  · have e1 : ordRunE zs ss T L = rightE zs ss T := by unfold ordRunE; rw [if_pos c1]
    have c2 : (rightE zs ss T != 0) = true := by simpa using c1
    rw [e1]
    clear hz hs hT hA e1 c1 B1 P0 hE
    go_enter Try.func9, Try.ntmps9
    go_wp2_with (go_at_call 22; refine HW.out.mono ?_; rintro e w1 ⟨rfl, hb⟩; have HB1 := hide (bl_on HB.out hb); have P1 := HP.out.below hb; obtain ⟨p0, p1⟩ := P1.cells; have zP := P1.lt; have HP1 := hide P1; clear hb P1)
    go_ret2
    exact ⟨rfl, HB1.out⟩
  have c1' : rightE zs ss T = 0 := by simpa using c1
  have e1 : ordRunE zs ss T L = fitsE zs L := by unfold ordRunE; rw [if_neg c1]
  have C1 := hide c1'
  rw [e1] at hE ⊢
  have c2 : (fitsE zs L != 0) = true := by simpa using hE
  clear hz hs hT hA e1 c1 c1' B1 P0 hE
  go_enter Try.func9, Try.ntmps9
  go_wp2_with (first | (go_at_call 22; refine HW.out.mono ?_; rintro e w1 ⟨rfl, hb⟩; rw [C1.out]; have HB1 := hide (bl_on HB.out hb); have P1 := HP.out.below hb; obtain ⟨p0, p1⟩ := P1.cells; have zP := P1.lt; have HP1 := hide P1; clear hb P1) | (go_at_call 23; refine (HF.out w1 HB1.out).mono ?_; rintro e w2 ⟨rfl, hb⟩; have HB2 := hide (bl_on HB1.out hb); have P2 := HP1.out.below hb; obtain ⟨p0, p1⟩ := P2.cells; have zP := P2.lt; have HP2 := hide P2; clear hb P2))
  go_ret2
  exact ⟨rfl, HB2.out⟩
end Go.Proofs.Ytoidgdbgpbcebaa.V
namespace Go.Proofs.Ytoidgdbgpbcebaa.V
open Go Go.RowKit
set_option linter.unusedVariables false

theorem sp_vs {w : World} {b off n : Nat} {S : List (Nat × List Int)} (h : SP w (some ⟨b, off, none⟩) n S) : ∃ us, VS w us S ∧ ∀ j u, us[j]? = some u → w.cell? ⟨b, off + j, none⟩ = some u := by
  obtain ⟨h1, h2⟩ := h
  refine ⟨(List.range (n * 2)).map (fun j => (w.cell? ⟨b, off + j, none⟩).getD undef), ⟨by simp [h1], fun i hi => ?_⟩, fun j u hj => ?_⟩
  · rcases h2 with h2 | ⟨b', off', e, _, h3⟩
    · omega
    · cases e
      obtain ⟨a, l, c, c1, c2, c3, c4⟩ := h3 i (by omega)
      have e1 : i * 2 < n * 2 := by omega
      have e2 : i * 2 + 1 < n * 2 := by omega
      have c2' : w.cell? ⟨b, off + (i * 2 + 1), none⟩ = some (.slice a l c) := c2
      refine ⟨a, l, c, ?_, ?_, c3, c4⟩
      · simp [e1, c1]
      · simp [e2, c2']
  · have hjl : j < n * 2 := by have := (List.getElem?_eq_some_iff.1 hj).1; simpa using this
    rcases h2 with h2 | ⟨b', off', e, _, h3⟩
    · omega
    · cases e
      obtain ⟨a, l, c, c1, c2, _⟩ := h3 (j / 2) (by omega)
      rw [List.getElem?_map, List.getElem?_range hjl] at hj
      simp only [Option.map_some, Option.some.injEq] at hj
      by_cases ev : j % 2 = 0
      · have ej : j = j / 2 * 2 := by omega
        rw [← ej] at c1
        rw [c1] at hj ⊢
        simpa using hj
      · have ej : off + j / 2 * 2 + 1 = off + j := by omega
        rw [ej] at c2
        rw [c2] at hj ⊢
        simpa using hj
theorem VS.one {w : World} {vs : List Value} {S : List (Nat × List Int)} (h : VS w vs S) : ∀ u ∈ vs, u.oneCell' = true := by
  intro u hu
  obtain ⟨j, hj, rfl⟩ := List.mem_iff_getElem.1 hu
  have hj2 := hj
  rw [h.1] at hj2
  obtain ⟨a, l, c, e1, e2, _⟩ := h.2 (j / 2) (by omega)
  by_cases ev : j % 2 = 0
  · have ej : j / 2 * 2 = j := by omega
    rw [ej, List.getElem?_eq_getElem hj] at e1
    rw [Option.some.inj e1]
    rfl
  · have ej : j / 2 * 2 + 1 = j := by omega
    rw [ej, List.getElem?_eq_getElem hj] at e2
    rw [Option.some.inj e2]
    rfl
theorem VS.cells {w w' : World} {vs : List Value} {S : List (Nat × List Int)} (h : VS w vs S) (hb : ∀ (b : Nat) cur, w.heap[b]? = some (Obj.cells cur 3 (0, 0)) → w'.heap[b]? = w.heap[b]?) : VS w' vs S := ⟨h.1, fun i hi => by
  obtain ⟨a, l, c, h1, h2, h3, h4⟩ := h.2 i hi
  exact ⟨a, l, c, h1, h2, lst_cells h3 h4 hb, h4.cells hb⟩⟩
theorem VS.append {w : World} {vs us : List Value} {S T : List (Nat × List Int)} (h : VS w vs S) (k : VS w us T) : VS w (vs ++ us) (S ++ T) := by
  refine ⟨by simp [h.1, k.1]; omega, fun i hi => ?_⟩
  by_cases e : i < S.length
  · obtain ⟨a, l, c, h1, h2, h3⟩ := h.2 i e
    refine ⟨a, l, c, ?_, ?_, ?_⟩
    · rw [List.getElem?_append_left (by rw [h.1]; omega), List.getElem?_append_left e]; exact h1
    · rw [List.getElem?_append_left (by rw [h.1]; omega)]; exact h2
    · rw [List.getElem?_append_left e]; exact h3
  · obtain ⟨a, l, c, h1, h2, h3⟩ := k.2 (i - S.length) (by simp at hi; omega)
    refine ⟨a, l, c, ?_, ?_, ?_⟩
    · rw [List.getElem?_append_right (by rw [h.1]; omega), List.getElem?_append_right (by omega), h.1, show i * 2 - S.length * 2 = (i - S.length) * 2 by omega]; exact h1
    · rw [List.getElem?_append_right (by rw [h.1]; omega), h.1, show i * 2 + 1 - S.length * 2 = (i - S.length) * 2 + 1 by omega]; exact h2
    · rw [List.getElem?_append_right (by omega)]; exact h3
/-- append(out, spots...). -/
theorem append_spots {w : World} {ops : Array Oper} {rest : List Oper} {op : Oper} {a : Act} {Q : Exit → Act → World → Prop} (hgd : op.guard = none) (s x : Operand)
    (ho : op.op = .call { callee := .builtin .append, args := #[s, x], argTypes := #[77, 77] }) (B : Nat)
    (v : Value) (hs : a.eval s = v) (S T : List (Nat × List Int)) (b off n c : Nat) (hout : OutS w B v S) (hT : SP w (some ⟨b, off, none⟩) n T)
    (hx : a.eval x = .slice (some ⟨b, off, none⟩) n c) (hbytes : (S.length + n) * 32 ≤ 140737488355328) (hB : B ≤ w.heap.size)
    (h : ∀ v' w', OutS w' B v' (S ++ T) → Below B w w' → (∀ (t : TypeId) (b : Nat) cur, t ≠ 36 → w.heap[b]? = some (Obj.cells cur t (0, 0)) → w'.heap[b]? = w.heap[b]?) → wpList Try.prog ops Q rest (a.put op.dst v') w') :
    wpList Try.prog ops Q (op :: rest) a w := by
  obtain ⟨i0, hi, hz0, hz1, hz2⟩ := info_parts info_spot
  obtain ⟨vs, h1, h2⟩ := hout
  obtain ⟨us, k1, k2⟩ := sp_vs hT
  have hl := hT.1
  refine wpList_append_own _ hgd s x 77 ho B 36 i0 (.agg #[.int .i64 0, .slice none 0 0]) 2 32 Try.underlying77 hi hz0 hz1 hz2 rfl (by decide) v S.length vs hs h1 ⟨b, off, none⟩ n c us hx (by rw [k1.1, hl]) (fun j u hj => ?_) k1.one (by unfold maxLen; omega) hbytes hB (fun v' w' q1 q2 _ => h v' w' ⟨vs ++ us, ?_, ?_⟩ ((Below.refl B w).grown q2 hB (fun j e => (h1.lt j e).1)) (fun t b cur ht hb => q2.block b (Array.getElem?_eq_some_iff.1 hb).1 (fun e => ?_)))
  · rw [Go.WideShapes.add_plain]
    exact k2 j u hj
  · rw [List.length_append, hl]; exact q1
  · have hb : ∀ (b : Nat) cur, w.heap[b]? = some (Obj.cells cur 3 (0, 0)) → w'.heap[b]? = w.heap[b]? := fun b cur hb => q2.block b (Array.getElem?_eq_some_iff.1 hb).1 (fun e => by
      rcases h1.2 with ⟨rfl, _⟩ | ⟨g, cap, cr, rfl, _, hg, _⟩
      · cases e
      · have e2 : g = b := by simpa [Value.ownBlock] using e.symm
        rw [e2, hb] at hg
        simp only [Option.some.injEq, Obj.cells.injEq] at hg
        exact absurd hg.2.1 (by decide))
    exact (h2.cells hb).append (k1.cells hb)
  · rcases h1.2 with ⟨rfl, _⟩ | ⟨g, cap, cr, rfl, _, hg, _⟩
    · cases e
    · have e2 : g = b := by simpa [Value.ownBlock] using e.symm
      rw [e2, hb] at hg
      simp only [Option.some.injEq, Obj.cells.injEq] at hg
      exact ht hg.2.1
/-- append([]api.Spot{}, spots...), of spots. -/
theorem spots_fresh {w : World} {o : Oper} {a : Act} {K : Act → World → Prop} {Q : Exit → Act → World → Prop} (s x : Operand) (ho : o.op = .call { callee := .builtin .append, args := #[s, x], argTypes := #[77, 77] })
    (N B b off n c : Nat) (S : List (Nat × List Int)) (hs : a.eval s = .slice (some ⟨B, 0, none⟩) 0 0) (hB : w.heap[B]? = some (.cells #[] 36 (0, 0))) (hNB : N ≤ B) (hx : a.eval x = .slice (some ⟨b, off, none⟩) n c) (hS : SP w (some ⟨b, off, none⟩) n S) (hn : n ≤ 1048576) (hN : N ≤ w.heap.size)
    (h : ∀ v w', OutS w' N v S → Below w.heap.size w w' → K (a.put o.dst v) w') : o.wp Try.prog a w K Q := by
  obtain ⟨i, hi1, hz, hsz, hby⟩ := info_parts info_spot
  have hl := hS.1
  by_cases h0 : n = 0
  · subst h0
    have hS0 : S = [] := List.length_eq_zero_iff.1 hl
    subst hS0
    have hr := run_append_room_cells (P := Try.prog) w 77 o.type 36 i Try.underlying77 hi1 B 0 0 0 ⟨b, off, none⟩ 0 c [] (by simp) (by simp) (by simp) (Nat.le_refl _) (by simp) (by simp)
    unfold Oper.wp
    simp [execOp, ho, resolve, invoke, builtin, hs, hx, hr, Result.andThen]
    have hw : w.setCells B 0 [] = w := rfl
    exact h _ _ ⟨[], ⟨rfl, .inr ⟨B, 0, #[], rfl, hNB, hB, Nat.le_refl _, by unfold maxLen; omega, by simp, by simp⟩⟩, ⟨rfl, fun i hi => by simp at hi⟩⟩ (Below.refl _ _)
  · obtain ⟨us, k1, k2⟩ := sp_vs hS
    obtain ⟨v', w', hr, r1, r2⟩ := run_append_arg_grows (P := Try.prog) w 77 o.type 36 i (.agg #[.int .i64 0, .slice none 0 0]) 2 32 Try.underlying77 hi1 hz hsz hby rfl (by omega) ⟨B, 0, none⟩ 0 0 [] rfl (fun j u hj => by simp at hj) ⟨b, off, none⟩ n c us (by rw [k1.1, hl]) (fun j u hj => by rw [Go.WideShapes.add_plain]; exact k2 j u hj) (by omega) (by unfold maxLen; omega) (by omega)
    have hb : Below w.heap.size w w' := (Below.refl _ w).grown r2 (Nat.le_refl _) (fun k hk => by cases hk)
    unfold Oper.wp
    simp [execOp, ho, resolve, invoke, builtin, hs, hx, hr, Result.andThen]
    refine h _ _ ⟨us, ⟨k1.1, ?_⟩, k1.below hb⟩ hb
    rcases r1.2 with ⟨_, e⟩ | ⟨g, cap, cur, e1, e2, e3, e4, e5, e6, e7⟩
    · omega
    · exact .inr ⟨g, cap, cur, by rw [hl]; simpa using e1, by omega, e3, by omega, e5, e6, by rw [hl]; simpa using e7⟩
theorem sp_take {w : World} {b off n : Nat} {S : List (Nat × List Int)} (h : SP w (some ⟨b, off, none⟩) n S) {I : Nat} (hI : I ≤ n) : SP w (some ⟨b, off, none⟩) I (S.take I) := by
  obtain ⟨h1, h2⟩ := h
  refine ⟨by simp; omega, ?_⟩
  by_cases h0 : I = 0
  · exact .inl h0
  · rcases h2 with h2 | ⟨b', off', e, hb, h3⟩
    · omega
    · cases e
      refine .inr ⟨b, off, rfl, hb, fun i hi => ?_⟩
      have e2 : (S.take I)[i]?.getD spD = S[i]?.getD spD := by rw [List.getElem?_take, if_pos hi]
      rw [e2]
      exact h3 i (by omega)
theorem sp_drop {w : World} {b off n : Nat} {S : List (Nat × List Int)} (h : SP w (some ⟨b, off, none⟩) n S) {J m : Nat} (hJ : J + m = n) {b' off' : Nat} (ha : 0 < m → b' = b ∧ off' = off + J * 2) : SP w (some ⟨b', off', none⟩) m (S.drop J) := by
  obtain ⟨h1, h2⟩ := h
  refine ⟨by simp; omega, ?_⟩
  by_cases h0 : m = 0
  · exact .inl h0
  · obtain ⟨rfl, rfl⟩ := ha (by omega)
    rcases h2 with h2 | ⟨b2, off2, e, hb, h3⟩
    · omega
    · cases e
      refine .inr ⟨b', off + J * 2, rfl, hb, fun i hi => ?_⟩
      have e2 : (S.drop J)[i]?.getD spD = S[J + i]?.getD spD := by rw [List.getElem?_drop]
      rw [e2]
      have := h3 (J + i) (by omega)
      rw [show off + (J + i) * 2 = off + J * 2 + i * 2 by omega] at this
      exact this
def fSpNo (N : Nat) : Fact := ⟨fun v w => ∃ B, v = .slice (some ⟨B, 0, none⟩) 0 0 ∧ w.heap[B]? = some (.cells #[] 36 (0, 0)) ∧ N ≤ B, false⟩
theorem fSpNo_good (N : Nat) : (fSpNo N).Good := ⟨fun _ _ _ ⟨B, h1, h2, h3⟩ hb => ⟨B, h1, (hb.block B (Array.getElem?_eq_some_iff.1 h2).1).trans h2, h3⟩, fun h => by cases h⟩
def fOutS (N : Nat) (S : List (Nat × List Int)) : Fact := ⟨fun v w => OutS w N v S, false⟩
theorem fOutS_good (N : Nat) (S : List (Nat × List Int)) : (fOutS N S).Good := ⟨fun _ _ _ h hb => h.below hb, fun h => by cases h⟩
def fSpTl (b off m d : Nat) : Fact := ⟨fun v _ => ∃ b' off', v = .slice (some ⟨b', off', none⟩) m d ∧ (0 < m → b' = b ∧ off' = off), false⟩
theorem fSpTl_good (b off m d : Nat) : (fSpTl b off m d).Good := ⟨fun _ _ _ h _ => h, fun h => by cases h⟩
end Go.Proofs.Ytoidgdbgpbcebaa.V
namespace Go.Proofs.Ytoidgdbgpbcebaa.V
open Go.RowKit
set_option linter.unusedVariables false

theorem run_eqItem {P : Program} (w : World) (d : Nat) (e : TypeId) (xs ys : Array Value) (i : Nat) (is : List Nat) (k : IntKind) (a b : Int) (hu : P.underlying e = some (.int k)) (h1 : (part e xs (i * 1)).run P w = .ok (.int k a) w) (h2 : (part e ys (i * 1)).run P w = .ok (.int k b) w) (r : Bool) (h3 : (Op.eqItems (d + 1) e 1 xs ys is).run P w = .ok r w) :
    (Op.eqItems (d + 1) e 1 xs ys (i :: is)).run P w = .ok (a == b && r) w := by
  simp only [Op.eqItems, Sem.run_bind, h1, h2, Result.andThen_ok, run_equalIn_int w d e k k a b hu]
  cases hab : a == b
  · simp
  · simpa using h3
set_option maxRecDepth 100000 in
theorem run_equalIn8 (f g : Nat → Int) (w : World) : (Op.equalIn 10000 54 (arr8 f) (arr8 g)).run Try.prog w = .ok (eq8 f g) w := by
  unfold arr8
  obtain ⟨ti, hi⟩ : ∃ ti, Try.prog.info? 3 = some ti := Option.isSome_iff_exists.1 (by kernel_rfl)
  rw [run_equalIn_array w 9999 (e := 3) (n := 8) (i := ti) _ _ (by kernel_rfl) hi]
  have hc : Try.prog.cellsOf 3 = 1 := by kernel_rfl
  rw [hc]
  have hu : Try.prog.underlying 3 = some (.int .i64) := by kernel_rfl
  have e : List.range 8 = [0, 1, 2, 3, 4, 5, 6, 7] := by decide
  rw [e]
  have H : (Op.eqItems 9999 3 1 #[.int .i64 (f 0), .int .i64 (f 1), .int .i64 (f 2), .int .i64 (f 3), .int .i64 (f 4), .int .i64 (f 5), .int .i64 (f 6), .int .i64 (f 7)] #[.int .i64 (g 0), .int .i64 (g 1), .int .i64 (g 2), .int .i64 (g 3), .int .i64 (g 4), .int .i64 (g 5), .int .i64 (g 6), .int .i64 (g 7)] [0, 1, 2, 3, 4, 5, 6, 7]).run Try.prog w = .ok (f 0 == g 0 && (f 1 == g 1 && (f 2 == g 2 && (f 3 == g 3 && (f 4 == g 4 && (f 5 == g 5 && (f 6 == g 6 && (f 7 == g 7 && true)))))))) w := by
    refine run_eqItem w 9998 _ _ _ 0 _ .i64 _ _ hu ?_ ?_ _ (run_eqItem w 9998 _ _ _ 1 _ .i64 _ _ hu ?_ ?_ _ (run_eqItem w 9998 _ _ _ 2 _ .i64 _ _ hu ?_ ?_ _ (run_eqItem w 9998 _ _ _ 3 _ .i64 _ _ hu ?_ ?_ _ (run_eqItem w 9998 _ _ _ 4 _ .i64 _ _ hu ?_ ?_ _ (run_eqItem w 9998 _ _ _ 5 _ .i64 _ _ hu ?_ ?_ _ (run_eqItem w 9998 _ _ _ 6 _ .i64 _ _ hu ?_ ?_ _ (run_eqItem w 9998 _ _ _ 7 _ .i64 _ _ hu ?_ ?_ _ ?_)))))))
    rotate_right
    · simp [Op.eqItems]
    all_goals go_simp
  rw [H]
  simp [eq8]
end Go.Proofs.Ytoidgdbgpbcebaa.V
namespace Go.Proofs.Ytoidgdbgpbcebaa.V
open Go.RowKit
set_option linter.unusedVariables false

/-- Blocks of other things than numbers of 64 bits are left. -/
theorem Chg.typed {N : Nat} {a : Option Addr} {G C : Nat → Nat} {M : Mem} {W W' : World} (hc : Chg G M.length W W') (hM : Mems W N a G C M) {t : TypeId} (ht : t ≠ 2) (b : Nat) (cur : Array Value) (h : W.heap[b]? = some (Obj.cells cur t (0, 0))) : W'.heap[b]? = W.heap[b]? := by
  refine hc.block (Array.getElem?_eq_some_iff.1 h).1 (fun k hk e => ?_)
  obtain ⟨cur', h1, _⟩ := hM.rows k hk
  rw [← e, h] at h1
  cases h1
  exact ht rfl

end Go.Proofs.Ytoidgdbgpbcebaa.V
