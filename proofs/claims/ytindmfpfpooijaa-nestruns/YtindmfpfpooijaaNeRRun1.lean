/-
  Contracts: the document's Fits, Copy.
-/
import Derived.Test.YtindmfpfpooijaaNeRDo2
import Derived.Test.YtindmfpfpooijaaNeFits
import Derived.Test.YtindmfpfpooijaaNeCopy
namespace Go.Proofs.Ytindmfpfpooijaa.V
open Go.RowKit
set_option linter.unusedVariables false

theorem append_list64 {w : World} {ops : Array Oper} {rest : List Oper} {o : Oper} {a : Act} {Q : Exit → Act → World → Prop} (hgd : o.guard = none) (s x : Operand)
    (ho : o.op = .call { callee := .builtin .append, args := #[s, x], argTypes := #[33, 33] }) (base : Nat)
    (v : Value) (n : Nat) (xs : List Value) (hs : a.eval s = v) (hown : w.ownsRow base 2 1 v n xs)
    (X : Option Addr) (m c : Nat) (ys : List Int) (hx : a.eval x = .slice X m c) (hl : Lst w X m c ys) (hbytes : (n + m) * 8 ≤ 140737488355328) (hbase : base ≤ w.heap.size)
    (h : ∀ v' w', w'.ownsRow base 2 1 v' (n + m) (xs ++ ys.map (Value.int .i64)) → w.grownBy w' v.ownBlock → (v ≠ .slice none 0 0 → v' ≠ .slice none 0 0) → wpList Try.prog ops Q rest (a.put o.dst v') w') : wpList Try.prog ops Q (o :: rest) a w := by
  obtain ⟨i0, hi, hz0, hz1, hz2⟩ := info_parts info_i64
  obtain ⟨hI, hmc, hnc⟩ := hl
  cases X with
  | none =>
    have hm0 : m = 0 := by
      rcases hI.2.2.2 with e | ⟨b, off, e, _⟩
      · exact e
      · cases e
    obtain rfl := hm0
    obtain rfl := hnc rfl
    have hys : ys = [] := by rw [← List.length_eq_zero_iff]; exact hI.1
    subst hys
    refine wpList_append_own_none hgd s x 33 ho base 2 i0 1 Try.underlying33 hi v n xs hs hown hx ?_
    exact h v w (by simpa using hown) (World.grownBy.refl w _) (fun hne => hne)
  | some ad =>
    refine wpList_append_own w hgd s x 33 ho base 2 i0 (.int .i64 0) 1 8 Try.underlying33 hi hz0 hz1 hz2 rfl (by decide) v n xs hs hown ad m c (ys.map (Value.int .i64)) hx (by simp [hI.1]) ?_ ?_ (by unfold maxLen; omega) hbytes hbase (fun v' w' h1 h2 h3 => h v' w' h1 h2 (fun hne e => hne (h3.1 e).1))
    · intro j u hj
      have hjl : j < m := by have := (List.getElem?_eq_some_iff.1 hj).1; simpa [hI.1] using this
      obtain ⟨b, off, e, _, hc⟩ := hI.at (by omega)
      cases e
      have h3 : u = .int .i64 (ys[j]?.getD 0) := by
        have : j < ys.length := by rw [hI.1]; exact hjl
        simp [this] at hj ⊢
        exact hj.symm
      rw [h3, Go.WideShapes.add_plain]
      exact hc j hjl
    · intro u hu; simp at hu; obtain ⟨y, _, rfl⟩ := hu; rfl

set_option maxRecDepth 100000 in
set_option maxHeartbeats 2000000 in
theorem rFits_any (za : Option Addr) (zl zc : Nat) (zs : List Int) (vt : Value) (a : Option Addr) (len cap : Nat) (L : Mem) (w : World) (hz : Ints w za zl zs) (hA : MemA w a len L) :
    Calls Try.prog 13 #[.agg #[.slice za zl zc, vt], .slice a len cap] w fun e w' => e = .returned (.int .i64 (fitsE zs L)) ∧ Below w.heap.size w w' := by
  have B1 : Below w.heap.size w (w.alloc (.cells #[.slice za zl zc, vt] 25)) := bl_new _
  obtain ⟨p0, p1⟩ := cells_two (World.alloc_heap_new w (.cells #[.slice za zl zc, vt] 25))
  have HB := hide B1
  have HZ := hide (hz.below B1)
  have HA := hide (hA.below B1)
  have hm1 := hz.2.1
  have hm2 := hA.2.1
  by_cases c2 : len = zl
  · have E6 : Hid (∀ k, k < len → ((arrM L k).length : Int) ≠ zs[k]?.getD 0 → fitsE zs L = 6) := fun k hk hn => fits_here (by rw [hA.1, hz.1]; exact c2) (by rw [hA.1]; exact hk) hn
    have E0 : Hid (∀ (_ : ∀ k, k < len → ((arrM L k).length : Int) = zs[k]?.getD 0), fitsE zs L = 0) := fun ha => fits_all (by rw [hA.1, hz.1]; exact c2) (fun k hk => ha k (by rw [← hA.1]; exact hk))
    obtain rfl := c2
    clear hz hA B1
    go_enter Try.func13, Try.ntmps13
    go_wp2_with fail
    go_loop [15] (fun i => ∃ k : Nat, k ≤ len ∧ i = .int .i64 k ∧ ∀ j, j < k → ((arrM L j).length : Int) = zs[j]?.getD 0) (fun i => len - (intOf i).toNat)
    case atStart => exact ⟨0, Nat.zero_le _, rfl, fun j hj => by omega⟩
    case round =>
      obtain ⟨k, hk, rfl, hn⟩ := hrel
      have HN := hide hn
      clear hn
      by_cases hlt : k < len
      · obtain ⟨b, off, rfl, hat⟩ := HA.out.at (by omega)
        obtain ⟨x, l, c, c1, c2⟩ := hat k hlt
        have hl2 : (arrM L k).length = l := c2.1.1
        have hlm := c2.1.2.1
        obtain ⟨zb, zo, rfl, hzb, hzc⟩ := HZ.out.at (by omega)
        have hzk := hzc k hlt
        have E6k := E6.out k hlt
        rw [hl2] at E6k
        have HLL := hide hl2
        obtain ⟨y, hy⟩ : ∃ y, y = zs[k]?.getD 0 := ⟨_, rfl⟩
        rw [← hy] at hzk E6k
        have HY := hide hy
        have HE6 := hide E6k
        clear hat c2 hl2 hzc hy E6k
        by_cases q : (l : Int) = y
        · have q1 : ((l : Int) != y) = false := by simpa using q
          have HQ := hide q
          clear q
          go_wp2_with fail
          go_round
          case rel =>
            refine ⟨k + 1, by omega, by go_num, fun j hj => ?_⟩
            by_cases e : j = k
            · subst e; rw [HLL.out, ← HY.out]; exact HQ.out
            · exact HN.out j (by omega)
          case measure => simp [intOf]; omega
        · have q1 : ((l : Int) != y) = true := by simpa using q
          have HQ := hide q
          clear q
          go_wp2_with fail
          go_ret
          exact ⟨by rw [HE6.out HQ.out]; rfl, HB.out⟩
      · have HE : Hid (fitsE zs L = 0) := E0.out (fun j hj => HN.out j (by omega))
        go_wp2_with fail
        go_ret
        exact ⟨by rw [HE.out]; rfl, HB.out⟩
  · have e2 : fitsE zs L = 2 := fits_len (by rw [hA.1, hz.1]; exact c2)
    have c3 : ((len : Int) != (zl : Int)) = true := by simp; omega
    rw [e2]
    clear hz hA B1 c2 e2
    go_enter Try.func13, Try.ntmps13
    go_wp2_with fail
    go_ret
    exact ⟨rfl, HB.out⟩

/-- The first k arrays, copied. -/
structure OutM (W : World) (B : Nat) (v : Value) (G C : Nat → Nat) (L : Mem) (k : Nat) : Prop where
  own : W.ownsRow B 33 1 v k ((List.range k).map fun j => .slice (some ⟨G j, 0, none⟩) (arrM L j).length (C j))
  rows : ∀ j, j < k → RowN W (G j) (C j) (arrM L j)
  apart : ∀ i j, i < k → j < k → G i = G j → i = j
  lo : ∀ j, j < k → B ≤ G j
theorem OutM.below {W W' : World} {B : Nat} {v : Value} {G C : Nat → Nat} {L : Mem} {k : Nat} (h : OutM W B v G C L k) (hb : Below W.heap.size W W') : OutM W' B v G C L k := ⟨ownsRow_below h.own hb, fun j hj => (h.rows j hj).below hb, h.apart, h.lo⟩
theorem RowN.left {w w1 : World} {o : Obj} {B n : Nat} {v : Value} {vs : List Value} {g c : Nat} {xs : List Int} (h : RowN w g c xs) (ho : w.ownsRow B 33 1 v n vs) (hg : (w.alloc o).grownBy w1 v.ownBlock) : RowN w1 g c xs := by
  obtain ⟨cur, h1, h2⟩ := h
  have hb := (Array.getElem?_eq_some_iff.1 h1).1
  refine ⟨cur, ((hg.block g (by simp; omega) (fun ev => ?_)).trans (Below.heap_alloc _ _ _ hb)).trans h1, h2⟩
  rcases ho.2 with ⟨rfl, _⟩ | ⟨g', cap, cur', rfl, _, hbk, _⟩
  · simp [Value.ownBlock] at ev
  · obtain rfl : g = g' := by simpa [Value.ownBlock] using ev
    rw [hbk] at h1
    cases h1
theorem OutM.mems {W : World} {B : Nat} {v : Value} {G C : Nat → Nat} {L : Mem} (h : OutM W B v G C L L.length) (hb : MemB L) (hs : ∀ k, (arrM L k).length ≤ 65536) : ∃ A c, v = .slice A L.length c ∧ L.length ≤ c ∧ Mems W B A G C L := by
  have ho := h.own
  rcases h.own.2 with ⟨rfl, h2⟩ | ⟨g, cap, cur, rfl, h3, hbk, h4, _⟩
  · exact ⟨none, 0, by rw [h2], by omega, ⟨.inl h2, h.rows, h.apart, h.lo, hb, hs⟩⟩
  · refine ⟨_, cap, rfl, h4, ⟨.inr ⟨g, 0, rfl, fun k hk => ⟨?_, fun e => ?_⟩⟩, h.rows, h.apart, h.lo, hb, hs⟩⟩
    · rw [Nat.zero_add, ho.cellAt k (by omega)]
      simp [hk]
    · obtain ⟨cur', h5, _⟩ := h.rows k hk
      rw [e, hbk] at h5
      cases h5
set_option maxRecDepth 100000 in
/-- append(out, array). -/
theorem append_arr {w : World} {ops : Array Oper} {rest : List Oper} {op : Oper} {a : Act} {Q : Exit → Act → World → Prop} (hgd : op.guard = none) (s x : Operand)
    (ho : op.op = .call { callee := .builtin .append, args := #[s, x], argTypes := #[26, 26] }) (B : Nat)
    (v : Value) (hs : a.eval s = v) (G C : Nat → Nat) (L : Mem) (k : Nat) (g c : Nat) (hout : OutM w B v G C L k) (hX : RowN w g c (arrM L k)) (hg : ∀ j, j < k → G j < g) (hBg : B ≤ g)
    (hx : a.eval x = .slice (some ⟨w.heap.size, 0, none⟩) 1 1) (hbytes : (k + 1) * 24 ≤ 140737488355328) (hB : B ≤ w.heap.size)
    (h : ∀ v' w', OutM w' B v' (fun j => if j = k then g else G j) (fun j => if j = k then c else C j) L (k + 1) → Below B w w' → wpList Try.prog ops Q rest (a.put op.dst v') w') :
    wpList Try.prog ops Q (op :: rest) a (w.alloc (.cells #[.slice (some ⟨g, 0, none⟩) (arrM L k).length c] 33)) := by
  obtain ⟨i0, hi, hz0, hz1, hz2⟩ := info_parts info_arrs
  refine wpList_append_own _ hgd s x 26 ho B 33 i0 (.slice none 0 0) 1 24 Try.underlying26 hi hz0 hz1 hz2 rfl (by decide) v k _ hs (hout.own.alloc _) ⟨w.heap.size, 0, none⟩ 1 1 [.slice (some ⟨g, 0, none⟩) (arrM L k).length c] hx rfl ?_ ?_ (by unfold maxLen; omega) hbytes (by simp; omega) (fun v' w' k1 k2 _ => h v' w' ⟨?_, fun j hj => ?_, fun i j hi hj => ?_, fun j hj => ?_⟩ (((Below.refl B w).alloc hB _).grown k2 (by simp; omega) (fun j e => (hout.own.lt j e).1)))
  · intro j u hj
    have hjl : j = 0 := by have := (List.getElem?_eq_some_iff.1 hj).1; simp at this; exact this
    subst hjl
    simp at hj
    rw [← hj, Go.WideShapes.add_plain]
    show (w.alloc (.cells #[.slice (some ⟨g, 0, none⟩) (arrM L k).length c] 33)).cell? ⟨w.heap.size, 0 + 0, none⟩ = _
    unfold World.cell?
    rw [World.alloc_heap_new w (.cells #[.slice (some ⟨g, 0, none⟩) (arrM L k).length c] 33)]
    rfl
  · intro u hu; simp at hu; subst hu; rfl
  · have e : (List.range (k + 1)).map (fun j => Value.slice (some ⟨if j = k then g else G j, 0, none⟩) (arrM L j).length (if j = k then c else C j)) = (List.range k).map (fun j => .slice (some ⟨G j, 0, none⟩) (arrM L j).length (C j)) ++ [.slice (some ⟨g, 0, none⟩) (arrM L k).length c] := by
      rw [List.range_succ, List.map_append]
      congr 1
      · refine List.map_congr_left (fun j hj => ?_)
        have : j ≠ k := by have := List.mem_range.1 hj; omega
        simp [this]
      · simp
    rw [e]; exact k1
  · by_cases e : j = k
    · subst e; simp only [if_true]; exact hX.left hout.own k2
    · simp only [if_neg e]; exact (hout.rows j (by omega)).left hout.own k2
  · by_cases e1 : i = k
    · by_cases e2 : j = k
      · omega
      · rw [if_pos e1, if_neg e2]; intro e; have := hg j (by omega); omega
    · by_cases e2 : j = k
      · rw [if_neg e1, if_pos e2]; intro e; have := hg i (by omega); omega
      · rw [if_neg e1, if_neg e2]; exact hout.apart i j (by omega) (by omega)
  · split
    · exact hBg
    · exact hout.lo j (by omega)
theorem rowN_of_own {w : World} {B : Nat} {v : Value} {n : Nat} {xs : List Int} (h : w.ownsRow B 2 1 v n (xs.map (Value.int .i64))) (hl : xs.length = n) (hv : v ≠ .slice none 0 0) : ∃ g c, v = .slice (some ⟨g, 0, none⟩) n c ∧ RowN w g c xs ∧ B ≤ g := by
  rcases h.2 with ⟨h1, _⟩ | ⟨g, cap, cur, rfl, h3, hbk, h4, _, h5, h6⟩
  · exact absurd h1 hv
  · refine ⟨g, cap, rfl, ⟨cur, hbk, by omega, by omega, fun j hj => ?_⟩, h3⟩
    have := congrArg (fun l => l[j]?) h6
    simp only [List.getElem?_take, Nat.mul_one] at this
    rw [if_pos (by omega)] at this
    simp [hj] at this
    rw [this]
    simp [hj]

set_option maxRecDepth 100000 in
set_option maxHeartbeats 2000000 in
theorem rCopy_any (a : Option Addr) (len cap : Nat) (L : Mem) (w : World) (hA : MemA w a len L) (hb24 : len * 24 ≤ 140737488355328) (hs : ∀ k, (arrM L k).length ≤ 65536) :
    Calls Try.prog 14 #[.slice a len cap] w fun e w' => (∃ A c, e = .returned (.slice A len c) ∧ len ≤ c ∧ ∃ G C, Mems w' w.heap.size A G C L) ∧ Below w.heap.size w w' := by
  have HA := hide hA
  have HL := hide hA.1
  have HBD := hide hA.bd
  have HS := hide hs
  have hm := hA.2.1
  clear hA hs
  go_enter Try.func14, Try.ntmps14
  go_wp2_with fail
  go_loopw [3, 8] (fun v i wr => ∃ k : Nat, k ≤ len ∧ i = .int .i64 k ∧ (∃ G C, OutM wr w.heap.size v G C L k) ∧ Below w.heap.size w wr) (fun _ i _ => len - (intOf i).toNat)
  case atStart => exact ⟨0, Nat.zero_le _, rfl, ⟨fun _ => 0, fun _ => 0, ⟨World.ownsRow_nil _ _ _ _, fun j hj => by omega, fun i j hi => by omega, fun j hj => by omega⟩⟩, Below.refl _ _⟩
  case round =>
    obtain ⟨k, hk, rfl, ⟨G, C, hO⟩, hB⟩ := hrel
    have HO := hide hO
    have HB := hide hB
    clear hO hB
    by_cases hlt : k < len
    · obtain ⟨b, off, rfl, hat⟩ := (HA.out.below HB.out).at (by omega)
      obtain ⟨x, l, c, c1, c2⟩ := hat k hlt
      have z1 := lt_of_cell c1
      simp only at z1
      have hl2 : (arrM L k).length = l := c2.1.1
      have hl6 : l ≤ 65536 := by rw [← hl2]; exact HS.out k
      have HLL := hide hl2
      have B1 : Below wr.heap.size wr (wr.alloc (.cells #[] 2)) := bl_new _
      have HO1 := hide (own_empty wr wr.heap.size 2 (Nat.le_refl _))
      have HX := hide (c2.below B1)
      have HB1 := hide B1
      have hsz := HB.out.size
      obtain ⟨ys, hys⟩ : ∃ ys, ys = arrM L k := ⟨_, rfl⟩
      rw [← hys] at HX HLL
      have HYS := hide hys
      clear hat c2 B1 hl2 hys
      have hgO := HO.out.rows
      have HGO := hide hgO
      clear hgO
      go_wp2_with (first
        | (at_builtin; refine append_arr rfl (.tmp 12) (.tmp 16) rfl w.heap.size _ rfl G C L k g c2 HO2.out HR2.out HGJ.out (by have := HG2.out; omega) rfl (by omega) (by omega) ?_; intro v4 w4 hout4 hb4; have HO4 := hide hout4; have HB4 := hide hb4; clear hout4 hb4)
        | (at_builtin; refine append_list64 rfl (.tmp 13) (.tmp 14) rfl wr.heap.size _ 0 [] rfl HO1.out x l c ys rfl HX.out (by omega) (by simp) ?_; intro v2 w2 hown hgrow hne; rw [List.nil_append] at hown; obtain ⟨g, c2, rfl, hR, hg⟩ := rowN_of_own hown (by rw [HLL.out]; omega) (hne (fun e => by cases e)); have HB2 := hide (HB1.out.grown hgrow (by simp) (fun j e => (HO1.out.lt j e).1)); have hz2 := hR.lt; have hs2 := HB2.out.size; have HG2 := hide hg; have HGJ : Hid (∀ j, j < k → G j < g) := fun j hj => Nat.lt_of_lt_of_le (HGO.out j hj).lt hg; rw [HYS.out] at hR; have HR2 := hide hR; have HO2 := hide (HO.out.below HB2.out); rw [show 0 + l = (arrM L k).length by rw [← HYS.out, HLL.out]; omega]; clear hown hgrow hne hR hg))
      go_roundw
      case rel => exact ⟨k + 1, by omega, by go_num, ⟨_, _, HO4.out⟩, HB.out.trans ((HB2.out.mono hsz).trans HB4.out)⟩
      case measure => simp [intOf]; omega
    · obtain rfl : len = k := by omega
      have hLn := HL.out
      have T := HO.out
      subst hLn
      obtain ⟨A, c, hv, hc, hM⟩ := T.mems HBD.out HS.out
      subst hv
      have HM := hide hM
      have HC := hide hc
      clear T hM hc
      go_wp2_with fail
      go_ret
      exact ⟨⟨A, c, rfl, HC.out, G, C, HM.out⟩, HB.out⟩
end Go.Proofs.Ytindmfpfpooijaa.V
