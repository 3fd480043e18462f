/-
  Contracts: slices.DeleteFunc at things that lie, shelf.clear.
-/
import Derived.Test.YtnncalhpbfmgoaaRmLaid
namespace Go.Proofs.Ytnncalhpbfmgoaa.V
open Go Go.Shelf Go.RowKit Go.Lib Go.Sort Go.Proofs
set_option linter.unusedVariables false

def gone (T : Int) (x : Ld) : Bool := decide (x.lf.to ≤ T)
def stays (T : Int) (x : Ld) : Bool := !gone T x
theorem clear1_any (x : Ld) (T : Int) (tb : Nat) (w : World) (ht : w.cell? ⟨tb, 0, none⟩ = some (.int .i64 T)) : Calls Try.prog 44 #[.agg #[.int .i64 x.lf.fr, .int .i64 x.lf.to, .int .i64 x.lf.wd, .int .i64 x.at_], .pointer (some ⟨tb, 0, none⟩)] w fun e w' => e = .returned (.bool (gone T x)) ∧ Below w.heap.size w w' := by
  have HB := hide (bl_new (w := w) (.cells #[.int .i64 x.lf.fr, .int .i64 x.lf.to, .int .i64 x.lf.wd, .int .i64 x.at_] 73))
  have z := lt_of_cell ht
  simp only at z
  unfold gone
  cases hd : decide (x.lf.to ≤ T)
  · go_enter Try.func44, Try.ntmps44
    go_wp2
    go_ret
    exact ⟨rfl, HB.out⟩
  · go_enter Try.func44, Try.ntmps44
    go_wp2
    go_ret
    exact ⟨rfl, HB.out⟩
theorem take_succD (L : List Ld) (k : Nat) (h : k < L.length) : L.take (k + 1) = L.take k ++ [L[k]?.getD ldD] := by
  rw [List.take_succ_eq_append_getElem h]; simp [h]
set_option maxHeartbeats 1000000 in
theorem indexD_any (v : Value) (L : List Ld) (B : Nat) (T : Int) (tb : Nat) (w : World) (h : OutD w B v L) (ht : w.cell? ⟨tb, 0, none⟩ = some (.int .i64 T)) :
    Calls Try.prog 55 #[v, .func (.func 44) #[] #[.pointer (some ⟨tb, 0, none⟩)]] w fun e w' => (∃ r : Int, e = .returned (.int .i64 r) ∧ ((r = -1 ∧ L.filter (stays T) = L) ∨ ∃ k : Nat, r = k ∧ k < L.length ∧ (L.take k).filter (stays T) = L.take k ∧ gone T (L[k]?.getD ldD) = true)) ∧ Below w.heap.size w w' := by
  obtain ⟨A, c, rfl, hml⟩ : ∃ A c, v = .slice A L.length c ∧ L.length ≤ 9223372036854775807 := by
    rcases h.row with ⟨rfl, rfl⟩ | ⟨g, c, rfl, _, h1, h2, _⟩
    · exact ⟨none, 0, rfl, by simp⟩
    · exact ⟨_, c, rfl, by omega⟩
  have HO := hide h
  have HT := hide ht
  obtain ⟨len, hlen⟩ : ∃ len, len = L.length := ⟨_, rfl⟩
  have HLN := hide hlen
  rw [← hlen] at hml ⊢
  clear h ht hlen
  go_enter Try.func55, Try.ntmps55
  go_wp2
  go_loopw [8] (fun i wr => ∃ k : Nat, k ≤ len ∧ i = .int .i64 k ∧ (L.take k).filter (stays T) = L.take k ∧ Below w.heap.size w wr) (fun i _ => len - (intOf i).toNat)
  case atStart => exact ⟨0, Nat.zero_le _, rfl, by simp, Below.refl _ _⟩
  case round =>
    obtain ⟨k, hk, rfl, hn, hB⟩ := hrel
    have HN := hide hn
    have HB := hide hB
    clear hn hB
    by_cases hlt : k < len
    · have hkl : k < L.length := by rw [← HLN.out]; exact hlt
      obtain ⟨g, rfl, q0, q1, q2, q3⟩ : ∃ g, A = some ⟨g, 0, none⟩ ∧ wr.cell? ⟨g, k * 4, none⟩ = some (.int .i64 (L[k]?.getD ldD).lf.fr) ∧ wr.cell? ⟨g, k * 4 + 1, none⟩ = some (.int .i64 (L[k]?.getD ldD).lf.to) ∧ wr.cell? ⟨g, k * 4 + 2, none⟩ = some (.int .i64 (L[k]?.getD ldD).lf.wd) ∧ wr.cell? ⟨g, k * 4 + 3, none⟩ = some (.int .i64 (L[k]?.getD ldD).at_) := by
        rcases HO.out.row with ⟨_, e⟩ | ⟨g, c', e, h0, h1, h2, hrow⟩
        · rw [e] at hkl; simp at hkl
        · cases e
          exact ⟨g, rfl, (hrow.below HB.out).cells (x := L[k]?.getD ldD) (by omega) (by simp [hkl])⟩
      have z1 := lt_of_cell q0
      simp only at z1
      obtain ⟨x, hxq⟩ : ∃ x, x = L[k]?.getD ldD := ⟨_, rfl⟩
      rw [← hxq] at q0 q1 q2 q3
      have HXQ := hide hxq
      have HC := hide (clear1_any x T tb wr ((HB.out.cell (p := ⟨tb, 0, none⟩) (lt_of_cell HT.out)).trans HT.out))
      have HKL := hide hkl
      clear hxq hkl
      cases hbq : gone T x
      · go_wp2_with (go_at_call 44; refine HC.out.mono ?_; rintro e w2 ⟨rfl, hb⟩; rw [hbq]; have HB2 := hide (bl_on HB.out hb); clear hb)
        go_roundw
        case rel => exact ⟨k + 1, by omega, by go_num, by rw [take_succD L k HKL.out, List.filter_append, HN.out, ← HXQ.out]; simp [stays, hbq], HB2.out⟩
        case measure => simp [intOf]; omega
      · go_wp2_with (go_at_call 44; refine HC.out.mono ?_; rintro e w2 ⟨rfl, hb⟩; rw [hbq]; have HB2 := hide (bl_on HB.out hb); clear hb)
        go_ret
        exact ⟨⟨_, rfl, .inr ⟨k, rfl, hlt, HN.out, by rw [← HXQ.out]; exact hbq⟩⟩, HB2.out⟩
    · go_wp2
      go_ret
      refine ⟨⟨_, rfl, .inl ⟨rfl, ?_⟩⟩, HB.out⟩
      have := HN.out
      rw [List.take_of_length_le (by rw [← HLN.out]; omega)] at this
      exact this
/-- What is known of the row on the way. -/
def midF (T : Int) (L : List Ld) (i j : Nat) (q : Nat) : Option Ld := if q < i then ((L.take j).filter (stays T))[q]? else if j ≤ q then L[q]? else none
theorem set4 (W : World) (g i : Nat) (x : Ld) : (((W.setCell ⟨g, i * 4, none⟩ (.int .i64 x.lf.fr)).setCell ⟨g, i * 4 + 1, none⟩ (.int .i64 x.lf.to)).setCell ⟨g, i * 4 + 2, none⟩ (.int .i64 x.lf.wd)).setCell ⟨g, i * 4 + 3, none⟩ (.int .i64 x.at_) = W.setCells g (i * 4) ([x].flatMap l4) := by
  simp only [List.flatMap_cons, List.flatMap_nil, List.append_nil, l4]
  rfl
set_option maxRecDepth 100000 in
set_option maxHeartbeats 4000000 in
theorem deleteF_any (v : Value) (L : List Ld) (B : Nat) (T : Int) (tb : Nat) (w : World) (h : OutD w B v L) (ht : w.cell? ⟨tb, 0, none⟩ = some (.int .i64 T)) (htb : v.ownBlock ≠ some tb) :
    Calls Try.prog 43 #[v, .func (.func 44) #[] #[.pointer (some ⟨tb, 0, none⟩)]] w fun e w' => ∃ v', e = .returned v' ∧ OutD w' B v' (L.filter (stays T)) ∧ w.grownBy w' v.ownBlock := by
  have HO := hide h
  have HT := hide ht
  have HTB := hide htb
  have HI := hide (indexD_any v L B T tb w h ht)
  rcases h.row with ⟨rfl, rfl⟩ | ⟨g, c, rfl, hBg, hlc, hc, hrow⟩
  · clear h ht htb
    go_enter Try.func43, Try.ntmps43
    go_wp2_with (go_at_call 55; refine HI.out.mono ?_; rintro e w1 ⟨⟨r, rfl, hr⟩, hb⟩; obtain rfl : r = -1 := by { rcases hr with hr | ⟨k, _, hk, _⟩; exact hr.1; simp at hk }; have HB := hide hb; clear hb hr)
    go_ret
    exact ⟨_, rfl, OutD.nil _ _, ⟨HB.out.os, HB.out.tape, HB.out.output, HB.out.size, fun k hk _ => HB.out.block k hk⟩⟩
  have HR := hide hrow
  have hg := hrow.lt
  have hne : g ≠ tb := fun e => HTB.out (by rw [e]; rfl)
  obtain ⟨len, hlen⟩ : ∃ len, len = L.length := ⟨_, rfl⟩
  have HLN := hide hlen
  rw [← hlen] at hlc HI HO ⊢
  have HBG := hide hBg
  clear h ht htb hlen hrow hBg
  go_enter Try.func43, Try.ntmps43
  go_wp2_with fail
  refine HI.out.mono ?_
  rintro e w1 ⟨⟨r, rfl, hr⟩, hb⟩
  have HRW1 := hide (Rw.of_below hg hb)
  have HB1 := hide hb
  have HR1 := hide (HR.out.below hb)
  have HT1 := hide ((hb.cell (p := ⟨tb, 0, none⟩) (lt_of_cell HT.out)).trans HT.out)
  rcases hr with ⟨rfl, hr⟩ | ⟨k, rfl, hk, hr, hgo⟩
  · have HRR := hide hr
    clear hr hb
    go_wp2
    go_ret
    exact ⟨_, rfl, by rw [HRR.out]; exact HO.out.below HB1.out, HRW1.out.grown⟩
  · have hkm : ((k : Int) == -1) = false := by
      rw [Bool.eq_false_iff]
      intro h
      have := eq_of_beq h
      omega
    have HKR := hide hr
    have HGO := hide hgo
    clear hr hb hgo
    go_wp2
    go_loopw [5, 6] (fun v5 v6 wr => ∃ i j : Nat, v5 = .int .i64 i ∧ v6 = .int .i64 j ∧ i < j ∧ j ≤ len ∧ i = ((L.take j).filter (stays T)).length ∧ RowL wr g c (midF T L i j) ∧ Rw g w wr ∧ wr.cell? ⟨tb, 0, none⟩ = some (.int .i64 T)) (fun _ v6 _ => len - (intOf v6).toNat)
    case atStart =>
      have hkl : k < L.length := by rw [← HLN.out]; exact hk
      have ht1 : (L.take (k + 1)).filter (stays T) = L.take k := by
        rw [take_succD L k hkl, List.filter_append, HKR.out]
        simp [stays, HGO.out]
      refine ⟨k, k + 1, rfl, by go_num, by omega, by omega, by rw [ht1, List.length_take]; omega, HR1.out.congr (fun q x hq hx => ?_), HRW1.out, HT1.out⟩
      unfold midF at hx
      rw [ht1] at hx
      by_cases c1 : q < k
      · rw [if_pos c1, List.getElem?_take_of_lt c1] at hx
        exact hx
      · rw [if_neg c1] at hx
        by_cases c2 : k + 1 ≤ q
        · rw [if_pos c2] at hx
          exact hx
        · rw [if_neg c2] at hx
          cases hx
    case round =>
      clear HR1 HT1 HKR HGO HRW1 HI hkm
      obtain ⟨i, j, rfl, rfl, hij, hjl, hi, hr, hw, hT⟩ := hrel
      have HI := hide hi
      have HR2 := hide hr
      have HW2 := hide hw
      have HT2 := hide hT
      have zw := hw.grown.size
      clear hi hr hw hT
      by_cases hlt : j < len
      · have hkl : j < L.length := by rw [← HLN.out]; exact hlt
        have hmf : midF T L i j j = some (L[j]?.getD ldD) := by
          unfold midF
          rw [if_neg (by omega), if_pos (Nat.le_refl _)]
          simp [hkl]
        obtain ⟨q0, q1, q2, q3⟩ := HR2.out.cells (j := j) (by omega) hmf
        have z1 := lt_of_cell q0
        simp only at z1
        have HTK := hide (take_succD L j hkl)
        obtain ⟨x, hxq⟩ : ∃ x, x = L[j]?.getD ldD := ⟨_, rfl⟩
        rw [← hxq] at q0 q1 q2 q3
        rw [← hxq] at HTK
        have hbn := bl_new (w := wr) (.cells #[.int .i64 x.lf.fr, .int .i64 x.lf.to, .int .i64 x.lf.wd, .int .i64 x.at_] 73)
        have HC := hide (clear1_any x T tb (wr.alloc (.cells #[.int .i64 x.lf.fr, .int .i64 x.lf.to, .int .i64 x.lf.wd, .int .i64 x.at_] 73)) ((hbn.cell (p := ⟨tb, 0, none⟩) (lt_of_cell HT2.out)).trans HT2.out))
        have HBN := hide hbn
        have zt := lt_of_cell HT2.out
        simp only at zt
        clear hxq hkl hmf hbn
        cases hbq : gone T x
        · have hfl : (L.take (j + 1)).filter (stays T) = (L.take j).filter (stays T) ++ [x] := by
            rw [HTK.out, List.filter_append]
            simp [stays, hbq]
          have HFL := hide hfl
          clear hfl
          go_wp2_with (go_at_call 44; refine HC.out.mono ?_; rintro e w2 ⟨rfl, hb⟩; rw [hbq]; have HB2 := hide (bl_on HBN.out hb); have v0 := (hb.cell (p := ⟨wr.heap.size, 0, none⟩) (by simp)); have v1 := (hb.cell (p := ⟨wr.heap.size, 1, none⟩) (by simp)); have v2 := (hb.cell (p := ⟨wr.heap.size, 2, none⟩) (by simp)); have v3 := (hb.cell (p := ⟨wr.heap.size, 3, none⟩) (by simp)); simp at v0 v1 v2 v3; have hr3 := HR2.out.below HB2.out; obtain ⟨a0, s0⟩ := Option.isSome_iff_exists.1 (hr3.some_ (t := i * 4) (by omega)); obtain ⟨a1, s1⟩ := Option.isSome_iff_exists.1 (hr3.some_ (t := i * 4 + 1) (by omega)); obtain ⟨a2, s2⟩ := Option.isSome_iff_exists.1 (hr3.some_ (t := i * 4 + 2) (by omega)); obtain ⟨a3, s3⟩ := Option.isSome_iff_exists.1 (hr3.some_ (t := i * 4 + 3) (by omega)); have f0 := hr3.free (i * 4); have f1 := hr3.free (i * 4 + 1); have f2 := hr3.free (i * 4 + 2); have f3 := hr3.free (i * 4 + 3); have zg3 := hr3.lt; clear hr3 hb)
          have hr4 := (HR2.out.below HB2.out).set i [x] (by simp; omega)
          have HW4 := hide ((HW2.out.trans (Rw.of_below HR2.out.lt HB2.out)).trans (Rw.set w2 (i * 4) ([x].flatMap l4) (HR2.out.below HB2.out).lt))
          have HT4 : Hid ((w2.setCells g (i * 4) ([x].flatMap l4)).cell? ⟨tb, 0, none⟩ = some (.int .i64 T)) := by
            rw [Hid, World.cell?_setCells_out g _ _ _ _ (fun e _ => absurd e (fun e => hne e.symm))]
            exact (HB2.out.cell (p := ⟨tb, 0, none⟩) (lt_of_cell HT2.out)).trans HT2.out
          rw [← set4 w2 g i x] at hr4
          rw [← set4 w2 g i x] at HW4 HT4
          go_roundw
          case rel => exact ⟨i + 1, j + 1, by go_num, by go_num, by omega, by omega, by rw [HFL.out, List.length_append, ← HI.out]; rfl, hr4.congr (fun q y hq hy => by
            unfold midF at hy
            rw [HFL.out] at hy
            unfold midF
            by_cases c1 : q < i + 1
            · rw [if_pos c1] at hy
              by_cases c2 : q = i
              · subst c2
                rw [if_pos ⟨Nat.le_refl _, by simp⟩]
                rw [List.getElem?_append_right (by rw [← HI.out]; exact Nat.le_refl _), ← HI.out] at hy
                exact hy
              · rw [if_neg (by simp; omega), if_pos (by omega)]
                rw [List.getElem?_append_left (by rw [← HI.out]; omega)] at hy
                exact hy
            · rw [if_neg c1] at hy
              by_cases c2 : j + 1 ≤ q
              · rw [if_pos c2] at hy
                rw [if_neg (by simp; omega), if_neg (by omega), if_pos (by omega)]
                exact hy
              · rw [if_neg c2] at hy; cases hy), HW4.out, HT4.out⟩
          case measure => simp [intOf]; omega
        · have hfl : (L.take (j + 1)).filter (stays T) = (L.take j).filter (stays T) := by
            rw [HTK.out, List.filter_append]
            simp [stays, hbq]
          have HFL := hide hfl
          clear hfl
          go_wp2_with (go_at_call 44; refine HC.out.mono ?_; rintro e w2 ⟨rfl, hb⟩; rw [hbq]; have HB2 := hide (bl_on HBN.out hb); clear hb)
          go_roundw
          case rel => exact ⟨i, j + 1, rfl, by go_num, by omega, by omega, by rw [HFL.out]; exact HI.out, (HR2.out.below HB2.out).congr (fun q y hq hy => by
            unfold midF at hy ⊢
            rw [HFL.out] at hy
            by_cases c1 : q < i
            · rw [if_pos c1] at hy ⊢; exact hy
            · rw [if_neg c1] at hy ⊢
              by_cases c2 : j + 1 ≤ q
              · rw [if_pos c2] at hy; rw [if_pos (by omega)]; exact hy
              · rw [if_neg c2] at hy; cases hy), HW2.out.trans (Rw.of_below HR2.out.lt HB2.out), (HB2.out.cell (p := ⟨tb, 0, none⟩) (lt_of_cell HT2.out)).trans HT2.out⟩
          case measure => simp [intOf]; omega
      · obtain rfl : j = len := by omega
        obtain ⟨m, hm⟩ : ∃ m, j = i + (m + 1) := ⟨j - i - 1, by omega⟩
        have hci : ¬ c = i := by omega
        have hcl := fun ty => clear4_run ty g c _ HR2.out i (c - i) (i * 4) m rfl (by omega)
        have hji : j - i = m + 1 := by omega
        have zg := HR2.out.lt
        go_wp2
        go_ret
        have hLf : L.filter (stays T) = (L.take j).filter (stays T) := by rw [List.take_of_length_le (by rw [← HLN.out]; omega)]
        have hlen2 : (L.filter (stays T)).length = i := by rw [hLf]; exact HI.out.symm
        refine ⟨.slice (some ⟨g, 0, none⟩) i c, rfl, ?_, (HW2.out.trans (Rw.set wr _ _ zg)).grown⟩
        have hfin := HR2.out.set i (List.replicate (m + 1) ldD) (by simp; omega)
        have hres := OutD.of_row (L := L.filter (stays T)) (B := B) hfin (fun q x hq => ?_) HBG.out (by omega) hc
        · rw [hlen2] at hres
          exact hres
        have hql : q < i := by rw [← hlen2]; exact (List.getElem?_eq_some_iff.1 hq).1
        rw [if_neg (by omega)]
        unfold midF
        rw [if_pos hql, ← hLf]
        exact hq
/-- The shelf: its word in block sb, its things in a row at or above B. -/
def ShelfAt (W : World) (sb B : Nat) (L : List Ld) : Prop := ∃ v, W.heap[sb]? = some (.cells #[v] 49 (0, 0)) ∧ OutD W B v L
/-- What is done to the shelf leaves the rest below B alone. -/
structure ShK (sb B : Nat) (W V : World) : Prop where
  os : V.os = W.os
  tape : V.tape = W.tape
  output : V.output = W.output
  size : W.heap.size ≤ V.heap.size
  block : ∀ b, b < B → b ≠ sb → V.heap[b]? = W.heap[b]?
theorem ShK.refl (sb B : Nat) (W : World) : ShK sb B W W := ⟨rfl, rfl, rfl, Nat.le_refl _, fun _ _ _ => rfl⟩
theorem ShK.trans {sb B : Nat} {W V U : World} (h : ShK sb B W V) (k : ShK sb B V U) : ShK sb B W U := ⟨k.os.trans h.os, k.tape.trans h.tape, k.output.trans h.output, Nat.le_trans h.size k.size, fun b h1 h2 => (k.block b h1 h2).trans (h.block b h1 h2)⟩
theorem ShK.of_below {sb B : Nat} {W V : World} (h : Below W.heap.size W V) (hB : B ≤ W.heap.size) : ShK sb B W V := ⟨h.os, h.tape, h.output, h.size, fun b h1 _ => h.block b (by omega)⟩
theorem ShK.of_grown {sb B : Nat} {W V : World} {r : Option Nat} (h : W.grownBy V r) (hB : B ≤ W.heap.size) (hr : ∀ g, r = some g → B ≤ g) : ShK sb B W V :=
  ⟨h.os, h.tape, h.output, h.size, fun b h1 _ => h.block b (by omega) (fun e => by have := hr b e.symm; omega)⟩
theorem ShK.of_set {sb B : Nat} (W : World) (v : Value) : ShK sb B W (W.setCell ⟨sb, 0, none⟩ v) := ⟨rfl, rfl, rfl, by simp, fun b _ h2 => Below.heap_setCell _ ⟨sb, 0, none⟩ _ b h2⟩
theorem shelf_put {W : World} {sb B : Nat} {v v' : Value} {L : List Ld} (h : W.heap[sb]? = some (.cells #[v] 49 (0, 0))) (ho : OutD W B v' L) (hsb : sb < B) : ShelfAt (W.setCell ⟨sb, 0, none⟩ v') sb B L := by
  refine ⟨v', ?_, ho.of_block (fun g e => Below.heap_setCell _ ⟨sb, 0, none⟩ _ g (by have := (ho.lt g e).1; simp only; omega))⟩
  simp [World.setCell, Array.getElem?_modify, h]
theorem OutD.slice {W : World} {B : Nat} {v : Value} {L : List Ld} (h : OutD W B v L) : ∃ A c, v = .slice A L.length c ∧ L.length ≤ c ∧ c ≤ 9223372036854775807 := by
  rcases h.row with ⟨rfl, rfl⟩ | ⟨g, c, rfl, _, h1, h2, _⟩
  · exact ⟨none, 0, rfl, by simp, by omega⟩
  · exact ⟨_, c, rfl, h1, h2⟩
set_option maxHeartbeats 1000000 in
theorem clear_any (sb B : Nat) (L : List Ld) (T : Int) (w : World) (h : ShelfAt w sb B L) (hsb : sb < B) (hB : B ≤ w.heap.size) :
    Calls Try.prog 28 #[.pointer (some ⟨sb, 0, none⟩), .int .i64 T] w fun e w' => e = .returned (.tuple #[]) ∧ ShelfAt w' sb B (L.filter (stays T)) ∧ ShK sb B w w' := by
  obtain ⟨v, h1, h2⟩ := h
  obtain ⟨A, c, rfl, hc1, hc2⟩ := h2.slice
  have hb := bl_new (w := w) (.cells #[.int .i64 T] 3)
  have h1' := (hb.block sb (by omega)).trans h1
  have HD := hide (deleteF_any (.slice A L.length c) L B T w.heap.size (w.alloc (.cells #[.int .i64 T] 3)) (h2.below hb) (by simp) (fun e => by have := (h2.lt _ e).2; omega))
  have c0 : (w.alloc (.cells #[.int .i64 T] 3)).cell? ⟨sb, 0, none⟩ = some (.slice A L.length c) := by simp only [World.cell?, h1']; rfl
  have HB := hide hb
  have HL := hide h2.lt
  have H1 := hide h1'
  have z : sb < w.heap.size := by omega
  clear h1 h2 h1' hb
  go_enter Try.func28, Try.ntmps28
  go_wp2_with (go_at_call 43; refine HD.out.mono ?_; rintro e w1 ⟨v', rfl, ho, hg⟩; obtain ⟨A', c', rfl, _, _⟩ := ho.slice; have hs1 : w1.heap[sb]? = some (.cells #[.slice A L.length c] 49 (0, 0)) := (hg.block sb (by simp; omega) (fun e => by have := (HL.out sb e.symm).1; omega)).trans H1.out; have c1 : w1.cell? ⟨sb, 0, none⟩ = some (.slice A L.length c) := (by simp only [World.cell?, hs1]; rfl); have f1 : w1.frozen? ⟨sb, 0, none⟩ = false := (by simp [World.frozen?, hs1]); have z1 := (Array.getElem?_eq_some_iff.1 hs1).1; have HS1 := hide hs1; have HO1 := hide ho; have HG1 := hide hg; clear hs1 ho hg)
  go_end0
  exact ⟨rfl, shelf_put HS1.out HO1.out hsb, ((ShK.of_below HB.out hB).trans (ShK.of_grown HG1.out (by simp; omega) (fun g e => (HL.out g e).1))).trans (ShK.of_set _ _)⟩
end Go.Proofs.Ytnncalhpbfmgoaa.V
