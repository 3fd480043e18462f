/-
  Contracts: points.through and its closure: the points, in order.
-/
import Derived.Test.YtindmfpfpooijaaPtTell
namespace Go.Proofs.Ytindmfpfpooijaa.V
open Go.RowKit Go.Shelf
attribute [local go_sem] Oper.semAt_some
set_option linter.unusedVariables false

theorem pt_equalIn {P : Program} (w : World) (d : Nat) (t : TypeId) (ps rs : Array TypeId) (va : Bool) (h : P.underlying t = some (.func ps rs va)) (f : Fn) (xs ys : Array Value) : (Op.equalIn (d + 1) t (.func f xs ys) .nilFunc).run P w = .ok false w := by
  simp [Op.equalIn, run_underlying h]
theorem pt_equal {P : Program} (w : World) (t : TypeId) (ps rs : Array TypeId) (va : Bool) (h : P.underlying t = some (.func ps rs va)) (f : Fn) (xs ys : Array Value) : (Op.equal t (.func f xs ys) .nilFunc).run P w = .ok false w := pt_equalIn w 9999 t ps rs va h f xs ys
theorem pt_func_nil {P : Program} (w : World) (t : TypeId) (ps rs : Array TypeId) (va : Bool) (h : P.underlying t = some (.func ps rs va)) (f : Fn) (xs ys : Array Value) : (binOp BinOp.eql t (.func f xs ys) .nilFunc).run P w = .ok (.bool false) w := by
  simp only [binOp]
  simp [pt_equal w t ps rs va h f xs ys]
theorem pt_grown_below {w w' : World} (h : Below w.heap.size w w') : w.grownBy w' none := ⟨h.os, h.tape, h.output, h.size, fun k hk _ => h.block k hk⟩
theorem abides_below {β : Type} {B : Nat} {J : β → World → Prop} (hJ : AbidesFrom B J) {s : β} {W W' : World} (h : J s W) (hb : Below W.heap.size W W') : J s W' := hJ s W W' none h (pt_grown_below hb) (fun r e => by cases e)

/-- All that the closure reads. -/
structure PtGood (W : World) (Bs : Nat) (ba : Option Addr) (bl bc : Nat) (box : List Int) (ra : Option Addr) (rl rc : Nat) (rs : List (List Int × Int)) : Prop where
  here : PtAt W Bs ba bl bc ra rl rc
  box : Ints W ba bl box
  rows : Rws W ra rl rs
theorem PtGood.below {W W' : World} {Bs : Nat} {ba : Option Addr} {bl bc : Nat} {box : List Int} {ra : Option Addr} {rl rc : Nat} {rs : List (List Int × Int)} (h : PtGood W Bs ba bl bc box ra rl rc rs) (hb : Below W.heap.size W W') : PtGood W' Bs ba bl bc box ra rl rc rs := ⟨h.here.below hb, h.box.below hb, h.rows.below hb⟩
theorem fits_of {box : List Int} {rs : List (List Int × Int)} (ho : PtOk box rs) {p : Nat} (hp : p < (prod box).toNat) : Fits rs (indexV box p) := by
  obtain ⟨h1, h2⟩ := index_bd ho hp
  exact ⟨by rw [h2]; exact ho.rank, h1, fun r hr => by rw [h2]; exact ho.rows r hr⟩

set_option maxRecDepth 100000 in
set_option maxHeartbeats 4000000 in
theorem through1_tells (n : Nat) (hn : 1 ≤ n) (Bs : Nat) (ba : Option Addr) (bl bc : Nat) (box : List Int) (ra : Option Addr) (rl rc : Nat) (rs : List (List Int × Int)) (ho : PtOk box rs) (Kp : World → World → Prop)
    (Good : World → Prop) (hGP : ∀ A, Good A → PtGood A Bs ba bl bc box ra rl rc rs) (hGB : ∀ A B, Good A → Below A.heap.size A B → Good B)
    (hKs : ∀ A B, Kp A B → A.heap.size ≤ B.heap.size) (hKG : ∀ A B, Kp A B → Good A → Good B) (w : World) (hG : Good w) :
    TellsIn FW n Try.prog 38 #[.pointer (some ⟨Bs, 0, none⟩)] (pts box rs) bl Kp w := by
  intro l J Jx W hW hJ hJx hY h0
  have hro : FW.round = none := rfl
  have hg1 := hGB _ _ hG hW
  have hG1 := hGP _ hg1
  obtain ⟨c0, c1⟩ := hG1.here.cells
  have zB := hG1.here.lt
  have hf := fun w => pt_func_nil (P := Try.prog) w _ _ _ _ Try.underlying64 (.yield l) #[] #[]
  obtain ⟨N, hN⟩ : ∃ N : Nat, prod box = (N : Int) := ⟨(prod box).toNat, by have := ho.size.2.2.2; omega⟩
  have hNs : N ≤ 4096 := by have := ho.size.1; omega
  have HNN : Hid ((prod box).toNat = N) := by rw [Hid, hN]; simp
  have HSN : Hid (sizeN box = (N : Int)) := by rw [Hid, ho.size.2.2.1, hN]
  have HO := hide ho
  have HG1 := hide hG1
  have Hg1 := hide hg1
  have HGP := hide hGP
  have HGB := hide hGB
  have HY := hide hY
  have HJ := hide hJ
  have H0 := hide h0
  have HKG := hide hKG
  have HKS := hide hKs
  clear hG hG1 hg1 ho hY hJ hJx h0 hKG hKs hN hGP hGB
  refine callsIn_of_wp Try.func38 rfl trivial ?_ hro
  simp only [Try.ntmps38, List.size_toArray, List.length_cons, List.length_nil, Nat.reduceAdd, Nat.reduceSub, Array.replicate_succ, Array.replicate_zero, List.push_toArray, List.append_toArray, List.nil_append, List.cons_append]
  gi_wp2_with (refine ⟨trivial, ?_⟩; gi_at_call 39; refine (callsIn_wide.2 (size_any _ _ _ box _ HG1.out.box)).mono ?_; rintro e w' ⟨rfl, hw'⟩; obtain rfl := hw'.symm; rw [HSN.out])
  gi_loopw [17] (fun i wr => ∃ k : Nat, k ≤ N ∧ i = .int .i64 k ∧ J (upto box rs k) wr ∧ Good wr ∧ W.heap.size ≤ wr.heap.size) (fun i _ => N - (intOf i).toNat)
  case atStart => exact ⟨0, Nat.zero_le _, rfl, H0.out, Hg1.out, Nat.le_refl _⟩
  case round =>
    obtain ⟨k, hk, rfl, hJs, hgr, hsz⟩ := hrel
    have hGr := HGP.out _ hgr
    have Hgr := hide hgr
    clear hgr
    have HJS := hide hJs
    have HGR := hide hGr
    have HSZ := hide hsz
    clear hJs hsz c0 c1
    by_cases hlt : k < N
    · obtain ⟨p0, p1⟩ := hGr.here.cells
      clear hGr
      gi_wp2_with fail
      refine ⟨trivial, (callsIn_wide.2 (callsIn_wide.1 (index_row ba bl bc box (k : Int) wr HGR.out.box HO.out.size.2.1 (by omega) (by rw [HSN.out]; omega)))).mono ?_⟩
      rintro e w2 ⟨⟨g, rfl, q1, q2, q3⟩, q4⟩
      have Hg2 := hide (HGB.out _ _ Hgr.out q4)
      have G2 := HGR.out.below q4
      obtain ⟨p0, p1⟩ := G2.here.cells
      have hkN : k < (prod box).toNat := by rw [HNN.out]; exact hlt
      have hbd := index_bd HO.out hkN
      have T2 : Told W.heap.size g bl (indexV box k) w2 := ⟨by have := HSZ.out; omega, q3.congr (fun j hj => by rw [indexV_getD box k j (by rw [HGR.out.box.1]; exact hj)]), by rw [hbd.2, HGR.out.box.1], by have := HO.out.rank; have := HGR.out.box.1; omega, hbd.1⟩
      have J2 := abides_below HJ.out HJS.out q4
      have A2 := above_any ra rl rc rs (some ⟨g, 0, none⟩) bl bl (indexV box k) w2 G2.rows T2.ints (fits_of HO.out hkN)
      have HG2 := hide G2
      have HT2 := hide T2
      have HJ2 := hide J2
      have HA2 := hide A2
      have HSZ2 : Hid (W.heap.size ≤ w2.heap.size) := Nat.le_trans HSZ.out q4.size
      have HKN := hide hkN
      clear q1 q2 q3 q4 G2 T2 J2 A2 hkN hbd
      cases ha : aboveB rs (indexV box k) with
      | false =>
        have HAB := hide ha
        clear ha
        gi_wp2_with (refine ⟨trivial, ?_⟩; gi_at_call 41; refine (callsIn_wide.2 HA2.out).mono ?_; rintro e w3 ⟨rfl, hb⟩; rw [HAB.out]; have HB3 := hide hb; clear hb)
        refine ⟨(fun f e => by cases e), ?_⟩
        gi_wp2
        go_roundw
        case rel => exact ⟨k + 1, by omega, by go_num, by rw [upto_succ, if_neg (by rw [HAB.out]; simp), List.append_nil]; exact abides_below HJ.out HJ2.out HB3.out, HGB.out _ _ Hg2.out HB3.out, Nat.le_trans HSZ2.out HB3.out.size⟩
        case measure => simp [intOf]; omega
      | true =>
        have HAB := hide ha
        clear ha
        gi_wp2_with (refine ⟨trivial, ?_⟩; gi_at_call 41; refine (callsIn_wide.2 HA2.out).mono ?_; rintro e w3 ⟨rfl, hb⟩; rw [HAB.out]; have HB3 := hide hb; obtain ⟨post, hpost⟩ := upto_here HKN.out HAB.out; obtain ⟨fn, tmps, assign, body, hy, hR⟩ := HY.out (upto box rs k) (indexV box k) post g w3 hpost (abides_below HJ.out HJ2.out hb) (HT2.out.below hb); have HR := hide hR; clear hb hR hpost)
        refine HR.out.mono ?_
        rintro e w4 (⟨rfl, j4, k4⟩ | ⟨rfl, jx4⟩)
        · have HJ4 := hide j4
          have HK4 := hide k4
          clear HR hy j4 k4
          gi_wp2
          go_roundw
          case rel => exact ⟨k + 1, by omega, by go_num, by rw [upto_succ, if_pos HAB.out]; exact HJ4.out, HKG.out _ _ HK4.out (HGB.out _ _ Hg2.out HB3.out), Nat.le_trans (Nat.le_trans HSZ2.out HB3.out.size) (HKS.out _ _ HK4.out)⟩
          case measure => simp [intOf]; omega
        · have HJ4 := hide jx4
          clear HR hy jx4
          gi_wp2
          refine bodyPost_ret (results_none rfl _ _ _) rfl ?_
          exact ⟨⟨_, rfl⟩, .inr HJ4.out⟩
    · obtain rfl : k = N := by omega
      gi_wp2
      go_end0
      refine ⟨⟨_, rfl⟩, .inl ?_⟩
      have := HJS.out
      rw [← HNN.out] at this
      exact this

set_option maxHeartbeats 1000000 in
theorem ptThrough_any (ba : Option Addr) (bl bc : Nat) (ra : Option Addr) (rl rc : Nat) (w : World) :
    Calls Try.prog 25 #[.agg #[.slice ba bl bc, .slice ra rl rc]] w fun e w' => e = .returned (.func (.func 38) #[] #[.pointer (some ⟨w.heap.size, 0, none⟩)]) ∧ w' = w.alloc (.cells #[.slice ba bl bc, .slice ra rl rc] 39) := by
  go_enter Try.func25, Try.ntmps25
  go_wp2
  go_ret
  exact ⟨rfl, rfl⟩
end Go.Proofs.Ytindmfpfpooijaa.V
