/-
  Contracts: room.changes, room.Load.
-/
import Derived.Test.YtnncalhpbfmgoaaRmChg
import Derived.Test.YtnncalhpbfmgoaaRw
import Derived.Shelf.SlSortCmp.NoneTotal
import Derived.Laws.MakeOwn
namespace Go.Proofs.Ytnncalhpbfmgoaa.V
open Go Go.Shelf Go.RowKit Go.Lib Go.Sort Go.Proofs
set_option linter.unusedVariables false

theorem info_C : (Try.prog.info? 43).map (fun i => (i.zero, i.size, i.bytes)) = some (some (.agg #[.int .i64 0, .int .i64 0]), 2, 16) := by kernel_rfl
def c2Cs (x : Int × Int) : List Value := [.int .i64 x.1, .int .i64 x.2]
theorem flat2_len : ∀ us : List (Int × Int), (us.flatMap c2Cs).length = us.length * 2
  | [] => rfl
  | u :: us => by rw [List.flatMap_cons, List.length_append, flat2_len us, List.length_cons]; simp [c2Cs]; omega
theorem flat2_get : ∀ (us : List (Int × Int)) (j : Nat), j < us.length → (us.flatMap c2Cs)[j * 2]? = some (.int .i64 (us[j]?.getD (0, 0)).1) ∧ (us.flatMap c2Cs)[j * 2 + 1]? = some (.int .i64 (us[j]?.getD (0, 0)).2)
  | [], j, h => by simp at h
  | u :: us, 0, h => by simp [c2Cs]
  | u :: us, j + 1, h => by
    have := flat2_get us j (by simpa using h)
    rw [List.flatMap_cons]
    have e1 : (j + 1) * 2 = (c2Cs u).length + j * 2 := by simp [c2Cs]; omega
    rw [e1, List.getElem?_append_right (by omega), Nat.add_assoc, List.getElem?_append_right (by omega), Nat.add_sub_cancel_left, Nat.add_sub_cancel_left]
    simpa using this
/-- Changes in block g. -/
def Chs (w : World) (g : Nat) (cs : List (Int × Int)) : Prop := ∀ j, j < cs.length → w.cell? ⟨g, j * 2, none⟩ = some (.int .i64 (cs[j]?.getD (0, 0)).1) ∧ w.cell? ⟨g, j * 2 + 1, none⟩ = some (.int .i64 (cs[j]?.getD (0, 0)).2)
theorem Chs.below {w w' : World} {g : Nat} {cs : List (Int × Int)} (h : Chs w g cs) (hb : Below w.heap.size w w') : Chs w' g cs := fun j hj =>
  ⟨(hb.cell (p := ⟨g, j * 2, none⟩) (lt_of_cell (h j hj).1)).trans (h j hj).1, (hb.cell (p := ⟨g, j * 2 + 1, none⟩) (lt_of_cell (h j hj).2)).trans (h j hj).2⟩
theorem cmpC_lt (x y : Int × Int) : ltOf cmpC x y = (decide (x.1 < y.1) || (decide (x.1 = y.1) && decide (x.2 < y.2))) := by
  unfold ltOf cmpC or2 cmpI
  by_cases h1 : x.1 < y.1
  · simp [h1]
  · by_cases h2 : y.1 < x.1
    · simp [h1, h2]; omega
    · have h3 : x.1 = y.1 := by omega
      by_cases h4 : x.2 < y.2
      · simp [h3, h4]
      · by_cases h5 : y.2 < x.2 <;> simp [h3, h4, h5]
theorem swoC : SWO (ltOf cmpC) where
  irrefl x := by rw [cmpC_lt]; simp
  trans x y z h1 h2 := by
    rw [cmpC_lt] at *
    simp only [Bool.or_eq_true, Bool.and_eq_true, decide_eq_true_eq] at *
    omega
  ntrans x y z h1 h2 := by
    rw [cmpC_lt] at *
    simp only [Bool.or_eq_false_iff, Bool.and_eq_false_iff, decide_eq_false_iff_not] at *
    omega
theorem totC (x y : Int × Int) (h1 : ltOf cmpC x y = false) (h2 : ltOf cmpC y x = false) : x = y := by
  rw [cmpC_lt] at *
  simp only [Bool.or_eq_false_iff, Bool.and_eq_false_iff, decide_eq_false_iff_not] at *
  obtain ⟨a, b⟩ := x
  obtain ⟨c, d⟩ := y
  simp only at h1 h2
  have : a = c := by omega
  have : b = d := by omega
  simp [*]
theorem cmpLaysC (blk off size : Nat) (w : World) : CmpLays Try.prog 37 #[] c2Cs 2 cmpC blk off size w := fun _ _ _ _ x y => chg1_any x y _
theorem sortC_sorted (l : List (Int × Int)) : (l.mergeSort fun x y => !(ltOf cmpC) y x).Perm l ∧ (l.mergeSort fun x y => !(ltOf cmpC) y x).Pairwise leC := by
  refine ⟨List.mergeSort_perm _ _, ?_⟩
  have := List.pairwise_mergeSort (le := fun x y => !(ltOf cmpC) y x) (fun a b c h1 h2 => ?_) (fun a b => ?_) l
  · refine this.imp (fun {a b} h => ?_)
    rw [cmpC_lt] at h
    simp only [Bool.not_eq_true', Bool.or_eq_false_iff, Bool.and_eq_false_iff, decide_eq_false_iff_not] at h
    unfold leC
    omega
  · rw [cmpC_lt] at *
    simp only [Bool.not_eq_true', Bool.or_eq_false_iff, Bool.and_eq_false_iff, decide_eq_false_iff_not] at *
    omega
  · rw [cmpC_lt, cmpC_lt]
    by_cases h : (decide (b.1 < a.1) || (decide (b.1 = a.1) && decide (b.2 < a.2))) = true
    · simp only [Bool.or_eq_true, Bool.and_eq_true, decide_eq_true_eq] at h
      have : (decide (a.1 < b.1) || (decide (a.1 = b.1) && decide (a.2 < b.2))) = false := by
        simp only [Bool.or_eq_false_iff, Bool.and_eq_false_iff, decide_eq_false_iff_not]
        omega
      simp [this]
    · have : (decide (b.1 < a.1) || (decide (b.1 = a.1) && decide (b.2 < a.2))) = false := by simpa using h
      simp [this]
theorem sortF_any (g cap : Nat) (cs : List (Int × Int)) (w : World) (h : Chs w g cs) (hf : ∀ i, w.frozen? ⟨g, i, none⟩ = false) (hg : g < w.heap.size) (hsz : cs.length < 1000000) :
    Calls Try.prog 36 #[.slice (some ⟨g, 0, none⟩) cs.length cap, .func (.func 37) #[] #[]] w fun e w' => e = .returned (.tuple #[]) ∧ (∃ cs', cs'.Perm cs ∧ cs'.Pairwise leC ∧ Chs w' g cs') ∧ Rw g w w' := by
  have hH : HoldsK c2Cs 2 w g 0 cs.toArray := fun t ht => by
    have hs : cs.toArray.size = cs.length := by simp
    rw [size_flatK, hs] at ht
    refine ⟨?_, by rw [Nat.zero_add]; exact hf t⟩
    rw [get_flatK _ _ _ _ (by rw [hs]; exact ht), Nat.zero_add]
    have hj : t / 2 < cs.length := by omega
    have h1 := h (t / 2) hj
    have e1 : cs.toArray[t / 2]! = cs[t / 2]?.getD (0, 0) := by
      rw [getElem!_pos _ _ (by rw [hs]; exact hj)]
      simp [hj]
    rw [e1]
    have h2 : t % 2 = 0 ∨ t % 2 = 1 := by omega
    rcases h2 with h2 | h2
    · have e2 : t / 2 * 2 = t := by omega
      rw [e2] at h1
      rw [h1.1, h2]; rfl
    · have e2 : t / 2 * 2 + 1 = t := by omega
      rw [e2] at h1
      rw [h1.2, h2]; rfl
  have hc := AnyQ.slices_SortFunc_total Try.sortCh 2 Try.isAgg43 Try.sizeOf43 c2Cs (fun _ => rfl) (fun x v hv => by simp [c2Cs] at hv; rcases hv with rfl | rfl <;> rfl) cmpC swoC 37 #[] g 0 cap cs.toArray w (enters_of Try.func37 (by kernel_rfl) rfl) (cmpLaysC g 0 _ w) hH hg (by simp; omega) totC
  have hs : cs.toArray.size = cs.length := by simp
  rw [hs] at hc
  change Calls Try.prog 36 _ _ _ at hc
  refine hc.mono ?_
  rintro e w' ⟨rfl, n, os, hw⟩
  obtain ⟨ms, p1, p2, sw⟩ : ∃ ms : List (Int × Int), ms.Perm cs ∧ ms.Pairwise leC ∧ SWK c2Cs 2 w g 0 ms.toArray w' := ⟨_, (sortC_sorted cs).1, (sortC_sorted cs).2, ⟨n, os, hw⟩⟩
  refine ⟨rfl, ⟨ms, p1, p2, fun j hj => ?_⟩, Rw.swk sw hg⟩
  have hl := p1.length_eq
  have hh := sw.holds hg hH (by simp [hl])
  have hj' : j < ms.toArray.size := by simpa using hj
  have a0 := (HoldsK.cell hh hj' (show 0 < 2 by omega)).1
  have a1 := (HoldsK.cell hh hj' (show 1 < 2 by omega)).1
  rw [Nat.zero_add, Nat.add_zero] at a0
  rw [Nat.zero_add] at a1
  have e1 : ms.toArray[j]! = ms[j]?.getD (0, 0) := by
    rw [getElem!_pos ms.toArray j hj']
    simp [hj]
  rw [e1] at a0 a1
  exact ⟨a0, a1⟩
/-- Changes in a row of the call's own. -/
def OutC (W : World) (B : Nat) (v : Value) (cs : List (Int × Int)) : Prop := W.ownsRow B 43 2 v cs.length (cs.flatMap c2Cs)
theorem OutC.lt {W : World} {B : Nat} {v : Value} {cs : List (Int × Int)} (h : OutC W B v cs) : ∀ g, v.ownBlock = some g → B ≤ g ∧ g < W.heap.size := fun g e => by
  rcases h.2 with ⟨rfl, _⟩ | ⟨g', cap, cur, rfl, e2, e3, e4⟩
  · simp [Value.ownBlock] at e
  · obtain rfl : g' = g := by simpa [Value.ownBlock] using e
    exact ⟨e2, (Array.getElem?_eq_some_iff.1 e3).1⟩
theorem OutC.below {W V : World} {B : Nat} {v : Value} {cs : List (Int × Int)} (h : OutC W B v cs) (hb : Below W.heap.size W V) : OutC V B v cs := by
  have hl := h.lt
  refine ⟨h.1, ?_⟩
  rcases h.2 with h1 | ⟨g, cap, cur, rfl, e2, e3, e4⟩
  · exact .inl h1
  · exact .inr ⟨g, cap, cur, rfl, e2, (hb.block g (hl g rfl).2).trans e3, e4⟩
theorem OutC.made {W : World} {B : Nat} {v : Value} {cs : List (Int × Int)} (h : OutC W B v cs) (hn : v ≠ .slice none 0 0) : ∃ g c, v = .slice (some ⟨g, 0, none⟩) cs.length c ∧ B ≤ g ∧ g < W.heap.size ∧ Chs W g cs ∧ ∀ i, W.frozen? ⟨g, i, none⟩ = false := by
  have hl := h.lt
  have h0 := h.1
  rcases h.2 with ⟨h1, _⟩ | ⟨g, cap, cur, rfl, e2, e3, e4, e5, e6, e7⟩
  · exact absurd h1 hn
  · refine ⟨g, cap, rfl, e2, (hl g rfl).2, fun j hj => ?_, fun i => by simp [World.frozen?, e3]⟩
    have f := flat2_get cs j hj
    rw [← e7] at f
    have g1 : j * 2 < cs.length * 2 := by omega
    have g2 : j * 2 + 1 < cs.length * 2 := by omega
    rw [List.getElem?_take_of_lt g1, List.getElem?_take_of_lt g2] at f
    simp only [World.cell?, e3]
    simpa using f
theorem wrap_neg (x : Int) (h0 : 0 ≤ x) (h1 : x ≤ 1048576) : IntKind.i64.wrap (-x) = -x := by rw [IntKind.wrap_i64]; omega
theorem chg_take (ls : List Lf) (k : Nat) (h : k < ls.length) : chg (ls.take (k + 1)) = chg (ls.take k) ++ [((ls[k]?.getD lfD).fr, (ls[k]?.getD lfD).wd), ((ls[k]?.getD lfD).to, -(ls[k]?.getD lfD).wd)] := by
  rw [take_succLf ls k h]
  simp [chg]
theorem chg_len : ∀ ls : List Lf, (chg ls).length = 2 * ls.length
  | [] => rfl
  | x :: ls => by
    have := chg_len ls
    simp only [chg, List.flatMap_cons, List.length_append, List.length_cons, List.length_nil] at this ⊢
    omega
theorem append_c2 {w : World} {ops : Array Oper} {rest : List Oper} {op : Oper} {a : Act} {Q : Exit → Act → World → Prop} (hgd : op.guard = none) (s x : Operand)
    (ho : op.op = .call { callee := .builtin .append, args := #[s, x], argTypes := #[40, 40] }) (B : Nat) (v : Value) (hs : a.eval s = v) (cs : List (Int × Int)) (p q : Int × Int) (hout : OutC w B v cs)
    (hx : a.eval x = .slice (some ⟨w.heap.size, 0, none⟩) 2 2) (hbytes : (cs.length + 2) * 16 ≤ 140737488355328) (hB : B ≤ w.heap.size)
    (h : ∀ v' w', OutC w' B v' (cs ++ [p, q]) → Below B w w' → v' ≠ .slice none 0 0 → wpList Try.prog ops Q rest (a.put op.dst v') w') :
    wpList Try.prog ops Q (op :: rest) a (w.alloc (.cells #[.int .i64 p.1, .int .i64 p.2, .int .i64 q.1, .int .i64 q.2] 43)) := by
  obtain ⟨i0, hi, hz0, hz1, hz2⟩ := info_parts info_C
  have hlt := hout.lt
  have h2' := World.ownsRow.alloc (o := .cells #[.int .i64 p.1, .int .i64 p.2, .int .i64 q.1, .int .i64 q.2] 43) hout
  refine wpList_append_own _ hgd s x 40 ho B 43 i0 (.agg #[.int .i64 0, .int .i64 0]) 2 16 Try.underlying40 hi hz0 hz1 hz2 rfl (by decide) v cs.length (cs.flatMap c2Cs) hs h2' ⟨w.heap.size, 0, none⟩ 2 2 [.int .i64 p.1, .int .i64 p.2, .int .i64 q.1, .int .i64 q.2] hx rfl ?_ ?_ (by unfold maxLen; omega) hbytes (by simp; omega) (fun v' w' k1 k2 k3 => ?_)
  · intro j y hj
    rw [Go.WideShapes.add_plain]
    unfold World.cell?
    rw [World.alloc_heap_new w (.cells #[.int .i64 p.1, .int .i64 p.2, .int .i64 q.1, .int .i64 q.2] 43)]
    rw [Nat.zero_add, ← hj]
    simp
  · intro y hy
    simp at hy
    rcases hy with rfl | rfl | rfl | rfl <;> rfl
  · refine h v' w' ?_ (((Below.refl B w).alloc hB _).grown k2 (by simp; omega) (fun j e => (hlt j e).1)) (fun e => ?_)
    · unfold OutC
      rw [List.length_append, List.flatMap_append]
      exact k1
    · have := (k3.1 e).2
      omega
set_option maxHeartbeats 2000000 in
theorem changes_any (a : Option Addr) (len cap : Nat) (ls : List Lf) (w : World) (h : Lives w a len ls) (hE : livesE ls = 0) :
    Calls Try.prog 22 #[.slice a len cap] w fun e w' => (∃ g c cs, e = .returned (.slice (some ⟨g, 0, none⟩) (2 * len) c) ∧ cs.Perm (chg ls) ∧ cs.Pairwise leC ∧ Chs w' g cs ∧ w.heap.size ≤ g) ∧ Below w.heap.size w w' := by
  obtain ⟨hl4, hok⟩ := livesE_ok hE
  have HL := hide h.1
  have hlen : len ≤ 4096 := by rw [← h.1]; exact hl4
  have H := hide h
  have HO := hide hok
  clear h hE hl4 hok
  obtain ⟨i0, hi, hz0, hz1, hz2⟩ := info_parts info_C
  obtain ⟨w1, hmk, hown, hgr⟩ := run_make_own w w.heap.size 40 43 i0 (.agg #[.int .i64 0, .int .i64 0]) 2 Try.underlying40 hi hz0 hz1 .i64 .i64 (2 * len) (by rw [hz2]; omega) (by unfold maxLen; omega) (Nat.le_refl _)
  have hB1 : Below w.heap.size w w1 := (Below.refl _ _).grown hgr (Nat.le_refl _) (fun j e => by cases e)
  have HO1 : Hid (OutC w1 w.heap.size (.slice (some ⟨w.heap.size, 0, none⟩) 0 (2 * len)) []) := hown
  have HB1 := hide hB1
  have HII := hide (⟨hi, hz0, hz1, hz2⟩ : Try.prog.info? 43 = some i0 ∧ i0.zero = some (.agg #[.int .i64 0, .int .i64 0]) ∧ i0.size = 2 ∧ i0.bytes = 16)
  have hmk' : (Instr.makeSlice 40 (.int .i64 0) (.int .i64 (2 * (len : Int)))).run Try.prog w = .ok (.slice (some ⟨w.heap.size, 0, none⟩) 0 (2 * len)) w1 := by
    have e : ((2 * len : Nat) : Int) = 2 * (len : Int) := by omega
    rw [← e]; exact hmk
  clear hown hgr hB1 hi hz0 hz1 hz2 hmk
  have hs2 : (2 * (len : Int)).toNat = 2 * len := by omega
  go_enter Try.func22, Try.ntmps22
  go_wp2
  go_loopw [3, 12] (fun v i wr => ∃ k : Nat, k ≤ len ∧ i = .int .i64 k ∧ v ≠ .slice none 0 0 ∧ OutC wr w.heap.size v (chg (ls.take k)) ∧ Below w.heap.size w wr) (fun _ i _ => len - (intOf i).toNat)
  case atStart => exact ⟨0, Nat.zero_le _, rfl, by simp, HO1.out, HB1.out⟩
  case round =>
    obtain ⟨k, hk, rfl, hv, ho, hB⟩ := hrel
    have HV := hide hv
    have HO2 := hide ho
    have HB := hide hB
    clear hv ho hB hmk'
    by_cases hlt : k < len
    · have hkl : k < ls.length := by rw [HL.out]; exact hlt
      have hq0 := HO.out _ (mem_getLf ls k hkl)
      have HCT := hide (chg_take ls k hkl)
      obtain ⟨b, off, rfl, c1, c2, c3⟩ := (H.out.below HB.out).at hlt
      have z1 := lt_of_cell c1
      simp only at z1
      obtain ⟨q, hq⟩ : ∃ q, q = ls[k]?.getD lfD := ⟨_, rfl⟩
      rw [← hq] at c1 c2 c3 hq0
      rw [← hq] at HCT
      have hw := wrap_neg q.wd hq0.w0 hq0.w1
      have HCL : Hid ((chg (ls.take k)).length ≤ 8192) := by rw [Hid, chg_len, List.length_take]; omega
      clear hq hkl hq0
      have HO3 := hide (HO2.out.below (bl_new (.cells #[.int .i64 q.fr, .int .i64 q.to, .int .i64 q.wd] 37)))
      have HB3 := hide (bl_on HB.out (bl_new (.cells #[.int .i64 q.fr, .int .i64 q.to, .int .i64 q.wd] 37)))
      go_wp2_with (at_builtin; refine append_c2 rfl (.tmp 16) (.tmp 28) rfl w.heap.size _ rfl _ (q.fr, q.wd) (q.to, -q.wd) HO3.out (by simp [go_sem]) (by have := HCL.out; omega) HB3.out.size ?_; intro v1 w3 ho3 hb3 hv3; have HO4 := hide ho3; have HB4 := hide (HB3.out.trans hb3); have HV4 := hide hv3; clear ho3 hb3 hv3)
      go_roundw
      case rel => exact ⟨k + 1, by omega, by go_num, HV4.out, by rw [HCT.out]; exact HO4.out, HB4.out⟩
      case measure => simp [intOf]; omega
    · obtain rfl : k = len := by omega
      have ho := HO2.out
      rw [List.take_of_length_le (by rw [HL.out]; omega)] at ho
      obtain ⟨g, c, rfl, hg1, hg2, hg3, hg4⟩ := ho.made HV.out
      have hcl : (chg ls).length = 2 * k := by rw [chg_len, HL.out]
      have hS := sortF_any g c (chg ls) wr hg3 hg4 hg2 (by omega)
      rw [hcl] at hS
      have HS := hide hS
      have HG1 := hide hg1
      rw [hcl]
      clear ho hg1 hg3 hg4 hS HO2 HV hcl
      go_wp2_with (go_at_call 36; refine HS.out.mono ?_; rintro e w2 ⟨rfl, ⟨cs, p1, p2, p3⟩, hr⟩; have HP := hide (⟨p1, p2, p3⟩ : cs.Perm (chg ls) ∧ cs.Pairwise leC ∧ Chs w2 g cs); have HR := hide hr; clear p1 p2 p3 hr)
      go_ret
      exact ⟨⟨g, c, cs, rfl, HP.out.1, HP.out.2.1, HP.out.2.2, HG1.out⟩, HB.out.trans (HR.out.below HG1.out HB.out.size)⟩
end Go.Proofs.Ytnncalhpbfmgoaa.V
