/-
  Lists that are answered; append of a list; contracts: adjointref2.has, once, chosen, Free, both; array.count, these, fresh. Contracts: list.Each of ints, list.These of ints and its closure. Contracts: adjointref2.chosen; array.count; list.Fresh of ints.
-/
import Derived.Test.YteoobeldmicjhaaGreatPCKArrayCuts9
import Derived.Test.YteoobeldmicjhaaGreatPCKArrayCuts10
import Derived.Test.YteoobeldmicjhaaGreatPCKArrayCuts19
import Derived.Laws.AppendOwnNone
import Derived.Test.YteoobeldmicjhaaGreatPCKArrayCuts7
namespace Go.Proofs.YteoobeldmicjhaaGreat.V
set_option maxRecDepth 20000
open Go.RowKit

/-- A list that is answered, in memory of the call's own. -/
def NewAt (w w' : World) (v : Value) (xs : List Int) : Prop := ∃ X n c, v = .slice X n c ∧ Lst w' X n c xs ∧ Far w.heap.size X
theorem newAt_nil (w w' : World) : NewAt w w' (.slice none 0 0) [] := ⟨none, 0, 0, rfl, ⟨⟨rfl, by omega, by simp, .inl rfl⟩, Nat.le_refl _, fun _ => rfl⟩, fun _ _ h => by cases h⟩

theorem newAt_own {w w' : World} {v : Value} {n : Nat} {xs : List Int} (h : w'.ownsRow w.heap.size 3 1 v n (xs.map (Value.int .i64))) (hl : xs.length = n) (hm : n ≤ 9223372036854775807) (hb : ∀ x ∈ xs, -9223372036854775808 ≤ x ∧ x ≤ 9223372036854775807) : NewAt w w' v xs := by
  rcases h.2 with ⟨rfl, h2⟩ | ⟨g, cap, cur, rfl, h3, _, h4, _⟩
  · have : xs = [] := by rw [← List.length_eq_zero_iff]; omega
    rw [this]; exact newAt_nil w w'
  · exact ⟨_, _, _, rfl, ⟨ints_of_own h hl hm hb, h4, fun e => by cases e⟩, fun b o e => by cases e; exact h3⟩

/-- It answers a list of its own. -/
def GivesL (w : World) (e : Ending) (w' : World) (xs : List Int) : Prop := ∃ v, e = .returned v ∧ NewAt w w' v xs

theorem bd_append {xs ys : List Int} (h1 : ∀ x ∈ xs, -9223372036854775808 ≤ x ∧ x ≤ 9223372036854775807) (h2 : ∀ x ∈ ys, -9223372036854775808 ≤ x ∧ x ≤ 9223372036854775807) : ∀ x ∈ xs ++ ys, -9223372036854775808 ≤ x ∧ x ≤ 9223372036854775807 := by
  intro x hx
  rcases List.mem_append.1 hx with h | h
  · exact h1 x h
  · exact h2 x h

set_option maxHeartbeats 1000000 in
theorem both_any (a : Option Addr) (len cap : Nat) (xs : List Int) (a' : Option Addr) (len' cap' : Nat) (ys : List Int) (w : World) (h : Lst w a len cap xs) (h' : Lst w a' len' cap' ys) (hs : (len + len') * 8 ≤ 140737488355328) :
    Calls Tryz.prog 37 #[.slice a len cap, .slice a' len' cap'] w fun e w' => GivesL w e w' (xs ++ ys) ∧ Below w.heap.size w w' := by
  have H := hide h
  have H' := hide h'
  clear h h'
  have hb1 : Below w.heap.size w (w.alloc (.cells #[] 3)) := (Below.refl _ _).alloc (Nat.le_refl _) _
  have HB1 := hide hb1
  have HO1 := hide (World.ownsRow_made (e := 3) (size := 1) w #[] 0 (Nat.le_refl _) (Nat.zero_le _) rfl)
  clear hb1
  go_enter Tryz.func37, Tryz.ntmps37
  go_wp2_with (first
    | (at_builtin; refine append_list (by rfl) (.tmp 5) (.tmp 6) (by rfl) w.heap.size _ _ _ (by rfl) HO1.out _ _ _ xs (by rfl) (H.out.below HB1.out) (by omega) (by simp) ?_; intro v1 w1 hown1 hg1; have HO2 := hide hown1; have HB2 := hide (grown_own HB1.out HO1.out hg1); clear hown1 hg1)
    | (at_builtin; refine append_list (by rfl) (.tmp 7) (.tmp 8) (by rfl) w.heap.size _ _ _ (by rfl) HO2.out _ _ _ ys (by rfl) (H'.out.below HB2.out) (by omega) (HB2.out.size) ?_; intro v2 w2 hown2 hg2; have HO3 := hide hown2; have HB3 := hide (grown_own HB2.out HO2.out hg2); clear hown2 hg2))
  go_ret
  have ho := HO3.out
  rw [List.nil_append, ← List.map_append] at ho
  exact ⟨⟨_, rfl, newAt_own ho (by simp [H.out.1.1, H'.out.1.1]) (by omega) (bd_append H.out.1.2.2.1 H'.out.1.2.2.1)⟩, HB3.out⟩

set_option maxHeartbeats 400000 in
theorem has2_any (a : Option Addr) (len cap : Nat) (xs : List Int) (v : Int) (w : World) (h : Ints w a len xs) :
    Calls Tryz.prog 55 #[.slice a len cap, .int .i64 v] w fun e w' => e = .returned (.bool (xs.any (fun x => x == v))) ∧ w' = w := by
  have hl := h.1
  have hm := h.2.1
  have HL : Hid (xs.length = len) := hl
  go_enter Tryz.func55, Tryz.ntmps55
  go_wp2
  go_loop [9] (fun i => ∃ k : Nat, k ≤ len ∧ i = .int .i64 k ∧ (xs.take k).any (fun x => x == v) = false) (fun i => len - (intOf i).toNat)
  case atStart => exact ⟨0, Nat.zero_le _, rfl, by simp⟩
  case round =>
    obtain ⟨k, hk, rfl, hn⟩ := hrel
    have HN : Hid ((xs.take k).any (fun x => x == v) = false) := hn
    clear hn hl
    by_cases hlt : k < len
    · obtain ⟨b, off, rfl, hb, hc⟩ := h.at (by omega)
      have hck := hc k hlt
      clear hc h
      go_wp2
      · have hx : (xs[k]?.getD 0 == v) = true := by assumption
        go_ret
        rw [any_of_getD (p := fun x => x == v) xs k (by rw [HL.out]; exact hlt) hx]
        exact ⟨rfl, rfl⟩
      · have hx : (xs[k]?.getD 0 == v) = false := by assumption
        go_round
        case rel => exact ⟨k + 1, by omega, by go_num, not_mem_take_succ xs k (by rw [HL.out]; exact hlt) HN.out hx⟩
        case measure => simp [intOf]; omega
    · go_wp2
      go_ret
      have := HN.out
      rw [take_all HL.out hlt] at this
      rw [this]
      exact ⟨rfl, rfl⟩

/-- Those below n that a list does not name. -/
def freeL (xs : List Int) : Nat → List Int
  | 0 => []
  | k + 1 => freeL xs k ++ (if inB xs k = true then [] else [(k : Int)])
theorem freeL_bd (xs : List Int) : ∀ n, ∀ x ∈ freeL xs n, 0 ≤ x ∧ x < n
  | 0, x, hx => by cases hx
  | n + 1, x, hx => by
    rw [freeL] at hx
    rcases List.mem_append.1 hx with h | h
    · have := freeL_bd xs n x h; omega
    · split at h
      · cases h
      · have : x = n := by simpa using h
        omega
theorem freeL_len (xs : List Int) : ∀ n, (freeL xs n).length ≤ n
  | 0 => Nat.le_refl _
  | n + 1 => by
    have := freeL_len xs n
    rw [freeL, List.length_append]
    split <;> simp <;> omega

set_option maxRecDepth 100000 in
set_option maxHeartbeats 1000000 in
theorem free_any (a : Option Addr) (len cap : Nat) (xs : List Int) (a' : Option Addr) (len' cap' : Nat) (ys : List Int) (w : World) (h : Ints w a len xs) (h' : Ints w a' len' ys) (h6 : len ≤ 6) :
    Calls Tryz.prog 30 #[.slice a len cap, .slice a' len' cap'] w fun e w' => GivesL w e w' (freeL ys len) ∧ Below w.heap.size w w' := by
  have H := hide h
  have H' := hide h'
  clear h h'
  go_enter Tryz.func30, Tryz.ntmps30
  go_wp2
  go_loopw [5, 9] (fun v i wr => ∃ k : Nat, k ≤ len ∧ i = .int .i64 k ∧ wr.ownsRow w.heap.size 3 1 v (freeL ys k).length ((freeL ys k).map (Value.int .i64)) ∧ Below w.heap.size w wr) (fun _ i _ => len - (intOf i).toNat)
  case atStart => exact ⟨0, Nat.zero_le _, rfl, World.ownsRow_nil _ _ _ _, Below.refl _ _⟩
  case round =>
    obtain ⟨k, hk, rfl, hown, hB⟩ := hrel
    have HO := hide hown
    have HB := hide hB
    clear hown hB
    by_cases hlt : k < len
    · have hfl := freeL_len ys k
      cases q : inB ys k with
      | true =>
        have HE : Hid (freeL ys (k + 1) = freeL ys k) := by rw [Hid, freeL, if_pos q]; simp
        have Q : Hid (ys.any (fun x => x == (k : Int)) = true) := q
        clear q
        go_wp2_with (go_at_call 55; refine (has2_any _ _ _ ys _ _ (H'.out.below HB.out)).mono ?_; rintro e w' ⟨rfl, hw'⟩; obtain rfl := hw'.symm; rw [Q.out])
        go_roundw
        case rel => exact ⟨k + 1, by omega, by go_num, by rw [HE.out]; exact HO.out, HB.out⟩
        case measure => simp [intOf]; omega
      | false =>
        have HE : Hid (freeL ys (k + 1) = freeL ys k ++ [(k : Int)]) := by rw [Hid, freeL, if_neg (by simp [q])]
        have Q : Hid (ys.any (fun x => x == (k : Int)) = false) := q
        clear q
        go_wp2_with (first
          | (go_at_call 55; refine (has2_any _ _ _ ys _ _ (H'.out.below HB.out)).mono ?_; rintro e w' ⟨rfl, hw'⟩; obtain rfl := hw'.symm; rw [Q.out])
          | (at_builtin; refine append_list (by rfl) (.tmp 16) (.tmp 18) (by rfl) w.heap.size _ _ _ (by rfl) (HO.out.alloc _) _ _ _ [(k : Int)] (by rfl) (lst_one wr k (by omega) 3) (by omega) (by have := HB.out.size; simp; omega) ?_; intro v1 w1 hown1 hg1; have HO1 := hide hown1; have HB1 := hide (grown_own (HB.out.alloc HB.out.size _) (HO.out.alloc _) hg1); clear hown1 hg1))
        go_roundw
        case rel =>
          have ho := HO1.out
          refine ⟨k + 1, by omega, by go_num, ?_, HB1.out⟩
          rw [HE.out, List.map_append, List.length_append]
          exact ho
        case measure => simp [intOf]; omega
    · obtain rfl : k = len := by omega
      have hfl := freeL_len ys k
      go_wp2
      go_ret
      exact ⟨⟨_, rfl, newAt_own HO.out rfl (by omega) (fun x hx => by have := freeL_bd ys k x hx; omega)⟩, HB.out⟩

/-- Numbers from 0 on below n, none twice. -/
def Once (xs : List Int) (n : Nat) : Prop := goodPre xs n xs.length

set_option maxRecDepth 100000 in
set_option maxHeartbeats 1000000 in
theorem once_any (a : Option Addr) (len cap : Nat) (xs : List Int) (n : Nat) (w : World) (h : Lst w a len cap xs) :
    Calls Tryz.prog 84 #[.slice a len cap, .int .i64 n] w fun e w' => Tells e (Once xs n) ∧ Below w.heap.size w w' := by
  have HL := hide h.1.1
  have hm := h.1.2.1
  have hcap := h.2.1
  have H := hide h.1
  clear h
  go_enter Tryz.func84, Tryz.ntmps84
  go_wp2
  go_loopw [9] (fun i wr => ∃ k : Nat, k ≤ len ∧ i = .int .i64 k ∧ goodPre xs n k ∧ Below w.heap.size w wr) (fun i _ => len - (intOf i).toNat)
  case atStart => exact ⟨0, Nat.zero_le _, rfl, fun i hi => by omega, Below.refl _ _⟩
  case round =>
    obtain ⟨k, hk, rfl, hgood, hB⟩ := hrel
    have HG := hide hgood
    have HB := hide hB
    clear hgood hB
    by_cases hlt : k < len
    · obtain ⟨b, off, rfl, hb, hc⟩ := H.out.at (by omega)
      have hck : wr.cell? ⟨b, off + k, none⟩ = some (.int .i64 (xs[k]?.getD 0)) := (HB.out.cell (p := ⟨b, off + k, none⟩) hb).trans (hc k hlt)
      have HKL : Hid (k < xs.length) := by rw [Hid, HL.out]; exact hlt
      have HT : Hid (Ints wr (some ⟨b, off, none⟩) k (xs.take k)) := by
        refine ⟨by simp; have := HL.out; omega, by omega, fun x hx => H.out.2.2.1 x (List.mem_of_mem_take hx), .inr ⟨_, _, rfl, fun j hj => ?_⟩⟩
        rw [List.getElem?_take_of_lt hj]
        exact (HB.out.cell (p := ⟨b, off + j, none⟩) hb).trans (hc j (by omega))
      clear hc
      by_cases q1 : xs[k]?.getD 0 < 0
      · go_wp2
        go_ret
        exact ⟨⟨false, rfl, by simp; exact fun hp => by have := hp k HKL.out; omega⟩, HB.out⟩
      by_cases q2 : (n : Int) ≤ xs[k]?.getD 0
      · go_wp2
        go_ret
        exact ⟨⟨false, rfl, by simp; exact fun hp => by have := hp k HKL.out; omega⟩, HB.out⟩
      cases q3 : ((xs.take k).any fun x => x == xs[k]?.getD 0) with
      | true =>
        have Q3 := hide q3
        clear q3
        go_wp2_with (go_at_call 55; refine (has2_any _ _ _ (xs.take k) _ _ HT.out).mono ?_; rintro e w' ⟨rfl, hw'⟩; obtain rfl := hw'.symm; rw [Q3.out])
        go_ret
        have hno : ¬ Once xs n := fun hp => by
          have q := Q3.out
          rw [List.any_eq_true] at q
          obtain ⟨y, hy, hye⟩ := q
          simp only [beq_iff_eq] at hye
          obtain ⟨j, hj, hje⟩ := List.getElem_of_mem hy
          have hj' : j < k ∧ j < xs.length := by simp at hj; omega
          apply (hp k HKL.out).2.2 j hj'.1
          rw [← hye, ← hje]
          simp [hj'.2]
        exact ⟨⟨false, rfl, by simp; exact hno⟩, HB.out⟩
      | false =>
        have Q3 := hide q3
        clear q3
        go_wp2_with (go_at_call 55; refine (has2_any _ _ _ (xs.take k) _ _ HT.out).mono ?_; rintro e w' ⟨rfl, hw'⟩; obtain rfl := hw'.symm; rw [Q3.out])
        go_roundw
        case rel =>
          refine ⟨k + 1, by omega, by go_num, goodPre_succ HG.out (by omega) (by omega) (fun j hj he => ?_), HB.out⟩
          have q := Q3.out
          rw [List.any_eq_false] at q
          have hjl : j < xs.length := by have := HKL.out; omega
          apply q (xs[j]?.getD 0) _ (by rw [he]; simp)
          rw [List.mem_iff_getElem?]
          exact ⟨j, by simp [List.getElem?_take_of_lt hj, hjl]⟩
        case measure => simp [intOf]; omega
    · go_wp2
      go_ret
      obtain rfl : k = len := by omega
      exact ⟨⟨true, rfl, by simp; unfold Once; rw [HL.out]; exact HG.out⟩, HB.out⟩
end Go.Proofs.YteoobeldmicjhaaGreat.V
namespace Go.Proofs.YteoobeldmicjhaaGreat.V
set_option maxRecDepth 20000
open Go.RowKit

set_option maxRecDepth 100000 in
set_option maxHeartbeats 1000000 in
theorem each_any (f : FuncId) (caps : Array Value) (a : Option Addr) (len cap : Nat) (xs vs : List Int) (w : World) (h : Ints w a len xs) (h48 : 8 * len ≤ 281474976710656) (hcf : ∀ (args : Array Value) (w : World), (callFunc f args).run Tryz.prog w = .ok (.enter f args) w)
    (hcall : ∀ (i : Nat) (W : World), i < len → Below w.heap.size w W → Calls Tryz.prog f (#[.int .i64 (xs[i]?.getD 0)] ++ caps) W fun e W' => e = .returned (.int .i64 (vs[i]?.getD 0)) ∧ W'.heap = W.heap ∧ Below 0 W W') :
    Calls Tryz.prog 106 #[.slice a len cap, .func (Fn.func f) #[] caps] w fun e w' => (∃ g : Nat, e = .returned (.slice (some ⟨g, 0, none⟩) len len) ∧ w'.rowIs g 3 len (onWay vs [] len) ∧ w.heap.size ≤ g) ∧ Below w.heap.size w w' := by
  have hm := h.2.1
  have H := hide h
  have HC := hide hcall
  have hmk := run_make_row' (P := Tryz.prog) 22 3 (.int .i64 0) 8 Tryz.underlying22 info_int rfl .i64 .i64 len (by omega) (by omega)
  clear h hcall
  go_enter Tryz.func106, Tryz.ntmps106
  go_wp2
  go_loopw [13] (fun i wr => ∃ k : Nat, k ≤ len ∧ i = .int .i64 k ∧ wr.rowIs w.heap.size 3 len (onWay vs [] k) ∧ Below w.heap.size w wr) (fun i _ => len - (intOf i).toNat)
  case atStart => exact ⟨0, Nat.zero_le _, rfl, (World.rowIs_made w (.int .i64 0) len 3).congr (fun j _ => by simp [onWay]), (Below.refl _ _).alloc (Nat.le_refl _) _⟩
  case round =>
    obtain ⟨k, hk, rfl, hrow, hB⟩ := hrel
    have HR := hide hrow
    have HB := hide hB
    clear hrow hB
    by_cases hlt : k < len
    · obtain ⟨b, off, rfl, hb, hc⟩ := H.out.at (by omega)
      have hcx : wr.cell? ⟨b, off + k, none⟩ = some (.int .i64 (xs[k]?.getD 0)) := (HB.out.cell (p := ⟨b, off + k, none⟩) hb).trans (hc k hlt)
      have HCK := hide (HC.out k wr hlt HB.out)
      obtain ⟨X, hX⟩ : ∃ X, X = vs[k]?.getD 0 := ⟨_, rfl⟩
      obtain ⟨Y, hY⟩ : ∃ Y, Y = xs[k]?.getD 0 := ⟨_, rfl⟩
      rw [← hX, ← hY] at HCK
      rw [← hY] at hcx
      have HX := hide hX
      clear hX hY hc
      go_wp2_with (refine HCK.out.mono ?_; rintro e w1 ⟨rfl, hw1, h01⟩; have HB1 := hide (HB.out.trans ⟨h01.os, h01.tape, h01.output, h01.size, fun i _ => by rw [hw1]⟩); have HR1 := hide (rowIs_heap HR.out hw1); have hr := HR1.out.cell hlt; have hf := HR1.out.frozen k; clear hw1 h01)
      go_roundw
      case rel =>
        refine ⟨k + 1, by omega, by go_num, (HR1.out.set k (.int .i64 X)).congr (fun j _ => ?_), HB1.out.setCell (p := ⟨w.heap.size, k, none⟩) (Nat.le_refl _) _⟩
        rw [HX.out]; exact onWay_succ _ _ k j
      case measure => simp [intOf]; omega
    · obtain rfl : k = len := by omega
      go_wp2
      go_ret
      exact ⟨⟨_, rfl, HR.out, Nat.le_refl _⟩, HB.out⟩

set_option maxHeartbeats 1000000 in
theorem these1_any (m B : Nat) (a : Option Addr) (len cap : Nat) (xs : List Int) (w : World) (h1 : Boxed w B 22 (.slice a len cap)) (hx : Ints w a len xs) (hm : m < len) :
    Calls Tryz.prog 107 #[.int .i64 (m : Int), .pointer (some ⟨B, 0, none⟩)] w fun e w' => e = .returned (.int .i64 (xs[m]?.getD 0)) ∧ w'.heap = w.heap ∧ Below 0 w w' := by
  have hm1 := hx.2.1
  obtain ⟨b, off, rfl, hb, hc⟩ := hx.at (by omega)
  have cx := hc m (by omega)
  obtain ⟨X, hX⟩ : ∃ X, X = xs[m]?.getD 0 := ⟨_, rfl⟩
  rw [← hX] at cx ⊢
  have c2 := h1.cell
  have i1 : (0 : Int) ≤ (m : Int) := Int.natCast_nonneg _
  have i2 : (m : Int) < (len : Int) := by omega
  clear hx hc hX h1
  go_enter Tryz.func107, Tryz.ntmps107
  go_wp2
  go_ret
  exact ⟨rfl, rfl, Below.refl _ _⟩

set_option maxRecDepth 100000 in
set_option maxHeartbeats 1000000 in
theorem these_any (a : Option Addr) (len cap : Nat) (xs : List Int) (a' : Option Addr) (len' cap' : Nat) (ys : List Int) (w : World) (h : Ints w a len xs) (h' : Ints w a' len' ys) (hin : ∀ y ∈ ys, 0 ≤ y ∧ y < len) (h6 : len' ≤ 6) :
    Calls Tryz.prog 77 #[.slice a len cap, .slice a' len' cap'] w fun e w' => GivesL w e w' (taken xs ys) ∧ Below w.heap.size w w' := by
  have HBX := Boxed.new w 22 (.slice a len cap)
  have HBA := (Below.refl w.heap.size w).alloc (Nat.le_refl _) (.cells #[.slice a len cap] 22)
  have HE := hide (each_any 107 #[.pointer (some ⟨w.heap.size, 0, none⟩)] a' len' cap' ys (taken xs ys) _ (h'.below HBA) (by omega) (enters Tryz.func107 (by kernel_rfl) (by kernel_rfl)) (fun i W hi hW => by
    have hil : i < ys.length := by rw [h'.1]; exact hi
    have hy := hin _ (mem_getD ys i hil)
    obtain ⟨m, hm'⟩ : ∃ m : Nat, ys[i]?.getD 0 = (m : Int) := ⟨(ys[i]?.getD 0).toNat, by omega⟩
    rw [taken_getD xs ys i m hil hm', hm']
    exact these1_any m w.heap.size a len cap xs W ((hW.block _ HBX.lt).trans HBX) ((h.below HBA).below hW) (by omega)))
  have hbd := taken_bd (ps := ys) h.2.2.1
  have hl := h'.1
  have hm := h'.2.1
  have HB0 := hide HBA
  clear h h' hin HBX HBA
  go_enter Tryz.func77, Tryz.ntmps77
  go_wp2_with (go_at_call 106; refine HE.out.mono ?_; rintro e w1 ⟨⟨g, rfl, hr, hg⟩, hb⟩; have HR := hide hr; have HG := hide hg; have HB := hide (Below.on HB0.out hb); clear hr hg hb)
  go_ret
  have hg := HG.out
  have hs := HB0.out.size
  have hi1 : Ints w1 (some ⟨g, 0, none⟩) len' (taken xs ys) := ints_of_rowI (onWay_all HR.out) (by rw [taken_length, hl]) (by omega) hbd
  exact ⟨⟨_, rfl, _, _, _, rfl, ⟨hi1, Nat.le_refl _, fun e => by cases e⟩, far_some (by omega)⟩, HB.out⟩
end Go.Proofs.YteoobeldmicjhaaGreat.V
namespace Go.Proofs.YteoobeldmicjhaaGreat.V
set_option maxRecDepth 20000
open Go.RowKit

set_option maxRecDepth 100000 in
set_option maxHeartbeats 1000000 in
theorem chosen_any (a : Option Addr) (len cap : Nat) (xs : List Int) (a' : Option Addr) (len' cap' : Nat) (ys : List Int) (w : World) (h : Ints w a len xs) (h' : Ints w a' len' ys) (hin : ∀ y ∈ ys, 0 ≤ y ∧ y < len) (h6 : len' ≤ 6) :
    Calls Tryz.prog 31 #[.slice a len cap, .slice a' len' cap'] w fun e w' => GivesL w e w' (taken xs ys) ∧ Below w.heap.size w w' := by
  have hm := h.2.1
  have H := hide h
  have H' := hide h'
  have HIN := hide hin
  clear h h' hin
  go_enter Tryz.func31, Tryz.ntmps31
  go_wp2
  go_loopw [5, 10] (fun v i wr => ∃ k : Nat, k ≤ len' ∧ i = .int .i64 k ∧ wr.ownsRow w.heap.size 3 1 v k (((taken xs ys).take k).map (Value.int .i64)) ∧ Below w.heap.size w wr) (fun _ i _ => len' - (intOf i).toNat)
  case atStart => exact ⟨0, Nat.zero_le _, rfl, World.ownsRow_nil _ _ _ _, Below.refl _ _⟩
  case round =>
    obtain ⟨k, hk, rfl, hown, hB⟩ := hrel
    have HO := hide hown
    have HB := hide hB
    clear hown hB
    by_cases hlt : k < len'
    · obtain ⟨b', off', rfl, hb', hc'⟩ := H'.out.at (by omega)
      have HKL : Hid (k < ys.length) := by rw [Hid, H'.out.1]; exact hlt
      have hy := HIN.out _ (mem_getD ys k HKL.out)
      obtain ⟨m, hm'⟩ : ∃ m : Nat, ys[k]?.getD 0 = (m : Int) := ⟨(ys[k]?.getD 0).toNat, by omega⟩
      have HM := hide hm'
      have hml : m < len := by omega
      obtain ⟨b, off, rfl, hb, hc⟩ := H.out.at (by omega)
      have hcy : wr.cell? ⟨b', off' + k, none⟩ = some (.int .i64 (m : Int)) := by rw [← hm']; exact (HB.out.cell (p := ⟨b', off' + k, none⟩) hb').trans (hc' k hlt)
      have hcx : wr.cell? ⟨b, off + m, none⟩ = some (.int .i64 (xs[m]?.getD 0)) := (HB.out.cell (p := ⟨b, off + m, none⟩) hb).trans (hc m hml)
      have hxb := H.out.bd m hml
      obtain ⟨X, hX⟩ : ∃ X, X = xs[m]?.getD 0 := ⟨_, rfl⟩
      rw [← hX] at hcx hxb
      have HX := hide hX
      have i1 : (0 : Int) ≤ (m : Int) := Int.natCast_nonneg _
      have i2 : (m : Int) < (len : Int) := by omega
      clear hc hc' hy hm' hX
      go_wp2_with (at_builtin; refine append_list (by rfl) (.tmp 14) (.tmp 19) (by rfl) w.heap.size _ _ _ (by rfl) (HO.out.alloc _) _ _ _ [X] (by rfl) (lst_one wr X hxb 3) (by omega) (by have := HB.out.size; simp; omega) ?_; intro v1 w1 hown1 hg1; have HO1 := hide hown1; have HB1 := hide (grown_own (HB.out.alloc HB.out.size _) (HO.out.alloc _) hg1); clear hown1 hg1)
      go_roundw
      case rel =>
        have ho := HO1.out
        refine ⟨k + 1, by omega, by go_num, ?_, HB1.out⟩
        rw [taken_take_succ xs ys k m HKL.out HM.out, ← HX.out]
        exact ho
      case measure => simp [intOf]; omega
    · obtain rfl : k = len' := by omega
      go_wp2
      go_ret
      have ho := HO.out
      rw [List.take_of_length_le (by rw [taken_length, H'.out.1]; exact Nat.le_refl _)] at ho
      exact ⟨⟨_, rfl, newAt_own ho (by rw [taken_length, H'.out.1]) (by omega) (taken_bd H.out.2.2.1)⟩, HB.out⟩

set_option maxHeartbeats 1000000 in
theorem count_any (a : Option Addr) (len cap : Nat) (xs : List Int) (w : World) (h : Ints w a len xs) (hp : ∀ k, k ≤ xs.length → 0 ≤ prod (xs.take k) ∧ prod (xs.take k) ≤ 9223372036854775807) :
    Calls Tryz.prog 23 #[.slice a len cap] w fun e w' => e = .returned (.int .i64 (prod xs)) ∧ w' = w := by
  have HL := hide h.1
  have hm := h.2.1
  have H := hide h
  have HP := hide hp
  clear h hp
  go_enter Tryz.func23, Tryz.ntmps23
  go_wp2
  go_loop [3, 8] (fun s i => ∃ k : Nat, k ≤ len ∧ i = .int .i64 k ∧ s = .int .i64 (prod (xs.take k))) (fun _ i => len - (intOf i).toNat)
  case atStart => exact ⟨0, Nat.zero_le _, rfl, by simp [prod]⟩
  case round =>
    obtain ⟨k, hk, rfl, rfl⟩ := hrel
    by_cases hlt : k < len
    · obtain ⟨b, off, rfl, hb, hc⟩ := H.out.at (by omega)
      have hck := hc k hlt
      have hkl : k < xs.length := by rw [HL.out]; exact hlt
      have HP1 : Hid (prod (xs.take (k + 1)) = prod (xs.take k) * xs[k]?.getD 0) := prod_take_succ xs k hkl
      have h1 := HP.out (k + 1) (by omega)
      rw [HP1.out] at h1
      clear hc hkl
      go_wp2
      go_round
      case rel => exact ⟨k + 1, by omega, by go_num, by rw [HP1.out]⟩
      case measure => simp [intOf]; omega
    · go_wp2
      go_ret
      rw [take_all HL.out hlt]
      exact ⟨rfl, rfl⟩

set_option maxHeartbeats 1000000 in
theorem afresh_any (a : Option Addr) (len cap : Nat) (xs : List Int) (w : World) (h : Ints w a len xs) (h48 : 8 * len ≤ 281474976710656) :
    Calls Tryz.prog 60 #[.slice a len cap] w fun e w' => (∃ g : Nat, e = .returned (.slice (some ⟨g, 0, none⟩) len len) ∧ RowI w' g len xs ∧ w.heap.size ≤ g) ∧ Below w.heap.size w w' := by
  have H := hide h
  have HL := hide h.1
  have hm := h.2.1
  have hmk := run_make_row' (P := Tryz.prog) 22 3 (.int .i64 0) 8 Tryz.underlying22 info_int rfl .i64 .i64 len (by omega) (by omega)
  clear h
  obtain ⟨cs, hcs⟩ : ∃ cs : List Value, cs = xs.map (Value.int .i64) := ⟨_, rfl⟩
  have HCS := hide hcs
  have hlen : cs.length = len := by rw [hcs]; simp [HL.out]
  have HLEN := hide hlen
  clear hcs hlen
  go_enter Tryz.func60, Tryz.ntmps60
  go_wp2_with (refine wpList_copy_splice rfl (.tmp 7) (.tmp 8) 22 22 rfl 3 Tryz.underlying22 size_int (some ⟨w.heap.size, 0, none⟩) a len len len cap rfl rfl w.heap.size 0 (List.replicate len (.int .i64 0)) 3 ?hg cs ?hn ?hpos ?hfit ?h1 w.heap.size w ?hb (Nat.le_refl _) ?_)
  case hg =>
    have := World.alloc_heap_new w (.cells (madeCells #[.int .i64 0] len) 3)
    rw [this]
    rw [← toList_madeCells_one]
  case hn => rw [HLEN.out]; simp
  case hpos =>
    intro h0
    rw [HLEN.out] at h0
    obtain ⟨b, off, rfl, hb, hc⟩ := H.out.at h0
    refine ⟨_, rfl, fun j v hj => ?_⟩
    have hjl : j < len := by rw [← HLEN.out]; exact (List.getElem?_eq_some_iff.1 hj).1
    have h2 := hc j hjl
    have h3 : v = .int .i64 (xs[j]?.getD 0) := by
      rw [HCS.out] at hj
      simp [HL.out, hjl] at hj ⊢
      exact hj.symm
    rw [h3]
    have hb' : Below w.heap.size w (w.alloc (.cells (madeCells #[.int .i64 0] len) 3)) := (Below.refl _ _).alloc (Nat.le_refl _) _
    rw [Go.WideShapes.add_plain]
    exact (hb'.cell (p := ⟨b, off + j, none⟩) hb).trans h2
  case hfit => simp [HLEN.out]
  case h1 => intro v hv; rw [HCS.out] at hv; simp at hv; obtain ⟨x, _, rfl⟩ := hv; rfl
  case hb => exact (Below.refl _ _).alloc (Nat.le_refl _) _
  intro w' hrow hbel
  have HB := hide hbel
  clear hbel hmk
  go_wp2
  go_ret
  refine ⟨⟨_, rfl, ?_, Nat.le_refl _⟩, HB.out⟩
  refine ⟨_, hrow.out, by simp [splice, HLEN.out], fun i hi => ?_⟩
  have hs : splice (List.replicate len (Value.int .i64 0)) 0 cs = cs := by simp [splice, HLEN.out]
  rw [hs, HCS.out]
  simp [HL.out, hi]

theorem newAt_row {w w' : World} {g len : Nat} {xs : List Int} (h : RowI w' g len xs) (hg : w.heap.size ≤ g) (hl : xs.length = len) (hm : len ≤ 9223372036854775807) (hb : ∀ x ∈ xs, -9223372036854775808 ≤ x ∧ x ≤ 9223372036854775807) : NewAt w w' (.slice (some ⟨g, 0, none⟩) len len) xs :=
  ⟨_, _, _, rfl, ⟨ints_of_rowI h hl hm hb, Nat.le_refl _, fun e => by cases e⟩, far_some hg⟩
end Go.Proofs.YteoobeldmicjhaaGreat.V
