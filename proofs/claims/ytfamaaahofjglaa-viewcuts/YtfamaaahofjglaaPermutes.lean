/-
  Contract: view.permutes.
-/
import Derived.Test.YtfamaaahofjglaaPerm
import Derived.Deep.OwnRows
namespace Go.Proofs.Ytfamaaahofjglaa.V
open Go.RowKit

/-- It answers whether. -/
def Tells (e : Ending) (p : Prop) : Prop := ∃ r : Bool, e = .returned (.bool r) ∧ (r = true ↔ p)
/-- What has been seen among the first k. -/
def seen (xs : List Int) (k : Nat) (j : Nat) : Value := .bool ((xs.take k).any fun x => x == (j : Int))
theorem seen_succ (xs : List Int) (k j : Nat) (m : Nat) (h : k < xs.length) (hm : xs[k]?.getD 0 = (m : Int)) : (if j = m then .bool true else seen xs k j) = seen xs (k + 1) j := by
  unfold seen
  rw [take_succ_getD xs k h, List.any_append, hm]
  by_cases e : j = m
  · subst e; simp
  · have : ((m : Int) == (j : Int)) = false := by simp; omega
    simp [e, this]

set_option maxRecDepth 100000 in
set_option maxHeartbeats 2000000 in
theorem permutes_any (a : Option Addr) (len cap : Nat) (xs : List Int) (n : Nat) (w : World) (h : Ints w a len xs) (h6 : n ≤ 6) :
    Calls Try.prog 38 #[.slice a len cap, .int .i64 n] w fun e w' => Tells e (PermOk xs n) ∧ Below w.heap.size w w' := by
  have hl := h.1
  have hm := h.2.1
  have H := hide h
  clear h
  by_cases hn : len ≠ n
  · have hn1 : ((len : Int) != (n : Int)) = true := by simp; omega
    have P : Hid (¬ PermOk xs n) := fun hp => hn (by rw [← hl]; exact hp.1)
    clear hn hl
    go_enter Try.func38, Try.ntmps38
    go_wp2
    go_ret
    exact ⟨⟨false, rfl, by simp; exact P.out⟩, Below.refl _ _⟩
  obtain rfl : len = n := by omega
  have HL := hide hl
  clear hl hn
  go_enter Try.func38, Try.ntmps38
  go_wp2
  go_loopw [14] (fun i wr => ∃ k : Nat, k ≤ len ∧ i = .int .i64 k ∧ wr.rowIs w.heap.size 64 6 (seen xs k) ∧ Below w.heap.size w wr ∧ goodPre xs len k) (fun i _ => len - (intOf i).toNat)
  case atStart =>
    refine ⟨0, Nat.zero_le _, rfl, ?_, (Below.refl _ _).alloc (Nat.le_refl _) _, fun i hi => by omega⟩
    refine World.rowIs_alloc w #[.bool false, .bool false, .bool false, .bool false, .bool false, .bool false] 64 (seen xs 0) (fun i hi => ?_)
    have : i = 0 ∨ i = 1 ∨ i = 2 ∨ i = 3 ∨ i = 4 ∨ i = 5 := by simp at hi; omega
    rcases this with e | e | e | e | e | e <;> subst e <;> simp [seen]
  case round =>
    obtain ⟨k, hk, rfl, hrow, hB, hgood⟩ := hrel
    have HR := hide hrow
    have HB := hide hB
    have HG := hide hgood
    clear hrow hB hgood
    by_cases hlt : k < len
    · obtain ⟨b, off, rfl, hb, hc⟩ := H.out.at (by omega)
      have hck : wr.cell? ⟨b, off + k, none⟩ = some (.int .i64 (xs[k]?.getD 0)) := (HB.out.cell (p := ⟨b, off + k, none⟩) hb).trans (hc k hlt)
      have HKL : Hid (k < xs.length) := by rw [Hid, HL.out]; exact hlt
      clear hc
      by_cases q1 : xs[k]?.getD 0 < 0
      · go_wp2
        go_ret
        exact ⟨⟨false, rfl, by simp; exact fun hp => by have := hp.2 k hlt; omega⟩, HB.out⟩
      by_cases q2 : (len : Int) ≤ xs[k]?.getD 0
      · go_wp2
        go_ret
        exact ⟨⟨false, rfl, by simp; exact fun hp => by have := hp.2 k hlt; omega⟩, HB.out⟩
      obtain ⟨m, hm'⟩ : ∃ m : Nat, xs[k]?.getD 0 = (m : Int) := ⟨(xs[k]?.getD 0).toNat, by omega⟩
      have HM := hide hm'
      rw [hm'] at hck q1 q2
      have hm6 : m < 6 := by omega
      have hcm := HR.out.cell hm6
      have hfm := HR.out.frozen m
      clear hm'
      cases q3 : ((xs.take k).any fun x => x == (m : Int)) with
      | true =>
        have hcm' : wr.cell? ⟨w.heap.size, m, none⟩ = some (.bool true) := by rw [hcm]; simp [seen, q3]
        have Q3 := hide q3
        clear hcm q3
        go_wp2
        go_ret
        have hno : ¬ PermOk xs len := fun hp => by
          have q := Q3.out
          rw [List.any_eq_true] at q
          obtain ⟨y, hy, hye⟩ := q
          simp at hye
          obtain ⟨j, hj, hje⟩ := List.getElem_of_mem hy
          have hj' : j < k ∧ j < xs.length := by simp at hj; omega
          have := (hp.2 k hlt).2.2 j hj'.1
          apply this
          rw [HM.out, ← hye, ← hje]
          simp [hj'.2]
        exact ⟨⟨false, rfl, by simp; exact hno⟩, HB.out⟩
      | false =>
        have hcm' : wr.cell? ⟨w.heap.size, m, none⟩ = some (.bool false) := by rw [hcm]; simp [seen, q3]
        have Q3 := hide q3
        clear hcm q3
        go_wp2
        go_roundw
        case rel =>
          refine ⟨k + 1, by omega, by go_num, (HR.out.set m _).congr (fun j _ => seen_succ xs k j m HKL.out HM.out), HB.out.setCell (p := ⟨w.heap.size, m, none⟩) (Nat.le_refl _) _, goodPre_succ HG.out (by rw [HM.out]; omega) (by rw [HM.out]; omega) (fun j hj he => ?_)⟩
          have q := Q3.out
          rw [List.any_eq_false] at q
          have hjl : j < xs.length := by have := HKL.out; omega
          apply q (xs[j]?.getD 0) _ (by rw [he, HM.out]; simp)
          rw [List.mem_iff_getElem?]
          exact ⟨j, by simp [List.getElem?_take_of_lt hj, hjl]⟩
        case measure => simp [intOf]; omega
    · go_wp2
      go_ret
      obtain rfl : k = len := by omega
      exact ⟨⟨true, rfl, by simp; exact ⟨HL.out, HG.out⟩⟩, HB.out⟩
end Go.Proofs.Ytfamaaahofjglaa.V
