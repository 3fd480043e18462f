/-
  Lists of lists; contracts: array.others, chain.
-/
import Derived.Test.YtoagnhppjlcpkaaGreatRGArrEach
import Derived.Test.YtoagnhppjlcpkaaGreatRHArrWrong
import Derived.Test.YtoagnhppjlcpkaaGreatRHArrTakes
namespace Go.Proofs.YtoagnhppjlcpkaaGreat.V
set_option maxRecDepth 20000
open Go.RowKit

/-- A list of lists as a value. -/
def Lsts (w : World) (A : Option Addr) (n : Nat) (xss : List (List Int)) : Prop :=
  xss.length = n ∧ n ≤ 9223372036854775807 ∧ (n = 0 ∨ ∃ b off, A = some ⟨b, off, none⟩ ∧ ∀ j, j < n → ∃ X m c, w.cell? ⟨b, off + j, none⟩ = some (.slice X m c) ∧ Lst w X m c (xss[j]?.getD []))
theorem Lsts.below {w w' : World} {A : Option Addr} {n : Nat} {xss : List (List Int)} (h : Lsts w A n xss) (hb : Below w.heap.size w w') : Lsts w' A n xss := by
  obtain ⟨h1, h2, h3⟩ := h
  refine ⟨h1, h2, ?_⟩
  rcases h3 with h3 | ⟨b, off, e, h3⟩
  · exact .inl h3
  · refine .inr ⟨b, off, e, fun j hj => ?_⟩
    obtain ⟨X, m, c, hc, hl⟩ := h3 j hj
    exact ⟨X, m, c, (hb.cell (p := ⟨b, off + j, none⟩) (lt_of_cell hc)).trans hc, hl.below hb⟩
theorem Lsts.at {w : World} {A : Option Addr} {n : Nat} {xss : List (List Int)} (h : Lsts w A n xss) (h0 : 0 < n) : ∃ b off, A = some ⟨b, off, none⟩ ∧ ∀ j, j < n → ∃ X m c, w.cell? ⟨b, off + j, none⟩ = some (.slice X m c) ∧ Lst w X m c (xss[j]?.getD []) := by
  rcases h.2.2 with e | h3
  · omega
  · exact h3

theorem once_append {xs ys : List Int} {n : Nat} (h : Once (xs ++ ys) n) : Once xs n := by
  intro i hi
  have h1 := h i (by simp; omega)
  rw [List.getElem?_append_left hi] at h1
  refine ⟨h1.1, h1.2.1, fun j hj => ?_⟩
  have := h1.2.2 j hj
  rwa [List.getElem?_append_left (by omega)] at this
theorem once_snoc {xs : List Int} {y : Int} {n : Nat} : Once (xs ++ [y]) n ↔ Once xs n ∧ 0 ≤ y ∧ y < n ∧ xs.any (fun x => x == y) = false := by
  constructor
  · intro h
    have h1 := h xs.length (by simp)
    have e : (xs ++ [y])[xs.length]?.getD 0 = y := by simp
    rw [e] at h1
    refine ⟨once_append h, h1.1, h1.2.1, ?_⟩
    rw [List.any_eq_false]
    intro x hx
    obtain ⟨j, hj, rfl⟩ := List.getElem_of_mem hx
    have h2 := h1.2.2 j hj
    rw [List.getElem?_append_left hj] at h2
    simpa [hj] using h2
  · rintro ⟨h, h0, h1, h2⟩ i hi
    have hi' : i < xs.length + 1 := by simpa using hi
    by_cases e : i < xs.length
    · rw [List.getElem?_append_left e]
      refine ⟨(h i e).1, (h i e).2.1, fun j hj => ?_⟩
      rw [List.getElem?_append_left (by omega)]
      exact (h i e).2.2 j hj
    · obtain rfl : i = xs.length := by omega
      have e1 : (xs ++ [y])[xs.length]?.getD 0 = y := by simp
      rw [e1]
      refine ⟨h0, h1, fun j hj => ?_⟩
      rw [List.getElem?_append_left hj]
      rw [List.any_eq_false] at h2
      have := h2 _ (mem_getD xs j hj)
      simpa using this

/-- What has been named so far. -/
def named (P : List Int) (j : Nat) : Value := .bool (inB P j)
theorem named_snoc (P : List Int) (m j : Nat) : (if j = m then .bool true else named P j) = named (P ++ [(m : Int)]) j := by
  unfold named inB
  rw [List.any_append]
  by_cases e : j = m
  · subst e; simp
  · have : ((m : Int) == (j : Int)) = false := by simp; omega
    simp [e, this]
theorem flatten_take_succ (xss : List (List Int)) (i : Nat) (h : i < xss.length) : (xss.take (i + 1)).flatten = (xss.take i).flatten ++ xss[i]?.getD [] := by
  rw [List.take_add_one, List.flatten_append]
  simp [h]
theorem flatten_split (xss : List (List Int)) (i k : Nat) (h : i < xss.length) : ∃ r, xss.flatten = ((xss.take i).flatten ++ (xss[i]?.getD []).take k) ++ r := by
  refine ⟨(xss[i]?.getD []).drop k ++ (xss.drop (i + 1)).flatten, ?_⟩
  rw [List.append_assoc, ← List.append_assoc ((xss[i]?.getD []).take k), List.take_append_drop, ← List.append_assoc, ← flatten_take_succ xss i h, ← List.flatten_append, List.take_append_drop]

/-- What others answers. -/
def OthersPost (w : World) (e : Ending) (w' : World) (xs : List Int) (n : Nat) : Prop :=
  (Once xs n ∧ ∃ v, e = .returned (.tuple #[v, .bool true]) ∧ NewAt w w' v (freeL xs n)) ∨ (¬ Once xs n ∧ e = .returned (.tuple #[.slice none 0 0, .bool false]))

theorem newAt_own' {w w' : World} {B : Nat} {v : Value} {n : Nat} {xs : List Int} (h : w'.ownsRow B 3 1 v n (xs.map (Value.int .i64))) (hB : w.heap.size ≤ B) (hl : xs.length = n) (hm : n ≤ 9223372036854775807) (hb : ∀ x ∈ xs, -9223372036854775808 ≤ x ∧ x ≤ 9223372036854775807) : NewAt w w' v xs := by
  rcases h.2 with ⟨rfl, h2⟩ | ⟨g, cap, cur, rfl, h3, _, h4, _⟩
  · have : xs = [] := by rw [← List.length_eq_zero_iff]; omega
    rw [this]; exact newAt_nil w w'
  · exact ⟨_, _, _, rfl, ⟨ints_of_own h hl hm hb, h4, fun e => by cases e⟩, fun b o e => by cases e; exact Nat.le_trans hB h3⟩

set_option maxRecDepth 100000 in
set_option maxHeartbeats 4000000 in
theorem others_any (n : Nat) (A : Option Addr) (len cap : Nat) (xss : List (List Int)) (w : World) (h : Lsts w A len xss) (h6 : n ≤ 6) :
    Calls Tryz.prog 64 #[.int .i64 n, .slice A len cap] w fun e w' => OthersPost w e w' xss.flatten n ∧ Below w.heap.size w w' := by
  have hm := h.2.1
  have H := hide h
  clear h
  go_enter Tryz.func64, Tryz.ntmps64
  go_wp2
  go_loopw [15] (fun i wr => ∃ k : Nat, k ≤ len ∧ i = .int .i64 k ∧ wr.rowIs w.heap.size 110 6 (named (xss.take k).flatten) ∧ Once (xss.take k).flatten n ∧ Below w.heap.size w wr) (fun i _ => len - (intOf i).toNat)
  case atStart =>
    refine ⟨0, Nat.zero_le _, rfl, ?_, fun i hi => by simp at hi, (Below.refl _ _).alloc (Nat.le_refl _) _⟩
    refine World.rowIs_alloc w #[.bool false, .bool false, .bool false, .bool false, .bool false, .bool false] 110 (named []) (fun i hi => ?_)
    have : i = 0 ∨ i = 1 ∨ i = 2 ∨ i = 3 ∨ i = 4 ∨ i = 5 := by simp at hi; omega
    rcases this with e | e | e | e | e | e <;> subst e <;> simp [named, inB]
  case round =>
    obtain ⟨i, hi, rfl, hrow, honce, hB⟩ := hrel
    have HR := hide hrow
    have HO := hide honce
    have HB := hide hB
    clear hrow honce hB
    by_cases hlt : i < len
    · obtain ⟨b, off, rfl, hc⟩ := H.out.at (by omega)
      obtain ⟨X, m, c, hci0, hli⟩ := hc i hlt
      have hci : wr.cell? ⟨b, off + i, none⟩ = some (.slice X m c) := (HB.out.cell (p := ⟨b, off + i, none⟩) (lt_of_cell hci0)).trans hci0
      have HIL : Hid (i < xss.length) := by rw [Hid, H.out.1]; exact hlt
      obtain ⟨ys, hys⟩ : ∃ ys, ys = xss[i]?.getD [] := ⟨_, rfl⟩
      rw [← hys] at hli
      have HYS := hide hys
      have HLI := hide hli
      have hmm := hli.1.2.1
      have i1 : (0 : Int) ≤ (i : Int) := Int.natCast_nonneg _
      have i2 : (i : Int) < (len : Int) := by omega
      clear hc hli hys hci0
      go_wp2
      go_loopw [21] (fun q wq => ∃ k : Nat, k ≤ m ∧ q = .int .i64 k ∧ wq.rowIs w.heap.size 110 6 (named ((xss.take i).flatten ++ ys.take k)) ∧ Once ((xss.take i).flatten ++ ys.take k) n ∧ Below w.heap.size w wq) (fun q _ => m - (intOf q).toNat)
      case atStart => exact ⟨0, Nat.zero_le _, rfl, by simpa using HR.out, by simpa using HO.out, HB.out⟩
      case round =>
        clear HR HO HB hci
        obtain ⟨k, hk, rfl, hrow, honce, hB⟩ := hrel
        have HR := hide hrow
        have HO := hide honce
        have HB := hide hB
        clear hrow honce hB
        obtain ⟨P, hP⟩ : ∃ P, P = (xss.take i).flatten ++ ys.take k := ⟨_, rfl⟩
        have HP := hide hP
        rw [← hP] at HR HO
        clear hP
        by_cases hlk : k < m
        · obtain ⟨b1, off1, rfl, hb1, hc1⟩ := HLI.out.1.at (by omega)
          have hck := (HB.out.cell (p := ⟨b1, off1 + k, none⟩) hb1).trans (hc1 k hlk)
          have HKL : Hid (k < ys.length) := by rw [Hid, HLI.out.1.1]; exact hlk
          have HP1 : Hid ((xss.take i).flatten ++ ys.take (k + 1) = P ++ [ys[k]?.getD 0]) := by rw [Hid, take_succ_getD ys k HKL.out, ← List.append_assoc, ← HP.out]
          have HNO : Hid (¬ Once (P ++ [ys[k]?.getD 0]) n → ¬ Once xss.flatten n) := fun hn ho => by
            obtain ⟨r, hr⟩ := flatten_split xss i (k + 1) HIL.out
            rw [← HYS.out, HP1.out] at hr
            rw [hr] at ho
            exact hn (once_append ho)
          clear hc1
          by_cases q1 : ys[k]?.getD 0 < 0
          · go_wp2
            go_ret2
            exact ⟨.inr ⟨HNO.out (fun ho => by have := once_snoc.1 ho; omega), rfl⟩, HB.out⟩
          by_cases q2 : (n : Int) ≤ ys[k]?.getD 0
          · go_wp2
            go_ret2
            exact ⟨.inr ⟨HNO.out (fun ho => by have := once_snoc.1 ho; omega), rfl⟩, HB.out⟩
          obtain ⟨y, hy⟩ : ∃ y : Nat, ys[k]?.getD 0 = (y : Int) := ⟨(ys[k]?.getD 0).toNat, by omega⟩
          rw [hy] at hck q1 q2 HP1 HNO
          have hy6 : y < 6 := by omega
          have hcy := HR.out.cell hy6
          have hfy := HR.out.frozen y
          clear hy
          cases q3 : inB P y with
          | true =>
            have hcy' : wr.cell? ⟨w.heap.size, y, none⟩ = some (.bool true) := by rw [hcy]; simp [named, q3]
            have Q3 := hide q3
            clear hcy q3
            go_wp2
            go_ret2
            exact ⟨.inr ⟨HNO.out (fun ho => by have h1 := (once_snoc.1 ho).2.2.2; have h2 := Q3.out; unfold inB at h2; rw [h1] at h2; cases h2), rfl⟩, HB.out⟩
          | false =>
            have hcy' : wr.cell? ⟨w.heap.size, y, none⟩ = some (.bool false) := by rw [hcy]; simp [named, q3]
            have Q3 := hide q3
            clear hcy q3
            go_wp2
            go_roundw
            case rel =>
              refine ⟨k + 1, by omega, by go_num, ?_, ?_, HB.out.setCell (p := ⟨w.heap.size, y, none⟩) (Nat.le_refl _) _⟩
              · rw [HP1.out]
                exact (HR.out.set y _).congr (fun j _ => named_snoc P y j)
              · rw [HP1.out]
                exact once_snoc.2 ⟨HO.out, by omega, by omega, Q3.out⟩
            case measure => simp [intOf]; omega
        · obtain rfl : k = m := by omega
          have HE : Hid ((xss.take (i + 1)).flatten = P) := by
            have ht : ys.take k = ys := List.take_of_length_le (by rw [HLI.out.1.1]; exact Nat.le_refl _)
            rw [Hid, flatten_take_succ xss i HIL.out, ← HYS.out, HP.out, ht]
          go_wp2
          go_roundw
          case rel => exact ⟨i + 1, by omega, by go_num, by rw [HE.out]; exact HR.out, by rw [HE.out]; exact HO.out, HB.out⟩
          case measure => simp [intOf]; omega
    · obtain rfl : i = len := by omega
      obtain ⟨P, hP⟩ : ∃ P, P = xss.flatten := ⟨_, rfl⟩
      have hP' : (xss.take i).flatten = P := by rw [hP, List.take_of_length_le (by rw [H.out.1]; exact Nat.le_refl _)]
      rw [hP'] at HR HO
      have HPP := hide hP
      clear hP hP'
      have hsz : w.heap.size + 1 ≤ wr.heap.size := HR.out.lt
      go_wp2
      go_loopw [11, 42] (fun v q wq => ∃ k : Nat, k ≤ n ∧ q = .int .i64 k ∧ wq.rowIs w.heap.size 110 6 (named P) ∧ wq.ownsRow (w.heap.size + 1) 3 1 v (freeL P k).length ((freeL P k).map (Value.int .i64)) ∧ Below w.heap.size w wq) (fun _ q _ => n - (intOf q).toNat)
      case atStart => exact ⟨0, Nat.zero_le _, rfl, HR.out, World.ownsRow_nil _ _ _ _, HB.out⟩
      case round =>
        clear HR HB hsz
        obtain ⟨k, hk, rfl, hrow, hown, hB⟩ := hrel
        have HR := hide hrow
        have HW := hide hown
        have HB := hide hB
        have hsz : w.heap.size + 1 ≤ wr.heap.size := hrow.lt
        clear hrow hown hB
        have hfl := freeL_len P k
        by_cases hlk : k < n
        · have hk6 : k < 6 := by omega
          have hck := HR.out.cell hk6
          cases q3 : inB P k with
          | true =>
            have hcy' : wr.cell? ⟨w.heap.size, k, none⟩ = some (.bool true) := by rw [hck]; simp [named, q3]
            have HE : Hid (freeL P (k + 1) = freeL P k) := by rw [Hid, freeL, if_pos q3]; simp
            clear hck q3
            go_wp2
            go_roundw
            case rel => exact ⟨k + 1, by omega, by go_num, HR.out, by rw [HE.out]; exact HW.out, HB.out⟩
            case measure => simp [intOf]; omega
          | false =>
            have hcy' : wr.cell? ⟨w.heap.size, k, none⟩ = some (.bool false) := by rw [hck]; simp [named, q3]
            have HE : Hid (freeL P (k + 1) = freeL P k ++ [(k : Int)]) := by rw [Hid, freeL, if_neg (by simp [q3])]
            clear hck q3
            go_wp2_with (at_builtin; refine append_list (by rfl) (.tmp 49) (.tmp 51) (by rfl) (w.heap.size + 1) _ _ _ (by rfl) (HW.out.alloc _) _ _ _ [(k : Int)] (by rfl) (lst_one wr k (by omega) 3) (by omega) (by simp; omega) ?_; intro v1 w1 hown1 hg1; have HW1 := hide hown1; have HG1 := hide hg1; clear hown1 hg1)
            go_roundw
            case rel =>
              have ho := HW1.out
              refine ⟨k + 1, by omega, by go_num, ?_, ?_, ?_⟩
              · refine (HR.out.alloc _).of_block (HG1.out.block _ (by simp; omega) (fun e => ?_))
                have := (HW.out.lt _ e.symm).1
                omega
              · rw [HE.out, List.map_append, List.length_append]
                exact ho
              · exact (HB.out.alloc HB.out.size _).grown HG1.out (by have := HB.out.size; simp; omega) (fun j e => by have := (HW.out.lt j e).1; omega)
            case measure => simp [intOf]; omega
        · obtain rfl : k = n := by omega
          go_wp2
          go_ret2
          rw [← HPP.out]
          exact ⟨.inl ⟨HO.out, _, rfl, newAt_own' HW.out (by omega) rfl (by omega) (fun x hx => by have := freeL_bd P k x hx; omega)⟩, HB.out⟩
end Go.Proofs.YtoagnhppjlcpkaaGreat.V

/-
  Contracts: array.chain, sameDims, takeDims, putDims, reformDims.
-/
namespace Go.Proofs.YtoagnhppjlcpkaaGreat.V
set_option maxRecDepth 20000
open Go.RowKit

/-- It answers a list and what is wrong. -/
def OutP (e : Ending) (w' : World) (p : List Int × Int) : Prop := ∃ X n c, e = .returned (.tuple #[.slice X n c, .int .i64 p.2]) ∧ Ints w' X n p.1 ∧ n ≤ c
theorem outP_none (w' : World) (E : Int) : OutP (.returned (.tuple #[.slice none 0 0, .int .i64 E])) w' ([], E) := ⟨none, 0, 0, rfl, ⟨rfl, by omega, by simp, .inl rfl⟩, Nat.le_refl _⟩
theorem outP_new {w w' : World} {v : Value} {xs : List Int} (h : NewAt w w' v xs) (E : Int) : OutP (.returned (.tuple #[v, .int .i64 E])) w' (xs, E) := by
  obtain ⟨X, n, c, rfl, hl, _⟩ := h
  exact ⟨X, n, c, rfl, hl.1, hl.2.1⟩
theorem outP_lst {w : World} {X : Option Addr} {n c : Nat} {xs : List Int} (h : Lst w X n c xs) (E : Int) : OutP (.returned (.tuple #[.slice X n c, .int .i64 E])) w (xs, E) := ⟨X, n, c, rfl, h.1, h.2.1⟩
def sameB (xss : List (List Int)) : Bool := xss.all fun d => decide (d = xss[0]?.getD [])
def sameP (xss : List (List Int)) : List Int × Int := if sameB xss = true then (xss[0]?.getD [], 0) else ([], 6)
end Go.Proofs.YtoagnhppjlcpkaaGreat.V
