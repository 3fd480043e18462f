/-
  Lists that are answered; append of a list; contracts: adjointref2.has, once, chosen, Free, both; array.count, these, fresh.
-/
import Derived.Test.YtoagnhppjlcpkaaGreatRGRTurn
import Derived.Test.YtoagnhppjlcpkaaGreatRGFlip
import Derived.Laws.AppendOwnNone
namespace Go.Proofs.YtoagnhppjlcpkaaGreat.V
set_option maxRecDepth 20000
open Go.RowKit

/-- A list as a value. -/
def Lst (w : World) (X : Option Addr) (n c : Nat) (xs : List Int) : Prop := Ints w X n xs ∧ n ≤ c ∧ (X = none → c = 0)
theorem Lst.below {w w' : World} {X : Option Addr} {n c : Nat} {xs : List Int} (h : Lst w X n c xs) (hb : Below w.heap.size w w') : Lst w' X n c xs := ⟨h.1.below hb, h.2⟩
/-- A list that is answered, in memory of the call's own. -/
def NewAt (w w' : World) (v : Value) (xs : List Int) : Prop := ∃ X n c, v = .slice X n c ∧ Lst w' X n c xs ∧ Far w.heap.size X
theorem newAt_nil (w w' : World) : NewAt w w' (.slice none 0 0) [] := ⟨none, 0, 0, rfl, ⟨⟨rfl, by omega, by simp, .inl rfl⟩, Nat.le_refl _, fun _ => rfl⟩, fun _ _ h => by cases h⟩

theorem newAt_own {w w' : World} {v : Value} {n : Nat} {xs : List Int} (h : w'.ownsRow w.heap.size 3 1 v n (xs.map (Value.int .i64))) (hl : xs.length = n) (hm : n ≤ 9223372036854775807) (hb : ∀ x ∈ xs, -9223372036854775808 ≤ x ∧ x ≤ 9223372036854775807) : NewAt w w' v xs := by
  rcases h.2 with ⟨rfl, h2⟩ | ⟨g, cap, cur, rfl, h3, _, h4, _⟩
  · have : xs = [] := by rw [← List.length_eq_zero_iff]; omega
    rw [this]; exact newAt_nil w w'
  · exact ⟨_, _, _, rfl, ⟨ints_of_own h hl hm hb, h4, fun e => by cases e⟩, fun b o e => by cases e; exact h3⟩

/-- append(out, list...), out of the call's own. -/
theorem append_list {w : World} {ops : Array Oper} {rest : List Oper} {o : Oper} {a : Act} {Q : Exit → Act → World → Prop} (hgd : o.guard = none) (s x : Operand)
    (ho : o.op = .call { callee := .builtin .append, args := #[s, x], argTypes := #[22, 22] }) (base : Nat)
    (v : Value) (n : Nat) (xs : List Value) (hs : a.eval s = v) (hown : w.ownsRow base 3 1 v n xs)
    (X : Option Addr) (m c : Nat) (ys : List Int) (hx : a.eval x = .slice X m c) (hl : Lst w X m c ys) (hbytes : (n + m) * 8 ≤ 140737488355328) (hbase : base ≤ w.heap.size)
    (h : ∀ v' w', w'.ownsRow base 3 1 v' (n + m) (xs ++ ys.map (Value.int .i64)) → w.grownBy w' v.ownBlock → wpList Tryz.prog ops Q rest (a.put o.dst v') w') : wpList Tryz.prog ops Q (o :: rest) a w := by
  obtain ⟨i0, hi, hz0, hz1, hz2⟩ := info_parts info_int
  obtain ⟨hI, hmc, hnc⟩ := hl
  cases X with
  | none =>
    have hm0 : m = 0 := by
      rcases hI.2.2.2 with e | ⟨b, off, e, _⟩
      · exact e
      · cases e
    obtain rfl := hm0
    obtain rfl := hnc rfl
    have hys : ys = [] := by rw [← List.length_eq_zero_iff]; exact hI.1
    subst hys
    refine wpList_append_own_none hgd s x 22 ho base 3 i0 1 Tryz.underlying22 hi v n xs hs hown hx ?_
    exact h v w (by simpa using hown) (World.grownBy.refl w _)
  | some ad =>
    refine wpList_append_own w hgd s x 22 ho base 3 i0 (.int .i64 0) 1 8 Tryz.underlying22 hi hz0 hz1 hz2 rfl (by decide) v n xs hs hown ad m c (ys.map (Value.int .i64)) hx (by simp [hI.1]) ?_ ?_ (by unfold maxLen; omega) hbytes hbase (fun v' w' h1 h2 _ => h v' w' h1 h2)
    · intro j u hj
      have hjl : j < m := by have := (List.getElem?_eq_some_iff.1 hj).1; simpa [hI.1] using this
      obtain ⟨b, off, e, _, hc⟩ := hI.at (by omega)
      cases e
      have h3 : u = .int .i64 (ys[j]?.getD 0) := by
        have : j < ys.length := by rw [hI.1]; exact hjl
        simp [this] at hj ⊢
        exact hj.symm
      rw [h3, Go.WideShapes.add_plain]
      exact hc j hjl
    · intro u hu; simp at hu; obtain ⟨y, _, rfl⟩ := hu; rfl

theorem grown_own {w wr w2 : World} {t : TypeId} {n : Nat} {v : Value} {xs : List Value} (hB : Below w.heap.size w wr) (ho : wr.ownsRow w.heap.size t 1 v n xs) (hg : wr.grownBy w2 v.ownBlock) : Below w.heap.size w w2 :=
  hB.grown hg hB.size (fun j e => (ho.lt j e).1)

/-- It answers a list of its own. -/
def GivesL (w : World) (e : Ending) (w' : World) (xs : List Int) : Prop := ∃ v, e = .returned v ∧ NewAt w w' v xs

theorem lst_one (w : World) (x : Int) (hb : -9223372036854775808 ≤ x ∧ x ≤ 9223372036854775807) (t : TypeId) : Lst (w.alloc (.cells #[.int .i64 x] t)) (some ⟨w.heap.size, 0, none⟩) 1 1 [x] := by
  refine ⟨⟨rfl, by omega, fun y hy => ?_, .inr ⟨_, _, rfl, fun j hj => ?_⟩⟩, Nat.le_refl _, fun e => by cases e⟩
  · have : y = x := by simpa using hy
    rw [this]; exact hb
  · have : j = 0 := by omega
    subst this
    show (w.alloc (.cells #[.int .i64 x] t)).cell? ⟨w.heap.size, 0, none⟩ = _
    unfold World.cell?
    rw [World.alloc_heap_new w (.cells #[.int .i64 x] t)]
    rfl

set_option maxHeartbeats 400000 in
theorem has2_any (a : Option Addr) (len cap : Nat) (xs : List Int) (v : Int) (w : World) (h : Ints w a len xs) :
    Calls Tryz.prog 82 #[.slice a len cap, .int .i64 v] w fun e w' => e = .returned (.bool (xs.any (fun x => x == v))) ∧ w' = w := by
  have hl := h.1
  have hm := h.2.1
  have HL : Hid (xs.length = len) := hl
  go_enter Tryz.func82, Tryz.ntmps82
  go_wp2
  go_loop [9] (fun i => ∃ k : Nat, k ≤ len ∧ i = .int .i64 k ∧ (xs.take k).any (fun x => x == v) = false) (fun i => len - (intOf i).toNat)
  case atStart => exact ⟨0, Nat.zero_le _, rfl, by simp⟩
  case round =>
    obtain ⟨k, hk, rfl, hn⟩ := hrel
    have HN : Hid ((xs.take k).any (fun x => x == v) = false) := hn
    clear hn hl
    by_cases hlt : k < len
    · obtain ⟨b, off, rfl, hb, hc⟩ := h.at (by omega)
      have hck := hc k hlt
      clear hc h
      go_wp2
      · have hx : (xs[k]?.getD 0 == v) = true := by assumption
        go_ret
        rw [any_of_getD (p := fun x => x == v) xs k (by rw [HL.out]; exact hlt) hx]
        exact ⟨rfl, rfl⟩
      · have hx : (xs[k]?.getD 0 == v) = false := by assumption
        go_round
        case rel => exact ⟨k + 1, by omega, by go_num, not_mem_take_succ xs k (by rw [HL.out]; exact hlt) HN.out hx⟩
        case measure => simp [intOf]; omega
    · go_wp2
      go_ret
      have := HN.out
      rw [take_all HL.out hlt] at this
      rw [this]
      exact ⟨rfl, rfl⟩

/-- Those below n that a list does not name. -/
def freeL (xs : List Int) : Nat → List Int
  | 0 => []
  | k + 1 => freeL xs k ++ (if inB xs k = true then [] else [(k : Int)])
theorem freeL_bd (xs : List Int) : ∀ n, ∀ x ∈ freeL xs n, 0 ≤ x ∧ x < n
  | 0, x, hx => by cases hx
  | n + 1, x, hx => by
    rw [freeL] at hx
    rcases List.mem_append.1 hx with h | h
    · have := freeL_bd xs n x h; omega
    · split at h
      · cases h
      · have : x = n := by simpa using h
        omega
theorem freeL_len (xs : List Int) : ∀ n, (freeL xs n).length ≤ n
  | 0 => Nat.le_refl _
  | n + 1 => by
    have := freeL_len xs n
    rw [freeL, List.length_append]
    split <;> simp <;> omega

set_option maxRecDepth 100000 in
set_option maxHeartbeats 1000000 in
theorem free_any (a : Option Addr) (len cap : Nat) (xs : List Int) (a' : Option Addr) (len' cap' : Nat) (ys : List Int) (w : World) (h : Ints w a len xs) (h' : Ints w a' len' ys) (h6 : len ≤ 6) :
    Calls Tryz.prog 40 #[.slice a len cap, .slice a' len' cap'] w fun e w' => GivesL w e w' (freeL ys len) ∧ Below w.heap.size w w' := by
  have H := hide h
  have H' := hide h'
  clear h h'
  go_enter Tryz.func40, Tryz.ntmps40
  go_wp2
  go_loopw [5, 9] (fun v i wr => ∃ k : Nat, k ≤ len ∧ i = .int .i64 k ∧ wr.ownsRow w.heap.size 3 1 v (freeL ys k).length ((freeL ys k).map (Value.int .i64)) ∧ Below w.heap.size w wr) (fun _ i _ => len - (intOf i).toNat)
  case atStart => exact ⟨0, Nat.zero_le _, rfl, World.ownsRow_nil _ _ _ _, Below.refl _ _⟩
  case round =>
    obtain ⟨k, hk, rfl, hown, hB⟩ := hrel
    have HO := hide hown
    have HB := hide hB
    clear hown hB
    by_cases hlt : k < len
    · have hfl := freeL_len ys k
      cases q : inB ys k with
      | true =>
        have HE : Hid (freeL ys (k + 1) = freeL ys k) := by rw [Hid, freeL, if_pos q]; simp
        have Q : Hid (ys.any (fun x => x == (k : Int)) = true) := q
        clear q
        go_wp2_with (go_at_call 82; refine (has2_any _ _ _ ys _ _ (H'.out.below HB.out)).mono ?_; rintro e w' ⟨rfl, hw'⟩; obtain rfl := hw'.symm; rw [Q.out])
        go_roundw
        case rel => exact ⟨k + 1, by omega, by go_num, by rw [HE.out]; exact HO.out, HB.out⟩
        case measure => simp [intOf]; omega
      | false =>
        have HE : Hid (freeL ys (k + 1) = freeL ys k ++ [(k : Int)]) := by rw [Hid, freeL, if_neg (by simp [q])]
        have Q : Hid (ys.any (fun x => x == (k : Int)) = false) := q
        clear q
        go_wp2_with (first
          | (go_at_call 82; refine (has2_any _ _ _ ys _ _ (H'.out.below HB.out)).mono ?_; rintro e w' ⟨rfl, hw'⟩; obtain rfl := hw'.symm; rw [Q.out])
          | (at_builtin; refine append_list (by rfl) (.tmp 16) (.tmp 18) (by rfl) w.heap.size _ _ _ (by rfl) (HO.out.alloc _) _ _ _ [(k : Int)] (by rfl) (lst_one wr k (by omega) 3) (by omega) (by have := HB.out.size; simp; omega) ?_; intro v1 w1 hown1 hg1; have HO1 := hide hown1; have HB1 := hide (grown_own (HB.out.alloc HB.out.size _) (HO.out.alloc _) hg1); clear hown1 hg1))
        go_roundw
        case rel =>
          have ho := HO1.out
          refine ⟨k + 1, by omega, by go_num, ?_, HB1.out⟩
          rw [HE.out, List.map_append, List.length_append]
          exact ho
        case measure => simp [intOf]; omega
    · obtain rfl : k = len := by omega
      have hfl := freeL_len ys k
      go_wp2
      go_ret
      exact ⟨⟨_, rfl, newAt_own HO.out rfl (by omega) (fun x hx => by have := freeL_bd ys k x hx; omega)⟩, HB.out⟩

/-- Numbers from 0 on below n, none twice. -/
def Once (xs : List Int) (n : Nat) : Prop := goodPre xs n xs.length

end Go.Proofs.YtoagnhppjlcpkaaGreat.V
