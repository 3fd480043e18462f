/-
  Lists of lists as values; contract: list.Others.
-/
import Derived.Test.YteoobeldmicjhaaGreatPCKArrayCuts19
import Derived.Laws.EntriesVeiled
namespace Go.Proofs.YteoobeldmicjhaaGreat.V
set_option maxRecDepth 20000
open Go.RowKit

/-- A list of lists as a value. -/
def Lsts (w : World) (A : Option Addr) (n : Nat) (xss : List (List Int)) : Prop :=
  xss.length = n ∧ n ≤ 9223372036854775807 ∧ (n = 0 ∨ ∃ b off, A = some ⟨b, off, none⟩ ∧ ∀ j, j < n → ∃ X m c, w.cell? ⟨b, off + j, none⟩ = some (.slice X m c) ∧ Lst w X m c (xss[j]?.getD []))
theorem Lsts.below {w w' : World} {A : Option Addr} {n : Nat} {xss : List (List Int)} (h : Lsts w A n xss) (hb : Below w.heap.size w w') : Lsts w' A n xss := by
  obtain ⟨h1, h2, h3⟩ := h
  refine ⟨h1, h2, ?_⟩
  rcases h3 with h3 | ⟨b, off, e, h3⟩
  · exact .inl h3
  · refine .inr ⟨b, off, e, fun j hj => ?_⟩
    obtain ⟨X, m, c, hc, hl⟩ := h3 j hj
    exact ⟨X, m, c, (hb.cell (p := ⟨b, off + j, none⟩) (lt_of_cell hc)).trans hc, hl.below hb⟩
theorem Lsts.at {w : World} {A : Option Addr} {n : Nat} {xss : List (List Int)} (h : Lsts w A n xss) (h0 : 0 < n) : ∃ b off, A = some ⟨b, off, none⟩ ∧ ∀ j, j < n → ∃ X m c, w.cell? ⟨b, off + j, none⟩ = some (.slice X m c) ∧ Lst w X m c (xss[j]?.getD []) := by
  rcases h.2.2 with e | h3
  · omega
  · exact h3
/-- Whether a number stands in one of the lists. -/
def inAny (xss : List (List Int)) (k : Nat) : Bool := xss.any fun l => l.any fun x => (k : Int) == x
/-- The numbers that stand in none. -/
def othL (xss : List (List Int)) : Nat → List Int
  | 0 => []
  | k + 1 => othL xss k ++ (if inAny xss k = true then [] else [(k : Int)])
theorem othL_len (xss : List (List Int)) : ∀ n, (othL xss n).length ≤ n
  | 0 => Nat.le_refl _
  | n + 1 => by
    have := othL_len xss n
    rw [othL, List.length_append]
    split <;> simp <;> omega
theorem lst_oneB (w : World) (B : Nat) (hB : w.heap.size = B) (x : Int) (hb : -9223372036854775808 ≤ x ∧ x ≤ 9223372036854775807) (t : TypeId) : Lst (w.alloc (.cells #[.int .i64 x] t)) (some ⟨B, 0, none⟩) 1 1 [x] := by
  subst hB; exact lst_one w x hb t

theorem others1_any (X : Option Addr) (n c : Nat) (xs : List Int) (B k : Nat) (w : World) (h : Ints w X n xs) (hk : w.cell? ⟨B, 0, none⟩ = some (.int .i64 k)) :
    Calls Tryz.prog 105 #[.slice X n c, .pointer (some ⟨B, 0, none⟩)] w fun e w' => e = .returned (.bool (xs.any fun x => (k : Int) == x)) ∧ w' = w := by
  have H := hide (contains_any X n c xs (k : Int) w h)
  have z := lt_of_cell hk
  simp only at z
  clear h
  go_enter Tryz.func105, Tryz.ntmps105
  go_wp2_with (go_at_call 59; refine H.out.mono ?_; rintro e w' ⟨rfl, hw'⟩; obtain rfl := hw'.symm)
  go_ret
  exact ⟨rfl, rfl⟩
theorem any_take_next {α : Type} (xs : List α) (p : α → Bool) (d : α) (k : Nat) (h : k < xs.length) : (xs.take (k + 1)).any p = ((xs.take k).any p || p (xs[k]?.getD d)) := by
  rw [List.take_succ_eq_append_getElem h, List.any_append]; simp [h]
set_option maxHeartbeats 1000000 in
theorem indexF2_any (A : Option Addr) (len cap : Nat) (xss : List (List Int)) (B k : Nat) (w : World) (h : Lsts w A len xss) (hk : w.cell? ⟨B, 0, none⟩ = some (.int .i64 k)) :
    Calls Tryz.prog 121 #[.slice A len cap, .func (.func 105) #[] #[.pointer (some ⟨B, 0, none⟩)]] w fun e w' => (∃ r : Int, e = .returned (.int .i64 r) ∧ decide (0 ≤ r) = inAny xss k) ∧ w' = w := by
  have H := hide h
  have HK := hide hk
  have hm := h.2.1
  clear h hk
  go_enter Tryz.func121, Tryz.ntmps121
  go_wp2
  go_loop [8] (fun i => ∃ j : Nat, j ≤ len ∧ i = .int .i64 j ∧ ((xss.take j).any fun l => l.any fun x => (k : Int) == x) = false) (fun i => len - (intOf i).toNat)
  case atStart => exact ⟨0, Nat.zero_le _, rfl, by simp⟩
  case round =>
    obtain ⟨j, hj, rfl, hno⟩ := hrel
    have HN := hide hno
    clear hno
    by_cases hlt : j < len
    · obtain ⟨b, off, rfl, hc⟩ := H.out.at (by omega)
      obtain ⟨X, m, c, hcj, hl⟩ := hc j hlt
      have HJL : Hid (j < xss.length) := by rw [Hid, H.out.1]; exact hlt
      have HC := hide (others1_any X m c (xss[j]?.getD []) B k w hl.1 HK.out)
      obtain ⟨q, hq⟩ : ∃ q, q = ((xss[j]?.getD []).any fun x => (k : Int) == x) := ⟨_, rfl⟩
      rw [← hq] at HC
      have HNX : Hid (((xss.take (j + 1)).any fun l => l.any fun x => (k : Int) == x) = q) := by
        rw [Hid, any_take_next xss _ [] j HJL.out, HN.out, hq, Bool.false_or]
      have i1 : (j : Int) < (len : Int) := by omega
      have HM : Hid (q = true → inAny xss k = true) := fun e => by
        unfold inAny
        rw [List.any_eq_true]
        exact ⟨xss[j]?.getD [], by simp [HJL.out], by rw [← hq]; exact e⟩
      clear hc hl hq
      cases q with
      | true =>
        go_wp2_with fail
        refine HC.out.mono ?_
        rintro e w' ⟨rfl, hw'⟩
        obtain rfl := hw'.symm
        go_wp2
        go_ret
        exact ⟨⟨_, rfl, by rw [HM.out trivial]; simp⟩, rfl⟩
      | false =>
        go_wp2_with fail
        refine HC.out.mono ?_
        rintro e w' ⟨rfl, hw'⟩
        obtain rfl := hw'.symm
        go_wp2
        refine ⟨⟨j + 1, by omega, by go_num, HNX.out⟩, by simp [intOf]; omega⟩
    · go_wp2
      go_ret
      refine ⟨⟨_, rfl, ?_⟩, rfl⟩
      have := HN.out
      rw [List.take_of_length_le (by rw [H.out.1]; omega)] at this
      unfold inAny
      rw [this]
      rfl
theorem containsF2_any (A : Option Addr) (len cap : Nat) (xss : List (List Int)) (B k : Nat) (w : World) (h : Lsts w A len xss) (hk : w.cell? ⟨B, 0, none⟩ = some (.int .i64 k)) :
    Calls Tryz.prog 104 #[.slice A len cap, .func (.func 105) #[] #[.pointer (some ⟨B, 0, none⟩)]] w fun e w' => e = .returned (.bool (inAny xss k)) ∧ w' = w := by
  have H := hide (indexF2_any A len cap xss B k w h hk)
  clear h hk
  go_enter Tryz.func104, Tryz.ntmps104
  go_wp2_with (go_at_call 121; refine H.out.mono ?_; rintro e w' ⟨⟨r, rfl, hr⟩, hw'⟩; obtain rfl := hw'.symm; have HR := hide hr; clear hr)
  go_ret
  exact ⟨by rw [HR.out]; rfl, rfl⟩

set_option maxHeartbeats 2000000 in
theorem others_list (n : Nat) (A : Option Addr) (len cap : Nat) (xss : List (List Int)) (w : World) (h : Lsts w A len xss) (hn : n ≤ 65536) :
    Calls Tryz.prog 73 #[.int .i64 n, .slice A len cap] w fun e w' => (∃ v, e = .returned v ∧ w'.ownsRow w.heap.size 3 1 v (othL xss n).length ((othL xss n).map (Value.int .i64))) ∧ Below w.heap.size w w' := by
  have HB0 := hide (bl_new (w := w) (.cells #[] 3))
  have HO0 := hide (World.ownsRow_made (e := 3) (size := 1) w #[] 0 (Nat.le_refl _) (Nat.zero_le _) rfl)
  have H := hide h
  clear h
  go_enter Tryz.func73, Tryz.ntmps73
  go_wp2
  go_loopw [5, 9] (fun v i wr => ∃ k : Nat, k ≤ n ∧ i = .int .i64 k ∧ wr.ownsRow w.heap.size 3 1 v (othL xss k).length ((othL xss k).map (Value.int .i64)) ∧ Below w.heap.size w wr) (fun _ i _ => n - (intOf i).toNat)
  case atStart => exact ⟨0, Nat.zero_le _, rfl, HO0.out, HB0.out⟩
  case round =>
    obtain ⟨k, hk, rfl, ho, hb⟩ := hrel
    have HO := hide ho
    have HB := hide hb
    have hsz := hb.size
    clear ho hb
    by_cases hlt : k < n
    · have hol := othL_len xss k
      have HC := hide (fun W (hW : W = wr.alloc (.cells #[.int .i64 (k : Int)] 3)) => containsF2_any A len cap xss wr.heap.size k W (hW ▸ (H.out.below HB.out).below (bl_new _)) (by rw [hW]; unfold World.cell?; rw [World.alloc_heap_new wr (.cells #[.int .i64 (k : Int)] 3)]; rfl))
      cases hq : inAny xss k with
      | true =>
        have HQ := hide hq
        clear hq
        have HE : Hid (othL xss (k + 1) = othL xss k) := by rw [Hid, othL, if_pos HQ.out, List.append_nil]
        go_wp2_with (go_at_call 104; refine (HC.out _ rfl).mono ?_; rintro e w' ⟨rfl, hw'⟩; obtain rfl := hw'.symm; rw [HQ.out])
        go_roundw
        case rel => exact ⟨k + 1, by omega, by go_num, by rw [HE.out]; exact HO.out.alloc _, HB.out.alloc HB.out.size _⟩
        case measure => simp [intOf]; omega
      | false =>
        have HQ := hide hq
        clear hq
        have HE : Hid (othL xss (k + 1) = othL xss k ++ [(k : Int)]) := by rw [Hid, othL, if_neg (by rw [HQ.out]; exact Bool.false_ne_true)]
        go_wp2_with (first
          | (go_at_call 104; refine (HC.out _ rfl).mono ?_; rintro e w' ⟨rfl, hw'⟩; obtain rfl := hw'.symm; rw [HQ.out])
          | (at_builtin; refine append_list (by rfl) (.tmp 16) (.tmp 18) (by rfl) w.heap.size _ _ _ (by rfl) ((HO.out.alloc _).alloc _) _ _ _ [(k : Int)] (by rfl) (lst_oneB _ _ (by simp) k (by omega) 3) (by omega) (by simp; omega) ?_; intro v1 w1 hown1 hg1; have HW1 := hide hown1; have HG1 := hide hg1; clear hown1 hg1))
        go_roundw
        case rel =>
          refine ⟨k + 1, by omega, by go_num, ?_, ?_⟩
          · have := HW1.out
            rw [HE.out, List.length_append, List.map_append]
            exact this
          · exact ((HB.out.alloc HB.out.size _).alloc (by have := HB.out.size; simp; omega) _).grown HG1.out (by have := HB.out.size; simp; omega) (fun j e => (World.ownsRow.lt HO.out j e).1)
        case measure => simp [intOf]; omega
    · obtain rfl : k = n := by omega
      go_wp2
      go_ret
      exact ⟨⟨_, rfl, HO.out⟩, HB.out⟩
end Go.Proofs.YteoobeldmicjhaaGreat.V
