/-
  Contract: list.Others where no list is handed in.
-/
import Derived.Test.YtdiecplophahmaaLsts
import Derived.Laws.EntriesVeiled
import Derived.Laws.OwnMore
namespace Go.Proofs.Ytdiecplophahmaa.V
open Go.RowKit

/-- A list of the call's own, that may grow. -/
def OI (w : World) (B : Nat) (v : Value) (l : List Int) : Prop := w.ownsRow B 3 1 v l.length (l.map (Value.int .i64))
theorem OI.alloc {w : World} {B : Nat} {v : Value} {l : List Int} (h : OI w B v l) (o : Obj) : OI (w.alloc o) B v l := World.ownsRow.alloc h o
/-- The numbers from 0 on. -/
def rangeI (n : Nat) : List Int := (List.range n).map fun (i : Nat) => (i : Int)
theorem rangeI_len (n : Nat) : (rangeI n).length = n := by simp [rangeI]
theorem rangeI_succ (n : Nat) : rangeI (n + 1) = rangeI n ++ [(n : Int)] := by simp [rangeI, List.range_succ]
theorem rangeI_at {n k : Nat} (h : k < n) : (rangeI n)[k]?.getD 0 = (k : Int) := by simp [rangeI, h]

theorem lst_oneB (w : World) (B : Nat) (hB : w.heap.size = B) (x : Int) (hb : -9223372036854775808 ≤ x ∧ x ≤ 9223372036854775807) (t : TypeId) : Lst (w.alloc (.cells #[.int .i64 x] t)) (some ⟨B, 0, none⟩) 1 1 [x] := by
  subst hB; exact lst_one w x hb t

theorem indexF_nil (g : Value) (w : World) : Calls Try.prog 13 #[.slice none 0 0, g] w fun e w' => e = .returned (.int .i64 (-1)) ∧ w' = w := by
  go_enter Try.func13, Try.ntmps13
  go_wp2
  go_loop [8] (fun i => i = .int .i64 0) (fun _ => 0)
  case atStart => rfl
  case round =>
    obtain rfl := hrel
    go_wp2
    go_ret
    exact ⟨rfl, rfl⟩
theorem containsF_nil (g : Value) (w : World) : Calls Try.prog 10 #[.slice none 0 0, g] w fun e w' => e = .returned (.bool false) ∧ w' = w := by
  go_enter Try.func10, Try.ntmps10
  go_wp2_with (go_at_call 13; refine (indexF_nil _ _).mono ?_; rintro e w' ⟨rfl, hw'⟩; obtain rfl := hw'.symm)
  go_ret
  exact ⟨rfl, rfl⟩

set_option maxHeartbeats 2000000 in
theorem others_nil (n : Nat) (w : World) (hn : n ≤ 65536) :
    Calls Try.prog 9 #[.int .i64 n, .slice none 0 0] w fun e w' => (∃ v, e = .returned v ∧ OI w' w.heap.size v (rangeI n)) ∧ Below w.heap.size w w' := by
  have HB0 := hide (bl_new (w := w) (.cells #[] 3))
  have HO0 := hide (World.ownsRow_made (e := 3) (size := 1) w #[] 0 (Nat.le_refl _) (Nat.zero_le _) rfl)
  go_enter Try.func9, Try.ntmps9
  go_wp2
  go_loopw [5, 9] (fun v i wr => ∃ k : Nat, k ≤ n ∧ i = .int .i64 k ∧ OI wr w.heap.size v (rangeI k) ∧ Below w.heap.size w wr) (fun _ i _ => n - (intOf i).toNat)
  case atStart => exact ⟨0, Nat.zero_le _, rfl, HO0.out, HB0.out⟩
  case round =>
    obtain ⟨k, hk, rfl, ho, hb⟩ := hrel
    have HO := hide ho
    have HB := hide hb
    have hsz := hb.size
    clear ho hb
    by_cases hlt : k < n
    · have HL := hide (rangeI_len k)
      go_wp2_with (first
        | (go_at_call 10; refine (containsF_nil _ _).mono ?_; rintro e w' ⟨rfl, hw'⟩; obtain rfl := hw'.symm)
        | (at_builtin; (refine append_list (by rfl) (.tmp 16) (.tmp 18) (by rfl) w.heap.size _ _ _ (by rfl) ((HO.out.alloc _).alloc _) _ _ _ [(k : Int)] (by rfl) (lst_oneB _ _ (by simp) k (by omega) 3) (by rw [HL.out]; omega) (by simp; omega) ?_); intro v1 w1 hown1 hg1; have HW1 := hide hown1; have HG1 := hide hg1; clear hown1 hg1))
      go_roundw
      case rel =>
        refine ⟨k + 1, by omega, by go_num, ?_, ?_⟩
        · have := HW1.out
          unfold OI
          rw [rangeI_succ, List.length_append, List.map_append]
          exact this
        · exact ((HB.out.alloc HB.out.size _).alloc (by have := HB.out.size; simp; omega) _).grown HG1.out (by have := HB.out.size; simp; omega) (fun j e => (World.ownsRow.lt HO.out j e).1)
      case measure => simp [intOf]; omega
    · obtain rfl : k = n := by omega
      go_wp2
      go_ret
      exact ⟨⟨_, rfl, HO.out⟩, HB.out⟩
end Go.Proofs.Ytdiecplophahmaa.V
