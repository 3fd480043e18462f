/-
  Contract: text.piece at a digit.
-/
import Derived.Test.YtadhlnlcdljamaaGreatDoorTxPiece
namespace Go.Proofs.YtadhlnlcdljamaaGreatDoor.V
set_option maxRecDepth 20000
open Go.RowKit

theorem reachN_gt {p : Int → Bool} {xs : List Int} {k : Nat} (hk : k < xs.length) (h : p (xs[k]?.getD 0) = true) : k + 1 ≤ reachN p xs k := by
  rw [reachN_go hk h]; exact reachN_ge p xs (k + 1)
theorem wordAt_bd {xs : List Int} (h : ∀ x ∈ xs, 0 ≤ x ∧ x ≤ 255) (k : Nat) : ∀ x ∈ wordAt xs k, 0 ≤ x ∧ x ≤ 255 := fun x hx => h x (List.mem_of_mem_drop (List.mem_of_mem_take hx))

set_option maxRecDepth 100000 in
set_option maxHeartbeats 2000000 in
theorem piece_digit (g n cap k : Nat) (xs : List Int) (w : World) (hb : BytesAt w g n xs) (hk : k < n) (hcap : n ≤ cap) (hn : n ≤ 65536) (hE : ErrAt w) (c : Int) (hc : c = xs[k]?.getD 0) (h1 : blankI c = false) (h2 : (c == 35) = false) (h3 : letterI c = false) (h4 : digitI c = true) :
    Calls Tryz.prog 16 #[.slice (some ⟨g, 0, none⟩) n cap, .int .i64 (k : Int)] w fun e w' => (if wrongI (wordAt xs k) = 0 then e = .returned (.tuple #[.int .i64 ((reachN wordI xs k : Nat) : Int), .bool true]) else e = thrown (wrongI (wordAt xs k)) k) ∧ Below w.heap.size w w' := by
  have cj := hb.2.2.2 k hk
  have hm := hb.2.1
  have hl := hb.1
  rw [← hc] at cj
  have i1 : (0 : Int) ≤ (k : Int) := Int.natCast_nonneg _
  have i2 : (k : Int) < (n : Int) := by omega
  have H1 := hide (tBlank c)
  rw [h1] at H1
  have H3 := hide (tLetter c)
  rw [h3] at H3
  have H4 := hide (tDigit c)
  rw [h4] at H4
  have hgt := reachN_gt (p := wordI) (xs := xs) (k := k) (by omega) (by rw [← hc]; unfold wordI; rw [h3, h4]; rfl)
  have hle := reachN_len (p := wordI) (xs := xs) (k := k) (by omega)
  have hwl := wordAt_length (xs := xs) (k := k) (by omega)
  have hwa := fun i hi => wordAt_at (xs := xs) (k := k) i hi
  have hwb := wordAt_bd hb.2.2.1 k
  have H6 := hide (fun W (hW : W = w) => hW ▸ reach_any wordI 34 g n cap k xs w hb (by omega) (enters Tryz.func34 (by kernel_rfl) (by kernel_rfl)) (fun c W => tWord c W))
  obtain ⟨E, hEe⟩ : ∃ E, E = reachN wordI xs k := ⟨_, rfl⟩
  obtain ⟨wd, hwd⟩ : ∃ wd, wd = wordAt xs k := ⟨_, rfl⟩
  rw [← hEe] at hgt hle hwl hwa H6 ⊢
  rw [← hwd] at hwl hwa hwb ⊢
  have hcv := run_convert_bytes_arg (P := Tryz.prog) w 56 5 Tryz.underlying56 Tryz.underlying5 g k (E - k) (cap - k) wd hwl (fun i hi => by
    have h5 := hb.2.2.2 (k + i) (by omega)
    have h6 := hwa i hi
    rw [h5, ← h6]; rfl) 9 Tryz.underlying9
  have HW := hide (tWrong (strOfNums wd) w (by rw [strOfNums_size]; omega) (by rw [strOfNums_size]; omega) hE)
  rw [xsOf_nums hwb] at HW
  obtain ⟨R, hR⟩ : ∃ R, R = wrongI wd := ⟨_, rfl⟩
  rw [← hR] at HW ⊢
  have i3 : (0 : Int) ≤ (E : Int) := Int.natCast_nonneg _
  have i4 : (k : Int) ≤ (E : Int) := by omega
  have i5 : (E : Int) ≤ (cap : Int) := by omega
  have i6 : ¬ cap = k := by omega
  have i7 : (E : Int).toNat - k = E - k := by omega
  clear hb hc h1 h3 h4 hE hwa hwb hwl hEe hwd hR hl hle
  by_cases hr : R = 0
  · have hr0 : (R != 0) = false := by simp [hr]
    simp only [if_pos hr]
    clear hr
    go_enter Tryz.func16, Tryz.ntmps16
    go_wp2_with (first
      | (go_at_call 30; refine (H1.out _).mono ?_; rintro e w' ⟨rfl, hw'⟩; obtain rfl := hw'.symm)
      | (go_at_call 33; refine (H3.out _).mono ?_; rintro e w' ⟨rfl, hw'⟩; obtain rfl := hw'.symm)
      | (go_at_call 35; refine (H4.out _).mono ?_; rintro e w' ⟨rfl, hw'⟩; obtain rfl := hw'.symm)
      | (go_at_call 31; refine (H6.out _ rfl).mono ?_; rintro e w' ⟨rfl, hw'⟩; obtain rfl := hw'.symm)
      | (go_at_call 36; refine HW.out.mono ?_; rintro e w1 ⟨rfl, hw'⟩; have HB := hide hw'; clear hw'))
    go_ret2
    exact ⟨rfl, HB.out⟩
  · have hr0 : (R != 0) = true := by simp [hr]
    simp only [if_neg hr]
    clear hr
    go_enter Tryz.func16, Tryz.ntmps16
    go_wp2_with (first
      | (go_at_call 30; refine (H1.out _).mono ?_; rintro e w' ⟨rfl, hw'⟩; obtain rfl := hw'.symm)
      | (go_at_call 33; refine (H3.out _).mono ?_; rintro e w' ⟨rfl, hw'⟩; obtain rfl := hw'.symm)
      | (go_at_call 35; refine (H4.out _).mono ?_; rintro e w' ⟨rfl, hw'⟩; obtain rfl := hw'.symm)
      | (go_at_call 31; refine (H6.out _ rfl).mono ?_; rintro e w' ⟨rfl, hw'⟩; obtain rfl := hw'.symm)
      | (go_at_call 36; refine HW.out.mono ?_; rintro e w1 ⟨rfl, hw'⟩; have HB := hide hw'; clear hw'))
    exact ⟨rfl, rfl, HB.out⟩
end Go.Proofs.YtadhlnlcdljamaaGreatDoor.V
