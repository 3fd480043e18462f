/-
  Contract: text.piece.
-/
import Derived.Test.YtadhlnlcdljamaaGreatDoorTxParse
import Derived.Laws.BytesArg
import Derived.WalkSmall
namespace Go.Proofs.YtadhlnlcdljamaaGreatDoor.V
set_option maxRecDepth 20000
open Go.RowKit

theorem idx_mem : ∀ (l : List UInt8) (c : UInt8), -1 ≤ Lib.indexByte l c ∧ (0 ≤ Lib.indexByte l c ↔ c ∈ l)
  | [], c => by simp [Lib.indexByte]
  | b :: l, c => by
    obtain ⟨h1, h2⟩ := idx_mem l c
    unfold Lib.indexByte
    by_cases e : (b == c) = true
    · rw [if_pos e]
      have : b = c := by simpa using e
      simp [this]
    · rw [if_neg e]
      have hne : ¬ c = b := fun h => e (by simp [h])
      by_cases e2 : (Lib.indexByte l c == -1) = true
      · rw [if_pos e2]
        have h3 : Lib.indexByte l c = -1 := by simpa using e2
        rw [h3] at h2
        refine ⟨by omega, ⟨fun h => by omega, fun h => ?_⟩⟩
        rcases List.mem_cons.1 h with h | h
        · exact absurd h hne
        · have := h2.2 h; omega
      · rw [if_neg e2]
        have h3 : ¬ Lib.indexByte l c = -1 := by simpa using e2
        refine ⟨by omega, ⟨fun h => List.mem_cons.2 (.inr (h2.1 (by omega))), fun h => by omega⟩⟩
def marksS : ByteArray := ⟨#[40, 41, 91, 93, 123, 125, 44, 58, 61, 43, 45, 42, 59]⟩
theorem mark_idx (c : Int) (h0 : 0 ≤ c) (h1 : c ≤ 255) : decide (0 ≤ Lib.indexByte marksS.data.toList c.toNat.toUInt8) = markI c := by
  have h2 := (idx_mem marksS.data.toList c.toNat.toUInt8).2
  have h3 : c.toNat.toUInt8 ∈ marksS.data.toList ↔ markI c = true := by
    have hc : ((c.toNat.toUInt8).toNat : Int) = c := by
      have : c.toNat < 256 := by omega
      simp [Nat.mod_eq_of_lt this]
      omega
    obtain ⟨b, hb⟩ : ∃ b : UInt8, b = c.toNat.toUInt8 := ⟨_, rfl⟩
    rw [← hb] at hc ⊢
    rw [← hc]
    unfold markI marksL marksS
    simp only [List.any_cons, List.any_nil, List.mem_cons, List.not_mem_nil, Bool.or_false, Bool.or_eq_true, beq_iff_eq, or_false]
    simp only [← UInt8.toNat_inj]
    simp
    omega
  by_cases hm : markI c = true
  · rw [hm]; simpa using h2.2 (h3.2 hm)
  · have hm' : markI c = false := by simpa using hm
    rw [hm']
    have : ¬ 0 ≤ Lib.indexByte marksS.data.toList c.toNat.toUInt8 := fun h => hm (h3.1 (h2.1 h))
    simpa using this

set_option maxHeartbeats 1000000 in
theorem tIndex (c : Int) (w : World) : Calls Tryz.prog 37 #[.string marksS, .int .u8 c] w fun e w' => e = .returned (.int .i64 (Lib.indexByte marksS.data.toList c.toNat.toUInt8)) ∧ w' = w := by
  go_enter Tryz.func37, Tryz.ntmps37
  go_wp2_with (go_at_call 50; refine (Tryz.stringslite_IndexByte _ _ _).mono ?_; rintro e w' ⟨rfl, hw'⟩; obtain rfl := hw'.symm)
  go_ret
  exact ⟨rfl, rfl⟩

/-- A fault that is thrown. -/
def faultV (e : Int) (k : Nat) : Value := .iface 25 (.agg #[.int .i64 e, .int .i64 (k : Int)])
def thrown (e : Int) (k : Nat) : Ending := .panicked [{ v := faultV e k, recovered := false }]
def isRest (c : Int) : Bool := c != 10
theorem byte_at {w : World} {g n k : Nat} {xs : List Int} (hb : BytesAt w g n xs) (hk : k < n) : 0 ≤ xs[k]?.getD 0 ∧ xs[k]?.getD 0 ≤ 255 := by
  have hl : k < xs.length := by rw [hb.1]; exact hk
  rw [List.getElem?_eq_getElem hl]
  exact hb.2.2.1 _ (List.getElem_mem hl)
/-- The word that begins at a place. -/
def wordAt (xs : List Int) (k : Nat) : List Int := (xs.drop k).take (reachN wordI xs k - k)
theorem wordAt_length {xs : List Int} {k : Nat} (hk : k ≤ xs.length) : (wordAt xs k).length = reachN wordI xs k - k := by
  have := reachN_len (p := wordI) hk
  have := reachN_ge wordI xs k
  simp [wordAt]; omega
theorem wordAt_at {xs : List Int} {k : Nat} (i : Nat) (hi : i < reachN wordI xs k - k) : (wordAt xs k)[i]?.getD 0 = xs[k + i]?.getD 0 := by
  simp [wordAt, hi, List.getElem?_drop]
theorem xsOf_nums {xs : List Int} (h : ∀ x ∈ xs, 0 ≤ x ∧ x ≤ 255) : xsOf (strOfNums xs) = xs := by
  unfold xsOf
  rw [strOfNums_data, List.map_map]
  conv => rhs; rw [← List.map_id xs]
  refine List.map_congr_left (fun x hx => ?_)
  have hb := h x hx
  have : x.toNat < 256 := by omega
  simp [Nat.mod_eq_of_lt this]
  omega

set_option maxRecDepth 100000 in
set_option maxHeartbeats 2000000 in
theorem piece_blank (g n cap k : Nat) (xs : List Int) (w : World) (hb : BytesAt w g n xs) (hk : k < n) (c : Int) (hc : c = xs[k]?.getD 0) (h1 : blankI c = true) :
    Calls Tryz.prog 16 #[.slice (some ⟨g, 0, none⟩) n cap, .int .i64 (k : Int)] w fun e w' => e = .returned (.tuple #[.int .i64 ((k + 1 : Nat) : Int), .bool false]) ∧ w' = w := by
  have cj := hb.2.2.2 k hk
  have hm := hb.2.1
  have hcc := byte_at hb hk
  rw [← hc] at cj hcc
  have HBY := hide hb
  have HC := hide hc
  have i1 : (0 : Int) ≤ (k : Int) := Int.natCast_nonneg _
  have i2 : (k : Int) < (n : Int) := by omega
  clear hb hc
  have H1 := hide (tBlank c)
  rw [h1] at H1
  clear h1 hcc
  go_enter Tryz.func16, Tryz.ntmps16
  go_wp2_with (first
    | (go_at_call 30; refine (H1.out _).mono ?_; rintro e w' ⟨rfl, hw'⟩; obtain rfl := hw'.symm))
  go_ret2
  exact ⟨by simp, rfl⟩

set_option maxRecDepth 100000 in
set_option maxHeartbeats 2000000 in
theorem piece_remark (g n cap k : Nat) (xs : List Int) (w : World) (hb : BytesAt w g n xs) (hk : k < n) (c : Int) (hc : c = xs[k]?.getD 0) (h1 : blankI c = false) (h2 : (c == 35) = true) :
    Calls Tryz.prog 16 #[.slice (some ⟨g, 0, none⟩) n cap, .int .i64 (k : Int)] w fun e w' => e = .returned (.tuple #[.int .i64 ((reachN isRest xs k : Nat) : Int), .bool false]) ∧ w' = w := by
  have cj := hb.2.2.2 k hk
  have hm := hb.2.1
  have hcc := byte_at hb hk
  rw [← hc] at cj hcc
  have HBY := hide hb
  have HC := hide hc
  have i1 : (0 : Int) ≤ (k : Int) := Int.natCast_nonneg _
  have i2 : (k : Int) < (n : Int) := by omega
  clear hb hc
  have H1 := hide (tBlank c)
  rw [h1] at H1
  have H6 := hide (fun W (hW : W = w) => hW ▸ reach_any isRest 32 g n cap k xs w HBY.out (by omega) (enters Tryz.func32 (by kernel_rfl) (by kernel_rfl)) (fun c W => tRemark c W))
  clear h1 hcc
  go_enter Tryz.func16, Tryz.ntmps16
  go_wp2_with (first
    | (go_at_call 30; refine (H1.out _).mono ?_; rintro e w' ⟨rfl, hw'⟩; obtain rfl := hw'.symm)
    | (go_at_call 31; refine (H6.out _ rfl).mono ?_; rintro e w' ⟨rfl, hw'⟩; obtain rfl := hw'.symm))
  go_ret2
  exact ⟨rfl, rfl⟩

set_option maxRecDepth 100000 in
set_option maxHeartbeats 2000000 in
theorem piece_letter (g n cap k : Nat) (xs : List Int) (w : World) (hb : BytesAt w g n xs) (hk : k < n) (c : Int) (hc : c = xs[k]?.getD 0) (h1 : blankI c = false) (h2 : (c == 35) = false) (h3 : letterI c = true) :
    Calls Tryz.prog 16 #[.slice (some ⟨g, 0, none⟩) n cap, .int .i64 (k : Int)] w fun e w' => e = .returned (.tuple #[.int .i64 ((reachN wordI xs k : Nat) : Int), .bool true]) ∧ w' = w := by
  have cj := hb.2.2.2 k hk
  have hm := hb.2.1
  have hcc := byte_at hb hk
  rw [← hc] at cj hcc
  have HBY := hide hb
  have HC := hide hc
  have i1 : (0 : Int) ≤ (k : Int) := Int.natCast_nonneg _
  have i2 : (k : Int) < (n : Int) := by omega
  clear hb hc
  have H1 := hide (tBlank c)
  rw [h1] at H1
  have H3 := hide (tLetter c)
  rw [h3] at H3
  have H6 := hide (fun W (hW : W = w) => hW ▸ reach_any wordI 34 g n cap k xs w HBY.out (by omega) (enters Tryz.func34 (by kernel_rfl) (by kernel_rfl)) (fun c W => tWord c W))
  clear h1 h3 hcc
  go_enter Tryz.func16, Tryz.ntmps16
  go_wp2_with (first
    | (go_at_call 30; refine (H1.out _).mono ?_; rintro e w' ⟨rfl, hw'⟩; obtain rfl := hw'.symm)
    | (go_at_call 33; refine (H3.out _).mono ?_; rintro e w' ⟨rfl, hw'⟩; obtain rfl := hw'.symm)
    | (go_at_call 31; refine (H6.out _ rfl).mono ?_; rintro e w' ⟨rfl, hw'⟩; obtain rfl := hw'.symm))
  go_ret2
  exact ⟨rfl, rfl⟩

set_option maxRecDepth 100000 in
set_option maxHeartbeats 2000000 in
theorem piece_mark (g n cap k : Nat) (xs : List Int) (w : World) (hb : BytesAt w g n xs) (hk : k < n) (c : Int) (hc : c = xs[k]?.getD 0) (h1 : blankI c = false) (h2 : (c == 35) = false) (h3 : letterI c = false) (h4 : digitI c = false) (h5 : markI c = true) :
    Calls Tryz.prog 16 #[.slice (some ⟨g, 0, none⟩) n cap, .int .i64 (k : Int)] w fun e w' => e = .returned (.tuple #[.int .i64 ((k + 1 : Nat) : Int), .bool true]) ∧ w' = w := by
  have cj := hb.2.2.2 k hk
  have hm := hb.2.1
  have hcc := byte_at hb hk
  rw [← hc] at cj hcc
  have HBY := hide hb
  have HC := hide hc
  have i1 : (0 : Int) ≤ (k : Int) := Int.natCast_nonneg _
  have i2 : (k : Int) < (n : Int) := by omega
  clear hb hc
  have H1 := hide (tBlank c)
  rw [h1] at H1
  have H3 := hide (tLetter c)
  rw [h3] at H3
  have H4 := hide (tDigit c)
  rw [h4] at H4
  have H5 := hide (tIndex c)
  have h6 : 0 ≤ Lib.indexByte marksS.data.toList c.toNat.toUInt8 := by
    have := mark_idx c hcc.1 hcc.2
    rw [h5] at this
    exact of_decide_eq_true this
  obtain ⟨I, hI⟩ : ∃ I, I = Lib.indexByte marksS.data.toList c.toNat.toUInt8 := ⟨_, rfl⟩
  rw [← hI] at H5 h6
  unfold marksS at H5
  clear h1 h3 h4 h5 hcc hI
  go_enter Tryz.func16, Tryz.ntmps16
  go_wp2_with (first
    | (go_at_call 30; refine (H1.out _).mono ?_; rintro e w' ⟨rfl, hw'⟩; obtain rfl := hw'.symm)
    | (go_at_call 33; refine (H3.out _).mono ?_; rintro e w' ⟨rfl, hw'⟩; obtain rfl := hw'.symm)
    | (go_at_call 35; refine (H4.out _).mono ?_; rintro e w' ⟨rfl, hw'⟩; obtain rfl := hw'.symm)
    | (go_at_call 37; refine (H5.out _).mono ?_; rintro e w' ⟨rfl, hw'⟩; obtain rfl := hw'.symm))
  go_ret2
  exact ⟨by simp, rfl⟩

set_option maxRecDepth 100000 in
set_option maxHeartbeats 2000000 in
theorem piece_other (g n cap k : Nat) (xs : List Int) (w : World) (hb : BytesAt w g n xs) (hk : k < n) (c : Int) (hc : c = xs[k]?.getD 0) (h1 : blankI c = false) (h2 : (c == 35) = false) (h3 : letterI c = false) (h4 : digitI c = false) (h5 : markI c = false) :
    Calls Tryz.prog 16 #[.slice (some ⟨g, 0, none⟩) n cap, .int .i64 (k : Int)] w fun e w' => e = thrown 7 k ∧ w' = w := by
  have cj := hb.2.2.2 k hk
  have hm := hb.2.1
  have hcc := byte_at hb hk
  rw [← hc] at cj hcc
  have HBY := hide hb
  have HC := hide hc
  have i1 : (0 : Int) ≤ (k : Int) := Int.natCast_nonneg _
  have i2 : (k : Int) < (n : Int) := by omega
  clear hb hc
  have H1 := hide (tBlank c)
  rw [h1] at H1
  have H3 := hide (tLetter c)
  rw [h3] at H3
  have H4 := hide (tDigit c)
  rw [h4] at H4
  have H5 := hide (tIndex c)
  have h6 : ¬ 0 ≤ Lib.indexByte marksS.data.toList c.toNat.toUInt8 := by
    have := mark_idx c hcc.1 hcc.2
    rw [h5] at this
    exact of_decide_eq_false this
  obtain ⟨I, hI⟩ : ∃ I, I = Lib.indexByte marksS.data.toList c.toNat.toUInt8 := ⟨_, rfl⟩
  rw [← hI] at H5 h6
  unfold marksS at H5
  clear h1 h3 h4 h5 hcc hI
  go_enter Tryz.func16, Tryz.ntmps16
  go_wp2_with (first
    | (go_at_call 30; refine (H1.out _).mono ?_; rintro e w' ⟨rfl, hw'⟩; obtain rfl := hw'.symm)
    | (go_at_call 33; refine (H3.out _).mono ?_; rintro e w' ⟨rfl, hw'⟩; obtain rfl := hw'.symm)
    | (go_at_call 35; refine (H4.out _).mono ?_; rintro e w' ⟨rfl, hw'⟩; obtain rfl := hw'.symm)
    | (go_at_call 37; refine (H5.out _).mono ?_; rintro e w' ⟨rfl, hw'⟩; obtain rfl := hw'.symm))
  exact ⟨rfl, rfl, rfl⟩

end Go.Proofs.YtadhlnlcdljamaaGreatDoor.V
