/-
  Contracts: text.wrongNumber; strings.IndexByte.
-/
import Derived.Test.YtadhlnlcdljamaaGreatDoorTxSign
import Derived.Test.YtadhlnlcdljamaaGreatDoorTxShelf
import Derived.Lib.ParseIntBCases
namespace Go.Proofs.YtadhlnlcdljamaaGreatDoor.V
set_option maxRecDepth 20000
open Go.RowKit

def numFrom (a : Int) (xs : List Int) : Int := xs.foldl (fun a c => a * 10 + (c - 48)) a
theorem numFrom_cons (a c : Int) (xs : List Int) : numFrom a (c :: xs) = numFrom (a * 10 + (c - 48)) xs := rfl
theorem numFrom_ge : ∀ (xs : List Int) (a : Int), 0 ≤ a → xs.all digitI = true → a ≤ numFrom a xs
  | [], a, _, _ => Int.le_refl _
  | c :: r, a, ha, h => by
    rw [List.all_cons, Bool.and_eq_true] at h
    have hc := digit_bd h.1
    have := numFrom_ge r (a * 10 + (c - 48)) (by omega) h.2
    rw [numFrom_cons]; omega
def bytesI (l : List UInt8) : List Int := l.map fun b : UInt8 => (b.toNat : Int)
theorem parseM : ∀ (l : List UInt8) (acc : Nat), (bytesI l).all digitI = true → acc ≤ 18446744073709551615 →
    Lib.parseUintM 18446744073709551615 acc l = if numFrom (acc : Int) (bytesI l) ≤ 18446744073709551615 then .ok (numFrom (acc : Int) (bytesI l)).toNat else .range
  | [], acc, _, h => by
    have e : numFrom (acc : Int) (bytesI []) = (acc : Int) := rfl
    rw [e, if_pos (by omega)]
    simp [Lib.parseUintM]
  | c :: r, acc, h, ha => by
    have hcons : bytesI (c :: r) = (c.toNat : Int) :: bytesI r := rfl
    rw [hcons, List.all_cons, Bool.and_eq_true] at h
    have hc := digit_bd h.1
    rw [hcons, numFrom_cons]
    unfold Lib.parseUintM
    rw [if_pos (by omega)]
    have hge := numFrom_ge (bytesI r) ((acc : Int) * 10 + ((c.toNat : Int) - 48)) (by omega) h.2
    by_cases c1 : 1844674407370955162 ≤ acc
    · rw [if_pos c1, if_neg (by omega)]
    · rw [if_neg c1]
      by_cases c2 : 18446744073709551615 < acc * 10 + (c.toNat - 48)
      · rw [if_pos c2, if_neg (by omega)]
      · rw [if_neg c2, parseM r _ h.2 (by omega)]
        have e : ((acc * 10 + (c.toNat - 48) : Nat) : Int) = (acc : Int) * 10 + ((c.toNat : Int) - 48) := by omega
        rw [e]
theorem parse_digits (l : List UInt8) (hne : l ≠ []) (h : (bytesI l).all digitI = true) :
    Lib.parseIntB 64 l = if numVal (bytesI l) ≤ 9223372036854775807 then .ok (numVal (bytesI l)) else .range := by
  match l, hne with
  | c :: r, _ =>
    have hcons : bytesI (c :: r) = (c.toNat : Int) :: bytesI r := rfl
    have h' := h
    rw [hcons, List.all_cons, Bool.and_eq_true] at h'
    have hc := digit_bd h'.1
    rw [Lib.parseIntB_plain 64 c r (by omega) (by omega)]
    have hM : Lib.parseUintB 64 (c :: r) = Lib.parseUintM 18446744073709551615 0 (c :: r) := by simp [Lib.parseUintB]
    have hp := parseM (c :: r) 0 h (by omega)
    have hge := numFrom_ge (bytesI (c :: r)) 0 (by omega) h
    have hnv : numFrom ((0 : Nat) : Int) (bytesI (c :: r)) = numVal (bytesI (c :: r)) := rfl
    have hnv0 : numFrom (0 : Int) (bytesI (c :: r)) = numVal (bytesI (c :: r)) := rfl
    rw [hnv0] at hge
    rw [hM, hp, hnv]
    obtain ⟨V, hV⟩ : ∃ V, V = numVal (bytesI (c :: r)) := ⟨_, rfl⟩
    rw [← hV] at hge ⊢
    by_cases c1 : V ≤ 18446744073709551615
    · rw [if_pos c1]
      have hp2 : (2 : Nat) ^ (64 - 1) = 9223372036854775808 := by kernel_rfl
      rw [hp2]
      unfold Lib.signlessC
      by_cases c2 : V ≤ 9223372036854775807
      · rw [if_pos c2]
        simp only
        rw [if_neg (by omega), Int.toNat_of_nonneg hge]
      · rw [if_neg c2]
        simp only
        rw [if_pos (by omega)]
    · rw [if_neg c1, if_neg (by omega)]
      rfl

/-- What is wrong with a word that begins with a digit. -/
def wrongI (xs : List Int) : Int := if xs.all digitI = true then (if xs[0]?.getD 0 = 48 ∧ 1 < xs.length then 7 else if numVal xs ≤ 9223372036854775807 then 0 else 4) else 7
/-- What the variable of the library holds that the program answers where a number is too great. -/
def ErrAt (w : World) : Prop := ∃ ev, w.cell? ⟨2, 0, none⟩ = some ev ∧ (ev = .nilIface ∨ ∃ te pe, ev = .iface te pe)
theorem ErrAt.below {w w' : World} (h : ErrAt w) (hb : Below w.heap.size w w') (h2 : 2 < w.heap.size) : ErrAt w' := by
  obtain ⟨ev, h1, h3⟩ := h
  exact ⟨ev, (hb.cell (p := ⟨2, 0, none⟩) h2).trans h1, h3⟩

theorem bytes_below {w w' : World} (h : w' = w ∨ ∃ t, w' = Lib.bytesWorld w 5 t) : Below w.heap.size w w' := by
  rcases h with rfl | ⟨t, rfl⟩
  · exact Below.refl _ _
  · unfold Lib.bytesWorld
    have h1 : Below w.heap.size w (w.drew.alloc (.cells (Lib.bytesCells w 5 t) 5)) := (Below.refl _ w).drew.alloc (Nat.le_refl _) _
    refine ⟨h1.os, h1.tape, h1.output, ?_, fun k hk => ?_⟩
    · simp [World.freeze]
    · have := h1.block k hk
      rw [← this]
      simp [World.freeze, Array.getElem?_modify]
      intro e
      omega
set_option maxRecDepth 100000 in
set_option maxHeartbeats 2000000 in
theorem tWrong (s : ByteArray) (w : World) (h0 : 0 < s.size) (hs : s.size ≤ 65536) (he : ErrAt w) : Calls Tryz.prog 36 #[.string s] w fun e w' => e = .returned (.int .i64 (wrongI (xsOf s))) ∧ Below w.heap.size w w' := by
  have HL := hide (xsOf_length s)
  have HX := hide (xsOf_at s)
  have HPD := hide (parse_digits s.data.toList (by intro e; have := xsOf_length s; simp [xsOf, e] at this; omega))
  have hbx : bytesI s.data.toList = xsOf s := rfl
  rw [hbx] at HPD
  obtain ⟨xs, hxs⟩ : ∃ xs, xs = xsOf s := ⟨_, rfl⟩
  rw [← hxs] at HL HX HPD ⊢
  clear hxs hbx
  obtain ⟨ev, hv, hev⟩ := he
  have HV := hide hv
  have HEV := hide hev
  clear hv hev
  go_enter Tryz.func36, Tryz.ntmps36
  go_wp2
  go_loop [8] (fun i => ∃ k : Nat, k ≤ s.size ∧ i = .int .i64 (k : Int) ∧ (xs.take k).all digitI = true) (fun i => s.size - (intOf i).toNat)
  case atStart => exact ⟨0, Nat.zero_le _, rfl, rfl⟩
  case round =>
    obtain ⟨k, hkn, rfl, ha⟩ := hrel
    have HA := hide ha
    clear ha
    by_cases hlt : k < s.size
    · have HD := hide (tDigit ((s[k].toNat : Nat) : Int) w)
      have HY := hide (HX.out k hlt)
      obtain ⟨b, hb⟩ : ∃ b, b = digitI ((s[k].toNat : Nat) : Int) := ⟨_, rfl⟩
      rw [← hb] at HD
      have HBB := hide hb
      clear hb
      cases b with
      | true =>
        go_wp2_with (go_at_call 35; refine HD.out.mono ?_; rintro e w' ⟨rfl, hw'⟩; obtain rfl := hw'.symm)
        go_round
        case rel => exact ⟨k + 1, by omega, by go_num, all_succ (by rw [HL.out]; exact hlt) HA.out (by rw [HY.out]; exact HBB.out.symm)⟩
        case measure => simp [intOf]; omega
      | false =>
        go_wp2_with (go_at_call 35; refine HD.out.mono ?_; rintro e w' ⟨rfl, hw'⟩; obtain rfl := hw'.symm)
        go_ret
        have hn := all_not (xs := xs) (k := k) (by rw [HL.out]; exact hlt) (by rw [HY.out]; exact HBB.out.symm)
        refine ⟨?_, Below.refl _ _⟩
        rw [wrongI, if_neg (by rw [hn]; simp)]
        rfl
    · have hk : k = s.size := by omega
      have HT : Hid (xs.all digitI = true) := by have := HA.out; rwa [List.take_of_length_le (by rw [HL.out]; omega)] at this
      have HY := hide (HX.out 0 h0)
      have HPV := hide (HPD.out HT.out)
      by_cases h1 : ((s[0].toNat : Nat) : Int) = 48 ∧ 1 < s.size
      · have HW : Hid (wrongI xs = 7) := by rw [Hid, wrongI, if_pos HT.out, if_pos (by rw [HY.out, HL.out]; exact h1)]
        have g1 : (((s[0].toNat : Nat) : Int) == 48) = true := by simp [h1.1]
        have g2 := h1.2
        have g3 : (1 : Int) < (s.size : Int) := by omega
        clear h1
        go_wp2
        go_ret
        exact ⟨by rw [HW.out]; rfl, Below.refl _ _⟩
      · by_cases h2 : numVal xs ≤ 9223372036854775807
        · have HW : Hid (wrongI xs = 0) := by rw [Hid, wrongI, if_pos HT.out, if_neg (by rw [HY.out, HL.out]; exact h1), if_pos h2]
          rw [if_pos h2] at HPV
          have HC := hide (Tryz.strconv_ParseInt_10_at64_ok s (by omega) _ HPV.out w)
          cases g1 : (((s[0].toNat : Nat) : Int) == 48) with
          | true =>
            have g2 : ¬ (1 : Int) < (s.size : Int) := by intro h; exact h1 ⟨by simpa using g1, by omega⟩
            go_wp2_with (go_at_call 49; refine HC.out.mono ?_; rintro e w' ⟨rfl, hw'⟩; have HB := hide (bytes_below hw'); clear hw')
            go_ret
            exact ⟨by rw [HW.out]; rfl, HB.out⟩
          | false =>
            go_wp2_with (go_at_call 49; refine HC.out.mono ?_; rintro e w' ⟨rfl, hw'⟩; have HB := hide (bytes_below hw'); clear hw')
            go_ret
            exact ⟨by rw [HW.out]; rfl, HB.out⟩
        · have HW : Hid (wrongI xs = 4) := by rw [Hid, wrongI, if_pos HT.out, if_neg (by rw [HY.out, HL.out]; exact h1), if_neg h2]
          rw [if_neg h2] at HPV
          have HC := hide (Tryz.strconv_ParseInt_10_at64_range s (by omega) HPV.out ev w HV.out HEV.out)
          cases g1 : (((s[0].toNat : Nat) : Int) == 48) with
          | true =>
            have g2 : ¬ (1 : Int) < (s.size : Int) := by intro h; exact h1 ⟨by simpa using g1, by omega⟩
            go_wp2_with (go_at_call 49; refine HC.out.mono ?_; rintro e w' ⟨N, rfl, hN, hbl, hw'⟩; have HB := hide hw'; clear hw' hN hbl)
            go_ret
            exact ⟨by rw [HW.out]; rfl, HB.out⟩
          | false =>
            go_wp2_with (go_at_call 49; refine HC.out.mono ?_; rintro e w' ⟨N, rfl, hN, hbl, hw'⟩; have HB := hide hw'; clear hw' hN hbl)
            go_ret
            exact ⟨by rw [HW.out]; rfl, HB.out⟩
end Go.Proofs.YtadhlnlcdljamaaGreatDoor.V
