/-
  The reader: take, name, number.
-/
import Derived.Test.YtadhlnlcdljamaaGreatDoorTxRd
namespace Go.Proofs.YtadhlnlcdljamaaGreatDoor.V
set_option maxRecDepth 20000
open Go.RowKit

def takeS (X : Tks) (p : ByteArray → Bool) (i : Nat) : Res ByteArray := if p (X.tx i) = true then .ok (X.tx i) (i + 1) else .bad 7 (X.ps i)
def repS (_ : World) (s : ByteArray) (v : Value) : Prop := v = .string s
def repI (_ : World) (n : Int) (v : Value) : Prop := v = .int .i64 n
theorem takeS_name (X : Tks) (i : Nat) : takeS X isNameB i = nameS X i := rfl

set_option maxHeartbeats 1000000 in
theorem tTake {X : Tks} {R G c : Nat} {w : World} {i : Nat} (h : RdAt X R G c w i) (p : ByteArray → Bool) (f : FuncId) (hcf : ∀ (args : Array Value) (w : World), (callFunc f args).run Tryz.prog w = .ok (.enter f args) w)
    (hcall : ∀ (W : World), Calls Tryz.prog f #[.string (X.tx i)] W fun e W' => e = .returned (.bool (p (X.tx i))) ∧ W' = W) (hp : p (X.tx i) = true → i < X.ts.length) :
    Calls Tryz.prog 53 #[.pointer (some ⟨R, 0, none⟩), .func (Fn.func f) #[] #[]] w (Parsed X R G c repS (takeS X p i) w) := by
  unfold Parsed takeS
  have HN := hide (tNext h)
  have HR := hide h
  have HC := hide hcall
  have hf0 := field_text
  have hm := h.len
  clear h hcall
  cases hb : p (X.tx i) with
  | true =>
    rw [if_pos rfl]
    rw [hb] at HC
    have hl := hp hb
    clear hp hb
    go_enter Tryz.func53, Tryz.ntmps53
    go_wp2_with (first
      | (go_at_call 64; refine HN.out.mono ?_; rintro e w1 ⟨rfl, hb⟩; have HB := hide hb; have HR1 := hide (HR.out.below hb); obtain ⟨⟨r0, r1⟩, fr0, fr1⟩ := (HR.out.below hb).two.cells; clear hb)
      | (refine (HC.out _).mono ?_; rintro e w2 ⟨rfl, hw'⟩; obtain rfl := hw'.symm))
    go_ret
    exact ⟨(HB.out.by _).then' (set_out _ _ _ _), by have := HR1.out.put (i + 1) (by omega); simpa using this, _, rfl, rfl⟩
  | false =>
    rw [if_neg (by simp)]
    rw [hb] at HC
    clear hp hb
    unfold thrown faultV
    go_enter Tryz.func53, Tryz.ntmps53
    go_wp2_with (first
      | (go_at_call 64; refine HN.out.mono ?_; rintro e w1 ⟨rfl, hb⟩; have HB := hide hb; have HR1 := hide (HR.out.below hb); clear hb)
      | (go_at_call 52; refine (tBad HR1.out 7).mono ?_; unfold thrown faultV; rintro e w2 ⟨rfl, hb2⟩; have HB2 := hide hb2; clear hb2)
      | (refine (HC.out _).mono ?_; rintro e w2 ⟨rfl, hw'⟩; obtain rfl := hw'.symm))
    exact ⟨rfl, (HB.out.by _).then' (HB2.out.by _), rfl⟩

theorem isNameB_lt {X : Tks} {i : Nat} (h : isNameB (X.tx i) = true) : i < X.ts.length := by
  by_cases c : i < X.ts.length
  · exact c
  · rw [Tks.tx_end (by omega)] at h
    unfold isNameB at h
    simp at h
theorem isNumB_lt {X : Tks} {i : Nat} (h : isNumB (X.tx i) = true) : i < X.ts.length := by
  by_cases c : i < X.ts.length
  · exact c
  · rw [Tks.tx_end (by omega)] at h
    unfold isNumB at h
    simp at h

/-- The tokens are no longer than a text may be, and those that begin with a digit are numbers. -/
structure Tks.Ok (X : Tks) : Prop where
  small : ∀ i, (X.tx i).size ≤ 65536
  num : ∀ i, isNumB (X.tx i) = true → (xsOf (X.tx i)).all digitI = true ∧ numVal (xsOf (X.tx i)) ≤ 9223372036854775807

set_option maxHeartbeats 1000000 in
theorem tName {X : Tks} {R G c : Nat} {w : World} {i : Nat} (ok : X.Ok) (h : RdAt X R G c w i) : Calls Tryz.prog 39 #[.pointer (some ⟨R, 0, none⟩)] w (Parsed X R G c repS (nameS X i) w) := by
  have HT := hide (tTake h isNameB 54 (enters Tryz.func54 (by kernel_rfl) (by kernel_rfl)) (fun W => tIsName _ W (ok.small i)) isNameB_lt)
  rw [takeS_name] at HT
  clear h
  unfold Parsed at *
  obtain ⟨r, hr⟩ : ∃ r, r = nameS X i := ⟨_, rfl⟩
  rw [← hr] at HT ⊢
  clear hr
  cases r with
  | bad T k =>
    unfold thrown faultV at *
    go_enter Tryz.func39, Tryz.ntmps39
    go_wp2_with (go_at_call 53; refine HT.out.mono ?_; rintro e w1 ⟨hg, rfl⟩; have HG := hide hg; clear hg)
    exact ⟨rfl, HG.out, rfl⟩
  | ok a j =>
    go_enter Tryz.func39, Tryz.ntmps39
    go_wp2_with (go_at_call 53; refine HT.out.mono ?_; rintro e w1 ⟨hg, hr, v, rfl, rfl⟩; have HG := hide hg; have HR1 := hide hr; clear hg hr)
    go_ret
    exact ⟨HG.out, HR1.out, _, rfl, rfl⟩

set_option maxRecDepth 100000 in
set_option maxHeartbeats 1000000 in
theorem tNum {X : Tks} {R G c : Nat} {w : World} {i : Nat} (ok : X.Ok) (h : RdAt X R G c w i) : Calls Tryz.prog 57 #[.pointer (some ⟨R, 0, none⟩)] w (Parsed X R G c repI (numS X i) w) := by
  have HT := hide (tTake h isNumB 66 (enters Tryz.func66 (by kernel_rfl) (by kernel_rfl)) (fun W => tNumber _ W) isNumB_lt)
  clear h
  unfold Parsed takeS numS at *
  cases hb : isNumB (X.tx i) with
  | false =>
    rw [if_neg (by simp)]
    rw [if_neg (by rw [hb]; simp)] at HT
    unfold thrown faultV at *
    go_enter Tryz.func57, Tryz.ntmps57
    go_wp2_with (go_at_call 53; refine HT.out.mono ?_; rintro e w1 ⟨hg, rfl⟩; have HG := hide hg; clear hg)
    exact ⟨rfl, HG.out, rfl⟩
  | true =>
    rw [if_pos rfl]
    rw [if_pos hb] at HT
    obtain ⟨h1, h2⟩ := ok.num i hb
    have hz := ok.small i
    have hne : (X.tx i).data.toList ≠ [] := by
      intro e
      have : (xsOf (X.tx i)) = [] := by rw [xsOf, e]; rfl
      unfold isNumB at hb
      rw [this] at hb
      simp [digitI] at hb
    have hp := parse_digits (X.tx i).data.toList hne h1
    have h2' : numVal (bytesI (X.tx i).data.toList) ≤ 9223372036854775807 := h2
    rw [if_pos h2'] at hp
    have HC := hide (Tryz.strconv_ParseInt_10_at64_ok (X.tx i) (by omega) _ hp)
    obtain ⟨V, hV⟩ : ∃ V, V = numVal (xsOf (X.tx i)) := ⟨_, rfl⟩
    have hV' : numVal (bytesI (X.tx i).data.toList) = V := hV.symm
    rw [hV'] at HC
    rw [← hV]
    clear hp h1 h2 h2' hb hV hV' hne
    go_enter Tryz.func57, Tryz.ntmps57
    go_wp2_with (first
      | (go_at_call 53; refine HT.out.mono ?_; rintro e w1 ⟨hg, hr, v, rfl, rfl⟩; have HG := hide hg; have HR1 := hide hr; clear hg hr)
      | (go_at_call 49; refine (HC.out _).mono ?_; rintro e w2 ⟨rfl, hw'⟩; have HB := hide (bytes_below hw'); clear hw'))
    go_ret
    exact ⟨HG.out.then' (HB.out.by _), HR1.out.below HB.out, _, rfl, rfl⟩
end Go.Proofs.YtadhlnlcdljamaaGreatDoor.V
