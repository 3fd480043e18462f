/-
  Contract: text.scan.
-/
import Derived.Test.YtadhlnlcdljamaaGreatDoorTxAny
import Derived.Lib.ConvBytes
namespace Go.Proofs.YtadhlnlcdljamaaGreatDoor.V
set_option maxRecDepth 20000
open Go.RowKit

theorem tokInfo : (Tryz.prog.info? 34).map (fun i => (i.zero, i.size, i.bytes)) = some (some (.agg #[.string ByteArray.empty, .int .i64 0]), 2, 24) := by kernel_rfl

/-- The bytes of a stretch. -/
def part (xs : List Int) (k e : Nat) : List Int := (xs.drop k).take (e - k)
theorem part_length {xs : List Int} {k e : Nat} (h1 : k ≤ e) (h2 : e ≤ xs.length) : (part xs k e).length = e - k := by
  unfold part
  rw [List.length_take, List.length_drop]
  omega
theorem part_at {xs : List Int} {k e : Nat} (i : Nat) (hi : i < e - k) : (part xs k e)[i]?.getD 0 = xs[k + i]?.getD 0 := by
  unfold part
  rw [List.getElem?_take_of_lt hi, List.getElem?_drop]

/-- What a scan from k on gives: the error and its place, and the tokens. -/
def scanN (xs : List Int) (k : Nat) (ts : List (List Int × Nat)) : (Int × Nat) × List (List Int × Nat) :=
  if _h : k < xs.length then
    if (pieceR xs k).1 = 0 then
      scanN xs (pieceR xs k).2.1 (if (pieceR xs k).2.2 = true then ts ++ [(part xs k (pieceR xs k).2.1, k)] else ts)
    else (((pieceR xs k).1, k), ts)
  else ((0, 0), ts)
termination_by xs.length - k
decreasing_by have := pieceR_end _h; omega

theorem scanN_end {xs : List Int} {k : Nat} (h : ¬ k < xs.length) (ts : List (List Int × Nat)) : scanN xs k ts = ((0, 0), ts) := by
  rw [scanN, dif_neg h]
theorem scanN_bad {xs : List Int} {k : Nat} (h : k < xs.length) (h0 : ¬ (pieceR xs k).1 = 0) (ts : List (List Int × Nat)) : scanN xs k ts = (((pieceR xs k).1, k), ts) := by
  rw [scanN, dif_pos h, if_neg h0]
theorem scanN_tok {xs : List Int} {k : Nat} (h : k < xs.length) (h0 : (pieceR xs k).1 = 0) (h1 : (pieceR xs k).2.2 = true) (ts : List (List Int × Nat)) : scanN xs k ts = scanN xs (pieceR xs k).2.1 (ts ++ [(part xs k (pieceR xs k).2.1, k)]) := by
  rw [scanN, dif_pos h, if_pos h0, if_pos h1]
theorem scanN_none {xs : List Int} {k : Nat} (h : k < xs.length) (h0 : (pieceR xs k).1 = 0) (h1 : (pieceR xs k).2.2 = false) (ts : List (List Int × Nat)) : scanN xs k ts = scanN xs (pieceR xs k).2.1 ts := by
  rw [scanN, dif_pos h, if_pos h0, if_neg (by rw [h1]; exact Bool.false_ne_true)]

def tokRow (ts : List (List Int × Nat)) : List Value := ts.flatMap fun t => [.string (strOfNums t.1), .int .i64 (t.2 : Int)]
theorem tokRow_snoc (ts : List (List Int × Nat)) (p : List Int) (k : Nat) : tokRow (ts ++ [(p, k)]) = tokRow ts ++ [.string (strOfNums p), .int .i64 (k : Int)] := by
  simp [tokRow]

theorem BytesAt.below {w w' : World} {g n B : Nat} {xs : List Int} (h : BytesAt w g n xs) (hB : Below B w w') (hg : g < B) : BytesAt w' g n xs :=
  ⟨h.1, h.2.1, h.2.2.1, fun j hj => (hB.cell hg).trans (h.2.2.2 j hj)⟩
theorem own_below2 {w w' : World} {B : Nat} {t : TypeId} {n : Nat} {v : Value} {xs : List Value} (h : w.ownsRow B t 2 v n xs) (hb : Below w.heap.size w w') : w'.ownsRow B t 2 v n xs := by
  refine ⟨h.1, ?_⟩
  rcases h.2 with h2 | ⟨g, cap, cur, h1, h2, h3, h4⟩
  · exact .inl h2
  · exact .inr ⟨g, cap, cur, h1, h2, (hb.block g (Array.getElem?_eq_some_iff.1 h3).1).trans h3, h4⟩

/-- What scan ends with. -/
def ScanP (s : ByteArray) (w : World) (e : Ending) (w' : World) : Prop :=
  Below w.heap.size w w' ∧
  (if 65536 < s.size then e = thrown 5 0
   else if (scanN (xsOf s) 0 []).1.1 = 0 then ∃ v, e = .returned v ∧ w'.ownsRow (w.heap.size + 1) 34 2 v (scanN (xsOf s) 0 []).2.length (tokRow (scanN (xsOf s) 0 []).2)
   else e = thrown (scanN (xsOf s) 0 []).1.1 (scanN (xsOf s) 0 []).1.2)

set_option maxRecDepth 100000 in
set_option maxHeartbeats 2000000 in
theorem scan_much (s : ByteArray) (w : World) (hs : 65536 < s.size) (hmax : s.size ≤ 9223372036854775807) : Calls Tryz.prog 9 #[.string s] w (ScanP s w) := by
  unfold ScanP
  simp only [if_pos hs]
  go_enter Tryz.func9, Tryz.ntmps9
  go_wp2
  exact ⟨rfl, Below.refl _ _, rfl⟩

set_option maxRecDepth 100000 in
set_option maxHeartbeats 4000000 in
theorem scan_some (s : ByteArray) (w : World) (hs : s.size ≤ 65536) (hE : ErrAt w) (h2 : 2 < w.heap.size) : Calls Tryz.prog 9 #[.string s] w (ScanP s w) := by
  have HP : Hid (∀ e w', Below w.heap.size w w' → (if (scanN (xsOf s) 0 []).1.1 = 0 then ∃ v, e = .returned v ∧ w'.ownsRow (w.heap.size + 1) 34 2 v (scanN (xsOf s) 0 []).2.length (tokRow (scanN (xsOf s) 0 []).2) else e = thrown (scanN (xsOf s) 0 []).1.1 (scanN (xsOf s) 0 []).1.2) → ScanP s w e w') := by
    intro e w' hB h
    refine ⟨hB, ?_⟩
    rw [if_neg (by omega)]
    exact h
  have hcv := Lib.run_convert_string_bytes (P := Tryz.prog) w 9 56 5 s Tryz.underlying9 Tryz.underlying56 Tryz.underlying5
  have hcap := grownCap_ge w s.size 0 5
  obtain ⟨cap, hcp⟩ : ∃ c, c = grownCap w s.size 0 5 := ⟨_, rfl⟩
  rw [← hcp] at hcv hcap
  have hb : BytesAt (Lib.bytesWorld w 5 s) w.heap.size s.size (xsOf s) := by
    refine ⟨xsOf_length s, by omega, xsOf_bd s, fun j hj => ?_⟩
    rw [Lib.bytesWorld_cell w _ s j hj, xsOf_at s j hj]
    simp [List.getD, hj]
    rfl
  have hB0 := Lib.bytesWorld_below w 5 s
  have hz := Lib.bytesWorld_size w 5 s
  obtain ⟨W, hW⟩ : ∃ W, W = Lib.bytesWorld w 5 s := ⟨_, rfl⟩
  rw [← hW] at hcv hb hB0 hz
  have HBY := hide hb
  have HB0 := hide hB0
  have HZ := hide hz
  have HE := hide hE
  have H2 := hide h2
  have HCAP := hide hcap
  have hl := xsOf_length s
  obtain ⟨xs, hxs⟩ : ∃ xs, xs = xsOf s := ⟨_, rfl⟩
  rw [← hxs] at HBY HP hl
  obtain ⟨n, hn⟩ : ∃ n, n = s.size := ⟨_, rfl⟩
  have hsz : s.size = n := hn.symm
  rw [hsz] at HBY hl HCAP hcv
  have hnm : n ≤ 65536 := by omega
  have HL := hide hl
  have HN := hide hnm
  obtain ⟨i0, hi, hz0, hz1, hz2⟩ := info_parts tokInfo
  have HI := hide hi
  have HI0 := hide hz0
  have HI1 := hide hz1
  have HI2 := hide hz2
  clear hb hB0 hz hE h2 hcap hl hcp hW hxs hi hz0 hz1 hz2 hn hs
  have hns : ¬ (65536 : Int) < (n : Int) := by omega
  go_enter Tryz.func9, Tryz.ntmps9
  go_wp2
  go_loopw [3, 5] (fun v i wr => ∃ (k : Nat) (ts : List (List Int × Nat)), i = .int .i64 k ∧ k ≤ n ∧ ts.length ≤ k ∧ scanN xs 0 [] = scanN xs k ts ∧ wr.ownsRow (w.heap.size + 1) 34 2 v ts.length (tokRow ts) ∧ Below (w.heap.size + 1) W wr) (fun _ i _ => n - (intOf i).toNat)
  case atStart => exact ⟨0, [], rfl, by omega, Nat.le_refl _, rfl, World.ownsRow_nil _ _ _ _, Below.refl _ _⟩
  case round =>
    obtain ⟨k, ts, rfl, hk, htl, hsc, how, hBr⟩ := hrel
    have HOW := hide how
    have HBR := hide hBr
    have HSC := hide hsc
    have HTL := hide htl
    have hWr : W.heap.size ≤ wr.heap.size := hBr.size
    have HWR := hide hWr
    clear how hBr hsc htl hWr
    have HBW := hide (HB0.out.trans (HBR.out.mono (Nat.le_succ _)))
    by_cases hlt : k < n
    · have hlx : k < xs.length := by have := HL.out; omega
      have HLX := hide hlx
      have HEND := hide (pieceR_end hlx)
      have HPC := hide (piece_any w.heap.size n cap k xs wr (HBY.out.below HBR.out (by omega)) hlt HCAP.out HN.out (HE.out.below HBW.out H2.out))
      clear hlx
      by_cases h0 : (pieceR xs k).1 = 0
      · have hpe : pieceE xs k = .returned (.tuple #[.int .i64 (((pieceR xs k).2.1 : Nat) : Int), .bool (pieceR xs k).2.2]) := if_pos h0
        rw [hpe] at HPC
        have HE0 := hide h0
        clear hpe h0
        obtain ⟨E, hEe⟩ : ∃ E, E = (pieceR xs k).2.1 := ⟨_, rfl⟩
        have hE1 : k < E := by rw [hEe]; exact HEND.out.1
        have hE2 : E ≤ n := by rw [hEe, ← HL.out]; exact HEND.out.2
        by_cases hy : (pieceR xs k).2.2 = true
        · have HSN := hide (scanN_tok HLX.out HE0.out hy ts)
          rw [hy] at HPC
          rw [← hEe] at HPC HSN
          have HWL := hide (part_length (xs := xs) (k := k) (e := E) (by omega) (by have := HL.out; omega))
          have hcb : Hid (∀ w1, Below wr.heap.size wr w1 → (convert 56 9 (.slice (some ⟨w.heap.size, k, none⟩) (E - k) (cap - k))).run Tryz.prog w1 = .ok (.string (strOfNums (part xs k E))) w1) := by
            intro w1 hb1
            have hb2 := (HBY.out.below HBR.out (by omega)).below hb1 (by have := HWR.out; have := HZ.out; omega)
            refine run_convert_bytes_arg (P := Tryz.prog) w1 56 5 Tryz.underlying56 Tryz.underlying5 w.heap.size k (E - k) (cap - k) (part xs k E) HWL.out (fun i hi => ?_) 9 Tryz.underlying9
            have h5 := hb2.2.2.2 (k + i) (by omega)
            have h6 := part_at (xs := xs) (k := k) (e := E) i hi
            rw [h5, ← h6]; rfl
          obtain ⟨pt, hpt⟩ : ∃ pt, pt = part xs k E := ⟨_, rfl⟩
          rw [← hpt] at HSN hcb HWL
          have i1 : (0 : Int) ≤ (k : Int) := Int.natCast_nonneg _
          have i3 : (0 : Int) ≤ (E : Int) := Int.natCast_nonneg _
          have i4 : (k : Int) ≤ (E : Int) := by omega
          have i5 : (E : Int) ≤ (cap : Int) := by have := HCAP.out; omega
          have i6 : ¬ cap = k := by have := HCAP.out; omega
          have i7 : (E : Int).toNat - k = E - k := by omega
          clear hEe hy hpt
          go_wp2_with (first
            | (go_at_call 16; refine HPC.out.mono ?_; rintro e w1 ⟨rfl, hb1⟩; have hcv := hcb.out _ hb1; have HO1 := hide (own_below2 HOW.out hb1); have HB1 := hide hb1; clear hb1)
            | (at_builtin; refine wpList_append_own _ rfl _ _ 31 rfl (w.heap.size + 1) 34 i0 _ 2 24 Tryz.underlying31 HI.out HI0.out HI1.out HI2.out rfl (by decide) _ _ _ rfl (HO1.out.alloc _) ⟨w1.heap.size, 0, none⟩ 1 1 [.string (strOfNums pt), .int .i64 (k : Int)] rfl rfl ?c1 ?c2 ?c3 ?c4 ?c5 ?_))
          case c1 =>
            intro j u hj
            match j, hj with
            | 0, hj => simp at hj; subst hj; simp [Addr.add]
            | 1, hj => simp at hj; subst hj; simp [Addr.add]
          case c2 => intro u hu; simp at hu; rcases hu with rfl | rfl <;> rfl
          case c3 => have := HTL.out; have := HN.out; unfold maxLen; omega
          case c4 => have := HTL.out; have := HN.out; omega
          case c5 => have := HB1.out.size; have := HWR.out; have := HZ.out; simp; omega
          intro v' w2 hown' hgrow _
          have HG := hide hgrow
          have HO2 := hide hown'
          clear hown' hgrow
          go_wp2
          go_roundw
          case rel =>
            have a1 := HB1.out.size
            have a2 := HWR.out
            have a3 := HZ.out
            refine ⟨E, ts ++ [(pt, k)], rfl, hE2, ?_, HSC.out.trans HSN.out, ?_, ?_⟩
            · have := HTL.out; rw [List.length_append]; show ts.length + 1 ≤ E; omega
            · rw [tokRow_snoc, List.length_append]; exact HO2.out
            · exact ((HBR.out.trans (HB1.out.mono (by omega))).alloc (by omega) _).grown HG.out (by simp; omega) (fun i e => (HO1.out.lt i e).1)
          case measure => simp [intOf]; omega
        · have hy' : (pieceR xs k).2.2 = false := Bool.eq_false_iff.2 hy
          have HSN := hide (scanN_none HLX.out HE0.out hy' ts)
          rw [hy'] at HPC
          rw [← hEe] at HPC HSN
          clear hEe hy hy'
          go_wp2_with (first
            | (go_at_call 16; refine HPC.out.mono ?_; rintro e w1 ⟨rfl, hb1⟩; have HO1 := hide (own_below2 HOW.out hb1); have HB1 := hide hb1; clear hb1))
          go_roundw
          case rel =>
            have a1 := HB1.out.size
            have a2 := HWR.out
            have a3 := HZ.out
            refine ⟨E, ts, rfl, hE2, ?_, HSC.out.trans HSN.out, HO1.out, ?_⟩
            · have := HTL.out; omega
            · exact HBR.out.trans (HB1.out.mono (by omega))
          case measure => simp [intOf]; omega
      · have hpe : pieceE xs k = thrown (pieceR xs k).1 k := if_neg h0
        rw [hpe] at HPC
        have HSN := hide (HSC.out.trans (scanN_bad HLX.out h0 ts))
        have HN0 := hide h0
        clear hpe h0
        obtain ⟨T, hT⟩ : ∃ T, T = (pieceR xs k).1 := ⟨_, rfl⟩
        rw [← hT] at HPC HSN HN0
        unfold thrown at HPC
        clear hT
        go_wp2_with (first
          | (go_at_call 16; refine HPC.out.mono ?_; rintro e w1 ⟨rfl, hb1⟩; have HB1 := hide hb1; clear hb1))
        exact ⟨rfl, HP.out _ _ (HBW.out.trans (HB1.out.mono HBW.out.size)) (by rw [HSN.out, if_neg HN0.out]; rfl)⟩
    · have hkn : k = n := by omega
      have HSN := hide (HSC.out.trans (scanN_end (by rw [HL.out]; omega) ts))
      go_wp2
      refine bodyPost_ret (results_tmp rfl _ _ _) rfl (HP.out _ _ HBW.out ?_)
      rw [HSN.out, if_pos rfl]
      exact ⟨_, rfl, HOW.out⟩
end Go.Proofs.YtadhlnlcdljamaaGreatDoor.V
