/-
  Contract: view.Reads, whatever it is asked. Contracts: adjointref1.Next and All, with what their lists' capacities are (RNext, RAll, RReads say nothing of them).
-/
import Derived.Test.YteoobeldmicjhaaGreatPCKArrayCuts15
namespace Go.Proofs.YteoobeldmicjhaaGreat.V
set_option maxRecDepth 20000
open Go.RowKit Go.Shelf
attribute [local go_sem] Oper.semAt_some

set_option maxHeartbeats 1000000 in
theorem reads_wrong (s : Int) (da : Option Addr) (dl dc : Nat) (ds : List Int) (sa : Option Addr) (sl sc : Nat) (ss : List Int) (w : World) (hd : Ints w da dl ds) (hs : Ints w sa sl ss) (hW : wrongE s ds ss ≠ 0) :
    CallsIn FW 8 Tryz.prog 70 #[.agg #[.int .i64 s, .slice da dl dc, .slice sa sl sc]] w fun e w' => e = .returned (.tuple #[.slice none 0 0, .int .i64 (wrongE s ds ss)]) ∧ Below w.heap.size w w' := by
  have HD := hide hd
  have HS := hide hs
  have hro : FW.round = none := rfl
  have c1 : (wrongE s ds ss != 0) = true := by simp [hW]
  clear hd hs hW
  have hb1 : Below w.heap.size w (w.alloc (.cells #[.int .i64 s, .slice da dl dc, .slice sa sl sc] 68)) := (Below.refl _ _).alloc (Nat.le_refl _) _
  have HB1 := hide hb1
  clear hb1
  refine callsIn_of_wp Tryz.func70 rfl trivial ?_ hro
  simp only [Tryz.ntmps70, List.size_toArray, List.length_cons, List.length_nil, Nat.reduceAdd, Nat.reduceSub, Array.replicate_succ, Array.replicate_zero, List.push_toArray, List.append_toArray, List.nil_append, List.cons_append]
  gi_wp2_with (refine ⟨trivial, ?_⟩; gi_at_call 99; refine (callsIn_wide.2 (wrong_any _ _ _ _ ds _ _ _ ss _ (HD.out.below HB1.out) (HS.out.below HB1.out))).mono ?_; rintro e w1 ⟨rfl, hb⟩; have HB := hide (Below.on HB1.out hb); clear hb)
  go_ret2
  exact ⟨rfl, HB.out⟩

set_option maxHeartbeats 1000000 in
theorem reads_none (s : Int) (da : Option Addr) (dl dc : Nat) (ds : List Int) (sa : Option Addr) (sl sc : Nat) (ss : List Int) (w : World) (hd : Ints w da dl ds) (hs : Ints w sa sl ss) (hW : wrongE s ds ss = 0) (hN : sizeN ds = 0) :
    CallsIn FW 8 Tryz.prog 70 #[.agg #[.int .i64 s, .slice da dl dc, .slice sa sl sc]] w fun e w' => e = .returned (.tuple #[.slice none 0 0, .int .i64 0]) ∧ Below w.heap.size w w' := by
  have HD := hide hd
  have HS := hide hs
  have HW := hide hW
  have HN := hide hN
  have hro : FW.round = none := rfl
  clear hd hs hW hN
  have hb1 : Below w.heap.size w (w.alloc (.cells #[.int .i64 s, .slice da dl dc, .slice sa sl sc] 68)) := (Below.refl _ _).alloc (Nat.le_refl _) _
  have HB1 := hide hb1
  clear hb1
  refine callsIn_of_wp Tryz.func70 rfl trivial ?_ hro
  simp only [Tryz.ntmps70, List.size_toArray, List.length_cons, List.length_nil, Nat.reduceAdd, Nat.reduceSub, Array.replicate_succ, Array.replicate_zero, List.push_toArray, List.append_toArray, List.nil_append, List.cons_append]
  gi_wp2_with (first
    | (refine ⟨trivial, ?_⟩; gi_at_call 99; refine (callsIn_wide.2 (wrong_any _ _ _ _ ds _ _ _ ss _ (HD.out.below HB1.out) (HS.out.below HB1.out))).mono ?_; rintro e w1 ⟨rfl, hb⟩; rw [HW.out]; have HB := hide (Below.on HB1.out hb); have HV1 := hide ((ViewAt.new w (.int .i64 s) (.slice da dl dc) (.slice sa sl sc)).below hb); obtain ⟨⟨v0, v1, v2⟩, _⟩ := HV1.out.cells; have hlt1 := HV1.out.lt; clear hb)
    | (refine ⟨trivial, ?_⟩; gi_at_call 40; refine (callsIn_wide.2 (size_any _ _ _ ds _ (HD.out.below HB.out))).mono ?_; rintro e w' ⟨rfl, hw'⟩; obtain rfl := hw'.symm; rw [HN.out]))
  go_ret2
  exact ⟨rfl, HB.out⟩

theorem reads_any (s : Int) (da : Option Addr) (dl dc : Nat) (ds : List Int) (sa : Option Addr) (sl sc : Nat) (ss : List Int) (w : World) (hd : Ints w da dl ds) (hs : Ints w sa sl ss) :
    Calls Tryz.prog 70 #[.agg #[.int .i64 s, .slice da dl dc, .slice sa sl sc]] w fun e w' => TellsL w e w' (okL (wrongE s ds ss) (readsV s ds ss)) (wrongE s ds ss) ∧ Below w.heap.size w w' := by
  refine (callsIn_wide (n := 8)).1 ?_
  by_cases hW : wrongE s ds ss = 0
  · simp only [hW, okL]
    rcases dims_cases (wrongE_ok hW).1 with ⟨_, h1, h2⟩ | ⟨h1, _⟩
    · refine (reads_none s da dl dc ds sa sl sc ss w hd hs hW h1).mono ?_
      rintro e w' ⟨rfl, hb⟩
      have e : readsV s ds ss = [] := by simp [readsV, h2]
      rw [e]
      exact ⟨tells_none _ _ _, hb⟩
    · exact reads_ok s da dl dc ds sa sl sc ss w hd hs hW h1
  · simp only [okL, if_neg hW]
    refine (reads_wrong s da dl dc ds sa sl sc ss w hd hs hW).mono ?_
    rintro e w' ⟨rfl, hb⟩
    exact ⟨tells_none _ _ _, hb⟩
end Go.Proofs.YteoobeldmicjhaaGreat.V
namespace Go.Proofs.YteoobeldmicjhaaGreat.V
set_option maxRecDepth 20000
open Go.RowKit

/-- A slice value's begin, and n: a list of n lists of len numbers each. -/
def ListsC (w : World) (B : Nat) (A : Option Addr) (n len : Nat) (f : Nat → List Int) : Prop :=
  n = 0 ∨ ∃ b, A = some ⟨b, 0, none⟩ ∧ B ≤ b ∧ ∀ i, i < n → ∃ g c, B ≤ g ∧ w.cell? ⟨b, i, none⟩ = some (.slice (some ⟨g, 0, none⟩) len c) ∧ Ints w (some ⟨g, 0, none⟩) len (f i) ∧ len ≤ c
theorem ListsC.below {w w' : World} {B : Nat} {A : Option Addr} {n len : Nat} {f : Nat → List Int} (h : ListsC w B A n len f) (hb : Below w.heap.size w w') : ListsC w' B A n len f := by
  rcases h with h | ⟨b, ha, hB, hc⟩
  · exact .inl h
  · refine .inr ⟨b, ha, hB, fun i hi => ?_⟩
    obtain ⟨g, c, h0, h1, h2, h3⟩ := hc i hi
    exact ⟨g, c, h0, (hb.cell (p := ⟨b, i, none⟩) (lt_of_cell h1)).trans h1, h2.below hb, h3⟩

/-- The values of a row of lists. -/
def ValsC (w : World) (B n len : Nat) (f : Nat → List Int) (vs : List Value) : Prop :=
  vs.length = n ∧ ∀ i, i < n → ∃ g c, B ≤ g ∧ vs[i]? = some (.slice (some ⟨g, 0, none⟩) len c) ∧ Ints w (some ⟨g, 0, none⟩) len (f i) ∧ len ≤ c


set_option maxRecDepth 100000 in
set_option maxHeartbeats 4000000 in
theorem rnext_cap (a : Option Addr) (len cap : Nat) (xs : List Int) (gb cap' : Nat) (ys : List Int) (w : World) (h : Ints w a len xs) (h' : Ints w (some ⟨gb, 0, none⟩) len ys) (h6 : len ≤ 6) (hy : ∀ j, j < len → 0 ≤ ys[j]?.getD 0 ∧ ys[j]?.getD 0 ≤ 4096) :
    Calls Tryz.prog 29 #[.slice a len cap, .slice (some ⟨gb, 0, none⟩) len cap'] w fun e w' => (∃ g c : Nat, e = .returned (.tuple #[.slice (some ⟨g, 0, none⟩) len c, .bool (nextL xs ys).2]) ∧ Ints w' (some ⟨g, 0, none⟩) len (nextL xs ys).1 ∧ w.heap.size ≤ g ∧ g < w'.heap.size ∧ len ≤ c) ∧ Below w.heap.size w w' := by
  have H := hide h
  have H' := hide h'
  have HL := hide h.1
  have HL' := hide h'.1
  have HY := hide hy
  clear h h' hy
  obtain ⟨i0, hi, hz0, hz1, hz2⟩ := info_parts info_int
  have HI := hide hi
  have HZ0 := hide hz0
  have HZ1 := hide hz1
  have HZ2 := hide hz2
  clear hi hz0 hz1 hz2
  have hb1 : Below w.heap.size w (w.alloc (.cells #[] 3)) := (Below.refl _ _).alloc (Nat.le_refl _) _
  have HB1 := hide hb1
  clear hb1
  go_enter Tryz.func29, Tryz.ntmps29
  go_wp2_with (at_builtin; refine wpList_append_own _ rfl _ _ 22 rfl w.heap.size 3 i0 (.int .i64 0) 1 8 Tryz.underlying22 HI.out HZ0.out HZ1.out HZ2.out rfl (by decide) _ _ _ rfl (World.ownsRow_made w #[] 0 (Nat.le_refl _) (Nat.zero_le _) rfl) ⟨gb, 0, none⟩ len cap' (ys.map (Value.int .i64)) rfl ?l1 ?l2 ?l3 ?l4 ?l5 ?l6 ?_)
  case l1 => simp [HL'.out]
  case l2 =>
    intro j u hj
    have hjl : j < len := by have := (List.getElem?_eq_some_iff.1 hj).1; simpa [HL'.out] using this
    obtain ⟨b, off, e, hb, hc⟩ := H'.out.at (by omega)
    cases e
    have h3 : u = .int .i64 (ys[j]?.getD 0) := by
      have : j < ys.length := by rw [HL'.out]; exact hjl
      simp [this] at hj ⊢
      exact hj.symm
    rw [h3, Go.WideShapes.add_plain]
    exact (HB1.out.cell (p := ⟨gb, 0 + j, none⟩) hb).trans (hc j hjl)
  case l3 => intro u hu; simp at hu; obtain ⟨x, _, rfl⟩ := hu; rfl
  case l4 => unfold maxLen; omega
  case l5 => omega
  case l6 => simp
  intro v' w1 hown hgrow hnn
  obtain ⟨g, c, rfl⟩ : ∃ g c, v' = .slice (some ⟨g, 0, none⟩) len c := by
    rcases hown.2 with ⟨e1, e2⟩ | ⟨g, cc, cur, e, _⟩
    · exact (hnn e1).elim
    · exact ⟨g, cc, e⟩
  obtain ⟨f, hrow, hf, hnc, hBg⟩ := row_of_own hown HL'.out
  have hB1 : Below w.heap.size w w1 := by
    refine HB1.out.grown hgrow (by simp) (fun j e => ?_)
    simp [Value.ownBlock] at e
    omega
  have HB := hide hB1
  have HR := hide hrow
  have HF := hide hf
  clear hown hgrow hnn hB1 hrow hf
  go_wp2_with fail
  go_loopw [7] (fun i wr => ∃ (k : Nat) (m : Int) (f : Nat → Value), k ≤ len ∧ m + 1 = k ∧ i = .int .i64 m ∧ wr.rowIs g 3 c f ∧ (∀ j, j < len → f j = .int .i64 (nextAt ys k j)) ∧ (nextL (xs.drop k) (ys.drop k)).2 = false ∧ Below w.heap.size w wr) (fun i _ => (intOf i + 1).toNat)
  case atStart =>
    refine ⟨len, len - 1, f, Nat.le_refl _, by omega, rfl, HR.out, fun j hj => by rw [HF.out j hj, nextAt, if_pos hj], ?_, HB.out⟩
    rw [List.drop_eq_nil_of_le (by rw [HL.out]; omega), List.drop_eq_nil_of_le (by rw [HL'.out]; omega)]; rfl
  case round =>
    clear HR HF HB
    obtain ⟨k, m, f, hk, hm, rfl, hrow, hf, hst, hB⟩ := hrel
    have HB := hide hB
    have HR := hide hrow
    have HF := hide hf
    have HST := hide hst
    clear hB hrow hf hst
    by_cases hlt : 0 < k
    · obtain ⟨k', rfl⟩ : ∃ k', k = k' + 1 := ⟨k - 1, by omega⟩
      obtain rfl : m = (k' : Int) := by omega
      have hk' : k' < len := by omega
      obtain ⟨b, off, rfl, hb, hcc⟩ := H.out.at (by omega)
      obtain ⟨Y, hY⟩ : ∃ Y, Y = ys[k']?.getD 0 := ⟨_, rfl⟩
      obtain ⟨X, hX⟩ : ∃ X, X = xs[k']?.getD 0 := ⟨_, rfl⟩
      have hyb := HY.out k' hk'
      rw [← hY] at hyb
      have cr : wr.cell? ⟨g, k', none⟩ = some (.int .i64 Y) := by
        have := HR.out.cell (i := k') (by omega)
        rw [HF.out k' hk', nextAt, if_pos (by omega), ← hY] at this
        exact this
      have fr := HR.out.frozen k'
      have cx : wr.cell? ⟨b, off + k', none⟩ = some (.int .i64 X) := by rw [hX]; exact (HB.out.cell (p := ⟨b, off + k', none⟩) hb).trans (hcc k' hk')
      have hlg := HR.out.lt
      have hbg : b ≠ g := by omega
      have cr2 : (wr.setCell ⟨g, k', none⟩ (.int .i64 (Y + 1))).cell? ⟨g, k', none⟩ = some (.int .i64 (Y + 1)) := by
        have := (HR.out.set k' (.int .i64 (Y + 1))).cell (i := k') (by omega)
        simpa using this
      have cx2 : (wr.setCell ⟨g, k', none⟩ (.int .i64 (Y + 1))).cell? ⟨b, off + k', none⟩ = some (.int .i64 X) :=
        (World.cell?_of_block (w := wr) (Below.heap_setCell _ ⟨g, k', none⟩ _ b hbg)).trans cx
      have HX := hide hX
      have HY' := hide hY
      have HK : Hid (k' < xs.length) := by rw [Hid, HL.out]; exact hk'
      have i1 : (0 : Int) ≤ (k' : Int) := Int.natCast_nonneg _
      have i2 : (k' : Int) < (len : Int) := by omega
      have w1' : IntKind.i64.wrap (Y + 1) = Y + 1 := wrap_in _ (by omega) (by omega)
      clear hcc hX hY hm
      by_cases hc : Y + 1 < X
      · go_wp2_with fail
        go_region
        go_wp2
        go_ret2
        have hend := nextL_end xs ys (by rw [HL.out, HL'.out]) k' HK.out HST.out (by rw [← HX.out, ← HY'.out]; exact hc)
        rw [hend.1]
        refine ⟨⟨g, c, rfl, ⟨by rw [hend.2.1, HL.out], by omega, fun z hz => ?_, .inr ⟨g, 0, rfl, fun j hj => ?_⟩⟩, hBg, by simpa using hlg, hnc⟩, (HB.out.setCell (p := ⟨g, k', none⟩) hBg _).drew⟩
        · obtain ⟨i, hi, rfl⟩ := List.getElem_of_mem hz
          have hil : i < xs.length := by rw [← hend.2.1]; exact hi
          have := hend.2.2 i hil
          rw [List.getElem?_eq_getElem hi, Option.getD_some] at this
          rw [this]
          split
          · rw [← HY'.out]; omega
          · unfold nextAt
            split
            · have := HY.out i (by rw [← HL.out]; exact hil); omega
            · omega
        · have := (HR.out.set k' (.int .i64 (Y + 1))).cell (i := j) (by omega)
          rw [Nat.zero_add]
          show (wr.setCell ⟨g, k', none⟩ (.int .i64 (Y + 1))).cell? ⟨g, j, none⟩ = _
          rw [this, hend.2.2 j (by rw [HL.out]; exact hj), HF.out j hj, HY'.out]
          split <;> rfl
      · go_wp2_with fail
        go_region
        go_wp2
        go_roundw
        case rel =>
          refine ⟨k', (k' : Int) - 1, fun j => if j = k' then .int .i64 0 else if j = k' then .int .i64 (Y + 1) else f j, by omega, by omega, by go_num, ?_, fun j hj => ?_, nextL_stage xs ys (by rw [HL.out, HL'.out]) k' HK.out HST.out (by rw [← HX.out, ← HY'.out]; omega), ?_⟩
          · exact ((HR.out.set k' (.int .i64 (Y + 1))).drew.set k' (.int .i64 0))
          · show (if j = k' then Value.int .i64 0 else if j = k' then .int .i64 (Y + 1) else f j) = _
            by_cases e : j = k'
            · rw [if_pos e, nextAt, if_neg (by omega)]
            · rw [if_neg e, if_neg e, HF.out j hj, nextAt, nextAt]
              by_cases c2 : j < k'
              · rw [if_pos c2, if_pos (by omega)]
              · rw [if_neg c2, if_neg (by omega)]
          · exact ((HB.out.setCell (p := ⟨g, k', none⟩) hBg _).drew).setCell (p := ⟨g, k', none⟩) hBg _
        case measure => simp [intOf]
    · obtain rfl : k = 0 := by omega
      obtain rfl : m = -1 := by omega
      go_wp2
      go_ret2
      have hst := HST.out
      simp only [List.drop_zero] at hst
      have hnf := nextL_false xs ys (by rw [HL.out, HL'.out]) hst
      rw [hst, hnf]
      refine ⟨⟨g, c, rfl, ⟨by simp [HL.out], by omega, fun z hz => ?_, .inr ⟨g, 0, rfl, fun j hj => ?_⟩⟩, hBg, HR.out.lt, hnc⟩, HB.out⟩
      · have := List.eq_of_mem_replicate hz; omega
      · have := HR.out.cell (i := j) (by omega)
        rw [Nat.zero_add, this, HF.out j hj, nextAt, if_neg (by omega)]
        have hj' : j < xs.length := by rw [HL.out]; exact hj
        simp [hj']

set_option maxRecDepth 100000 in
set_option maxHeartbeats 4000000 in
theorem rall_okC (a : Option Addr) (len cap : Nat) (xs : List Int) (w : World) (h : Ints w a len xs) (hE : sizeE xs = 0) (hpos : ∀ x ∈ xs, 1 ≤ x) :
    Calls Tryz.prog 18 #[.slice a len cap] w fun e w' => (∃ (A : Option Addr) (c : Nat), e = .returned (.slice A (prod xs).toNat c) ∧ ListsC w' w.heap.size A (prod xs).toNat len (fun i => dig xs i)) ∧ Below w.heap.size w w' := by
  obtain ⟨z1, z2, z3, z4⟩ := sizeE_ok hE
  obtain ⟨hp, hn⟩ := z3 hpos
  have hp1 := prod_pos xs hpos
  have hl := h.1
  have hlen : len ≤ 6 := by omega
  obtain ⟨N, hN⟩ : ∃ N : Nat, prod xs = (N : Int) := ⟨(prod xs).toNat, by omega⟩
  have hN1 : 1 ≤ N := by omega
  have hN2 : N ≤ 65536 := by omega
  have eN : (prod xs).toNat = N := by omega
  rw [eN]
  have H := hide h
  have HE := hide hE
  have HL := hide hl
  have HNP := hide hN
  have HPOS := hide hpos
  have HZ2 := hide z2
  have hne : ((N : Int) == 0) = false := by simp; omega
  have HSN : Hid (sizeN xs = (N : Int)) := by rw [Hid, hn, hN]
  clear h hE hl hp hpos z1 z2 z3 z4 hn hN hp1 eN
  obtain ⟨i0, hi, hz0, hz1, hz2⟩ := info_parts info_ints
  have HI := hide hi
  have HZ0 := hide hz0
  have HZ1 := hide hz1
  have HZ2' := hide hz2
  clear hi hz0 hz1 hz2
  have hmk := run_make_row' (P := Tryz.prog) 22 3 (.int .i64 0) 8 Tryz.underlying22 info_int rfl .i64 .i64 len (by omega) (by omega)
  go_enter Tryz.func18, Tryz.ntmps18
  go_wp2_with (go_at_call 27; refine (rsize_any _ _ _ xs _ H.out).mono ?_; rintro e w' ⟨rfl, hw'⟩; obtain rfl := hw'.symm; rw [HE.out, HSN.out])
  have hrow := World.rowIs_made w (.int .i64 0) len 3
  have hint : Ints (w.alloc (.cells (madeCells #[.int .i64 0] len) 3)) (some ⟨w.heap.size, 0, none⟩) len (dig xs 0) := by
    refine ⟨by rw [dig_length]; exact HL.out, by omega, fun x hx => ?_, .inr ⟨_, _, rfl, fun j hj => ?_⟩⟩
    · rw [dig_zero] at hx
      have := List.eq_of_mem_replicate hx; omega
    · rw [Nat.zero_add, hrow.cell hj, dig_zero]
      have : j < xs.length := by rw [HL.out]; exact hj
      simp [this]
  clear hmk
  go_loopw [5, 6, 7] (fun at' out more wr => ∃ (i : Nat) (vs : List Value) (b : Bool), i < N ∧ more = .bool b ∧ wr.ownsRow w.heap.size 22 1 out (i + 1) vs ∧ ValsC wr w.heap.size (i + 1) len (fun i => dig xs i) vs ∧ (∃ g c, out = .slice (some ⟨g, 0, none⟩) (i + 1) c) ∧ (b = true → ∃ g c, at' = .slice (some ⟨g, 0, none⟩) len c ∧ Ints wr (some ⟨g, 0, none⟩) len (dig xs i)) ∧ (b = false → i + 1 = N) ∧ Below w.heap.size w wr)
    (fun _ out more _ => if boolOf more = true then N + 1 - sliceLen out else 0)
  case atStart =>
    refine ⟨0, [.slice (some ⟨w.heap.size, 0, none⟩) len len], true, by omega, rfl, ?_, ⟨rfl, fun i hi => ?_⟩, ⟨_, _, rfl⟩, fun _ => ⟨_, _, rfl, hint.below ((Below.refl _ _).alloc (Nat.le_refl _) _)⟩, (fun h => by cases h), ((Below.refl _ _).alloc (Nat.le_refl _) _).alloc (by simp) _⟩
    · refine ⟨rfl, .inr ⟨_, 1, #[.slice (some ⟨w.heap.size, 0, none⟩) len len], rfl, ?_, ?_, Nat.le_refl _, by decide, rfl, rfl⟩⟩
      · simp
      · have := World.alloc_heap_new (w.alloc (.cells (madeCells #[.int .i64 0] len) 3)) (.cells #[.slice (some ⟨w.heap.size, 0, none⟩) len len] 22)
        rwa [World.size_alloc] at this
    · obtain rfl : i = 0 := by omega
      exact ⟨_, _, Nat.le_refl _, rfl, hint.below ((Below.refl _ _).alloc (Nat.le_refl _) _), Nat.le_refl _⟩
  case round =>
    clear hrow hint
    obtain ⟨i, vs, b, hi, rfl, hown, hvs, ⟨g, c, rfl⟩, hat, hend, hB⟩ := hrel
    cases b with
    | false =>
      obtain rfl := hend rfl
      go_wp2
      go_ret
      refine ⟨⟨_, ⟨_, rfl⟩, .inr ⟨g, rfl, (hown.lt g rfl).1, fun j hj => ?_⟩⟩, hB⟩
      obtain ⟨gj, cj, h0, h1, h2, h3⟩ := hvs.2 j (by omega)
      refine ⟨gj, cj, h0, ?_, h2, h3⟩
      rw [hown.cellAt j (by omega)]
      exact h1
    | true =>
      obtain ⟨ga, ca, rfl, hai⟩ := hat rfl
      have HO := hide hown
      have HV := hide hvs
      have HB := hide hB
      have HA := hide hai
      clear hown hvs hB hai hat hend
      have hdb : Hid (∀ j, j < len → 0 ≤ (dig xs i)[j]?.getD 0 ∧ (dig xs i)[j]?.getD 0 ≤ 4096) := fun j hj => by
        have hj' : j < xs.length := by rw [HL.out]; exact hj
        have h1 := dig_bd xs i HPOS.out (by omega) (by rw [HNP.out]; omega) j hj'
        have h2 := HZ2.out _ (mem_getD xs j hj')
        omega
      have hnx := next_dig xs i HPOS.out (by omega) (by rw [HNP.out]; omega)
      rw [HNP.out] at hnx
      by_cases hlast : i + 1 < N
      · rw [if_pos (by omega)] at hnx
        have HNX := hide hnx
        clear hnx
        go_wp2_with (first
          | (go_at_call 29; refine (rnext_cap _ _ _ xs _ _ (dig xs i) _ (H.out.below HB.out) HA.out hlen hdb.out).mono ?_; rintro e w2 ⟨⟨g2, c2, rfl, hi2, hg2, hg3, hcp⟩, hb2⟩; rw [HNX.out] at hi2 ⊢; have HI2 := hide hi2; have HB2 := hide hb2; have HO2 := hide (own_below HO.out hb2); clear hi2 hb2)
          | (at_builtin; refine wpList_append_own _ rfl _ _ 45 rfl w.heap.size 22 i0 (.slice none 0 0) 1 24 Tryz.underlying45 HI.out HZ0.out HZ1.out HZ2'.out rfl (by decide) _ _ _ rfl (HO2.out.alloc _) ⟨w2.heap.size, 0, none⟩ 1 1 [.slice (some ⟨g2, 0, none⟩) len c2] rfl rfl (cell_one_new _ _ _) (by simp [Value.oneCell']) (by unfold maxLen; omega) (by omega) (by have := HB.out.size; have := HB2.out.size; simp; omega) ?_; intro v' w3 hown' hgrow hnn; obtain ⟨g', c', rfl⟩ := ownsRow_succ hown'; have HO' := hide hown'; have HG' := hide hgrow; clear hown' hgrow hnn))
        go_wp2
        go_roundw
        case rel =>
          have hv0 : ∃ a l c, vs[0]? = some (.slice a l c) := by obtain ⟨g, c, _, h1, _⟩ := HV.out.2 0 (by omega); exact ⟨_, _, _, h1⟩
          refine ⟨i + 1, vs ++ [.slice (some ⟨g2, 0, none⟩) len c2], true, hlast, rfl, HO'.out, ⟨by simp [HV.out.1], fun j hj => ?_⟩, ⟨_, _, rfl⟩, fun _ => ⟨_, _, rfl, ints_own_grown HI2.out HO2.out hv0 HG'.out⟩, (fun h => by cases h), ?_⟩
          · by_cases hj' : j < i + 1
            · obtain ⟨gj, cj, h0, h1, h2, h3⟩ := HV.out.2 j hj'
              exact ⟨gj, cj, h0, by rw [List.getElem?_append_left (by rw [HV.out.1]; exact hj')]; exact h1, ints_own_grown (h2.below HB2.out) HO2.out hv0 HG'.out, h3⟩
            · obtain rfl : j = i + 1 := by omega
              exact ⟨g2, c2, by have := HB.out.size; omega, by rw [List.getElem?_append_right (by rw [HV.out.1]; omega)]; simp [HV.out.1], ints_own_grown HI2.out HO2.out hv0 HG'.out, hcp⟩
          · have hb := Below.on HB.out HB2.out
            refine (hb.alloc hb.size _).grown HG'.out (by have := hb.size; simp; omega) (fun j e => ?_)
            exact (HO2.out.lt j e).1
        case measure => simp [boolOf, sliceLen]; omega
      · rw [if_neg (by omega)] at hnx
        have HNX := hide hnx
        clear hnx
        go_wp2_with (go_at_call 29; refine (rnext_cap _ _ _ xs _ _ (dig xs i) _ (H.out.below HB.out) HA.out hlen hdb.out).mono ?_; rintro e w2 ⟨⟨g2, c2, rfl, hi2, hg2, hg3, hcp⟩, hb2⟩; rw [HNX.out] at hi2 ⊢; have HI2 := hide hi2; have HB2 := hide hb2; have HO2 := hide (own_below HO.out hb2); clear hi2 hb2)
        go_roundw
        case rel =>
          exact ⟨i, vs, false, hi, rfl, HO2.out, ⟨HV.out.1, fun j hj => by obtain ⟨gj, cj, h0, h1, h2, h3⟩ := HV.out.2 j hj; exact ⟨gj, cj, h0, h1, h2.below HB2.out, h3⟩⟩, ⟨_, _, rfl⟩, (fun h => by cases h), fun _ => by omega, Below.on HB.out HB2.out⟩
        case measure => simp [boolOf, sliceLen]; omega

theorem rall_anyC (a : Option Addr) (len cap : Nat) (xs : List Int) (w : World) (h : Ints w a len xs) (hE : sizeE xs = 0) :
    Calls Tryz.prog 18 #[.slice a len cap] w fun e w' => (∃ (A : Option Addr) (c : Nat), e = .returned (.slice A (prod xs).toNat c) ∧ ListsC w' w.heap.size A (prod xs).toNat len (fun i => dig xs i)) ∧ Below w.heap.size w w' := by
  rcases dims_cases hE with ⟨_, h1, h2⟩ | ⟨h1, _⟩
  · rw [h2]
    refine (rall_none a len cap xs w h hE h1).mono ?_
    rintro e w' ⟨rfl, hb⟩
    exact ⟨⟨none, 0, rfl, .inl rfl⟩, hb⟩
  · exact rall_okC a len cap xs w h hE h1
end Go.Proofs.YteoobeldmicjhaaGreat.V
