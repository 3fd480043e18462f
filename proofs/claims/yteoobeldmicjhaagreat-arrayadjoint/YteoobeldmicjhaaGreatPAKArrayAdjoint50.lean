/-
  Contract: adjointref2.viewEntry. Plain mathematics: of which index an entry of a view is read.
-/
import Derived.Test.YteoobeldmicjhaaGreatPAKArrayAdjoint30
import Derived.Test.YteoobeldmicjhaaGreatPAKArrayAdjoint37
import Derived.Test.YteoobeldmicjhaaGreatPAKArrayAdjoint3
import Derived.Test.YteoobeldmicjhaaGreatPAKArrayAdjoint18
import Derived.Test.YteoobeldmicjhaaGreatPAKArrayAdjoint7
namespace Go.Proofs.YteoobeldmicjhaaGreat.V
set_option maxRecDepth 20000
open Go.RowKit

/-- A list whose first k numbers are told. -/
def fillF (f : Nat → Int) (r k : Nat) : List Int := (List.range r).map fun j => if j < k then f j else 0
theorem fillF_length (f : Nat → Int) (r k : Nat) : (fillF f r k).length = r := by simp [fillF]
theorem fillF_zero (f : Nat → Int) (r j : Nat) : (fillF f r 0)[j]?.getD 0 = 0 := by
  by_cases h : j < r
  · simp [fillF, h]
  · simp [fillF, h]
theorem fillF_succ (f : Nat → Int) (r k : Nat) : fillF f r (k + 1) = (fillF f r k).set k (f k) := by
  apply List.ext_getElem
  · simp [fillF]
  · intro i h1 h2
    simp only [fillF, List.length_map, List.length_range] at h1
    rw [List.getElem_set]
    by_cases e : k = i
    · subst e; simp [fillF]
    · rw [if_neg e]
      simp only [fillF, List.getElem_map, List.getElem_range]
      by_cases c : i < k
      · rw [if_pos c, if_pos (by omega)]
      · rw [if_neg c, if_neg (by omega)]
theorem fillF_bd' {f : Nat → Int} {r : Nat} (h : ∀ j, j < r → -9223372036854775808 ≤ f j ∧ f j ≤ 9223372036854775807) (k : Nat) : ∀ x ∈ fillF f r k, -9223372036854775808 ≤ x ∧ x ≤ 9223372036854775807 := by
  intro x hx
  simp only [fillF, List.mem_map, List.mem_range] at hx
  obtain ⟨j, hj, rfl⟩ := hx
  split
  · exact h j hj
  · omega
theorem fillF_bd {f : Nat → Int} (h : ∀ j, -9223372036854775808 ≤ f j ∧ f j ≤ 9223372036854775807) (r k : Nat) : ∀ x ∈ fillF f r k, -9223372036854775808 ≤ x ∧ x ≤ 9223372036854775807 := by
  intro x hx
  simp only [fillF, List.mem_map, List.mem_range] at hx
  obtain ⟨j, _, rfl⟩ := hx
  split
  · exact h j
  · omega

set_option maxRecDepth 100000 in
set_option maxHeartbeats 4000000 in
theorem rview_9 (x : Int) (vd vl vh vs : Value) (pa : Option Addr) (pl pc : Nat) (ps : List Int) (da : Option Addr) (dl dc : Nat) (ds : List Int) (xa : Option Addr) (n xc : Nat) (xs : List Int) (aa : Option Addr) (al ac : Nat) (at' : List Int) (w : World) (p : Nat)
    (hps : Ints w pa pl ps) (hd : Ints w da dl ds) (hdc : dl ≤ dc) (hx : Ints w xa n xs) (hat : Ints w aa al at') (h6 : dl ≤ 6) (hpl : pl ≤ dl) (hpl2 : dl ≤ pl) (hpb : ∀ i, i < pl → 0 ≤ ps[i]?.getD 0 ∧ ps[i]?.getD 0 < al) (hp : placeN ds (fillF (fun j => at'[(ps[j]?.getD 0).toNat]?.getD 0) dl dl) = p) (hpn : p < n) :
    Calls Tryz.prog 39 #[.agg #[.int .i64 9, vd, .slice pa pl pc, vl, vh, vs, .int .i64 x], .agg #[.slice da dl dc, .slice xa n xc], .slice aa al ac] w fun e w' => e = .returned (.int .i64 (xs[p]?.getD 0)) ∧ Below w.heap.size w w' := by
  have hmps := hps.2.1
  have Hps := hide hps
  have hmd := hd.2.1
  have hma := hat.2.1
  have HD := hide hd
  have HX := hide hx
  have HAT := hide hat
  have HPP := hide hp
  have Hhpb := hide hpb
  have hmk := run_make_row' (P := Tryz.prog) 22 3 (.int .i64 0) 8 Tryz.underlying22 info_int rfl .i64 .i64 dl (by omega) (by omega)
  have HB2 := hide (((Below.refl w.heap.size w).alloc (Nat.le_refl _) (.cells #[.int .i64 9, vd, .slice pa pl pc, vl, vh, vs, .int .i64 x] 31)).alloc (by simp) (.cells #[.slice da dl dc, .slice xa n xc] 25))
  have HOP := hide ((OpAt.new w 9 vd (.slice pa pl pc) vl vh vs x).alloc (.cells #[.slice da dl dc, .slice xa n xc] 25))
  have har := ArrAt.new (w.alloc (.cells #[.int .i64 9, vd, .slice pa pl pc, vl, vh, vs, .int .i64 x] 31)) (.slice da dl dc) (.slice xa n xc)
  simp only [World.size_alloc] at har
  have HAR := hide har
  obtain ⟨o0, o1, o2, o3, o4, o5, o6⟩ := HOP.out.cells
  obtain ⟨⟨r0, r1⟩, _⟩ := HAR.out.cells
  clear har hd hx hat hp hps hpb
  go_enter Tryz.func39, Tryz.ntmps39
  go_wp2
  go_loopw [56] (fun i wr => ∃ k : Nat, k ≤ pl ∧ i = .int .i64 k ∧ RowI wr (w.heap.size + 1 + 1) dl (fillF (fun j => at'[(ps[j]?.getD 0).toNat]?.getD 0) dl k) ∧ OpAt wr w.heap.size 9 vd (.slice pa pl pc) vl vh vs x ∧ ArrAt wr (w.heap.size + 1) (.slice da dl dc) (.slice xa n xc) ∧ Below w.heap.size w wr) (fun i _ => pl - (intOf i).toNat)
  case atStart =>
    refine ⟨0, Nat.zero_le _, rfl, ?_, HOP.out.alloc _, HAR.out.alloc _, HB2.out.alloc HB2.out.size _⟩
    have := World.rowIs_made ((w.alloc (.cells #[.int .i64 9, vd, .slice pa pl pc, vl, vh, vs, .int .i64 x] 31)).alloc (.cells #[.slice da dl dc, .slice xa n xc] 25)) (.int .i64 0) dl 3
    simp only [World.size_alloc] at this
    exact this.congr (fun j _ => by rw [fillF_zero])
  case round =>
    obtain ⟨k, hk, rfl, hrow, hop, har, hB⟩ := hrel
    have HR := hide hrow
    have HO := hide hop
    have HA := hide har
    have HB := hide hB
    clear hrow hop har hB o0 o1 o2 o3 o4 o5 o6 r0 r1
    have hG := HA.out.lt
    by_cases hlt : k < pl
    · obtain ⟨bp, offp, rfl, _, hcp⟩ := (Hps.out.below HB.out).at (by omega)
      have xp := hcp k (by omega)
      have hqk := Hhpb.out k hlt
      obtain ⟨q, hqq⟩ : ∃ q : Nat, ps[k]?.getD 0 = (q : Int) := ⟨(ps[k]?.getD 0).toNat, by omega⟩
      rw [hqq] at xp hqk
      obtain ⟨ba, offa, rfl, _, hca⟩ := (HAT.out.below HB.out).at (by omega)
      have xa := hca q (by omega)
      obtain ⟨X, hX⟩ : ∃ X, X = at'[q]?.getD 0 := ⟨_, rfl⟩
      rw [← hX] at xa
      have HS : Hid ((fillF (fun j => at'[(ps[j]?.getD 0).toNat]?.getD 0) dl (k + 1)) = (fillF (fun j => at'[(ps[j]?.getD 0).toNat]?.getD 0) dl k).set k X) := by rw [Hid, fillF_succ, hqq, Int.toNat_natCast, hX]
      have hqn : k < dl := by omega
      have j1 : (q : Int) < (al : Int) := by omega
      have j2 : (0 : Int) ≤ (q : Int) := Int.natCast_nonneg _
      have j3 : (k : Int) < (dl : Int) := by omega
      have i1 : (0 : Int) ≤ (k : Int) := Int.natCast_nonneg _
      have i2 : (k : Int) < (pl : Int) := by omega
      clear hqk hqq hX hcp hca
      have hr1 := HR.out.cell hqn
      have hf := HR.out.frozen k
      obtain ⟨o0, o1, o2, o3, o4, o5, o6⟩ := HO.out.cells
      have HQL : Hid (k < (fillF (fun j => at'[(ps[j]?.getD 0).toNat]?.getD 0) dl k).length) := by rw [Hid, fillF_length]; exact hqn
      go_wp2
      go_roundw
      case rel =>
        refine ⟨k + 1, by omega, by go_num, World.rowIs.congr (HR.out.set k (.int .i64 X)) (fun j _ => ?_), HO.out.set (p := ⟨(w.heap.size + 1 + 1), k, none⟩) (by simp; omega) _, HA.out.set (p := ⟨(w.heap.size + 1 + 1), k, none⟩) (by simp) _, HB.out.setCell (p := ⟨(w.heap.size + 1 + 1), k, none⟩) (by simp; omega) _⟩
        rw [HS.out]
        by_cases e : j = k
        · subst e
          rw [if_pos rfl, List.getElem?_set_self HQL.out]
          rfl
        · rw [if_neg e, List.getElem?_set_ne (fun h => e h.symm)]
      case measure => simp [intOf]; omega
    · obtain rfl : dl = k := by omega
      obtain ⟨⟨r0, r1⟩, _⟩ := HA.out.cells
      have hin : Ints wr (some ⟨(w.heap.size + 1 + 1), 0, none⟩) dl (fillF (fun j => at'[(ps[j]?.getD 0).toNat]?.getD 0) dl dl) := ints_of_rowI HR.out (by rw [fillF_length]) (by omega) (by exact fillF_bd (fun j => bd_get HAT.out.2.2.1 _) _ _)
      have HIN := hide hin
      clear hin
      go_wp2_with (go_at_call 32; refine (rget_any _ _ _ ds _ _ _ xs _ _ _ (fillF (fun j => at'[(ps[j]?.getD 0).toNat]?.getD 0) dl dl) _ p (HD.out.below HB.out) hdc (HX.out.below HB.out) HIN.out HPP.out hpn).mono ?_; rintro e w9 ⟨rfl, hb⟩; have HB9 := hide (Below.on HB.out hb); clear hb)
      go_ret
      exact ⟨rfl, HB9.out⟩

set_option maxRecDepth 100000 in
set_option maxHeartbeats 4000000 in
theorem rview_11 (x : Int) (vd vl vh vs : Value) (pa : Option Addr) (pl pc : Nat) (ps : List Int) (da : Option Addr) (dl dc : Nat) (ds : List Int) (xa : Option Addr) (n xc : Nat) (xs : List Int) (aa : Option Addr) (al ac : Nat) (at' : List Int) (w : World) (p : Nat)
    (hps : Ints w pa pl ps) (hd : Ints w da dl ds) (hdc : dl ≤ dc) (hx : Ints w xa n xs) (hat : Ints w aa al at') (h6 : dl ≤ 6) (hpl : pl ≤ al) (hpb : ∀ i, i < pl → 0 ≤ ps[i]?.getD 0 ∧ ps[i]?.getD 0 < dl) (hp : placeN ds (setAll (List.replicate dl 0) ps at' pl) = p) (hpn : p < n) :
    Calls Tryz.prog 39 #[.agg #[.int .i64 11, vd, .slice pa pl pc, vl, vh, vs, .int .i64 x], .agg #[.slice da dl dc, .slice xa n xc], .slice aa al ac] w fun e w' => e = .returned (.int .i64 (xs[p]?.getD 0)) ∧ Below w.heap.size w w' := by
  have hmps := hps.2.1
  have Hps := hide hps
  have hmd := hd.2.1
  have hma := hat.2.1
  have HD := hide hd
  have HX := hide hx
  have HAT := hide hat
  have HPP := hide hp
  have Hhpb := hide hpb
  have hmk := run_make_row' (P := Tryz.prog) 22 3 (.int .i64 0) 8 Tryz.underlying22 info_int rfl .i64 .i64 dl (by omega) (by omega)
  have HB2 := hide (((Below.refl w.heap.size w).alloc (Nat.le_refl _) (.cells #[.int .i64 11, vd, .slice pa pl pc, vl, vh, vs, .int .i64 x] 31)).alloc (by simp) (.cells #[.slice da dl dc, .slice xa n xc] 25))
  have HOP := hide ((OpAt.new w 11 vd (.slice pa pl pc) vl vh vs x).alloc (.cells #[.slice da dl dc, .slice xa n xc] 25))
  have har := ArrAt.new (w.alloc (.cells #[.int .i64 11, vd, .slice pa pl pc, vl, vh, vs, .int .i64 x] 31)) (.slice da dl dc) (.slice xa n xc)
  simp only [World.size_alloc] at har
  have HAR := hide har
  obtain ⟨o0, o1, o2, o3, o4, o5, o6⟩ := HOP.out.cells
  obtain ⟨⟨r0, r1⟩, _⟩ := HAR.out.cells
  clear har hd hx hat hp hps hpb
  go_enter Tryz.func39, Tryz.ntmps39
  go_wp2
  go_loopw [74] (fun i wr => ∃ k : Nat, k ≤ pl ∧ i = .int .i64 k ∧ RowI wr (w.heap.size + 1 + 1) dl (setAll (List.replicate dl 0) ps at' k) ∧ OpAt wr w.heap.size 11 vd (.slice pa pl pc) vl vh vs x ∧ ArrAt wr (w.heap.size + 1) (.slice da dl dc) (.slice xa n xc) ∧ Below w.heap.size w wr) (fun i _ => pl - (intOf i).toNat)
  case atStart =>
    refine ⟨0, Nat.zero_le _, rfl, ?_, HOP.out.alloc _, HAR.out.alloc _, HB2.out.alloc HB2.out.size _⟩
    have := World.rowIs_made ((w.alloc (.cells #[.int .i64 11, vd, .slice pa pl pc, vl, vh, vs, .int .i64 x] 31)).alloc (.cells #[.slice da dl dc, .slice xa n xc] 25)) (.int .i64 0) dl 3
    simp only [World.size_alloc] at this
    exact this.congr (fun j _ => by simp only [setAll]; rw [repl0_at])
  case round =>
    obtain ⟨k, hk, rfl, hrow, hop, har, hB⟩ := hrel
    have HR := hide hrow
    have HO := hide hop
    have HA := hide har
    have HB := hide hB
    clear hrow hop har hB o0 o1 o2 o3 o4 o5 o6 r0 r1
    have hG := HA.out.lt
    by_cases hlt : k < pl
    · obtain ⟨bp, offp, rfl, _, hcp⟩ := (Hps.out.below HB.out).at (by omega)
      have xp := hcp k (by omega)
      have hqk := Hhpb.out k hlt
      obtain ⟨q, hqq⟩ : ∃ q : Nat, ps[k]?.getD 0 = (q : Int) := ⟨(ps[k]?.getD 0).toNat, by omega⟩
      rw [hqq] at xp hqk
      obtain ⟨ba, offa, rfl, _, hca⟩ := (HAT.out.below HB.out).at (by omega)
      have xa := hca k (by omega)
      obtain ⟨X, hX⟩ : ∃ X, X = at'[k]?.getD 0 := ⟨_, rfl⟩
      rw [← hX] at xa
      have HS : Hid ((setAll (List.replicate dl 0) ps at' (k + 1)) = (setAll (List.replicate dl 0) ps at' k).set q X) := by rw [Hid, setAll, hqq, Int.toNat_natCast, hX]
      have hqn : q < dl := by omega
      have j1 : (q : Int) < (dl : Int) := by omega
      have j2 : (0 : Int) ≤ (q : Int) := Int.natCast_nonneg _
      have j3 : (k : Int) < (al : Int) := by omega
      have i1 : (0 : Int) ≤ (k : Int) := Int.natCast_nonneg _
      have i2 : (k : Int) < (pl : Int) := by omega
      clear hqk hqq hX hcp hca
      have hr1 := HR.out.cell hqn
      have hf := HR.out.frozen q
      obtain ⟨o0, o1, o2, o3, o4, o5, o6⟩ := HO.out.cells
      have HQL : Hid (q < (setAll (List.replicate dl 0) ps at' k).length) := by rw [Hid, setAll_length, List.length_replicate]; exact hqn
      go_wp2
      go_roundw
      case rel =>
        refine ⟨k + 1, by omega, by go_num, World.rowIs.congr (HR.out.set q (.int .i64 X)) (fun j _ => ?_), HO.out.set (p := ⟨(w.heap.size + 1 + 1), q, none⟩) (by simp; omega) _, HA.out.set (p := ⟨(w.heap.size + 1 + 1), q, none⟩) (by simp) _, HB.out.setCell (p := ⟨(w.heap.size + 1 + 1), q, none⟩) (by simp; omega) _⟩
        rw [HS.out]
        by_cases e : j = q
        · subst e
          rw [if_pos rfl, List.getElem?_set_self HQL.out]
          rfl
        · rw [if_neg e, List.getElem?_set_ne (fun h => e h.symm)]
      case measure => simp [intOf]; omega
    · obtain rfl : k = pl := by omega
      obtain ⟨⟨r0, r1⟩, _⟩ := HA.out.cells
      have hin : Ints wr (some ⟨(w.heap.size + 1 + 1), 0, none⟩) dl (setAll (List.replicate dl 0) ps at' k) := ints_of_rowI HR.out (by rw [setAll_length, List.length_replicate]) (by omega) (by exact setAll_bd (fun x hx => by simp at hx; omega) HAT.out.2.2.1 _)
      have HIN := hide hin
      clear hin
      go_wp2_with (go_at_call 32; refine (rget_any _ _ _ ds _ _ _ xs _ _ _ (setAll (List.replicate dl 0) ps at' k) _ p (HD.out.below HB.out) hdc (HX.out.below HB.out) HIN.out HPP.out hpn).mono ?_; rintro e w9 ⟨rfl, hb⟩; have HB9 := hide (Below.on HB.out hb); clear hb)
      go_ret
      exact ⟨rfl, HB9.out⟩

set_option maxRecDepth 100000 in
set_option maxHeartbeats 4000000 in
theorem rview_13 (x : Int) (vd va vh : Value) (la : Option Addr) (ll lc : Nat) (lo : List Int) (ta : Option Addr) (tl tc : Nat) (st : List Int) (da : Option Addr) (dl dc : Nat) (ds : List Int) (xa : Option Addr) (n xc : Nat) (xs : List Int) (aa : Option Addr) (al ac : Nat) (at' : List Int) (w : World) (p : Nat)
    (hlo : Ints w la ll lo) (hst : Ints w ta tl st) (hd : Ints w da dl ds) (hdc : dl ≤ dc) (hx : Ints w xa n xs) (hat : Ints w aa al at') (h6 : dl ≤ 6) (hal : al ≤ dl) (hal2 : dl ≤ al) (hll : al ≤ ll) (htl : al ≤ tl) (hbd : ∀ i, i < al → 0 ≤ at'[i]?.getD 0 * st[i]?.getD 0 ∧ 0 ≤ lo[i]?.getD 0 ∧ lo[i]?.getD 0 + at'[i]?.getD 0 * st[i]?.getD 0 ≤ 4096) (hp : placeN ds (fillF (fun j => lo[j]?.getD 0 + at'[j]?.getD 0 * st[j]?.getD 0) dl dl) = p) (hpn : p < n) :
    Calls Tryz.prog 39 #[.agg #[.int .i64 13, vd, va, .slice la ll lc, vh, .slice ta tl tc, .int .i64 x], .agg #[.slice da dl dc, .slice xa n xc], .slice aa al ac] w fun e w' => e = .returned (.int .i64 (xs[p]?.getD 0)) ∧ Below w.heap.size w w' := by
  have hmlo := hlo.2.1
  have Hlo := hide hlo
  have hmst := hst.2.1
  have Hst := hide hst
  have hmd := hd.2.1
  have hma := hat.2.1
  have HD := hide hd
  have HX := hide hx
  have HAT := hide hat
  have HPP := hide hp
  have Hhbd := hide hbd
  have hmk := run_make_row' (P := Tryz.prog) 22 3 (.int .i64 0) 8 Tryz.underlying22 info_int rfl .i64 .i64 dl (by omega) (by omega)
  have HB2 := hide (((Below.refl w.heap.size w).alloc (Nat.le_refl _) (.cells #[.int .i64 13, vd, va, .slice la ll lc, vh, .slice ta tl tc, .int .i64 x] 31)).alloc (by simp) (.cells #[.slice da dl dc, .slice xa n xc] 25))
  have HOP := hide ((OpAt.new w 13 vd va (.slice la ll lc) vh (.slice ta tl tc) x).alloc (.cells #[.slice da dl dc, .slice xa n xc] 25))
  have har := ArrAt.new (w.alloc (.cells #[.int .i64 13, vd, va, .slice la ll lc, vh, .slice ta tl tc, .int .i64 x] 31)) (.slice da dl dc) (.slice xa n xc)
  simp only [World.size_alloc] at har
  have HAR := hide har
  obtain ⟨o0, o1, o2, o3, o4, o5, o6⟩ := HOP.out.cells
  obtain ⟨⟨r0, r1⟩, _⟩ := HAR.out.cells
  clear har hd hx hat hp hlo hst hbd
  go_enter Tryz.func39, Tryz.ntmps39
  go_wp2
  go_loopw [91] (fun i wr => ∃ k : Nat, k ≤ al ∧ i = .int .i64 k ∧ RowI wr (w.heap.size + 1 + 1) dl (fillF (fun j => lo[j]?.getD 0 + at'[j]?.getD 0 * st[j]?.getD 0) dl k) ∧ OpAt wr w.heap.size 13 vd va (.slice la ll lc) vh (.slice ta tl tc) x ∧ ArrAt wr (w.heap.size + 1) (.slice da dl dc) (.slice xa n xc) ∧ Below w.heap.size w wr) (fun i _ => al - (intOf i).toNat)
  case atStart =>
    refine ⟨0, Nat.zero_le _, rfl, ?_, HOP.out.alloc _, HAR.out.alloc _, HB2.out.alloc HB2.out.size _⟩
    have := World.rowIs_made ((w.alloc (.cells #[.int .i64 13, vd, va, .slice la ll lc, vh, .slice ta tl tc, .int .i64 x] 31)).alloc (.cells #[.slice da dl dc, .slice xa n xc] 25)) (.int .i64 0) dl 3
    simp only [World.size_alloc] at this
    exact this.congr (fun j _ => by rw [fillF_zero])
  case round =>
    obtain ⟨k, hk, rfl, hrow, hop, har, hB⟩ := hrel
    have HR := hide hrow
    have HO := hide hop
    have HA := hide har
    have HB := hide hB
    clear hrow hop har hB o0 o1 o2 o3 o4 o5 o6 r0 r1
    have hG := HA.out.lt
    by_cases hlt : k < al
    · obtain ⟨ba, offa, rfl, _, hca⟩ := (HAT.out.below HB.out).at (by omega)
      have xa := hca k (by omega)
      obtain ⟨bl, offl, rfl, _, hcl⟩ := (Hlo.out.below HB.out).at (by omega)
      have xl := hcl k (by omega)
      obtain ⟨bs, offs, rfl, _, hcs⟩ := (Hst.out.below HB.out).at (by omega)
      have xs := hcs k (by omega)
      have hbk := Hhbd.out k hlt
      obtain ⟨X, hX⟩ : ∃ X, X = at'[k]?.getD 0 := ⟨_, rfl⟩
      obtain ⟨Y, hY⟩ : ∃ Y, Y = lo[k]?.getD 0 := ⟨_, rfl⟩
      obtain ⟨T, hT⟩ : ∃ T, T = st[k]?.getD 0 := ⟨_, rfl⟩
      rw [← hX, ← hY, ← hT] at hbk
      rw [← hX] at xa
      rw [← hY] at xl
      rw [← hT] at xs
      have HS : Hid ((fillF (fun j => lo[j]?.getD 0 + at'[j]?.getD 0 * st[j]?.getD 0) dl (k + 1)) = (fillF (fun j => lo[j]?.getD 0 + at'[j]?.getD 0 * st[j]?.getD 0) dl k).set k (Y + X * T)) := by rw [Hid, fillF_succ, hX, hY, hT]
      have w1 : IntKind.i64.wrap (X * T) = X * T := wrap_in _ (by omega) (by omega)
      have w2 : IntKind.i64.wrap (Y + X * T) = Y + X * T := wrap_in _ (by omega) (by omega)
      have hqn : k < dl := by omega
      have i1 : (0 : Int) ≤ (k : Int) := Int.natCast_nonneg _
      have i2 : (k : Int) < (al : Int) := by omega
      have i3 : (k : Int) < (ll : Int) := by omega
      have i4 : (k : Int) < (tl : Int) := by omega
      have i5 : (k : Int) < (dl : Int) := by omega
      clear hX hY hT hca hcl hcs hbk
      have hr1 := HR.out.cell hqn
      have hf := HR.out.frozen k
      obtain ⟨o0, o1, o2, o3, o4, o5, o6⟩ := HO.out.cells
      have HQL : Hid (k < (fillF (fun j => lo[j]?.getD 0 + at'[j]?.getD 0 * st[j]?.getD 0) dl k).length) := by rw [Hid, fillF_length]; exact hqn
      go_wp2
      refine region_made 19 19 [fIs (.slice (some ⟨w.heap.size + 1 + 1, 0, none⟩) dl dl), fIs (.int .i64 (k : Int)), fIs (.pointer (some ⟨w.heap.size, 3, none⟩)), fIs (.slice (some ⟨bl, offl, none⟩) ll lc), fIs (.int .i64 (k : Int)), fIs (.pointer (some ⟨bl, offl + k, none⟩)), fIs (.int .i64 Y), fIs (.slice (some ⟨ba, offa, none⟩) al ac), fIs (.int .i64 (k : Int)), fIs (.pointer (some ⟨ba, offa + k, none⟩)), fIs (.int .i64 X), fIs (.pointer (some ⟨w.heap.size, 5, none⟩)), fIs (.slice (some ⟨bs, offs, none⟩) tl tc), fIs (.int .i64 (k : Int)), fIs (.pointer (some ⟨bs, offs + k, none⟩)), fIs (.int .i64 T), fIs (.int .i64 (X * T)), fIs (.int .i64 (Y + X * T)), fIs (.pointer (some ⟨w.heap.size + 1 + 1, k, none⟩))] (by kernel_rfl) (by kernel_rfl) (by kernel_rfl) (fun _ ⟨_, _⟩ ⟨_, _⟩ _ e h => by cases e; exact h) ⟨fIs_good _, fIs_good _, fIs_good _, fIs_good _, fIs_good _, fIs_good _, fIs_good _, fIs_good _, fIs_good _, fIs_good _, fIs_good _, fIs_good _, fIs_good _, fIs_good _, fIs_good _, fIs_good _, fIs_good _, fIs_good _, fIs_good _, trivial⟩ ?mk ?rest
      case mk =>
        refine ⟨fun u wz hb hd => ?_, fun u wz hb hd => ?_, fun u wz hb hd => ?_, fun u wz hb hd => ?_, fun u wz hb hd => ?_, fun u wz hb hd => ?_, fun u wz hb hd => ?_, fun u wz hb hd => ?_, fun u wz hb hd => ?_, fun u wz hb hd => ?_, fun u wz hb hd => ?_, fun u wz hb hd => ?_, fun u wz hb hd => ?_, fun u wz hb hd => ?_, fun u wz hb hd => ?_, fun u wz hb hd => ?_, fun u wz hb hd => ?_, fun u wz hb hd => ?_, fun u wz hb hd => ?_, trivial⟩
        all_goals simp only [Act.put, List.setIfInBounds_toArray, List.set_cons_zero, List.set_cons_succ]
        · go_simp
          exact ⟨rfl, Below.refl _ _, fun h => by cases h⟩
        · go_simp
          exact ⟨rfl, Below.refl _ _, fun h => by cases h⟩
        · go_simp
          exact ⟨rfl, Below.refl _ _, fun h => by cases h⟩
        · have e2 : u 2 = .pointer (some ⟨w.heap.size, 3, none⟩) := hd 2 (by omega) (by kernel_rfl)
          rw [e2]
          have o3' := (hb.cell (p := ⟨w.heap.size, 3, none⟩) (lt_of_cell o3)).trans o3
          go_simp
          exact ⟨rfl, Below.refl _ _, fun h => by cases h⟩
        · go_simp
          exact ⟨rfl, Below.refl _ _, fun h => by cases h⟩
        · have e3 : u 3 = .slice (some ⟨bl, offl, none⟩) ll lc := hd 3 (by omega) (by kernel_rfl)
          have e4 : u 4 = .int .i64 (k : Int) := hd 4 (by omega) (by kernel_rfl)
          rw [e3, e4]
          go_simp
          exact ⟨rfl, Below.refl _ _, fun h => by cases h⟩
        · have e5 : u 5 = .pointer (some ⟨bl, offl + k, none⟩) := hd 5 (by omega) (by kernel_rfl)
          rw [e5]
          have xl' := (hb.cell (p := ⟨bl, offl + k, none⟩) (lt_of_cell xl)).trans xl
          go_simp
          exact ⟨rfl, Below.refl _ _, fun h => by cases h⟩
        · go_simp
          exact ⟨rfl, Below.refl _ _, fun h => by cases h⟩
        · go_simp
          exact ⟨rfl, Below.refl _ _, fun h => by cases h⟩
        · have e7 : u 7 = .slice (some ⟨ba, offa, none⟩) al ac := hd 7 (by omega) (by kernel_rfl)
          have e8 : u 8 = .int .i64 (k : Int) := hd 8 (by omega) (by kernel_rfl)
          rw [e7, e8]
          go_simp
          exact ⟨rfl, Below.refl _ _, fun h => by cases h⟩
        · have e9 : u 9 = .pointer (some ⟨ba, offa + k, none⟩) := hd 9 (by omega) (by kernel_rfl)
          rw [e9]
          have xa' := (hb.cell (p := ⟨ba, offa + k, none⟩) (lt_of_cell xa)).trans xa
          go_simp
          exact ⟨rfl, Below.refl _ _, fun h => by cases h⟩
        · go_simp
          exact ⟨rfl, Below.refl _ _, fun h => by cases h⟩
        · have e11 : u 11 = .pointer (some ⟨w.heap.size, 5, none⟩) := hd 11 (by omega) (by kernel_rfl)
          rw [e11]
          have o5' := (hb.cell (p := ⟨w.heap.size, 5, none⟩) (lt_of_cell o5)).trans o5
          go_simp
          exact ⟨rfl, Below.refl _ _, fun h => by cases h⟩
        · go_simp
          exact ⟨rfl, Below.refl _ _, fun h => by cases h⟩
        · have e12 : u 12 = .slice (some ⟨bs, offs, none⟩) tl tc := hd 12 (by omega) (by kernel_rfl)
          have e13 : u 13 = .int .i64 (k : Int) := hd 13 (by omega) (by kernel_rfl)
          rw [e12, e13]
          go_simp
          exact ⟨rfl, Below.refl _ _, fun h => by cases h⟩
        · have e14 : u 14 = .pointer (some ⟨bs, offs + k, none⟩) := hd 14 (by omega) (by kernel_rfl)
          rw [e14]
          have xs' := (hb.cell (p := ⟨bs, offs + k, none⟩) (lt_of_cell xs)).trans xs
          go_simp
          exact ⟨rfl, Below.refl _ _, fun h => by cases h⟩
        · have e10 : u 10 = .int .i64 X := hd 10 (by omega) (by kernel_rfl)
          have e15 : u 15 = .int .i64 T := hd 15 (by omega) (by kernel_rfl)
          rw [e10, e15]
          go_simp
          exact ⟨rfl, Below.refl _ _, fun h => by cases h⟩
        · have e6 : u 6 = .int .i64 Y := hd 6 (by omega) (by kernel_rfl)
          have e16 : u 16 = .int .i64 (X * T) := hd 16 (by omega) (by kernel_rfl)
          rw [e6, e16]
          go_simp
          exact ⟨rfl, Below.refl _ _, fun h => by cases h⟩
        · have e0 : u 0 = .slice (some ⟨w.heap.size + 1 + 1, 0, none⟩) dl dl := hd 0 (by omega) (by kernel_rfl)
          have e1 : u 1 = .int .i64 (k : Int) := hd 1 (by omega) (by kernel_rfl)
          rw [e0, e1]
          go_simp
          exact ⟨rfl, Below.refl _ _, fun h => by cases h⟩
      case rest =>
        intro u wz hb hf hp
        have f0 : u 0 = .slice (some ⟨w.heap.size + 1 + 1, 0, none⟩) dl dl := hf 0 (by omega)
        have f1 : u 1 = .int .i64 (k : Int) := hf 1 (by omega)
        have f2 : u 2 = .pointer (some ⟨w.heap.size, 3, none⟩) := hf 2 (by omega)
        have f3 : u 3 = .slice (some ⟨bl, offl, none⟩) ll lc := hf 3 (by omega)
        have f4 : u 4 = .int .i64 (k : Int) := hf 4 (by omega)
        have f5 : u 5 = .pointer (some ⟨bl, offl + k, none⟩) := hf 5 (by omega)
        have f6 : u 6 = .int .i64 Y := hf 6 (by omega)
        have f7 : u 7 = .slice (some ⟨ba, offa, none⟩) al ac := hf 7 (by omega)
        have f8 : u 8 = .int .i64 (k : Int) := hf 8 (by omega)
        have f9 : u 9 = .pointer (some ⟨ba, offa + k, none⟩) := hf 9 (by omega)
        have f10 : u 10 = .int .i64 X := hf 10 (by omega)
        have f11 : u 11 = .pointer (some ⟨w.heap.size, 5, none⟩) := hf 11 (by omega)
        have f12 : u 12 = .slice (some ⟨bs, offs, none⟩) tl tc := hf 12 (by omega)
        have f13 : u 13 = .int .i64 (k : Int) := hf 13 (by omega)
        have f14 : u 14 = .pointer (some ⟨bs, offs + k, none⟩) := hf 14 (by omega)
        have f15 : u 15 = .int .i64 T := hf 15 (by omega)
        have f16 : u 16 = .int .i64 (X * T) := hf 16 (by omega)
        have f17 : u 17 = .int .i64 (Y + X * T) := hf 17 (by omega)
        have f18 : u 18 = .pointer (some ⟨w.heap.size + 1 + 1, k, none⟩) := hf 18 (by omega)
        refine UptoW.rest 1 19 (by rfl) (by kernel_rfl) ?_
        simp only [List.take, List.drop, putOps, Act.put, List.setIfInBounds_toArray, List.set_cons_zero, List.set_cons_succ, Nat.reduceAdd, f0, f1, f2, f3, f4, f5, f6, f7, f8, f9, f10, f11, f12, f13, f14, f15, f16, f17, f18]
        clear f0 f1 f2 f3 f4 f5 f6 f7 f8 f9 f10 f11 f12 f13 f14 f15 f16 f17 f18 hf hp
        have hr2 := (hb.cell (p := ⟨w.heap.size + 1 + 1, k, none⟩) (lt_of_cell hr1)).trans hr1
        have hf2 := (hb.frozen (p := ⟨w.heap.size + 1 + 1, k, none⟩) (lt_of_cell hr1)).trans hf
        refine wpList_plain rfl (fun K hK => ?_)
        go_simp
        refine hK _ _ (wpList_nil ?_)
        clear hK K hr2 hf2 hr1 hf
        have HR2 : Hid (RowI wz (w.heap.size + 1 + 1) dl (fillF (fun j => lo[j]?.getD 0 + at'[j]?.getD 0 * st[j]?.getD 0) dl k)) := HR.out.below hb
        have HO2 := hide (HO.out.below hb)
        have HA2 := hide (HA.out.below hb)
        have HBz := hide (Below.on HB.out hb)
        clear HR HO HA HB hb o0 o1 o2 o3 o4 o5 o6 xa xl xs
        have HR := HR2
        have HO := HO2
        have HA := HA2
        have HB := HBz
        clear HR2 HO2 HA2 HBz
        go_wp2
        go_roundw
        case rel =>
          refine ⟨k + 1, by omega, by go_num, World.rowIs.congr (HR.out.set k (.int .i64 (Y + X * T))) (fun j _ => ?_), HO.out.set (p := ⟨(w.heap.size + 1 + 1), k, none⟩) (by simp; omega) _, HA.out.set (p := ⟨(w.heap.size + 1 + 1), k, none⟩) (by simp) _, HB.out.setCell (p := ⟨(w.heap.size + 1 + 1), k, none⟩) (by simp; omega) _⟩
          rw [HS.out]
          by_cases e : j = k
          · subst e
            rw [if_pos rfl, List.getElem?_set_self HQL.out]
            rfl
          · rw [if_neg e, List.getElem?_set_ne (fun h => e h.symm)]
        case measure => simp [intOf]; omega
    · obtain rfl : al = k := by omega
      obtain rfl : dl = al := by omega
      obtain ⟨⟨r0, r1⟩, _⟩ := HA.out.cells
      have hin : Ints wr (some ⟨(w.heap.size + 1 + 1), 0, none⟩) dl (fillF (fun j => lo[j]?.getD 0 + at'[j]?.getD 0 * st[j]?.getD 0) dl dl) := ints_of_rowI HR.out (by rw [fillF_length]) (by omega) (by exact fillF_bd' (fun j hj => by have := Hhbd.out j (by omega); omega) _)
      have HIN := hide hin
      clear hin
      go_wp2_with (go_at_call 32; refine (rget_any _ _ _ ds _ _ _ xs _ _ _ (fillF (fun j => lo[j]?.getD 0 + at'[j]?.getD 0 * st[j]?.getD 0) dl dl) _ p (HD.out.below HB.out) hdc (HX.out.below HB.out) HIN.out HPP.out hpn).mono ?_; rintro e w9 ⟨rfl, hb⟩; have HB9 := hide (Below.on HB.out hb); clear hb)
      go_ret
      exact ⟨rfl, HB9.out⟩

set_option maxRecDepth 100000 in
set_option maxHeartbeats 4000000 in
theorem rview_15 (x : Int) (vd vl vh vs : Value) (pa : Option Addr) (pl pc : Nat) (ps : List Int) (da : Option Addr) (dl dc : Nat) (ds : List Int) (xa : Option Addr) (n xc : Nat) (xs : List Int) (aa : Option Addr) (al ac : Nat) (at' : List Int) (w : World) (p : Nat)
    (hps : Ints w pa pl ps) (hd : Ints w da dl ds) (hdc : dl ≤ dc) (hx : Ints w xa n xs) (hat : Ints w aa al at') (h6 : dl ≤ 6) (hal : al ≤ dl) (hal2 : dl ≤ al) (hbd : ∀ i, i < al → 0 ≤ at'[i]?.getD 0 ∧ at'[i]?.getD 0 < ds[i]?.getD 0 ∧ ds[i]?.getD 0 ≤ 4096) (hp : placeN ds (fillF (fun j => if ps.any (fun x => x == (j : Int)) then ds[j]?.getD 0 - 1 - at'[j]?.getD 0 else at'[j]?.getD 0) dl dl) = p) (hpn : p < n) :
    Calls Tryz.prog 39 #[.agg #[.int .i64 15, vd, .slice pa pl pc, vl, vh, vs, .int .i64 x], .agg #[.slice da dl dc, .slice xa n xc], .slice aa al ac] w fun e w' => e = .returned (.int .i64 (xs[p]?.getD 0)) ∧ Below w.heap.size w w' := by
  have hmps := hps.2.1
  have Hps := hide hps
  have hmd := hd.2.1
  have hma := hat.2.1
  have HD := hide hd
  have HX := hide hx
  have HAT := hide hat
  have HPP := hide hp
  have Hhbd := hide hbd
  have hmk := run_make_row' (P := Tryz.prog) 22 3 (.int .i64 0) 8 Tryz.underlying22 info_int rfl .i64 .i64 dl (by omega) (by omega)
  have HB2 := hide (((Below.refl w.heap.size w).alloc (Nat.le_refl _) (.cells #[.int .i64 15, vd, .slice pa pl pc, vl, vh, vs, .int .i64 x] 31)).alloc (by simp) (.cells #[.slice da dl dc, .slice xa n xc] 25))
  have HOP := hide ((OpAt.new w 15 vd (.slice pa pl pc) vl vh vs x).alloc (.cells #[.slice da dl dc, .slice xa n xc] 25))
  have har := ArrAt.new (w.alloc (.cells #[.int .i64 15, vd, .slice pa pl pc, vl, vh, vs, .int .i64 x] 31)) (.slice da dl dc) (.slice xa n xc)
  simp only [World.size_alloc] at har
  have HAR := hide har
  obtain ⟨o0, o1, o2, o3, o4, o5, o6⟩ := HOP.out.cells
  obtain ⟨⟨r0, r1⟩, _⟩ := HAR.out.cells
  clear har hd hx hat hp hps hbd
  go_enter Tryz.func39, Tryz.ntmps39
  go_wp2
  go_loopw [22] (fun i wr => ∃ k : Nat, k ≤ al ∧ i = .int .i64 k ∧ RowI wr (w.heap.size + 1 + 1) dl (fillF (fun j => if ps.any (fun x => x == (j : Int)) then ds[j]?.getD 0 - 1 - at'[j]?.getD 0 else at'[j]?.getD 0) dl k) ∧ OpAt wr w.heap.size 15 vd (.slice pa pl pc) vl vh vs x ∧ ArrAt wr (w.heap.size + 1) (.slice da dl dc) (.slice xa n xc) ∧ Below w.heap.size w wr) (fun i _ => al - (intOf i).toNat)
  case atStart =>
    refine ⟨0, Nat.zero_le _, rfl, ?_, HOP.out.alloc _, HAR.out.alloc _, HB2.out.alloc HB2.out.size _⟩
    have := World.rowIs_made ((w.alloc (.cells #[.int .i64 15, vd, .slice pa pl pc, vl, vh, vs, .int .i64 x] 31)).alloc (.cells #[.slice da dl dc, .slice xa n xc] 25)) (.int .i64 0) dl 3
    simp only [World.size_alloc] at this
    exact this.congr (fun j _ => by rw [fillF_zero])
  case round =>
    obtain ⟨k, hk, rfl, hrow, hop, har, hB⟩ := hrel
    have HR := hide hrow
    have HO := hide hop
    have HA := hide har
    have HB := hide hB
    clear hrow hop har hB o0 o1 o2 o3 o4 o5 o6 r0 r1
    have hG := HA.out.lt
    by_cases hlt : k < al
    · obtain ⟨ba, offa, rfl, _, hca⟩ := (HAT.out.below HB.out).at (by omega)
      have xa := hca k (by omega)
      obtain ⟨bd, offd, rfl, _, hcd⟩ := (HD.out.below HB.out).at (by omega)
      have xd := hcd k (by omega)
      have hbk := Hhbd.out k hlt
      obtain ⟨X, hX⟩ : ∃ X, X = at'[k]?.getD 0 := ⟨_, rfl⟩
      obtain ⟨Y, hY⟩ : ∃ Y, Y = ds[k]?.getD 0 := ⟨_, rfl⟩
      rw [← hX, ← hY] at hbk
      rw [← hX] at xa
      rw [← hY] at xd
      have hqn : k < dl := by omega
      have i1 : (0 : Int) ≤ (k : Int) := Int.natCast_nonneg _
      have i2 : (k : Int) < (al : Int) := by omega
      have i5 : (k : Int) < (dl : Int) := by omega
      have hr1 := HR.out.cell hqn
      have hf := HR.out.frozen k
      have ha5 := HA.out.set (p := ⟨w.heap.size + 1 + 1, k, none⟩) (by simp) (.int .i64 X)
      have HO5 := hide (HO.out.set (p := ⟨w.heap.size + 1 + 1, k, none⟩) (by simp; omega) (.int .i64 X))
      have HA5 := hide ha5
      have HB5 := hide (HB.out.setCell (p := ⟨w.heap.size + 1 + 1, k, none⟩) (by simp; omega) (.int .i64 X))
      obtain ⟨o0, o1, o2, o3, o4, o5, o6⟩ := HO5.out.cells
      have HQL : Hid (k < (fillF (fun j => if ps.any (fun x => x == (j : Int)) then ds[j]?.getD 0 - 1 - at'[j]?.getD 0 else at'[j]?.getD 0) dl k).length) := by rw [Hid, fillF_length]; exact hqn
      have HR5 := hide (HR.out.set k (.int .i64 X))
      obtain ⟨BB, hBB⟩ : ∃ BB, ps.any (fun x => x == (k : Int)) = BB := ⟨_, rfl⟩
      have HBB := hide hBB
      clear ha5 hBB hca hcd
      cases BB
      case false =>
        have HS : Hid ((fillF (fun j => if ps.any (fun x => x == (j : Int)) then ds[j]?.getD 0 - 1 - at'[j]?.getD 0 else at'[j]?.getD 0) dl (k + 1)) = (fillF (fun j => if ps.any (fun x => x == (j : Int)) then ds[j]?.getD 0 - 1 - at'[j]?.getD 0 else at'[j]?.getD 0) dl k).set k X) := by rw [Hid, fillF_succ, HBB.out, if_neg (by simp), hX]
        clear hX hY hbk
        go_wp2_with (go_at_call 55; refine (has2_any _ _ _ ps _ _ (Hps.out.below HB5.out)).mono ?_; rintro e w' ⟨rfl, hw'⟩; obtain rfl := hw'.symm; rw [HBB.out])
        clear HO HA HB o0 o1 o2 o3 o4 o5 o6
        have HO := HO5
        have HA := HA5
        have HB := HB5
        go_roundw
        case rel =>
          refine ⟨k + 1, by omega, by go_num, World.rowIs.congr HR5.out (fun j _ => ?_), HO.out, HA.out, HB.out⟩
          rw [HS.out]
          by_cases e : j = k
          · subst e
            rw [if_pos rfl, List.getElem?_set_self HQL.out]
            rfl
          · rw [if_neg e, List.getElem?_set_ne (fun h => e h.symm)]
        case measure => simp [intOf]; omega
      case true =>
        have HS : Hid ((fillF (fun j => if ps.any (fun x => x == (j : Int)) then ds[j]?.getD 0 - 1 - at'[j]?.getD 0 else at'[j]?.getD 0) dl (k + 1)) = (fillF (fun j => if ps.any (fun x => x == (j : Int)) then ds[j]?.getD 0 - 1 - at'[j]?.getD 0 else at'[j]?.getD 0) dl k).set k (Y - 1 - X)) := by rw [Hid, fillF_succ, HBB.out, if_pos rfl, hX, hY]
        have w1 : IntKind.i64.wrap (Y - 1) = Y - 1 := wrap_in _ (by omega) (by omega)
        have w2 : IntKind.i64.wrap (Y - 1 - X) = Y - 1 - X := wrap_in _ (by omega) (by omega)
        have xa5 := (show (wr.setCell ⟨w.heap.size + 1 + 1, k, none⟩ (.int .i64 X)).cell? ⟨ba, offa + k, none⟩ = some (.int .i64 X) from (by obtain ⟨b2, off2, e2, _, hc2⟩ := (HAT.out.below HB5.out).at (by omega); cases e2; have h2 := hc2 k (by omega); rw [← hX] at h2; exact h2))
        have xd5 := (show (wr.setCell ⟨w.heap.size + 1 + 1, k, none⟩ (.int .i64 X)).cell? ⟨bd, offd + k, none⟩ = some (.int .i64 Y) from (by obtain ⟨b2, off2, e2, _, hc2⟩ := (HD.out.below HB5.out).at (by omega); cases e2; have h2 := hc2 k (by omega); rw [← hY] at h2; exact h2))
        clear hX hY hbk
        go_wp2_with (go_at_call 55; refine (has2_any _ _ _ ps _ _ (Hps.out.below HB5.out)).mono ?_; rintro e w' ⟨rfl, hw'⟩; obtain rfl := hw'.symm; rw [HBB.out])
        have hr5 := HR5.out.cell hqn
        have hf5 := HR5.out.frozen k
        rw [if_pos rfl] at hr5
        generalize (wr.setCell ⟨w.heap.size + 1 + 1, k, none⟩ (.int .i64 X)) = W5 at *
        clear xa xd hr1 hf o0 o1 o2 o3 o4 o5 o6 HO HA HB HR
        obtain ⟨⟨r0, r1⟩, _⟩ := HA5.out.cells
        have xa := xa5
        have xd := xd5
        clear xa5 xd5
        refine region_made 14 14 [fIs (.slice (some ⟨w.heap.size + 1 + 1, 0, none⟩) dl dl), fIs (.int .i64 (k : Int)), fIs (.pointer (some ⟨w.heap.size + 1, 0, none⟩)), fIs (.slice (some ⟨bd, offd, none⟩) dl dc), fIs (.int .i64 (k : Int)), fIs (.pointer (some ⟨bd, offd + k, none⟩)), fIs (.int .i64 Y), fIs (.int .i64 (Y - 1)), fIs (.slice (some ⟨ba, offa, none⟩) al ac), fIs (.int .i64 (k : Int)), fIs (.pointer (some ⟨ba, offa + k, none⟩)), fIs (.int .i64 X), fIs (.int .i64 (Y - 1 - X)), fIs (.pointer (some ⟨w.heap.size + 1 + 1, k, none⟩))] (by kernel_rfl) (by kernel_rfl) (by kernel_rfl) (fun _ ⟨_, _⟩ ⟨_, _⟩ _ e h => by cases e; exact h) ⟨fIs_good _, fIs_good _, fIs_good _, fIs_good _, fIs_good _, fIs_good _, fIs_good _, fIs_good _, fIs_good _, fIs_good _, fIs_good _, fIs_good _, fIs_good _, fIs_good _, trivial⟩ ?mk ?rest
        case mk =>
          refine ⟨fun u wz hb hd => ?_, fun u wz hb hd => ?_, fun u wz hb hd => ?_, fun u wz hb hd => ?_, fun u wz hb hd => ?_, fun u wz hb hd => ?_, fun u wz hb hd => ?_, fun u wz hb hd => ?_, fun u wz hb hd => ?_, fun u wz hb hd => ?_, fun u wz hb hd => ?_, fun u wz hb hd => ?_, fun u wz hb hd => ?_, fun u wz hb hd => ?_, trivial⟩
          all_goals simp only [Act.put, List.setIfInBounds_toArray, List.set_cons_zero, List.set_cons_succ]
          · go_simp
            exact ⟨rfl, Below.refl _ _, fun h => by cases h⟩
          · go_simp
            exact ⟨rfl, Below.refl _ _, fun h => by cases h⟩
          · go_simp
            exact ⟨rfl, Below.refl _ _, fun h => by cases h⟩
          · have e2 : u 2 = .pointer (some ⟨w.heap.size + 1, 0, none⟩) := hd 2 (by omega) (by kernel_rfl)
            rw [e2]
            have r0' := (hb.cell (p := ⟨w.heap.size + 1, 0, none⟩) (lt_of_cell r0)).trans r0
            go_simp
            exact ⟨rfl, Below.refl _ _, fun h => by cases h⟩
          · go_simp
            exact ⟨rfl, Below.refl _ _, fun h => by cases h⟩
          · have e3 : u 3 = .slice (some ⟨bd, offd, none⟩) dl dc := hd 3 (by omega) (by kernel_rfl)
            have e4 : u 4 = .int .i64 (k : Int) := hd 4 (by omega) (by kernel_rfl)
            rw [e3, e4]
            go_simp
            exact ⟨rfl, Below.refl _ _, fun h => by cases h⟩
          · have e5 : u 5 = .pointer (some ⟨bd, offd + k, none⟩) := hd 5 (by omega) (by kernel_rfl)
            rw [e5]
            have xd' := (hb.cell (p := ⟨bd, offd + k, none⟩) (lt_of_cell xd)).trans xd
            go_simp
            exact ⟨rfl, Below.refl _ _, fun h => by cases h⟩
          · have e6 : u 6 = .int .i64 Y := hd 6 (by omega) (by kernel_rfl)
            rw [e6]
            go_simp
            exact ⟨rfl, Below.refl _ _, fun h => by cases h⟩
          · go_simp
            exact ⟨rfl, Below.refl _ _, fun h => by cases h⟩
          · go_simp
            exact ⟨rfl, Below.refl _ _, fun h => by cases h⟩
          · have e8 : u 8 = .slice (some ⟨ba, offa, none⟩) al ac := hd 8 (by omega) (by kernel_rfl)
            have e9 : u 9 = .int .i64 (k : Int) := hd 9 (by omega) (by kernel_rfl)
            rw [e8, e9]
            go_simp
            exact ⟨rfl, Below.refl _ _, fun h => by cases h⟩
          · have e10 : u 10 = .pointer (some ⟨ba, offa + k, none⟩) := hd 10 (by omega) (by kernel_rfl)
            rw [e10]
            have xa' := (hb.cell (p := ⟨ba, offa + k, none⟩) (lt_of_cell xa)).trans xa
            go_simp
            exact ⟨rfl, Below.refl _ _, fun h => by cases h⟩
          · have e7 : u 7 = .int .i64 (Y - 1) := hd 7 (by omega) (by kernel_rfl)
            have e11 : u 11 = .int .i64 X := hd 11 (by omega) (by kernel_rfl)
            rw [e7, e11]
            go_simp
            exact ⟨rfl, Below.refl _ _, fun h => by cases h⟩
          · have e0 : u 0 = .slice (some ⟨w.heap.size + 1 + 1, 0, none⟩) dl dl := hd 0 (by omega) (by kernel_rfl)
            have e1 : u 1 = .int .i64 (k : Int) := hd 1 (by omega) (by kernel_rfl)
            rw [e0, e1]
            go_simp
            exact ⟨rfl, Below.refl _ _, fun h => by cases h⟩
        case rest =>
          intro u wz hb hf hp
          have f0 : u 0 = .slice (some ⟨w.heap.size + 1 + 1, 0, none⟩) dl dl := hf 0 (by omega)
          have f1 : u 1 = .int .i64 (k : Int) := hf 1 (by omega)
          have f2 : u 2 = .pointer (some ⟨w.heap.size + 1, 0, none⟩) := hf 2 (by omega)
          have f3 : u 3 = .slice (some ⟨bd, offd, none⟩) dl dc := hf 3 (by omega)
          have f4 : u 4 = .int .i64 (k : Int) := hf 4 (by omega)
          have f5 : u 5 = .pointer (some ⟨bd, offd + k, none⟩) := hf 5 (by omega)
          have f6 : u 6 = .int .i64 Y := hf 6 (by omega)
          have f7 : u 7 = .int .i64 (Y - 1) := hf 7 (by omega)
          have f8 : u 8 = .slice (some ⟨ba, offa, none⟩) al ac := hf 8 (by omega)
          have f9 : u 9 = .int .i64 (k : Int) := hf 9 (by omega)
          have f10 : u 10 = .pointer (some ⟨ba, offa + k, none⟩) := hf 10 (by omega)
          have f11 : u 11 = .int .i64 X := hf 11 (by omega)
          have f12 : u 12 = .int .i64 (Y - 1 - X) := hf 12 (by omega)
          have f13 : u 13 = .pointer (some ⟨w.heap.size + 1 + 1, k, none⟩) := hf 13 (by omega)
          refine UptoW.rest 1 14 (by rfl) (by kernel_rfl) ?_
          simp only [List.take, List.drop, putOps, Act.put, List.setIfInBounds_toArray, List.set_cons_zero, List.set_cons_succ, Nat.reduceAdd, f0, f1, f2, f3, f4, f5, f6, f7, f8, f9, f10, f11, f12, f13]
          clear f0 f1 f2 f3 f4 f5 f6 f7 f8 f9 f10 f11 f12 f13 hf hp
          have hr2 := (hb.cell (p := ⟨w.heap.size + 1 + 1, k, none⟩) (lt_of_cell hr5)).trans hr5
          have hf2 := (hb.frozen (p := ⟨w.heap.size + 1 + 1, k, none⟩) (lt_of_cell hr5)).trans hf5
          refine wpList_plain rfl (fun K hK => ?_)
          go_simp
          refine hK _ _ (wpList_nil ?_)
          clear hK K hr2 hf2 hr5 hf5
          have HR6 := hide (World.rowIs.set (World.rowIs.of_block HR5.out (hb.block _ HR5.out.lt)) k (.int .i64 (Y - 1 - X)))
          have HO := hide ((HO5.out.below hb).set (p := ⟨w.heap.size + 1 + 1, k, none⟩) (by simp; omega) (.int .i64 (Y - 1 - X)))
          have HA := hide ((HA5.out.below hb).set (p := ⟨w.heap.size + 1 + 1, k, none⟩) (by simp) (.int .i64 (Y - 1 - X)))
          have HB := hide ((Below.on HB5.out hb).setCell (p := ⟨w.heap.size + 1 + 1, k, none⟩) (by simp; omega) (.int .i64 (Y - 1 - X)))
          clear HR5 HO5 HA5 HB5 hb r0 r1 xa xd
          go_wp2
          go_roundw
          case rel =>
            refine ⟨k + 1, by omega, by go_num, World.rowIs.congr HR6.out (fun j _ => ?_), HO.out, HA.out, HB.out⟩
            rw [HS.out]
            by_cases e : j = k
            · subst e
              rw [if_pos rfl, List.getElem?_set_self HQL.out]
              rfl
            · rw [if_neg e, if_neg e, List.getElem?_set_ne (fun h => e h.symm)]
          case measure => simp [intOf]; omega
    · obtain rfl : al = k := by omega
      obtain rfl : dl = al := by omega
      obtain ⟨⟨r0, r1⟩, _⟩ := HA.out.cells
      have hin : Ints wr (some ⟨(w.heap.size + 1 + 1), 0, none⟩) dl (fillF (fun j => if ps.any (fun x => x == (j : Int)) then ds[j]?.getD 0 - 1 - at'[j]?.getD 0 else at'[j]?.getD 0) dl dl) := ints_of_rowI HR.out (by rw [fillF_length]) (by omega) (by exact fillF_bd' (fun j hj => by have := Hhbd.out j (by omega); split <;> omega) _)
      have HIN := hide hin
      clear hin
      go_wp2_with (go_at_call 32; refine (rget_any _ _ _ ds _ _ _ xs _ _ _ (fillF (fun j => if ps.any (fun x => x == (j : Int)) then ds[j]?.getD 0 - 1 - at'[j]?.getD 0 else at'[j]?.getD 0) dl dl) _ p (HD.out.below HB.out) hdc (HX.out.below HB.out) HIN.out HPP.out hpn).mono ?_; rintro e w9 ⟨rfl, hb⟩; have HB9 := hide (Below.on HB.out hb); clear hb)
      go_ret
      exact ⟨rfl, HB9.out⟩

end Go.Proofs.YteoobeldmicjhaaGreat.V
namespace Go.Proofs.YteoobeldmicjhaaGreat.V
set_option maxRecDepth 20000

/-- Each entry of what is made is the entry at an index that is told. -/
def ThroughY (ds D : List Int) (Y : Nat → List Int) (S : Int → List Int → Int) (T : List Int → List Int) : Prop :=
  ∀ i : Nat, i < (prod D).toNat → (Y i).length = ds.length ∧ IdxOk ds (Y i) ∧ ∀ s ss, ss.length = ds.length → S s ss + lieN D (T ss) i = s + dotT (Y i) ss ds.length
theorem idx_turn {ds ps : List Int} (hE : sizeE ds = 0) (hp : PermOk ps ds.length) : ThroughY ds (taken ds ps) (fun i => taken (dig (taken ds ps) i) (invL ps)) (fun s _ => s) (fun ss => taken ss ps) := by
  intro i hi
  have hl := hp.1
  have hpm := taken_perm hp
  have hpos := pos_of (by rw [sizeE_perm hpm]; exact hE) hi
  have hb := dig_bd (taken ds ps) i hpos (by omega) (by omega)
  have hdl : (dig (taken ds ps) i).length = ds.length := by rw [dig_length, taken_length, hl]
  refine ⟨by rw [taken_length, invL_length, hl], fun k hk => ?_, fun s ss hss => ?_⟩
  · obtain ⟨j, h1, h2, h3⟩ := perm_at hp k hk
    have e1 : (taken (dig (taken ds ps) i) (invL ps))[k]?.getD 0 = (dig (taken ds ps) i)[j]?.getD 0 := taken_getD _ _ k j (by rw [invL_length]; omega) (by rw [invL_getD ps k (by omega), hl, h2])
    have e2 : (taken ds ps)[j]?.getD 0 = ds[k]?.getD 0 := taken_getD _ _ j k (by omega) h3
    have := hb j (by rw [taken_length]; omega)
    rw [e1, ← e2]; exact this
  · rw [lieN_dig _ _ _ (by rw [taken_length, taken_length]), taken_length, hl, dotT_sumL, dotT_sumL]
    congr 1
    have hpr : (ps.map Int.toNat).Perm (List.range ds.length) := by
      refine perm_range _ _ (by simp [hl]) (fun k hk => ?_)
      have := (perm_iff hp.1).1 hp.2 k hk
      simp only [List.mem_map]
      exact ⟨(k : Int), this, by simp⟩
    have h2 := sumL_perm (hpr.map (fun k => (taken (dig (taken ds ps) i) (invL ps))[k]?.getD 0 * ss[k]?.getD 0))
    rw [← h2]
    congr 1
    rw [List.map_map]
    apply List.ext_getElem?
    intro j
    by_cases hj : j < ds.length
    · have hjp : j < ps.length := by omega
      have hpj := hp.2 j hj
      obtain ⟨m, hm⟩ : ∃ m : Nat, ps[j]?.getD 0 = (m : Int) := ⟨(ps[j]?.getD 0).toNat, by omega⟩
      have hmn : m < ds.length := by omega
      obtain ⟨j', h1, h2', h3⟩ := perm_at hp m hmn
      have ejj := perm_inj hp hj h1 (hm.trans h3.symm)
      subst ejj
      have e1 : (taken (dig (taken ds ps) i) (invL ps))[m]?.getD 0 = (dig (taken ds ps) i)[j]?.getD 0 := taken_getD _ _ m j (by rw [invL_length]; omega) (by rw [invL_getD ps m (by omega), hl, h2'])
      have e2 : (taken ss ps)[j]?.getD 0 = ss[m]?.getD 0 := taken_getD _ _ j m hjp hm
      have hm' : ps[j] = (m : Int) := by simpa [hjp] using hm
      simp only [List.getElem?_map, List.getElem?_range hj, Option.map_some, List.getElem?_eq_getElem hjp, Function.comp, hm', Int.toNat_natCast, e1, e2]
    · rw [List.getElem?_eq_none (by simp; omega), List.getElem?_eq_none (by simp; omega)]
theorem idx_flip {ds ps : List Int} (hE : sizeE ds = 0) (hp : RiseOk ps ds.length) : ThroughY ds ds (fun i => (List.range ds.length).map fun k => if inB ps k = true then ds[k]?.getD 0 - 1 - (dig ds i)[k]?.getD 0 else (dig ds i)[k]?.getD 0) (fun s ss => flipAcc s ds ss ps ps.length) (fun ss => flipL ss ps) := by
  intro i hi
  have hpos := pos_of hE hi
  have hb := dig_bd ds i hpos (by omega) (by omega)
  refine ⟨by simp, fun k hk => ?_, fun s ss hss => ?_⟩
  · have := hb k hk
    simp only [List.getElem?_map, List.getElem?_range hk, Option.map_some, Option.getD_some]
    split <;> omega
  · show flipAcc s ds ss ps ps.length + lieN ds (flipL ss ps) i = _
    rw [← rAcc_flipAcc s ds ss ps ds.length hp, lieN_dig ds _ _ (by rw [flipL_length]; exact hss)]
    have key : ∀ k, k ≤ ds.length → rAcc s ds ss ps k + dotT (dig ds i) (flipL ss ps) k = s + dotT ((List.range ds.length).map fun k => if inB ps k = true then ds[k]?.getD 0 - 1 - (dig ds i)[k]?.getD 0 else (dig ds i)[k]?.getD 0) ss k := by
      intro k
      induction k with
      | zero => intro _; simp [rAcc, dotT]
      | succ k ih =>
        intro hk
        have ih' := ih (by omega)
        have hk' : k < ds.length := by omega
        have hd := hpos _ (mem_getD ds k hk')
        rw [rAcc, dotT, dotT, flipL_getD ss ps k (by omega)]
        simp only [List.getElem?_map, List.getElem?_range hk', Option.map_some, Option.getD_some]
        by_cases c : inB ps k = true
        · rw [if_pos c, if_pos c, if_pos c]
          unfold flipTerm
          rw [if_pos (by omega)]
          simp only [Int.sub_mul, Int.mul_neg, Int.one_mul]
          omega
        · rw [if_neg c, if_neg c, if_neg c]
          omega
    exact key ds.length (Nat.le_refl _)
theorem idx_cut {ds lo hi st : List Int} (hE : sizeE (cutD ds lo hi st) = 0) (hb : anyBad ds lo hi st = false) : ThroughY ds (cutD ds lo hi st) (fun i => (List.range ds.length).map fun k => lo[k]?.getD 0 + (dig (cutD ds lo hi st) i)[k]?.getD 0 * st[k]?.getD 0) (fun s ss => cutAcc s ss lo ds.length) (fun ss => cutS ss st) := by
  intro i hi'
  have hpos := pos_of hE hi'
  have hbd := dig_bd (cutD ds lo hi st) i hpos (by omega) (by omega)
  have hcl := cutD_length ds lo hi st
  refine ⟨by simp, fun k hk => ?_, fun s ss hss => ?_⟩
  · have h1 := hbd k (by omega)
    rw [cutD_getD ds lo hi st k hk] at h1
    have h2 := badCut_false (of_anyBad_false hb k hk)
    have h3 := kept_lt h2.2.2.2.1 h1.2
    have h4 : 0 ≤ (dig (cutD ds lo hi st) i)[k]?.getD 0 * st[k]?.getD 0 := Int.mul_nonneg h1.1 (by omega)
    simp only [List.getElem?_map, List.getElem?_range hk, Option.map_some, Option.getD_some]
    omega
  · show cutAcc s ss lo ds.length + lieN (cutD ds lo hi st) (cutS ss st) i = s + dotT ((List.range ds.length).map fun k => lo[k]?.getD 0 + (dig (cutD ds lo hi st) i)[k]?.getD 0 * st[k]?.getD 0) ss ds.length
    rw [lieN_dig _ _ _ (by rw [cutS_length, hcl]; exact hss), cutAcc_eq, hcl]
    have key : ∀ k, k ≤ ds.length → dotT lo ss k + dotT (dig (cutD ds lo hi st) i) (cutS ss st) k = dotT ((List.range ds.length).map fun k => lo[k]?.getD 0 + (dig (cutD ds lo hi st) i)[k]?.getD 0 * st[k]?.getD 0) ss k := by
      intro k
      induction k with
      | zero => intro _; simp [dotT]
      | succ k ih =>
        intro hk
        have ih' := ih (by omega)
        have hk' : k < ds.length := by omega
        rw [dotT, dotT, dotT, cutS_getD ss st k (by omega)]
        simp only [List.getElem?_map, List.getElem?_range hk', Option.map_some, Option.getD_some]
        rw [Int.add_mul, Int.mul_assoc]
        omega
    have := key ds.length (Nat.le_refl _)
    omega
theorem idx_spread {ds es ps : List Int} (hE : sizeE es = 0) (hl : ps.length = ds.length) (hp : RiseOk ps es.length) (hm : anyMis ds es ps = false) : ThroughY ds es (fun i => (List.range ds.length).map fun k => (dig es i)[(ps[k]?.getD 0).toNat]?.getD 0) (fun s _ => s) (fun ss => sprS es.length ss ps) := by
  intro i hi
  have hpos := pos_of hE hi
  have hb := dig_bd es i hpos (by omega) (by omega)
  refine ⟨by simp, fun k hk => ?_, fun s ss hss => ?_⟩
  · have h1 := hp k (by omega)
    have h2 := hb (ps[k]?.getD 0).toNat (by omega)
    have h3 : misAt ds es ps k = false := by
      unfold anyMis at hm
      rw [List.any_eq_false] at hm
      have := hm k (List.mem_range.2 (by omega))
      simpa using this
    simp [misAt] at h3
    simp only [List.getElem?_map, List.getElem?_range hk, Option.map_some, Option.getD_some]
    rw [h3]; exact h2
  · rw [lieN_dig _ _ _ (by rw [sprS_length])]
    have key : ∀ k, k ≤ ds.length → dotT (dig es i) ((List.range es.length).map (sprV ss ps k)) es.length = dotT ((List.range ds.length).map fun k => (dig es i)[(ps[k]?.getD 0).toNat]?.getD 0) ss k := by
      intro k
      induction k with
      | zero => intro _; exact dotT_zero _ _ _ (Nat.le_refl _)
      | succ k ih =>
        intro hk
        have ih' := ih (by omega)
        have hk' : k < ds.length := by omega
        have h1 := hp k (by omega)
        have hf : sprV ss ps k (ps[k]?.getD 0).toNat = 0 := sprV_none k fun j hj e => by
          have h2 := rise_lt hp j k hj (by omega)
          have h3 := hp j (by omega)
          omega
        have e := dotT_put (dig es i) (sprV ss ps k) (sprV ss ps (k + 1)) es.length (ps[k]?.getD 0).toNat (ss[k]?.getD 0) (fun j => rfl) es.length (Nat.le_refl _)
        rw [e, ih', if_pos (by omega), hf, dotT, Int.sub_zero]
        simp only [List.getElem?_map, List.getElem?_range hk', Option.map_some, Option.getD_some]
    have := key ds.length (Nat.le_refl _)
    unfold sprS
    rw [hl, this]
theorem place_dot {ds y : List Int} (hE : sizeE ds = 0) (hl : y.length = ds.length) (hi : IdxOk ds y) : placeN ds y = dotT y (stepsV ds) ds.length := by
  have e : placeN ds y = placeS ds y ds.length := by rw [placeN, if_neg (by simp [hE]), if_neg (by simp [hl]), if_pos ((idxB_iff _ _).2 hi)]
  have hz : (0 : Int) ∉ ds := fun e => by have := idxOk_pos hi 0 e; omega
  have key : ∀ k, k ≤ ds.length → placeS ds y k = dotT y (stepsV ds) k := fun k => by
    induction k with
    | zero => intro _; rfl
    | succ k ih => intro hk; rw [placeS, dotT, ih (by omega), stepsV_getD hz (by omega)]
  rw [e, key _ (Nat.le_refl _)]
theorem idx_read {ds D : List Int} {Y : Nat → List Int} {S : Int → List Int → Int} {T : List Int → List Int} (h : ThroughY ds D Y S T) (hE : sizeE ds = 0) (i : Nat) (hi : i < (prod D).toNat) :
    ∃ p : Nat, p < (prod ds).toNat ∧ placeN ds (Y i) = (p : Int) ∧ (readsV (S 0 (stepsV ds)) D (T (stepsV ds)))[i]?.getD 0 = (p : Int) := by
  obtain ⟨h1, h2, h3⟩ := h i hi
  have h4 := h3 0 (stepsV ds) (stepsV_len ds)
  obtain ⟨q0, q1, _⟩ := place_lie ds (stepsV ds) (Y i) (stepsV_len ds) h1 h2
  refine ⟨(dotT (Y i) (stepsV ds) ds.length).toNat, by omega, ?_, ?_⟩
  · rw [place_dot hE h1 h2]; omega
  · rw [readsV_getD _ _ _ i hi, h4]; omega
theorem fillF_full (f : Nat → Int) (r : Nat) : fillF f r r = (List.range r).map f := by
  unfold fillF
  refine List.map_congr_left (fun j hj => ?_)
  rw [if_pos (List.mem_range.1 hj)]
theorem setAll_miss {zs ps vs : List Int} {q : Nat} : ∀ k, (∀ j, j < k → (ps[j]?.getD 0).toNat ≠ q) → (setAll zs ps vs k)[q]?.getD 0 = zs[q]?.getD 0
  | 0, _ => rfl
  | k + 1, h => by
    rw [setAll, List.getElem?_set_ne (h k (by omega)), setAll_miss k (fun j hj => h j (by omega))]
theorem setAll_hit {zs ps vs : List Int} {q j : Nat} (hq : q < zs.length) (hj : (ps[j]?.getD 0).toNat = q) : ∀ k, j < k → (∀ i, j < i → i < k → (ps[i]?.getD 0).toNat ≠ q) → (setAll zs ps vs k)[q]?.getD 0 = vs[j]?.getD 0
  | 0, h, _ => by omega
  | k + 1, h, hn => by
    rw [setAll]
    by_cases e : j = k
    · subst e
      rw [hj, List.getElem?_set_self (by rw [setAll_length]; exact hq)]; rfl
    · rw [List.getElem?_set_ne (hn k (by omega) (by omega)), setAll_hit hq hj k (by omega) (fun i h1 h2 => hn i h1 (by omega))]
theorem setAll_inv {ps at' : List Int} {r : Nat} (hp : PermOk ps r) : setAll (List.replicate r 0) ps at' ps.length = taken at' (invL ps) := by
  have hpl := hp.1
  apply List.ext_getElem?
  intro k
  by_cases hk : k < r
  · obtain ⟨j, h1, h2, h3⟩ := perm_at hp k hk
    have e1 : (taken at' (invL ps))[k]?.getD 0 = at'[j]?.getD 0 := taken_getD _ _ k j (by rw [invL_length]; omega) (by rw [invL_getD ps k (by omega), hpl, h2])
    have e2 : (setAll (List.replicate r 0) ps at' ps.length)[k]?.getD 0 = at'[j]?.getD 0 := setAll_hit (by simp; exact hk) (by rw [h3]; omega) ps.length (by omega) (fun i hi1 hi2 e => by
      have hpi := hp.2 i (by omega)
      have := perm_inj hp (i := i) (j := j) (by omega) h1 (by rw [h3]; omega)
      omega)
    have l1 : k < (setAll (List.replicate r 0) ps at' ps.length).length := by rw [setAll_length]; simp; exact hk
    have l2 : k < (taken at' (invL ps)).length := by rw [taken_length, invL_length]; omega
    rw [List.getElem?_eq_getElem l1, List.getElem?_eq_getElem l2] at *
    simp only [Option.getD_some] at e1 e2
    rw [e1, e2]
  · rw [List.getElem?_eq_none (by rw [setAll_length]; simp; omega), List.getElem?_eq_none (by rw [taken_length, invL_length]; omega)]
end Go.Proofs.YteoobeldmicjhaaGreat.V
