/-
  Contract: adjointref2.placed.
-/
import Derived.Test.YtoagnhppjlcpkaaGreatRGRAllC
import Derived.Test.YtoagnhppjlcpkaaGreatRGArrEach
import Derived.Test.YtoagnhppjlcpkaaGreatRGLapse
import Derived.Test.YtoagnhppjlcpkaaGreatRHArrTakes
import Derived.BigQuiet
namespace Go.Proofs.YtoagnhppjlcpkaaGreat.V
set_option maxRecDepth 20000
open Go.RowKit

theorem repl0_at (n j : Nat) : (List.replicate n (0 : Int))[j]?.getD 0 = 0 := by
  simp [List.getElem?_replicate]; split <;> rfl
theorem bd_get {xs : List Int} (h : ∀ x ∈ xs, -9223372036854775808 ≤ x ∧ x ≤ 9223372036854775807) (i : Nat) : -9223372036854775808 ≤ xs[i]?.getD 0 ∧ xs[i]?.getD 0 ≤ 9223372036854775807 := by
  by_cases hi : i < xs.length
  · rw [List.getElem?_eq_getElem hi]; exact h _ (List.getElem_mem hi)
  · rw [List.getElem?_eq_none (by omega)]; simp
/-- The first k numbers of a list, put where another one says. -/
def setAll (zs ps vs : List Int) : Nat → List Int
  | 0 => zs
  | k + 1 => (setAll zs ps vs k).set (ps[k]?.getD 0).toNat (vs[k]?.getD 0)
theorem setAll_length (zs ps vs : List Int) : ∀ k, (setAll zs ps vs k).length = zs.length
  | 0 => rfl
  | k + 1 => by simp [setAll, setAll_length zs ps vs k]
theorem setAll_bd {zs ps vs : List Int} (hz : ∀ x ∈ zs, -9223372036854775808 ≤ x ∧ x ≤ 9223372036854775807) (hv : ∀ x ∈ vs, -9223372036854775808 ≤ x ∧ x ≤ 9223372036854775807) : ∀ k, ∀ x ∈ setAll zs ps vs k, -9223372036854775808 ≤ x ∧ x ≤ 9223372036854775807
  | 0 => hz
  | k + 1 => fun x hx => by
    rcases List.mem_or_eq_of_mem_set hx with h | h
    · exact setAll_bd hz hv k x h
    · rw [h]; exact bd_get hv _

set_option maxRecDepth 100000 in
set_option maxHeartbeats 2000000 in
theorem placed_any (r : Nat) (pa : Option Addr) (pl pc : Nat) (ps : List Int) (va : Option Addr) (vl vc : Nat) (vs : List Int) (qa : Option Addr) (ql qc : Nat) (qs : List Int) (ua : Option Addr) (ul uc : Nat) (us : List Int) (w : World) (hr : r ≤ 6)
    (hp : Ints w pa pl ps) (hv : Ints w va vl vs) (hq : Ints w qa ql qs) (hu : Ints w ua ul us) (hpv : pl ≤ vl) (hqu : ql ≤ ul) (hpb : ∀ i, i < pl → 0 ≤ ps[i]?.getD 0 ∧ ps[i]?.getD 0 < r) (hqb : ∀ i, i < ql → 0 ≤ qs[i]?.getD 0 ∧ qs[i]?.getD 0 < r) :
    Calls Tryz.prog 43 #[.int .i64 r, .slice pa pl pc, .slice va vl vc, .slice qa ql qc, .slice ua ul uc] w fun e w' => (∃ g : Nat, e = .returned (.slice (some ⟨g, 0, none⟩) r r) ∧ Ints w' (some ⟨g, 0, none⟩) r (setAll (setAll (List.replicate r 0) ps vs pl) qs us ql) ∧ w.heap.size ≤ g) ∧ Below w.heap.size w w' := by
  have hm1 := hp.2.1
  have hm2 := hv.2.1
  have hm3 := hq.2.1
  have hm4 := hu.2.1
  have HP := hide hp
  have HV := hide hv
  have HQ := hide hq
  have HU := hide hu
  have HPB := hide hpb
  have HQB := hide hqb
  have hmk := run_make_row' (P := Tryz.prog) 22 3 (.int .i64 0) 8 Tryz.underlying22 info_int rfl .i64 .i64 r (by omega) (by omega)
  have HZL := hide (show (List.replicate r (0 : Int)).length = r by simp)
  clear hp hv hq hu hpb hqb
  go_enter Tryz.func43, Tryz.ntmps43
  go_wp2
  go_loopw [20] (fun i wr => ∃ k : Nat, k ≤ pl ∧ i = .int .i64 k ∧ RowI wr w.heap.size r (setAll (List.replicate r 0) ps vs k) ∧ Below w.heap.size w wr) (fun i _ => pl - (intOf i).toNat)
  case atStart =>
    refine ⟨0, Nat.zero_le _, rfl, ?_, (Below.refl _ _).alloc (Nat.le_refl _) _⟩
    exact (World.rowIs_made w (.int .i64 0) r 3).congr (fun j _ => by simp only [setAll]; rw [repl0_at])
  case round =>
    obtain ⟨k, hk, rfl, hrow, hB⟩ := hrel
    have HR := hide hrow
    have HB := hide hB
    clear hrow hB
    by_cases hlt : k < pl
    · obtain ⟨b, off, rfl, _, hc⟩ := (HP.out.below HB.out).at (by omega)
      obtain ⟨b', off', rfl, _, hc'⟩ := (HV.out.below HB.out).at (by omega)
      have hqk := HPB.out k hlt
      obtain ⟨q, hqq⟩ : ∃ q : Nat, ps[k]?.getD 0 = (q : Int) := ⟨(ps[k]?.getD 0).toNat, by omega⟩
      have hck := hc k (by omega)
      have hck' := hc' k (by omega)
      rw [hqq] at hck hqk
      have hqn : q < r := by omega
      have hr1 := HR.out.cell hqn
      have hf := HR.out.frozen q
      obtain ⟨X, hX⟩ : ∃ X, X = vs[k]?.getD 0 := ⟨_, rfl⟩
      have HS : Hid (setAll (List.replicate r 0) ps vs (k + 1) = (setAll (List.replicate r 0) ps vs k).set q X) := by rw [Hid, setAll, hqq, Int.toNat_natCast, hX]
      rw [← hX] at hck'
      have i1 : (0 : Int) ≤ (k : Int) := Int.natCast_nonneg _
      have i2 : (k : Int) < (vl : Int) := by omega
      have i3 : (0 : Int) ≤ (q : Int) := Int.natCast_nonneg _
      have i4 : (q : Int) < (r : Int) := by omega
      have HQL : Hid (q < (setAll (List.replicate r 0) ps vs k).length) := by rw [Hid, setAll_length]; exact HZL.out.symm ▸ hqn
      clear hc hc' hqq hX hqk
      go_wp2
      go_roundw
      case rel =>
        refine ⟨k + 1, by omega, by go_num, World.rowIs.congr (HR.out.set q (.int .i64 X)) (fun j _ => ?_), HB.out.setCell (p := ⟨w.heap.size, q, none⟩) (Nat.le_refl _) _⟩
        rw [HS.out]
        by_cases e : j = q
        · subst e
          rw [if_pos rfl, List.getElem?_set_self HQL.out]
          rfl
        · rw [if_neg e, List.getElem?_set_ne (fun h => e h.symm)]
      case measure => simp [intOf]; omega
    · obtain rfl : k = pl := by omega
      obtain ⟨Z1, hZ1⟩ : ∃ Z1, Z1 = setAll (List.replicate r 0) ps vs k := ⟨_, rfl⟩
      have hzl1 : Z1.length = r := by rw [hZ1, setAll_length]; exact HZL.out
      have hbd1 := setAll_bd (zs := Z1) (ps := qs) (by rw [hZ1]; exact setAll_bd (ps := ps) (fun x hx => by simp at hx; omega) HV.out.2.2.1 k) HU.out.2.2.1 ql
      clear HZL
      have HZL := hide hzl1
      have HBD := hide hbd1
      rw [← hZ1] at HR
      have HZ1 := hide hZ1
      have HR1 := HR
      have HB1 := HB
      clear HR HB hzl1 hbd1 hZ1 hlt hk
      go_wp2
      go_loopw [35] (fun i wr => ∃ k : Nat, k ≤ ql ∧ i = .int .i64 k ∧ RowI wr w.heap.size r (setAll Z1 qs us k) ∧ Below w.heap.size w wr) (fun i _ => ql - (intOf i).toNat)
      case atStart =>
        exact ⟨0, Nat.zero_le _, rfl, HR1.out, HB1.out⟩
      case round =>
        obtain ⟨k, hk, rfl, hrow, hB⟩ := hrel
        have HR := hide hrow
        have HB := hide hB
        clear hrow hB
        by_cases hlt : k < ql
        · obtain ⟨b, off, rfl, _, hc⟩ := (HQ.out.below HB.out).at (by omega)
          obtain ⟨b', off', rfl, _, hc'⟩ := (HU.out.below HB.out).at (by omega)
          have hqk := HQB.out k hlt
          obtain ⟨q, hqq⟩ : ∃ q : Nat, qs[k]?.getD 0 = (q : Int) := ⟨(qs[k]?.getD 0).toNat, by omega⟩
          have hck := hc k (by omega)
          have hck' := hc' k (by omega)
          rw [hqq] at hck hqk
          have hqn : q < r := by omega
          have hr1 := HR.out.cell hqn
          have hf := HR.out.frozen q
          obtain ⟨X, hX⟩ : ∃ X, X = us[k]?.getD 0 := ⟨_, rfl⟩
          have HS : Hid (setAll Z1 qs us (k + 1) = (setAll Z1 qs us k).set q X) := by rw [Hid, setAll, hqq, Int.toNat_natCast, hX]
          rw [← hX] at hck'
          have i1 : (0 : Int) ≤ (k : Int) := Int.natCast_nonneg _
          have i2 : (k : Int) < (ul : Int) := by omega
          have i3 : (0 : Int) ≤ (q : Int) := Int.natCast_nonneg _
          have i4 : (q : Int) < (r : Int) := by omega
          have HQL : Hid (q < (setAll Z1 qs us k).length) := by rw [Hid, setAll_length]; exact HZL.out.symm ▸ hqn
          clear hc hc' hqq hX hqk
          go_wp2
          go_roundw
          case rel =>
            refine ⟨k + 1, by omega, by go_num, World.rowIs.congr (HR.out.set q (.int .i64 X)) (fun j _ => ?_), HB.out.setCell (p := ⟨w.heap.size, q, none⟩) (Nat.le_refl _) _⟩
            rw [HS.out]
            by_cases e : j = q
            · subst e
              rw [if_pos rfl, List.getElem?_set_self HQL.out]
              rfl
            · rw [if_neg e, List.getElem?_set_ne (fun h => e h.symm)]
          case measure => simp [intOf]; omega
        · obtain rfl : k = ql := by omega
          go_wp2
          refine bodyPost_ret (v := .slice (some ⟨w.heap.size, 0, none⟩) r r) (by simp [results, Tryz.results43, go_sem]) rfl ⟨⟨w.heap.size, rfl, ?_, Nat.le_refl _⟩, HB.out⟩
          rw [← HZ1.out]
          exact ints_of_rowI HR.out (by rw [setAll_length]; exact HZL.out) (by omega) HBD.out
end Go.Proofs.YtoagnhppjlcpkaaGreat.V

/-
  Contract: adjointref2.viewEntry.
-/
namespace Go.Proofs.YtoagnhppjlcpkaaGreat.V
set_option maxRecDepth 20000
open Go.RowKit

/-- A list whose first k numbers are told. -/
def fillF (f : Nat → Int) (r k : Nat) : List Int := (List.range r).map fun j => if j < k then f j else 0
theorem fillF_length (f : Nat → Int) (r k : Nat) : (fillF f r k).length = r := by simp [fillF]
theorem fillF_zero (f : Nat → Int) (r j : Nat) : (fillF f r 0)[j]?.getD 0 = 0 := by
  by_cases h : j < r
  · simp [fillF, h]
  · simp [fillF, h]
theorem fillF_succ (f : Nat → Int) (r k : Nat) : fillF f r (k + 1) = (fillF f r k).set k (f k) := by
  apply List.ext_getElem
  · simp [fillF]
  · intro i h1 h2
    simp only [fillF, List.length_map, List.length_range] at h1
    rw [List.getElem_set]
    by_cases e : k = i
    · subst e; simp [fillF]
    · rw [if_neg e]
      simp only [fillF, List.getElem_map, List.getElem_range]
      by_cases c : i < k
      · rw [if_pos c, if_pos (by omega)]
      · rw [if_neg c, if_neg (by omega)]
theorem fillF_bd' {f : Nat → Int} {r : Nat} (h : ∀ j, j < r → -9223372036854775808 ≤ f j ∧ f j ≤ 9223372036854775807) (k : Nat) : ∀ x ∈ fillF f r k, -9223372036854775808 ≤ x ∧ x ≤ 9223372036854775807 := by
  intro x hx
  simp only [fillF, List.mem_map, List.mem_range] at hx
  obtain ⟨j, hj, rfl⟩ := hx
  split
  · exact h j hj
  · omega
theorem fillF_bd {f : Nat → Int} (h : ∀ j, -9223372036854775808 ≤ f j ∧ f j ≤ 9223372036854775807) (r k : Nat) : ∀ x ∈ fillF f r k, -9223372036854775808 ≤ x ∧ x ≤ 9223372036854775807 := by
  intro x hx
  simp only [fillF, List.mem_map, List.mem_range] at hx
  obtain ⟨j, _, rfl⟩ := hx
  split
  · exact h j
  · omega

set_option maxRecDepth 100000 in
set_option maxHeartbeats 4000000 in
theorem rview_9 (x : Int) (vd vl vh vs : Value) (pa : Option Addr) (pl pc : Nat) (ps : List Int) (da : Option Addr) (dl dc : Nat) (ds : List Int) (xa : Option Addr) (n xc : Nat) (xs : List Int) (aa : Option Addr) (al ac : Nat) (at' : List Int) (w : World) (p : Nat)
    (hps : Ints w pa pl ps) (hd : Ints w da dl ds) (hdc : dl ≤ dc) (hx : Ints w xa n xs) (hat : Ints w aa al at') (h6 : dl ≤ 6) (hpl : pl ≤ dl) (hpl2 : dl ≤ pl) (hpb : ∀ i, i < pl → 0 ≤ ps[i]?.getD 0 ∧ ps[i]?.getD 0 < al) (hp : placeN ds (fillF (fun j => at'[(ps[j]?.getD 0).toNat]?.getD 0) dl dl) = p) (hpn : p < n) :
    Calls Tryz.prog 49 #[.agg #[.int .i64 9, vd, .slice pa pl pc, vl, vh, vs, .int .i64 x], .agg #[.slice da dl dc, .slice xa n xc], .slice aa al ac] w fun e w' => e = .returned (.int .i64 (xs[p]?.getD 0)) ∧ Below w.heap.size w w' := by
  have hmps := hps.2.1
  have Hps := hide hps
  have hmd := hd.2.1
  have hma := hat.2.1
  have HD := hide hd
  have HX := hide hx
  have HAT := hide hat
  have HPP := hide hp
  have Hhpb := hide hpb
  have hmk := run_make_row' (P := Tryz.prog) 22 3 (.int .i64 0) 8 Tryz.underlying22 info_int rfl .i64 .i64 dl (by omega) (by omega)
  have HB2 := hide (((Below.refl w.heap.size w).alloc (Nat.le_refl _) (.cells #[.int .i64 9, vd, .slice pa pl pc, vl, vh, vs, .int .i64 x] 24)).alloc (by simp) (.cells #[.slice da dl dc, .slice xa n xc] 28))
  have HOP := hide ((OpAt.new w 9 vd (.slice pa pl pc) vl vh vs x).alloc (.cells #[.slice da dl dc, .slice xa n xc] 28))
  have har := ArrAt.new (w.alloc (.cells #[.int .i64 9, vd, .slice pa pl pc, vl, vh, vs, .int .i64 x] 24)) (.slice da dl dc) (.slice xa n xc)
  simp only [World.size_alloc] at har
  have HAR := hide har
  obtain ⟨o0, o1, o2, o3, o4, o5, o6⟩ := HOP.out.cells
  obtain ⟨⟨r0, r1⟩, _⟩ := HAR.out.cells
  clear har hd hx hat hp hps hpb
  go_enter Tryz.func49, Tryz.ntmps49
  go_wp2
  go_loopw [56] (fun i wr => ∃ k : Nat, k ≤ pl ∧ i = .int .i64 k ∧ RowI wr (w.heap.size + 1 + 1) dl (fillF (fun j => at'[(ps[j]?.getD 0).toNat]?.getD 0) dl k) ∧ OpAt wr w.heap.size 9 vd (.slice pa pl pc) vl vh vs x ∧ ArrAt wr (w.heap.size + 1) (.slice da dl dc) (.slice xa n xc) ∧ Below w.heap.size w wr) (fun i _ => pl - (intOf i).toNat)
  case atStart =>
    refine ⟨0, Nat.zero_le _, rfl, ?_, HOP.out.alloc _, HAR.out.alloc _, HB2.out.alloc HB2.out.size _⟩
    have := World.rowIs_made ((w.alloc (.cells #[.int .i64 9, vd, .slice pa pl pc, vl, vh, vs, .int .i64 x] 24)).alloc (.cells #[.slice da dl dc, .slice xa n xc] 28)) (.int .i64 0) dl 3
    simp only [World.size_alloc] at this
    exact this.congr (fun j _ => by rw [fillF_zero])
  case round =>
    obtain ⟨k, hk, rfl, hrow, hop, har, hB⟩ := hrel
    have HR := hide hrow
    have HO := hide hop
    have HA := hide har
    have HB := hide hB
    clear hrow hop har hB o0 o1 o2 o3 o4 o5 o6 r0 r1
    have hG := HA.out.lt
    by_cases hlt : k < pl
    · obtain ⟨bp, offp, rfl, _, hcp⟩ := (Hps.out.below HB.out).at (by omega)
      have xp := hcp k (by omega)
      have hqk := Hhpb.out k hlt
      obtain ⟨q, hqq⟩ : ∃ q : Nat, ps[k]?.getD 0 = (q : Int) := ⟨(ps[k]?.getD 0).toNat, by omega⟩
      rw [hqq] at xp hqk
      obtain ⟨ba, offa, rfl, _, hca⟩ := (HAT.out.below HB.out).at (by omega)
      have xa := hca q (by omega)
      obtain ⟨X, hX⟩ : ∃ X, X = at'[q]?.getD 0 := ⟨_, rfl⟩
      rw [← hX] at xa
      have HS : Hid ((fillF (fun j => at'[(ps[j]?.getD 0).toNat]?.getD 0) dl (k + 1)) = (fillF (fun j => at'[(ps[j]?.getD 0).toNat]?.getD 0) dl k).set k X) := by rw [Hid, fillF_succ, hqq, Int.toNat_natCast, hX]
      have hqn : k < dl := by omega
      have j1 : (q : Int) < (al : Int) := by omega
      have j2 : (0 : Int) ≤ (q : Int) := Int.natCast_nonneg _
      have j3 : (k : Int) < (dl : Int) := by omega
      have i1 : (0 : Int) ≤ (k : Int) := Int.natCast_nonneg _
      have i2 : (k : Int) < (pl : Int) := by omega
      clear hqk hqq hX hcp hca
      have hr1 := HR.out.cell hqn
      have hf := HR.out.frozen k
      obtain ⟨o0, o1, o2, o3, o4, o5, o6⟩ := HO.out.cells
      have HQL : Hid (k < (fillF (fun j => at'[(ps[j]?.getD 0).toNat]?.getD 0) dl k).length) := by rw [Hid, fillF_length]; exact hqn
      go_wp2
      go_roundw
      case rel =>
        refine ⟨k + 1, by omega, by go_num, World.rowIs.congr (HR.out.set k (.int .i64 X)) (fun j _ => ?_), HO.out.set (p := ⟨(w.heap.size + 1 + 1), k, none⟩) (by simp; omega) _, HA.out.set (p := ⟨(w.heap.size + 1 + 1), k, none⟩) (by simp) _, HB.out.setCell (p := ⟨(w.heap.size + 1 + 1), k, none⟩) (by simp; omega) _⟩
        rw [HS.out]
        by_cases e : j = k
        · subst e
          rw [if_pos rfl, List.getElem?_set_self HQL.out]
          rfl
        · rw [if_neg e, List.getElem?_set_ne (fun h => e h.symm)]
      case measure => simp [intOf]; omega
    · obtain rfl : dl = k := by omega
      obtain ⟨⟨r0, r1⟩, _⟩ := HA.out.cells
      have hin : Ints wr (some ⟨(w.heap.size + 1 + 1), 0, none⟩) dl (fillF (fun j => at'[(ps[j]?.getD 0).toNat]?.getD 0) dl dl) := ints_of_rowI HR.out (by rw [fillF_length]) (by omega) (by exact fillF_bd (fun j => bd_get HAT.out.2.2.1 _) _ _)
      have HIN := hide hin
      clear hin
      go_wp2_with (go_at_call 42; refine (rget_any _ _ _ ds _ _ _ xs _ _ _ (fillF (fun j => at'[(ps[j]?.getD 0).toNat]?.getD 0) dl dl) _ p (HD.out.below HB.out) hdc (HX.out.below HB.out) HIN.out HPP.out hpn).mono ?_; rintro e w9 ⟨rfl, hb⟩; have HB9 := hide (Below.on HB.out hb); clear hb)
      go_ret
      exact ⟨rfl, HB9.out⟩

set_option maxRecDepth 100000 in
set_option maxHeartbeats 4000000 in
theorem rview_11 (x : Int) (vd vl vh vs : Value) (pa : Option Addr) (pl pc : Nat) (ps : List Int) (da : Option Addr) (dl dc : Nat) (ds : List Int) (xa : Option Addr) (n xc : Nat) (xs : List Int) (aa : Option Addr) (al ac : Nat) (at' : List Int) (w : World) (p : Nat)
    (hps : Ints w pa pl ps) (hd : Ints w da dl ds) (hdc : dl ≤ dc) (hx : Ints w xa n xs) (hat : Ints w aa al at') (h6 : dl ≤ 6) (hpl : pl ≤ al) (hpb : ∀ i, i < pl → 0 ≤ ps[i]?.getD 0 ∧ ps[i]?.getD 0 < dl) (hp : placeN ds (setAll (List.replicate dl 0) ps at' pl) = p) (hpn : p < n) :
    Calls Tryz.prog 49 #[.agg #[.int .i64 11, vd, .slice pa pl pc, vl, vh, vs, .int .i64 x], .agg #[.slice da dl dc, .slice xa n xc], .slice aa al ac] w fun e w' => e = .returned (.int .i64 (xs[p]?.getD 0)) ∧ Below w.heap.size w w' := by
  have hmps := hps.2.1
  have Hps := hide hps
  have hmd := hd.2.1
  have hma := hat.2.1
  have HD := hide hd
  have HX := hide hx
  have HAT := hide hat
  have HPP := hide hp
  have Hhpb := hide hpb
  have hmk := run_make_row' (P := Tryz.prog) 22 3 (.int .i64 0) 8 Tryz.underlying22 info_int rfl .i64 .i64 dl (by omega) (by omega)
  have HB2 := hide (((Below.refl w.heap.size w).alloc (Nat.le_refl _) (.cells #[.int .i64 11, vd, .slice pa pl pc, vl, vh, vs, .int .i64 x] 24)).alloc (by simp) (.cells #[.slice da dl dc, .slice xa n xc] 28))
  have HOP := hide ((OpAt.new w 11 vd (.slice pa pl pc) vl vh vs x).alloc (.cells #[.slice da dl dc, .slice xa n xc] 28))
  have har := ArrAt.new (w.alloc (.cells #[.int .i64 11, vd, .slice pa pl pc, vl, vh, vs, .int .i64 x] 24)) (.slice da dl dc) (.slice xa n xc)
  simp only [World.size_alloc] at har
  have HAR := hide har
  obtain ⟨o0, o1, o2, o3, o4, o5, o6⟩ := HOP.out.cells
  obtain ⟨⟨r0, r1⟩, _⟩ := HAR.out.cells
  clear har hd hx hat hp hps hpb
  go_enter Tryz.func49, Tryz.ntmps49
  go_wp2
  go_loopw [74] (fun i wr => ∃ k : Nat, k ≤ pl ∧ i = .int .i64 k ∧ RowI wr (w.heap.size + 1 + 1) dl (setAll (List.replicate dl 0) ps at' k) ∧ OpAt wr w.heap.size 11 vd (.slice pa pl pc) vl vh vs x ∧ ArrAt wr (w.heap.size + 1) (.slice da dl dc) (.slice xa n xc) ∧ Below w.heap.size w wr) (fun i _ => pl - (intOf i).toNat)
  case atStart =>
    refine ⟨0, Nat.zero_le _, rfl, ?_, HOP.out.alloc _, HAR.out.alloc _, HB2.out.alloc HB2.out.size _⟩
    have := World.rowIs_made ((w.alloc (.cells #[.int .i64 11, vd, .slice pa pl pc, vl, vh, vs, .int .i64 x] 24)).alloc (.cells #[.slice da dl dc, .slice xa n xc] 28)) (.int .i64 0) dl 3
    simp only [World.size_alloc] at this
    exact this.congr (fun j _ => by simp only [setAll]; rw [repl0_at])
  case round =>
    obtain ⟨k, hk, rfl, hrow, hop, har, hB⟩ := hrel
    have HR := hide hrow
    have HO := hide hop
    have HA := hide har
    have HB := hide hB
    clear hrow hop har hB o0 o1 o2 o3 o4 o5 o6 r0 r1
    have hG := HA.out.lt
    by_cases hlt : k < pl
    · obtain ⟨bp, offp, rfl, _, hcp⟩ := (Hps.out.below HB.out).at (by omega)
      have xp := hcp k (by omega)
      have hqk := Hhpb.out k hlt
      obtain ⟨q, hqq⟩ : ∃ q : Nat, ps[k]?.getD 0 = (q : Int) := ⟨(ps[k]?.getD 0).toNat, by omega⟩
      rw [hqq] at xp hqk
      obtain ⟨ba, offa, rfl, _, hca⟩ := (HAT.out.below HB.out).at (by omega)
      have xa := hca k (by omega)
      obtain ⟨X, hX⟩ : ∃ X, X = at'[k]?.getD 0 := ⟨_, rfl⟩
      rw [← hX] at xa
      have HS : Hid ((setAll (List.replicate dl 0) ps at' (k + 1)) = (setAll (List.replicate dl 0) ps at' k).set q X) := by rw [Hid, setAll, hqq, Int.toNat_natCast, hX]
      have hqn : q < dl := by omega
      have j1 : (q : Int) < (dl : Int) := by omega
      have j2 : (0 : Int) ≤ (q : Int) := Int.natCast_nonneg _
      have j3 : (k : Int) < (al : Int) := by omega
      have i1 : (0 : Int) ≤ (k : Int) := Int.natCast_nonneg _
      have i2 : (k : Int) < (pl : Int) := by omega
      clear hqk hqq hX hcp hca
      have hr1 := HR.out.cell hqn
      have hf := HR.out.frozen q
      obtain ⟨o0, o1, o2, o3, o4, o5, o6⟩ := HO.out.cells
      have HQL : Hid (q < (setAll (List.replicate dl 0) ps at' k).length) := by rw [Hid, setAll_length, List.length_replicate]; exact hqn
      go_wp2
      go_roundw
      case rel =>
        refine ⟨k + 1, by omega, by go_num, World.rowIs.congr (HR.out.set q (.int .i64 X)) (fun j _ => ?_), HO.out.set (p := ⟨(w.heap.size + 1 + 1), q, none⟩) (by simp; omega) _, HA.out.set (p := ⟨(w.heap.size + 1 + 1), q, none⟩) (by simp) _, HB.out.setCell (p := ⟨(w.heap.size + 1 + 1), q, none⟩) (by simp; omega) _⟩
        rw [HS.out]
        by_cases e : j = q
        · subst e
          rw [if_pos rfl, List.getElem?_set_self HQL.out]
          rfl
        · rw [if_neg e, List.getElem?_set_ne (fun h => e h.symm)]
      case measure => simp [intOf]; omega
    · obtain rfl : k = pl := by omega
      obtain ⟨⟨r0, r1⟩, _⟩ := HA.out.cells
      have hin : Ints wr (some ⟨(w.heap.size + 1 + 1), 0, none⟩) dl (setAll (List.replicate dl 0) ps at' k) := ints_of_rowI HR.out (by rw [setAll_length, List.length_replicate]) (by omega) (by exact setAll_bd (fun x hx => by simp at hx; omega) HAT.out.2.2.1 _)
      have HIN := hide hin
      clear hin
      go_wp2_with (go_at_call 42; refine (rget_any _ _ _ ds _ _ _ xs _ _ _ (setAll (List.replicate dl 0) ps at' k) _ p (HD.out.below HB.out) hdc (HX.out.below HB.out) HIN.out HPP.out hpn).mono ?_; rintro e w9 ⟨rfl, hb⟩; have HB9 := hide (Below.on HB.out hb); clear hb)
      go_ret
      exact ⟨rfl, HB9.out⟩

set_option maxRecDepth 100000 in
set_option maxHeartbeats 4000000 in
theorem rview_13 (x : Int) (vd va vh : Value) (la : Option Addr) (ll lc : Nat) (lo : List Int) (ta : Option Addr) (tl tc : Nat) (st : List Int) (da : Option Addr) (dl dc : Nat) (ds : List Int) (xa : Option Addr) (n xc : Nat) (xs : List Int) (aa : Option Addr) (al ac : Nat) (at' : List Int) (w : World) (p : Nat)
    (hlo : Ints w la ll lo) (hst : Ints w ta tl st) (hd : Ints w da dl ds) (hdc : dl ≤ dc) (hx : Ints w xa n xs) (hat : Ints w aa al at') (h6 : dl ≤ 6) (hal : al ≤ dl) (hal2 : dl ≤ al) (hll : al ≤ ll) (htl : al ≤ tl) (hbd : ∀ i, i < al → 0 ≤ at'[i]?.getD 0 * st[i]?.getD 0 ∧ 0 ≤ lo[i]?.getD 0 ∧ lo[i]?.getD 0 + at'[i]?.getD 0 * st[i]?.getD 0 ≤ 4096) (hp : placeN ds (fillF (fun j => lo[j]?.getD 0 + at'[j]?.getD 0 * st[j]?.getD 0) dl dl) = p) (hpn : p < n) :
    Calls Tryz.prog 49 #[.agg #[.int .i64 13, vd, va, .slice la ll lc, vh, .slice ta tl tc, .int .i64 x], .agg #[.slice da dl dc, .slice xa n xc], .slice aa al ac] w fun e w' => e = .returned (.int .i64 (xs[p]?.getD 0)) ∧ Below w.heap.size w w' := by
  have hmlo := hlo.2.1
  have Hlo := hide hlo
  have hmst := hst.2.1
  have Hst := hide hst
  have hmd := hd.2.1
  have hma := hat.2.1
  have HD := hide hd
  have HX := hide hx
  have HAT := hide hat
  have HPP := hide hp
  have Hhbd := hide hbd
  have hmk := run_make_row' (P := Tryz.prog) 22 3 (.int .i64 0) 8 Tryz.underlying22 info_int rfl .i64 .i64 dl (by omega) (by omega)
  have HB2 := hide (((Below.refl w.heap.size w).alloc (Nat.le_refl _) (.cells #[.int .i64 13, vd, va, .slice la ll lc, vh, .slice ta tl tc, .int .i64 x] 24)).alloc (by simp) (.cells #[.slice da dl dc, .slice xa n xc] 28))
  have HOP := hide ((OpAt.new w 13 vd va (.slice la ll lc) vh (.slice ta tl tc) x).alloc (.cells #[.slice da dl dc, .slice xa n xc] 28))
  have har := ArrAt.new (w.alloc (.cells #[.int .i64 13, vd, va, .slice la ll lc, vh, .slice ta tl tc, .int .i64 x] 24)) (.slice da dl dc) (.slice xa n xc)
  simp only [World.size_alloc] at har
  have HAR := hide har
  obtain ⟨o0, o1, o2, o3, o4, o5, o6⟩ := HOP.out.cells
  obtain ⟨⟨r0, r1⟩, _⟩ := HAR.out.cells
  clear har hd hx hat hp hlo hst hbd
  go_enter Tryz.func49, Tryz.ntmps49
  go_wp2
  go_loopw [91] (fun i wr => ∃ k : Nat, k ≤ al ∧ i = .int .i64 k ∧ RowI wr (w.heap.size + 1 + 1) dl (fillF (fun j => lo[j]?.getD 0 + at'[j]?.getD 0 * st[j]?.getD 0) dl k) ∧ OpAt wr w.heap.size 13 vd va (.slice la ll lc) vh (.slice ta tl tc) x ∧ ArrAt wr (w.heap.size + 1) (.slice da dl dc) (.slice xa n xc) ∧ Below w.heap.size w wr) (fun i _ => al - (intOf i).toNat)
  case atStart =>
    refine ⟨0, Nat.zero_le _, rfl, ?_, HOP.out.alloc _, HAR.out.alloc _, HB2.out.alloc HB2.out.size _⟩
    have := World.rowIs_made ((w.alloc (.cells #[.int .i64 13, vd, va, .slice la ll lc, vh, .slice ta tl tc, .int .i64 x] 24)).alloc (.cells #[.slice da dl dc, .slice xa n xc] 28)) (.int .i64 0) dl 3
    simp only [World.size_alloc] at this
    exact this.congr (fun j _ => by rw [fillF_zero])
  case round =>
    obtain ⟨k, hk, rfl, hrow, hop, har, hB⟩ := hrel
    have HR := hide hrow
    have HO := hide hop
    have HA := hide har
    have HB := hide hB
    clear hrow hop har hB o0 o1 o2 o3 o4 o5 o6 r0 r1
    have hG := HA.out.lt
    by_cases hlt : k < al
    · obtain ⟨ba, offa, rfl, _, hca⟩ := (HAT.out.below HB.out).at (by omega)
      have xa := hca k (by omega)
      obtain ⟨bl, offl, rfl, _, hcl⟩ := (Hlo.out.below HB.out).at (by omega)
      have xl := hcl k (by omega)
      obtain ⟨bs, offs, rfl, _, hcs⟩ := (Hst.out.below HB.out).at (by omega)
      have xs := hcs k (by omega)
      have hbk := Hhbd.out k hlt
      obtain ⟨X, hX⟩ : ∃ X, X = at'[k]?.getD 0 := ⟨_, rfl⟩
      obtain ⟨Y, hY⟩ : ∃ Y, Y = lo[k]?.getD 0 := ⟨_, rfl⟩
      obtain ⟨T, hT⟩ : ∃ T, T = st[k]?.getD 0 := ⟨_, rfl⟩
      rw [← hX, ← hY, ← hT] at hbk
      rw [← hX] at xa
      rw [← hY] at xl
      rw [← hT] at xs
      have HS : Hid ((fillF (fun j => lo[j]?.getD 0 + at'[j]?.getD 0 * st[j]?.getD 0) dl (k + 1)) = (fillF (fun j => lo[j]?.getD 0 + at'[j]?.getD 0 * st[j]?.getD 0) dl k).set k (Y + X * T)) := by rw [Hid, fillF_succ, hX, hY, hT]
      have w1 : IntKind.i64.wrap (X * T) = X * T := wrap_in _ (by omega) (by omega)
      have w2 : IntKind.i64.wrap (Y + X * T) = Y + X * T := wrap_in _ (by omega) (by omega)
      have hqn : k < dl := by omega
      have i1 : (0 : Int) ≤ (k : Int) := Int.natCast_nonneg _
      have i2 : (k : Int) < (al : Int) := by omega
      have i3 : (k : Int) < (ll : Int) := by omega
      have i4 : (k : Int) < (tl : Int) := by omega
      have i5 : (k : Int) < (dl : Int) := by omega
      clear hX hY hT hca hcl hcs hbk
      have hr1 := HR.out.cell hqn
      have hf := HR.out.frozen k
      obtain ⟨o0, o1, o2, o3, o4, o5, o6⟩ := HO.out.cells
      have HQL : Hid (k < (fillF (fun j => lo[j]?.getD 0 + at'[j]?.getD 0 * st[j]?.getD 0) dl k).length) := by rw [Hid, fillF_length]; exact hqn
      go_wp2
      refine region_made 19 19 [fIs (.slice (some ⟨w.heap.size + 1 + 1, 0, none⟩) dl dl), fIs (.int .i64 (k : Int)), fIs (.pointer (some ⟨w.heap.size, 3, none⟩)), fIs (.slice (some ⟨bl, offl, none⟩) ll lc), fIs (.int .i64 (k : Int)), fIs (.pointer (some ⟨bl, offl + k, none⟩)), fIs (.int .i64 Y), fIs (.slice (some ⟨ba, offa, none⟩) al ac), fIs (.int .i64 (k : Int)), fIs (.pointer (some ⟨ba, offa + k, none⟩)), fIs (.int .i64 X), fIs (.pointer (some ⟨w.heap.size, 5, none⟩)), fIs (.slice (some ⟨bs, offs, none⟩) tl tc), fIs (.int .i64 (k : Int)), fIs (.pointer (some ⟨bs, offs + k, none⟩)), fIs (.int .i64 T), fIs (.int .i64 (X * T)), fIs (.int .i64 (Y + X * T)), fIs (.pointer (some ⟨w.heap.size + 1 + 1, k, none⟩))] (by kernel_rfl) (by kernel_rfl) (by kernel_rfl) (fun _ ⟨_, _⟩ ⟨_, _⟩ _ e h => by cases e; exact h) ⟨fIs_good _, fIs_good _, fIs_good _, fIs_good _, fIs_good _, fIs_good _, fIs_good _, fIs_good _, fIs_good _, fIs_good _, fIs_good _, fIs_good _, fIs_good _, fIs_good _, fIs_good _, fIs_good _, fIs_good _, fIs_good _, fIs_good _, trivial⟩ ?mk ?rest
      case mk =>
        refine ⟨fun u wz hb hd => ?_, fun u wz hb hd => ?_, fun u wz hb hd => ?_, fun u wz hb hd => ?_, fun u wz hb hd => ?_, fun u wz hb hd => ?_, fun u wz hb hd => ?_, fun u wz hb hd => ?_, fun u wz hb hd => ?_, fun u wz hb hd => ?_, fun u wz hb hd => ?_, fun u wz hb hd => ?_, fun u wz hb hd => ?_, fun u wz hb hd => ?_, fun u wz hb hd => ?_, fun u wz hb hd => ?_, fun u wz hb hd => ?_, fun u wz hb hd => ?_, fun u wz hb hd => ?_, trivial⟩
        all_goals simp only [Act.put, List.setIfInBounds_toArray, List.set_cons_zero, List.set_cons_succ]
        · go_simp
          exact ⟨rfl, Below.refl _ _, fun h => by cases h⟩
        · go_simp
          exact ⟨rfl, Below.refl _ _, fun h => by cases h⟩
        · go_simp
          exact ⟨rfl, Below.refl _ _, fun h => by cases h⟩
        · have e2 : u 2 = .pointer (some ⟨w.heap.size, 3, none⟩) := hd 2 (by omega) (by kernel_rfl)
          rw [e2]
          have o3' := (hb.cell (p := ⟨w.heap.size, 3, none⟩) (lt_of_cell o3)).trans o3
          go_simp
          exact ⟨rfl, Below.refl _ _, fun h => by cases h⟩
        · go_simp
          exact ⟨rfl, Below.refl _ _, fun h => by cases h⟩
        · have e3 : u 3 = .slice (some ⟨bl, offl, none⟩) ll lc := hd 3 (by omega) (by kernel_rfl)
          have e4 : u 4 = .int .i64 (k : Int) := hd 4 (by omega) (by kernel_rfl)
          rw [e3, e4]
          go_simp
          exact ⟨rfl, Below.refl _ _, fun h => by cases h⟩
        · have e5 : u 5 = .pointer (some ⟨bl, offl + k, none⟩) := hd 5 (by omega) (by kernel_rfl)
          rw [e5]
          have xl' := (hb.cell (p := ⟨bl, offl + k, none⟩) (lt_of_cell xl)).trans xl
          go_simp
          exact ⟨rfl, Below.refl _ _, fun h => by cases h⟩
        · go_simp
          exact ⟨rfl, Below.refl _ _, fun h => by cases h⟩
        · go_simp
          exact ⟨rfl, Below.refl _ _, fun h => by cases h⟩
        · have e7 : u 7 = .slice (some ⟨ba, offa, none⟩) al ac := hd 7 (by omega) (by kernel_rfl)
          have e8 : u 8 = .int .i64 (k : Int) := hd 8 (by omega) (by kernel_rfl)
          rw [e7, e8]
          go_simp
          exact ⟨rfl, Below.refl _ _, fun h => by cases h⟩
        · have e9 : u 9 = .pointer (some ⟨ba, offa + k, none⟩) := hd 9 (by omega) (by kernel_rfl)
          rw [e9]
          have xa' := (hb.cell (p := ⟨ba, offa + k, none⟩) (lt_of_cell xa)).trans xa
          go_simp
          exact ⟨rfl, Below.refl _ _, fun h => by cases h⟩
        · go_simp
          exact ⟨rfl, Below.refl _ _, fun h => by cases h⟩
        · have e11 : u 11 = .pointer (some ⟨w.heap.size, 5, none⟩) := hd 11 (by omega) (by kernel_rfl)
          rw [e11]
          have o5' := (hb.cell (p := ⟨w.heap.size, 5, none⟩) (lt_of_cell o5)).trans o5
          go_simp
          exact ⟨rfl, Below.refl _ _, fun h => by cases h⟩
        · go_simp
          exact ⟨rfl, Below.refl _ _, fun h => by cases h⟩
        · have e12 : u 12 = .slice (some ⟨bs, offs, none⟩) tl tc := hd 12 (by omega) (by kernel_rfl)
          have e13 : u 13 = .int .i64 (k : Int) := hd 13 (by omega) (by kernel_rfl)
          rw [e12, e13]
          go_simp
          exact ⟨rfl, Below.refl _ _, fun h => by cases h⟩
        · have e14 : u 14 = .pointer (some ⟨bs, offs + k, none⟩) := hd 14 (by omega) (by kernel_rfl)
          rw [e14]
          have xs' := (hb.cell (p := ⟨bs, offs + k, none⟩) (lt_of_cell xs)).trans xs
          go_simp
          exact ⟨rfl, Below.refl _ _, fun h => by cases h⟩
        · have e10 : u 10 = .int .i64 X := hd 10 (by omega) (by kernel_rfl)
          have e15 : u 15 = .int .i64 T := hd 15 (by omega) (by kernel_rfl)
          rw [e10, e15]
          go_simp
          exact ⟨rfl, Below.refl _ _, fun h => by cases h⟩
        · have e6 : u 6 = .int .i64 Y := hd 6 (by omega) (by kernel_rfl)
          have e16 : u 16 = .int .i64 (X * T) := hd 16 (by omega) (by kernel_rfl)
          rw [e6, e16]
          go_simp
          exact ⟨rfl, Below.refl _ _, fun h => by cases h⟩
        · have e0 : u 0 = .slice (some ⟨w.heap.size + 1 + 1, 0, none⟩) dl dl := hd 0 (by omega) (by kernel_rfl)
          have e1 : u 1 = .int .i64 (k : Int) := hd 1 (by omega) (by kernel_rfl)
          rw [e0, e1]
          go_simp
          exact ⟨rfl, Below.refl _ _, fun h => by cases h⟩
      case rest =>
        intro u wz hb hf hp
        have f0 : u 0 = .slice (some ⟨w.heap.size + 1 + 1, 0, none⟩) dl dl := hf 0 (by omega)
        have f1 : u 1 = .int .i64 (k : Int) := hf 1 (by omega)
        have f2 : u 2 = .pointer (some ⟨w.heap.size, 3, none⟩) := hf 2 (by omega)
        have f3 : u 3 = .slice (some ⟨bl, offl, none⟩) ll lc := hf 3 (by omega)
        have f4 : u 4 = .int .i64 (k : Int) := hf 4 (by omega)
        have f5 : u 5 = .pointer (some ⟨bl, offl + k, none⟩) := hf 5 (by omega)
        have f6 : u 6 = .int .i64 Y := hf 6 (by omega)
        have f7 : u 7 = .slice (some ⟨ba, offa, none⟩) al ac := hf 7 (by omega)
        have f8 : u 8 = .int .i64 (k : Int) := hf 8 (by omega)
        have f9 : u 9 = .pointer (some ⟨ba, offa + k, none⟩) := hf 9 (by omega)
        have f10 : u 10 = .int .i64 X := hf 10 (by omega)
        have f11 : u 11 = .pointer (some ⟨w.heap.size, 5, none⟩) := hf 11 (by omega)
        have f12 : u 12 = .slice (some ⟨bs, offs, none⟩) tl tc := hf 12 (by omega)
        have f13 : u 13 = .int .i64 (k : Int) := hf 13 (by omega)
        have f14 : u 14 = .pointer (some ⟨bs, offs + k, none⟩) := hf 14 (by omega)
        have f15 : u 15 = .int .i64 T := hf 15 (by omega)
        have f16 : u 16 = .int .i64 (X * T) := hf 16 (by omega)
        have f17 : u 17 = .int .i64 (Y + X * T) := hf 17 (by omega)
        have f18 : u 18 = .pointer (some ⟨w.heap.size + 1 + 1, k, none⟩) := hf 18 (by omega)
        refine UptoW.rest 1 19 (by rfl) (by kernel_rfl) ?_
        simp only [List.take, List.drop, putOps, Act.put, List.setIfInBounds_toArray, List.set_cons_zero, List.set_cons_succ, Nat.reduceAdd, f0, f1, f2, f3, f4, f5, f6, f7, f8, f9, f10, f11, f12, f13, f14, f15, f16, f17, f18]
        clear f0 f1 f2 f3 f4 f5 f6 f7 f8 f9 f10 f11 f12 f13 f14 f15 f16 f17 f18 hf hp
        have hr2 := (hb.cell (p := ⟨w.heap.size + 1 + 1, k, none⟩) (lt_of_cell hr1)).trans hr1
        have hf2 := (hb.frozen (p := ⟨w.heap.size + 1 + 1, k, none⟩) (lt_of_cell hr1)).trans hf
        refine wpList_plain rfl (fun K hK => ?_)
        go_simp
        refine hK _ _ (wpList_nil ?_)
        clear hK K hr2 hf2 hr1 hf
        have HR2 : Hid (RowI wz (w.heap.size + 1 + 1) dl (fillF (fun j => lo[j]?.getD 0 + at'[j]?.getD 0 * st[j]?.getD 0) dl k)) := HR.out.below hb
        have HO2 := hide (HO.out.below hb)
        have HA2 := hide (HA.out.below hb)
        have HBz := hide (Below.on HB.out hb)
        clear HR HO HA HB hb o0 o1 o2 o3 o4 o5 o6 xa xl xs
        have HR := HR2
        have HO := HO2
        have HA := HA2
        have HB := HBz
        clear HR2 HO2 HA2 HBz
        go_wp2
        go_roundw
        case rel =>
          refine ⟨k + 1, by omega, by go_num, World.rowIs.congr (HR.out.set k (.int .i64 (Y + X * T))) (fun j _ => ?_), HO.out.set (p := ⟨(w.heap.size + 1 + 1), k, none⟩) (by simp; omega) _, HA.out.set (p := ⟨(w.heap.size + 1 + 1), k, none⟩) (by simp) _, HB.out.setCell (p := ⟨(w.heap.size + 1 + 1), k, none⟩) (by simp; omega) _⟩
          rw [HS.out]
          by_cases e : j = k
          · subst e
            rw [if_pos rfl, List.getElem?_set_self HQL.out]
            rfl
          · rw [if_neg e, List.getElem?_set_ne (fun h => e h.symm)]
        case measure => simp [intOf]; omega
    · obtain rfl : al = k := by omega
      obtain rfl : dl = al := by omega
      obtain ⟨⟨r0, r1⟩, _⟩ := HA.out.cells
      have hin : Ints wr (some ⟨(w.heap.size + 1 + 1), 0, none⟩) dl (fillF (fun j => lo[j]?.getD 0 + at'[j]?.getD 0 * st[j]?.getD 0) dl dl) := ints_of_rowI HR.out (by rw [fillF_length]) (by omega) (by exact fillF_bd' (fun j hj => by have := Hhbd.out j (by omega); omega) _)
      have HIN := hide hin
      clear hin
      go_wp2_with (go_at_call 42; refine (rget_any _ _ _ ds _ _ _ xs _ _ _ (fillF (fun j => lo[j]?.getD 0 + at'[j]?.getD 0 * st[j]?.getD 0) dl dl) _ p (HD.out.below HB.out) hdc (HX.out.below HB.out) HIN.out HPP.out hpn).mono ?_; rintro e w9 ⟨rfl, hb⟩; have HB9 := hide (Below.on HB.out hb); clear hb)
      go_ret
      exact ⟨rfl, HB9.out⟩

set_option maxRecDepth 100000 in
set_option maxHeartbeats 4000000 in
theorem rview_15 (x : Int) (vd vl vh vs : Value) (pa : Option Addr) (pl pc : Nat) (ps : List Int) (da : Option Addr) (dl dc : Nat) (ds : List Int) (xa : Option Addr) (n xc : Nat) (xs : List Int) (aa : Option Addr) (al ac : Nat) (at' : List Int) (w : World) (p : Nat)
    (hps : Ints w pa pl ps) (hd : Ints w da dl ds) (hdc : dl ≤ dc) (hx : Ints w xa n xs) (hat : Ints w aa al at') (h6 : dl ≤ 6) (hal : al ≤ dl) (hal2 : dl ≤ al) (hbd : ∀ i, i < al → 0 ≤ at'[i]?.getD 0 ∧ at'[i]?.getD 0 < ds[i]?.getD 0 ∧ ds[i]?.getD 0 ≤ 4096) (hp : placeN ds (fillF (fun j => if ps.any (fun x => x == (j : Int)) then ds[j]?.getD 0 - 1 - at'[j]?.getD 0 else at'[j]?.getD 0) dl dl) = p) (hpn : p < n) :
    Calls Tryz.prog 49 #[.agg #[.int .i64 15, vd, .slice pa pl pc, vl, vh, vs, .int .i64 x], .agg #[.slice da dl dc, .slice xa n xc], .slice aa al ac] w fun e w' => e = .returned (.int .i64 (xs[p]?.getD 0)) ∧ Below w.heap.size w w' := by
  have hmps := hps.2.1
  have Hps := hide hps
  have hmd := hd.2.1
  have hma := hat.2.1
  have HD := hide hd
  have HX := hide hx
  have HAT := hide hat
  have HPP := hide hp
  have Hhbd := hide hbd
  have hmk := run_make_row' (P := Tryz.prog) 22 3 (.int .i64 0) 8 Tryz.underlying22 info_int rfl .i64 .i64 dl (by omega) (by omega)
  have HB2 := hide (((Below.refl w.heap.size w).alloc (Nat.le_refl _) (.cells #[.int .i64 15, vd, .slice pa pl pc, vl, vh, vs, .int .i64 x] 24)).alloc (by simp) (.cells #[.slice da dl dc, .slice xa n xc] 28))
  have HOP := hide ((OpAt.new w 15 vd (.slice pa pl pc) vl vh vs x).alloc (.cells #[.slice da dl dc, .slice xa n xc] 28))
  have har := ArrAt.new (w.alloc (.cells #[.int .i64 15, vd, .slice pa pl pc, vl, vh, vs, .int .i64 x] 24)) (.slice da dl dc) (.slice xa n xc)
  simp only [World.size_alloc] at har
  have HAR := hide har
  obtain ⟨o0, o1, o2, o3, o4, o5, o6⟩ := HOP.out.cells
  obtain ⟨⟨r0, r1⟩, _⟩ := HAR.out.cells
  clear har hd hx hat hp hps hbd
  go_enter Tryz.func49, Tryz.ntmps49
  go_wp2
  go_loopw [22] (fun i wr => ∃ k : Nat, k ≤ al ∧ i = .int .i64 k ∧ RowI wr (w.heap.size + 1 + 1) dl (fillF (fun j => if ps.any (fun x => x == (j : Int)) then ds[j]?.getD 0 - 1 - at'[j]?.getD 0 else at'[j]?.getD 0) dl k) ∧ OpAt wr w.heap.size 15 vd (.slice pa pl pc) vl vh vs x ∧ ArrAt wr (w.heap.size + 1) (.slice da dl dc) (.slice xa n xc) ∧ Below w.heap.size w wr) (fun i _ => al - (intOf i).toNat)
  case atStart =>
    refine ⟨0, Nat.zero_le _, rfl, ?_, HOP.out.alloc _, HAR.out.alloc _, HB2.out.alloc HB2.out.size _⟩
    have := World.rowIs_made ((w.alloc (.cells #[.int .i64 15, vd, .slice pa pl pc, vl, vh, vs, .int .i64 x] 24)).alloc (.cells #[.slice da dl dc, .slice xa n xc] 28)) (.int .i64 0) dl 3
    simp only [World.size_alloc] at this
    exact this.congr (fun j _ => by rw [fillF_zero])
  case round =>
    obtain ⟨k, hk, rfl, hrow, hop, har, hB⟩ := hrel
    have HR := hide hrow
    have HO := hide hop
    have HA := hide har
    have HB := hide hB
    clear hrow hop har hB o0 o1 o2 o3 o4 o5 o6 r0 r1
    have hG := HA.out.lt
    by_cases hlt : k < al
    · obtain ⟨ba, offa, rfl, _, hca⟩ := (HAT.out.below HB.out).at (by omega)
      have xa := hca k (by omega)
      obtain ⟨bd, offd, rfl, _, hcd⟩ := (HD.out.below HB.out).at (by omega)
      have xd := hcd k (by omega)
      have hbk := Hhbd.out k hlt
      obtain ⟨X, hX⟩ : ∃ X, X = at'[k]?.getD 0 := ⟨_, rfl⟩
      obtain ⟨Y, hY⟩ : ∃ Y, Y = ds[k]?.getD 0 := ⟨_, rfl⟩
      rw [← hX, ← hY] at hbk
      rw [← hX] at xa
      rw [← hY] at xd
      have hqn : k < dl := by omega
      have i1 : (0 : Int) ≤ (k : Int) := Int.natCast_nonneg _
      have i2 : (k : Int) < (al : Int) := by omega
      have i5 : (k : Int) < (dl : Int) := by omega
      have hr1 := HR.out.cell hqn
      have hf := HR.out.frozen k
      have ha5 := HA.out.set (p := ⟨w.heap.size + 1 + 1, k, none⟩) (by simp) (.int .i64 X)
      have HO5 := hide (HO.out.set (p := ⟨w.heap.size + 1 + 1, k, none⟩) (by simp; omega) (.int .i64 X))
      have HA5 := hide ha5
      have HB5 := hide (HB.out.setCell (p := ⟨w.heap.size + 1 + 1, k, none⟩) (by simp; omega) (.int .i64 X))
      obtain ⟨o0, o1, o2, o3, o4, o5, o6⟩ := HO5.out.cells
      have HQL : Hid (k < (fillF (fun j => if ps.any (fun x => x == (j : Int)) then ds[j]?.getD 0 - 1 - at'[j]?.getD 0 else at'[j]?.getD 0) dl k).length) := by rw [Hid, fillF_length]; exact hqn
      have HR5 := hide (HR.out.set k (.int .i64 X))
      obtain ⟨BB, hBB⟩ : ∃ BB, ps.any (fun x => x == (k : Int)) = BB := ⟨_, rfl⟩
      have HBB := hide hBB
      clear ha5 hBB hca hcd
      cases BB
      case false =>
        have HS : Hid ((fillF (fun j => if ps.any (fun x => x == (j : Int)) then ds[j]?.getD 0 - 1 - at'[j]?.getD 0 else at'[j]?.getD 0) dl (k + 1)) = (fillF (fun j => if ps.any (fun x => x == (j : Int)) then ds[j]?.getD 0 - 1 - at'[j]?.getD 0 else at'[j]?.getD 0) dl k).set k X) := by rw [Hid, fillF_succ, HBB.out, if_neg (by simp), hX]
        clear hX hY hbk
        go_wp2_with (go_at_call 82; refine (has2_any _ _ _ ps _ _ (Hps.out.below HB5.out)).mono ?_; rintro e w' ⟨rfl, hw'⟩; obtain rfl := hw'.symm; rw [HBB.out])
        clear HO HA HB o0 o1 o2 o3 o4 o5 o6
        have HO := HO5
        have HA := HA5
        have HB := HB5
        go_roundw
        case rel =>
          refine ⟨k + 1, by omega, by go_num, World.rowIs.congr HR5.out (fun j _ => ?_), HO.out, HA.out, HB.out⟩
          rw [HS.out]
          by_cases e : j = k
          · subst e
            rw [if_pos rfl, List.getElem?_set_self HQL.out]
            rfl
          · rw [if_neg e, List.getElem?_set_ne (fun h => e h.symm)]
        case measure => simp [intOf]; omega
      case true =>
        have HS : Hid ((fillF (fun j => if ps.any (fun x => x == (j : Int)) then ds[j]?.getD 0 - 1 - at'[j]?.getD 0 else at'[j]?.getD 0) dl (k + 1)) = (fillF (fun j => if ps.any (fun x => x == (j : Int)) then ds[j]?.getD 0 - 1 - at'[j]?.getD 0 else at'[j]?.getD 0) dl k).set k (Y - 1 - X)) := by rw [Hid, fillF_succ, HBB.out, if_pos rfl, hX, hY]
        have w1 : IntKind.i64.wrap (Y - 1) = Y - 1 := wrap_in _ (by omega) (by omega)
        have w2 : IntKind.i64.wrap (Y - 1 - X) = Y - 1 - X := wrap_in _ (by omega) (by omega)
        have xa5 := (show (wr.setCell ⟨w.heap.size + 1 + 1, k, none⟩ (.int .i64 X)).cell? ⟨ba, offa + k, none⟩ = some (.int .i64 X) from (by obtain ⟨b2, off2, e2, _, hc2⟩ := (HAT.out.below HB5.out).at (by omega); cases e2; have h2 := hc2 k (by omega); rw [← hX] at h2; exact h2))
        have xd5 := (show (wr.setCell ⟨w.heap.size + 1 + 1, k, none⟩ (.int .i64 X)).cell? ⟨bd, offd + k, none⟩ = some (.int .i64 Y) from (by obtain ⟨b2, off2, e2, _, hc2⟩ := (HD.out.below HB5.out).at (by omega); cases e2; have h2 := hc2 k (by omega); rw [← hY] at h2; exact h2))
        clear hX hY hbk
        go_wp2_with (go_at_call 82; refine (has2_any _ _ _ ps _ _ (Hps.out.below HB5.out)).mono ?_; rintro e w' ⟨rfl, hw'⟩; obtain rfl := hw'.symm; rw [HBB.out])
        have hr5 := HR5.out.cell hqn
        have hf5 := HR5.out.frozen k
        rw [if_pos rfl] at hr5
        generalize (wr.setCell ⟨w.heap.size + 1 + 1, k, none⟩ (.int .i64 X)) = W5 at *
        clear xa xd hr1 hf o0 o1 o2 o3 o4 o5 o6 HO HA HB HR
        obtain ⟨⟨r0, r1⟩, _⟩ := HA5.out.cells
        have xa := xa5
        have xd := xd5
        clear xa5 xd5
        refine region_made 14 14 [fIs (.slice (some ⟨w.heap.size + 1 + 1, 0, none⟩) dl dl), fIs (.int .i64 (k : Int)), fIs (.pointer (some ⟨w.heap.size + 1, 0, none⟩)), fIs (.slice (some ⟨bd, offd, none⟩) dl dc), fIs (.int .i64 (k : Int)), fIs (.pointer (some ⟨bd, offd + k, none⟩)), fIs (.int .i64 Y), fIs (.int .i64 (Y - 1)), fIs (.slice (some ⟨ba, offa, none⟩) al ac), fIs (.int .i64 (k : Int)), fIs (.pointer (some ⟨ba, offa + k, none⟩)), fIs (.int .i64 X), fIs (.int .i64 (Y - 1 - X)), fIs (.pointer (some ⟨w.heap.size + 1 + 1, k, none⟩))] (by kernel_rfl) (by kernel_rfl) (by kernel_rfl) (fun _ ⟨_, _⟩ ⟨_, _⟩ _ e h => by cases e; exact h) ⟨fIs_good _, fIs_good _, fIs_good _, fIs_good _, fIs_good _, fIs_good _, fIs_good _, fIs_good _, fIs_good _, fIs_good _, fIs_good _, fIs_good _, fIs_good _, fIs_good _, trivial⟩ ?mk ?rest
        case mk =>
          refine ⟨fun u wz hb hd => ?_, fun u wz hb hd => ?_, fun u wz hb hd => ?_, fun u wz hb hd => ?_, fun u wz hb hd => ?_, fun u wz hb hd => ?_, fun u wz hb hd => ?_, fun u wz hb hd => ?_, fun u wz hb hd => ?_, fun u wz hb hd => ?_, fun u wz hb hd => ?_, fun u wz hb hd => ?_, fun u wz hb hd => ?_, fun u wz hb hd => ?_, trivial⟩
          all_goals simp only [Act.put, List.setIfInBounds_toArray, List.set_cons_zero, List.set_cons_succ]
          · go_simp
            exact ⟨rfl, Below.refl _ _, fun h => by cases h⟩
          · go_simp
            exact ⟨rfl, Below.refl _ _, fun h => by cases h⟩
          · go_simp
            exact ⟨rfl, Below.refl _ _, fun h => by cases h⟩
          · have e2 : u 2 = .pointer (some ⟨w.heap.size + 1, 0, none⟩) := hd 2 (by omega) (by kernel_rfl)
            rw [e2]
            have r0' := (hb.cell (p := ⟨w.heap.size + 1, 0, none⟩) (lt_of_cell r0)).trans r0
            go_simp
            exact ⟨rfl, Below.refl _ _, fun h => by cases h⟩
          · go_simp
            exact ⟨rfl, Below.refl _ _, fun h => by cases h⟩
          · have e3 : u 3 = .slice (some ⟨bd, offd, none⟩) dl dc := hd 3 (by omega) (by kernel_rfl)
            have e4 : u 4 = .int .i64 (k : Int) := hd 4 (by omega) (by kernel_rfl)
            rw [e3, e4]
            go_simp
            exact ⟨rfl, Below.refl _ _, fun h => by cases h⟩
          · have e5 : u 5 = .pointer (some ⟨bd, offd + k, none⟩) := hd 5 (by omega) (by kernel_rfl)
            rw [e5]
            have xd' := (hb.cell (p := ⟨bd, offd + k, none⟩) (lt_of_cell xd)).trans xd
            go_simp
            exact ⟨rfl, Below.refl _ _, fun h => by cases h⟩
          · have e6 : u 6 = .int .i64 Y := hd 6 (by omega) (by kernel_rfl)
            rw [e6]
            go_simp
            exact ⟨rfl, Below.refl _ _, fun h => by cases h⟩
          · go_simp
            exact ⟨rfl, Below.refl _ _, fun h => by cases h⟩
          · go_simp
            exact ⟨rfl, Below.refl _ _, fun h => by cases h⟩
          · have e8 : u 8 = .slice (some ⟨ba, offa, none⟩) al ac := hd 8 (by omega) (by kernel_rfl)
            have e9 : u 9 = .int .i64 (k : Int) := hd 9 (by omega) (by kernel_rfl)
            rw [e8, e9]
            go_simp
            exact ⟨rfl, Below.refl _ _, fun h => by cases h⟩
          · have e10 : u 10 = .pointer (some ⟨ba, offa + k, none⟩) := hd 10 (by omega) (by kernel_rfl)
            rw [e10]
            have xa' := (hb.cell (p := ⟨ba, offa + k, none⟩) (lt_of_cell xa)).trans xa
            go_simp
            exact ⟨rfl, Below.refl _ _, fun h => by cases h⟩
          · have e7 : u 7 = .int .i64 (Y - 1) := hd 7 (by omega) (by kernel_rfl)
            have e11 : u 11 = .int .i64 X := hd 11 (by omega) (by kernel_rfl)
            rw [e7, e11]
            go_simp
            exact ⟨rfl, Below.refl _ _, fun h => by cases h⟩
          · have e0 : u 0 = .slice (some ⟨w.heap.size + 1 + 1, 0, none⟩) dl dl := hd 0 (by omega) (by kernel_rfl)
            have e1 : u 1 = .int .i64 (k : Int) := hd 1 (by omega) (by kernel_rfl)
            rw [e0, e1]
            go_simp
            exact ⟨rfl, Below.refl _ _, fun h => by cases h⟩
        case rest =>
          intro u wz hb hf hp
          have f0 : u 0 = .slice (some ⟨w.heap.size + 1 + 1, 0, none⟩) dl dl := hf 0 (by omega)
          have f1 : u 1 = .int .i64 (k : Int) := hf 1 (by omega)
          have f2 : u 2 = .pointer (some ⟨w.heap.size + 1, 0, none⟩) := hf 2 (by omega)
          have f3 : u 3 = .slice (some ⟨bd, offd, none⟩) dl dc := hf 3 (by omega)
          have f4 : u 4 = .int .i64 (k : Int) := hf 4 (by omega)
          have f5 : u 5 = .pointer (some ⟨bd, offd + k, none⟩) := hf 5 (by omega)
          have f6 : u 6 = .int .i64 Y := hf 6 (by omega)
          have f7 : u 7 = .int .i64 (Y - 1) := hf 7 (by omega)
          have f8 : u 8 = .slice (some ⟨ba, offa, none⟩) al ac := hf 8 (by omega)
          have f9 : u 9 = .int .i64 (k : Int) := hf 9 (by omega)
          have f10 : u 10 = .pointer (some ⟨ba, offa + k, none⟩) := hf 10 (by omega)
          have f11 : u 11 = .int .i64 X := hf 11 (by omega)
          have f12 : u 12 = .int .i64 (Y - 1 - X) := hf 12 (by omega)
          have f13 : u 13 = .pointer (some ⟨w.heap.size + 1 + 1, k, none⟩) := hf 13 (by omega)
          refine UptoW.rest 1 14 (by rfl) (by kernel_rfl) ?_
          simp only [List.take, List.drop, putOps, Act.put, List.setIfInBounds_toArray, List.set_cons_zero, List.set_cons_succ, Nat.reduceAdd, f0, f1, f2, f3, f4, f5, f6, f7, f8, f9, f10, f11, f12, f13]
          clear f0 f1 f2 f3 f4 f5 f6 f7 f8 f9 f10 f11 f12 f13 hf hp
          have hr2 := (hb.cell (p := ⟨w.heap.size + 1 + 1, k, none⟩) (lt_of_cell hr5)).trans hr5
          have hf2 := (hb.frozen (p := ⟨w.heap.size + 1 + 1, k, none⟩) (lt_of_cell hr5)).trans hf5
          refine wpList_plain rfl (fun K hK => ?_)
          go_simp
          refine hK _ _ (wpList_nil ?_)
          clear hK K hr2 hf2 hr5 hf5
          have HR6 := hide (World.rowIs.set (World.rowIs.of_block HR5.out (hb.block _ HR5.out.lt)) k (.int .i64 (Y - 1 - X)))
          have HO := hide ((HO5.out.below hb).set (p := ⟨w.heap.size + 1 + 1, k, none⟩) (by simp; omega) (.int .i64 (Y - 1 - X)))
          have HA := hide ((HA5.out.below hb).set (p := ⟨w.heap.size + 1 + 1, k, none⟩) (by simp) (.int .i64 (Y - 1 - X)))
          have HB := hide ((Below.on HB5.out hb).setCell (p := ⟨w.heap.size + 1 + 1, k, none⟩) (by simp; omega) (.int .i64 (Y - 1 - X)))
          clear HR5 HO5 HA5 HB5 hb r0 r1 xa xd
          go_wp2
          go_roundw
          case rel =>
            refine ⟨k + 1, by omega, by go_num, World.rowIs.congr HR6.out (fun j _ => ?_), HO.out, HA.out, HB.out⟩
            rw [HS.out]
            by_cases e : j = k
            · subst e
              rw [if_pos rfl, List.getElem?_set_self HQL.out]
              rfl
            · rw [if_neg e, if_neg e, List.getElem?_set_ne (fun h => e h.symm)]
          case measure => simp [intOf]; omega
    · obtain rfl : al = k := by omega
      obtain rfl : dl = al := by omega
      obtain ⟨⟨r0, r1⟩, _⟩ := HA.out.cells
      have hin : Ints wr (some ⟨(w.heap.size + 1 + 1), 0, none⟩) dl (fillF (fun j => if ps.any (fun x => x == (j : Int)) then ds[j]?.getD 0 - 1 - at'[j]?.getD 0 else at'[j]?.getD 0) dl dl) := ints_of_rowI HR.out (by rw [fillF_length]) (by omega) (by exact fillF_bd' (fun j hj => by have := Hhbd.out j (by omega); split <;> omega) _)
      have HIN := hide hin
      clear hin
      go_wp2_with (go_at_call 42; refine (rget_any _ _ _ ds _ _ _ xs _ _ _ (fillF (fun j => if ps.any (fun x => x == (j : Int)) then ds[j]?.getD 0 - 1 - at'[j]?.getD 0 else at'[j]?.getD 0) dl dl) _ p (HD.out.below HB.out) hdc (HX.out.below HB.out) HIN.out HPP.out hpn).mono ?_; rintro e w9 ⟨rfl, hb⟩; have HB9 := hide (Below.on HB.out hb); clear hb)
      go_ret
      exact ⟨rfl, HB9.out⟩

end Go.Proofs.YtoagnhppjlcpkaaGreat.V

/-
  Contract: adjointref2.padEntry.
-/
namespace Go.Proofs.YtoagnhppjlcpkaaGreat.V
set_option maxRecDepth 20000
open Go.RowKit

/-- An index that a Pad puts an entry at. -/
def padOk (at' lo st ds : List Int) (k : Nat) : Prop := 0 ≤ at'[k]?.getD 0 - lo[k]?.getD 0 ∧ (at'[k]?.getD 0 - lo[k]?.getD 0) % st[k]?.getD 0 = 0 ∧ (at'[k]?.getD 0 - lo[k]?.getD 0) / st[k]?.getD 0 < ds[k]?.getD 0

set_option maxRecDepth 100000 in
set_option maxHeartbeats 4000000 in
theorem rpadE_any (x : Int) (vd va vh : Value) (la : Option Addr) (ll lc : Nat) (lo : List Int) (ta : Option Addr) (tl tc : Nat) (st : List Int) (da : Option Addr) (dl dc : Nat) (ds : List Int) (xa : Option Addr) (n xc : Nat) (xs : List Int) (aa : Option Addr) (al ac : Nat) (at' : List Int) (w : World) (V : Int)
    (hlo : Ints w la ll lo) (hst : Ints w ta tl st) (hd : Ints w da dl ds) (hdc : dl ≤ dc) (hx : Ints w xa n xs) (hat : Ints w aa al at') (h6 : al ≤ 6) (hal : al ≤ dl) (hll : al ≤ ll) (htl : al ≤ tl) (hbd : ∀ i, i < al → 0 ≤ at'[i]?.getD 0 ∧ at'[i]?.getD 0 ≤ 4096 ∧ 0 ≤ lo[i]?.getD 0 ∧ lo[i]?.getD 0 ≤ 4096 ∧ 1 ≤ st[i]?.getD 0)
    (hin : (∀ k, k < al → padOk at' lo st ds k) → ∃ p : Nat, p < n ∧ placeN ds (fillF (fun j => (at'[j]?.getD 0 - lo[j]?.getD 0) / st[j]?.getD 0) al al) = p ∧ V = xs[p]?.getD 0) (hout : ∀ k, k < al → ¬ padOk at' lo st ds k → V = 0) :
    Calls Tryz.prog 44 #[.agg #[.int .i64 14, vd, va, .slice la ll lc, vh, .slice ta tl tc, .int .i64 x], .agg #[.slice da dl dc, .slice xa n xc], .slice aa al ac] w fun e w' => e = .returned (.int .i64 V) ∧ Below w.heap.size w w' := by
  have hml := hlo.2.1
  have hms := hst.2.1
  have hmd := hd.2.1
  have hma := hat.2.1
  have HLO := hide hlo
  have HST := hide hst
  have HD := hide hd
  have HX := hide hx
  have HAT := hide hat
  have HBD := hide hbd
  have HIN := hide hin
  have HOUT := hide hout
  have hmk := run_make_row' (P := Tryz.prog) 22 3 (.int .i64 0) 8 Tryz.underlying22 info_int rfl .i64 .i64 al (by omega) (by omega)
  have HB2 := hide (((Below.refl w.heap.size w).alloc (Nat.le_refl _) (.cells #[.int .i64 14, vd, va, .slice la ll lc, vh, .slice ta tl tc, .int .i64 x] 24)).alloc (by simp) (.cells #[.slice da dl dc, .slice xa n xc] 28))
  have HOP := hide ((OpAt.new w 14 vd va (.slice la ll lc) vh (.slice ta tl tc) x).alloc (.cells #[.slice da dl dc, .slice xa n xc] 28))
  have har := ArrAt.new (w.alloc (.cells #[.int .i64 14, vd, va, .slice la ll lc, vh, .slice ta tl tc, .int .i64 x] 24)) (.slice da dl dc) (.slice xa n xc)
  simp only [World.size_alloc] at har
  have HAR := hide har
  obtain ⟨o0, o1, o2, o3, o4, o5, o6⟩ := HOP.out.cells
  obtain ⟨⟨r0, r1⟩, _⟩ := HAR.out.cells
  clear har hlo hst hd hx hat hbd hin hout
  go_enter Tryz.func44, Tryz.ntmps44
  go_wp2
  go_loopw [16] (fun i wr => ∃ k : Nat, k ≤ al ∧ i = .int .i64 k ∧ (∀ j, j < k → padOk at' lo st ds j) ∧ RowI wr (w.heap.size + 1 + 1) al (fillF (fun j => (at'[j]?.getD 0 - lo[j]?.getD 0) / st[j]?.getD 0) al k) ∧ OpAt wr w.heap.size 14 vd va (.slice la ll lc) vh (.slice ta tl tc) x ∧ ArrAt wr (w.heap.size + 1) (.slice da dl dc) (.slice xa n xc) ∧ Below w.heap.size w wr) (fun i _ => al - (intOf i).toNat)
  case atStart =>
    refine ⟨0, Nat.zero_le _, rfl, fun j hj => by omega, ?_, HOP.out.alloc _, HAR.out.alloc _, HB2.out.alloc HB2.out.size _⟩
    have := World.rowIs_made ((w.alloc (.cells #[.int .i64 14, vd, va, .slice la ll lc, vh, .slice ta tl tc, .int .i64 x] 24)).alloc (.cells #[.slice da dl dc, .slice xa n xc] 28)) (.int .i64 0) al 3
    simp only [World.size_alloc] at this
    exact this.congr (fun j _ => by rw [fillF_zero])
  case round =>
    obtain ⟨k, hk, rfl, hok, hrow, hop, har, hB⟩ := hrel
    have HK := hide hok
    have HR := hide hrow
    have HO := hide hop
    have HA := hide har
    have HB := hide hB
    clear hok hrow hop har hB o0 o1 o2 o3 o4 o5 o6 r0 r1
    have hG := HA.out.lt
    by_cases hlt : k < al
    · obtain ⟨ba, offa, rfl, _, hca⟩ := (HAT.out.below HB.out).at (by omega)
      have ya := hca k (by omega)
      obtain ⟨bl, offl, rfl, _, hcl⟩ := (HLO.out.below HB.out).at (by omega)
      have yl := hcl k (by omega)
      obtain ⟨bs, offs, rfl, _, hcs⟩ := (HST.out.below HB.out).at (by omega)
      have ys := hcs k (by omega)
      obtain ⟨bd, offd, rfl, _, hcd⟩ := (HD.out.below HB.out).at (by omega)
      have yd := hcd k (by omega)
      have hbk := HBD.out k hlt
      have hpk : padOk at' lo st ds k ↔ (0 ≤ at'[k]?.getD 0 - lo[k]?.getD 0 ∧ (at'[k]?.getD 0 - lo[k]?.getD 0) % st[k]?.getD 0 = 0 ∧ (at'[k]?.getD 0 - lo[k]?.getD 0) / st[k]?.getD 0 < ds[k]?.getD 0) := Iff.rfl
      have HFS := hide (fillF_succ (fun j => (at'[j]?.getD 0 - lo[j]?.getD 0) / st[j]?.getD 0) al k)
      generalize at'[k]?.getD 0 = X at *
      generalize lo[k]?.getD 0 = Y at *
      generalize st[k]?.getD 0 = T at *
      generalize ds[k]?.getD 0 = D at *
      obtain ⟨M, hM⟩ : ∃ M, M = X - Y := ⟨_, rfl⟩
      rw [← hM] at hpk HFS
      have w1 : IntKind.i64.wrap (X - Y) = M := by rw [hM]; exact wrap_in _ (by omega) (by omega)
      have HPK := hide hpk
      obtain ⟨o0, o1, o2, o3, o4, o5, o6⟩ := HO.out.cells
      obtain ⟨⟨r0, r1⟩, _⟩ := HA.out.cells
      have hqn : k < al := hlt
      have hr1 := HR.out.cell hqn
      have hf := HR.out.frozen k
      have i1 : (0 : Int) ≤ (k : Int) := Int.natCast_nonneg _
      have i2 : (k : Int) < (al : Int) := by omega
      have i3 : (k : Int) < (ll : Int) := by omega
      have i4 : (k : Int) < (tl : Int) := by omega
      have i5 : (k : Int) < (dl : Int) := by omega
      have n1 : T ≠ 0 := by omega
      have t2 : 1 ≤ T := by omega
      have m4 : M ≤ 4096 := by omega
      have HQL : Hid (k < (fillF (fun j => (at'[j]?.getD 0 - lo[j]?.getD 0) / st[j]?.getD 0) al k).length) := by rw [Hid, fillF_length]; exact hqn
      clear hca hcl hcs hcd hpk hbk hM
      by_cases c1 : M < 0
      · have q1 : decide (M < 0) = true := by simp [c1]
        have hv := HOUT.out k hlt (fun h => by have := HPK.out.1 h; omega)
        have HV := hide hv
        clear hv c1
        go_wp2
        go_quiet (fail)
        go_wp2
        go_ret
        rw [HV.out]
        exact ⟨rfl, Below.on HB.out (below_drewN _ _)⟩
      · have q1 : decide (M < 0) = false := by simp; omega
        have q2 : 0 ≤ M := by omega
        have e1 : M.tmod T = M % T := Int.tmod_eq_emod_of_nonneg q2
        have e2 : M.tdiv T = M / T := Int.tdiv_eq_ediv_of_nonneg q2
        have HC1 := hide e1
        have HC2 := hide e2
        clear e1 e2 c1
        by_cases c2 : M % T = 0
        · have q3 : (M.tmod T != 0) = false := by rw [HC1.out, c2]; rfl
          have HM0 := hide c2
          clear c2
          obtain ⟨Qt, hQt⟩ : ∃ Qt, Qt = M / T := ⟨_, rfl⟩
          have hq0 : 0 ≤ Qt := by rw [hQt]; exact Int.ediv_nonneg q2 (by omega)
          have hq1 : Qt ≤ M := by rw [hQt]; exact Int.ediv_le_self _ q2
          have w2 : IntKind.i64.wrap (M.tdiv T) = Qt := by rw [HC2.out, ← hQt]; exact wrap_in _ (by omega) (by omega)
          rw [← hQt] at HPK HFS
          clear hQt
          by_cases c3 : D ≤ Qt
          · have q4 : decide (D ≤ Qt) = true := by simp [c3]
            have hv := HOUT.out k hlt (fun h => by have := (HPK.out.1 h).2.2; omega)
            have HV := hide hv
            clear hv c3
            go_wp2
            go_quiet (fail)
            go_wp2
            go_ret
            rw [HV.out]
            exact ⟨rfl, Below.on HB.out (below_drewN _ _)⟩
          · have q4 : decide (D ≤ Qt) = false := by simp; omega
            have HPY := hide (HPK.out.2 ⟨q2, HM0.out, by omega⟩)
            clear c3
            go_wp2
            go_quiet (fail)
            go_wp2
            go_roundw
            case rel =>
              refine ⟨k + 1, by omega, by go_num, fun j hj => ?_, World.rowIs.congr (World.rowIs.set (RowI.below HR.out (below_drewN _ _)) k (.int .i64 Qt)) (fun j _ => ?_), (HO.out.below (below_drewN _ _)).set (p := ⟨(w.heap.size + 1 + 1), k, none⟩) (by simp; omega) _, (HA.out.below (below_drewN _ _)).set (p := ⟨(w.heap.size + 1 + 1), k, none⟩) (by simp) _, (Below.on HB.out (below_drewN _ _)).setCell (p := ⟨(w.heap.size + 1 + 1), k, none⟩) (by simp; omega) _⟩
              · by_cases e : j = k
                · rw [e]; exact HPY.out
                · exact HK.out j (by omega)
              · rw [HFS.out]
                by_cases e : j = k
                · subst e
                  rw [if_pos rfl, List.getElem?_set_self HQL.out]
                  rfl
                · rw [if_neg e, List.getElem?_set_ne (fun h => e h.symm)]
            case measure => simp [intOf]; omega
        · obtain ⟨RM, hRM⟩ : ∃ RM, M.tmod T = RM := ⟨_, rfl⟩
          have q3 : (RM != 0) = true := by rw [← hRM, HC1.out]; simp [c2]
          have hv := HOUT.out k hlt (fun h => c2 (HPK.out.1 h).2.1)
          have HV := hide hv
          clear hv c2
          go_wp2
          go_quiet (fail)
          go_wp2
          go_ret
          rw [HV.out]
          exact ⟨rfl, Below.on HB.out (below_drewN _ _)⟩
    · obtain rfl : al = k := by omega
      obtain ⟨⟨r0, r1⟩, _⟩ := HA.out.cells
      obtain ⟨p, hpn, hpp, hv⟩ := HIN.out HK.out
      have HPP := hide hpp
      have HV := hide hv
      have hin : Ints wr (some ⟨(w.heap.size + 1 + 1), 0, none⟩) al (fillF (fun j => (at'[j]?.getD 0 - lo[j]?.getD 0) / st[j]?.getD 0) al al) := ints_of_rowI HR.out (by rw [fillF_length]) (by omega) (fillF_bd' (fun j hj => by have h1 := HBD.out j hj; have h2 := (HK.out j hj).1; have h3 := Int.ediv_nonneg h2 (show 0 ≤ st[j]?.getD 0 by omega); have h4 := Int.ediv_le_self (st[j]?.getD 0) h2; constructor <;> omega) _)
      have HIS := hide hin
      clear hin hpp hv
      go_wp2_with (go_at_call 42; refine (rget_any _ _ _ ds _ _ _ xs _ _ _ (fillF (fun j => (at'[j]?.getD 0 - lo[j]?.getD 0) / st[j]?.getD 0) al al) _ p (HD.out.below HB.out) hdc (HX.out.below HB.out) HIS.out HPP.out hpn).mono ?_; rintro e w9 ⟨rfl, hb⟩; have HB9 := hide (Below.on HB.out hb); clear hb)
      go_ret
      rw [HV.out]
      exact ⟨rfl, HB9.out⟩
end Go.Proofs.YtoagnhppjlcpkaaGreat.V

/-
  Contracts: adjointref2.entry, kind by kind.
-/
namespace Go.Proofs.YtoagnhppjlcpkaaGreat.V
set_option maxRecDepth 20000
open Go.RowKit

set_option maxRecDepth 100000 in
set_option maxHeartbeats 1000000 in
theorem rentry_view9 (x : Int) (vd va vl vh vs : Value) (b off cap : Nat) (da : Option Addr) (dl dc : Nat) (xa : Option Addr) (n1 xc : Nat) (aa : Option Addr) (al ac : Nat) (nn v : Int) (w : World)
    (h0 : w.cell? ⟨b, off, none⟩ = some (.slice da dl dc)) (h1 : w.cell? ⟨b, off + 1, none⟩ = some (.slice xa n1 xc))
    (hC : ∀ W, Below w.heap.size w W → Calls Tryz.prog 49 #[.agg #[.int .i64 9, vd, va, vl, vh, vs, .int .i64 x], .agg #[.slice da dl dc, .slice xa n1 xc], .slice aa al ac] W fun e w' => e = .returned (.int .i64 v) ∧ Below W.heap.size W w') :
    Calls Tryz.prog 24 #[.agg #[.int .i64 9, vd, va, vl, vh, vs, .int .i64 x], .slice (some ⟨b, off, none⟩) 1 cap, .slice aa al ac, .int .i64 nn] w fun e w' => e = .returned (.int .i64 v) ∧ Below w.heap.size w w' := by
  have HB1 := hide ((Below.refl w.heap.size w).alloc (Nat.le_refl _) (.cells #[.int .i64 9, vd, va, vl, vh, vs, .int .i64 x] 24))
  have HOP := hide (OpAt.new w 9 vd va vl vh vs x)
  obtain ⟨o0, o1, o2, o3, o4, o5, o6⟩ := HOP.out.cells
  have k0 := (HB1.out.cell (p := ⟨b, off, none⟩) (lt_of_cell h0)).trans h0
  have k1 := (HB1.out.cell (p := ⟨b, off + 1, none⟩) (lt_of_cell h1)).trans h1
  have HC := hide hC
  clear hC h0 h1
  go_enter Tryz.func24, Tryz.ntmps24
  go_wp2_with fail
  refine region_made 6 6 [fIs (.agg #[.int .i64 9, vd, va, vl, vh, vs, .int .i64 x]), fIs (.slice (some ⟨b, off, none⟩) 1 cap), fIs (.pointer (some ⟨b, off, none⟩)), fIs (.agg #[.slice da dl dc, .slice xa n1 xc]), fIs (.slice aa al ac), fIs (.int .i64 v)] (by kernel_rfl) (by kernel_rfl) (by kernel_rfl) (fun _ ⟨_, _⟩ ⟨_, _⟩ _ e h => by cases e; exact h) ⟨fIs_good _, fIs_good _, fIs_good _, fIs_good _, fIs_good _, fIs_good _, trivial⟩ ?mk ?rest
  case mk =>
    refine ⟨fun u wz hb hd => ?_, fun u wz hb hd => ?_, fun u wz hb hd => ?_, fun u wz hb hd => ?_, fun u wz hb hd => ?_, fun u wz hb hd => ?_, trivial⟩
    all_goals simp only [Act.put, List.setIfInBounds_toArray, List.set_cons_zero, List.set_cons_succ]
    · have o0' := (hb.cell (p := ⟨w.heap.size, 0, none⟩) (lt_of_cell o0)).trans o0
      have o1' := (hb.cell (p := ⟨w.heap.size, 1, none⟩) (lt_of_cell o1)).trans o1
      have o2' := (hb.cell (p := ⟨w.heap.size, 2, none⟩) (lt_of_cell o2)).trans o2
      have o3' := (hb.cell (p := ⟨w.heap.size, 3, none⟩) (lt_of_cell o3)).trans o3
      have o4' := (hb.cell (p := ⟨w.heap.size, 4, none⟩) (lt_of_cell o4)).trans o4
      have o5' := (hb.cell (p := ⟨w.heap.size, 5, none⟩) (lt_of_cell o5)).trans o5
      have o6' := (hb.cell (p := ⟨w.heap.size, 6, none⟩) (lt_of_cell o6)).trans o6
      go_simp
      exact ⟨rfl, Below.refl _ _, fun h => by cases h⟩
    · go_simp
      exact ⟨rfl, Below.refl _ _, fun h => by cases h⟩
    · have e1 : u 1 = .slice (some ⟨b, off, none⟩) 1 cap := hd 1 (by omega) (by kernel_rfl)
      rw [e1]
      go_simp
      exact ⟨rfl, Below.refl _ _, fun h => by cases h⟩
    · have e2 : u 2 = .pointer (some ⟨b, off, none⟩) := hd 2 (by omega) (by kernel_rfl)
      rw [e2]
      have k0' := (hb.cell (p := ⟨b, off, none⟩) (lt_of_cell k0)).trans k0
      have k1' := (hb.cell (p := ⟨b, off + 1, none⟩) (lt_of_cell k1)).trans k1
      go_simp
      exact ⟨rfl, Below.refl _ _, fun h => by cases h⟩
    · go_simp
      exact ⟨rfl, Below.refl _ _, fun h => by cases h⟩
    · have e0 : u 0 = .agg #[.int .i64 9, vd, va, vl, vh, vs, .int .i64 x] := hd 0 (by omega) (by kernel_rfl)
      have e3 : u 3 = .agg #[.slice da dl dc, .slice xa n1 xc] := hd 3 (by omega) (by kernel_rfl)
      have e4 : u 4 = .slice aa al ac := hd 4 (by omega) (by kernel_rfl)
      rw [e0, e3, e4]
      go_simp
      refine (HC.out wz (Below.on HB1.out hb)).mono ?_
      rintro e w2 ⟨rfl, hb2⟩
      exact ⟨rfl, hb2, fun h => by cases h⟩
  case rest =>
    intro u wz hb hf hp
    have f0 : u 0 = .agg #[.int .i64 9, vd, va, vl, vh, vs, .int .i64 x] := hf 0 (by omega)
    have f1 : u 1 = .slice (some ⟨b, off, none⟩) 1 cap := hf 1 (by omega)
    have f2 : u 2 = .pointer (some ⟨b, off, none⟩) := hf 2 (by omega)
    have f3 : u 3 = .agg #[.slice da dl dc, .slice xa n1 xc] := hf 3 (by omega)
    have f4 : u 4 = .slice aa al ac := hf 4 (by omega)
    have f5 : u 5 = .int .i64 v := hf 5 (by omega)
    refine UptoW.rest 1 6 (by rfl) (by kernel_rfl) ?_
    simp only [List.take, List.drop, putOps, Act.put, List.setIfInBounds_toArray, List.set_cons_zero, List.set_cons_succ, Nat.reduceAdd, f0, f1, f2, f3, f4, f5]
    clear f0 f1 f2 f3 f4 f5 hf hp
    have HBz := hide (Below.on HB1.out hb)
    refine wpList_plain rfl (fun K hK => ?_)
    go_simp
    refine hK _ _ (wpList_nil ?_)
    clear hK K hb k0 k1 o0 o1 o2 o3 o4 o5 o6
    go_wp2
    go_ret
    exact ⟨rfl, HBz.out⟩

set_option maxRecDepth 100000 in
set_option maxHeartbeats 1000000 in
theorem rentry_view11 (x : Int) (vd va vl vh vs : Value) (b off cap : Nat) (da : Option Addr) (dl dc : Nat) (xa : Option Addr) (n1 xc : Nat) (aa : Option Addr) (al ac : Nat) (nn v : Int) (w : World)
    (h0 : w.cell? ⟨b, off, none⟩ = some (.slice da dl dc)) (h1 : w.cell? ⟨b, off + 1, none⟩ = some (.slice xa n1 xc))
    (hC : ∀ W, Below w.heap.size w W → Calls Tryz.prog 49 #[.agg #[.int .i64 11, vd, va, vl, vh, vs, .int .i64 x], .agg #[.slice da dl dc, .slice xa n1 xc], .slice aa al ac] W fun e w' => e = .returned (.int .i64 v) ∧ Below W.heap.size W w') :
    Calls Tryz.prog 24 #[.agg #[.int .i64 11, vd, va, vl, vh, vs, .int .i64 x], .slice (some ⟨b, off, none⟩) 1 cap, .slice aa al ac, .int .i64 nn] w fun e w' => e = .returned (.int .i64 v) ∧ Below w.heap.size w w' := by
  have HB1 := hide ((Below.refl w.heap.size w).alloc (Nat.le_refl _) (.cells #[.int .i64 11, vd, va, vl, vh, vs, .int .i64 x] 24))
  have HOP := hide (OpAt.new w 11 vd va vl vh vs x)
  obtain ⟨o0, o1, o2, o3, o4, o5, o6⟩ := HOP.out.cells
  have k0 := (HB1.out.cell (p := ⟨b, off, none⟩) (lt_of_cell h0)).trans h0
  have k1 := (HB1.out.cell (p := ⟨b, off + 1, none⟩) (lt_of_cell h1)).trans h1
  have HC := hide hC
  clear hC h0 h1
  go_enter Tryz.func24, Tryz.ntmps24
  go_wp2_with fail
  refine region_made 6 6 [fIs (.agg #[.int .i64 11, vd, va, vl, vh, vs, .int .i64 x]), fIs (.slice (some ⟨b, off, none⟩) 1 cap), fIs (.pointer (some ⟨b, off, none⟩)), fIs (.agg #[.slice da dl dc, .slice xa n1 xc]), fIs (.slice aa al ac), fIs (.int .i64 v)] (by kernel_rfl) (by kernel_rfl) (by kernel_rfl) (fun _ ⟨_, _⟩ ⟨_, _⟩ _ e h => by cases e; exact h) ⟨fIs_good _, fIs_good _, fIs_good _, fIs_good _, fIs_good _, fIs_good _, trivial⟩ ?mk ?rest
  case mk =>
    refine ⟨fun u wz hb hd => ?_, fun u wz hb hd => ?_, fun u wz hb hd => ?_, fun u wz hb hd => ?_, fun u wz hb hd => ?_, fun u wz hb hd => ?_, trivial⟩
    all_goals simp only [Act.put, List.setIfInBounds_toArray, List.set_cons_zero, List.set_cons_succ]
    · have o0' := (hb.cell (p := ⟨w.heap.size, 0, none⟩) (lt_of_cell o0)).trans o0
      have o1' := (hb.cell (p := ⟨w.heap.size, 1, none⟩) (lt_of_cell o1)).trans o1
      have o2' := (hb.cell (p := ⟨w.heap.size, 2, none⟩) (lt_of_cell o2)).trans o2
      have o3' := (hb.cell (p := ⟨w.heap.size, 3, none⟩) (lt_of_cell o3)).trans o3
      have o4' := (hb.cell (p := ⟨w.heap.size, 4, none⟩) (lt_of_cell o4)).trans o4
      have o5' := (hb.cell (p := ⟨w.heap.size, 5, none⟩) (lt_of_cell o5)).trans o5
      have o6' := (hb.cell (p := ⟨w.heap.size, 6, none⟩) (lt_of_cell o6)).trans o6
      go_simp
      exact ⟨rfl, Below.refl _ _, fun h => by cases h⟩
    · go_simp
      exact ⟨rfl, Below.refl _ _, fun h => by cases h⟩
    · have e1 : u 1 = .slice (some ⟨b, off, none⟩) 1 cap := hd 1 (by omega) (by kernel_rfl)
      rw [e1]
      go_simp
      exact ⟨rfl, Below.refl _ _, fun h => by cases h⟩
    · have e2 : u 2 = .pointer (some ⟨b, off, none⟩) := hd 2 (by omega) (by kernel_rfl)
      rw [e2]
      have k0' := (hb.cell (p := ⟨b, off, none⟩) (lt_of_cell k0)).trans k0
      have k1' := (hb.cell (p := ⟨b, off + 1, none⟩) (lt_of_cell k1)).trans k1
      go_simp
      exact ⟨rfl, Below.refl _ _, fun h => by cases h⟩
    · go_simp
      exact ⟨rfl, Below.refl _ _, fun h => by cases h⟩
    · have e0 : u 0 = .agg #[.int .i64 11, vd, va, vl, vh, vs, .int .i64 x] := hd 0 (by omega) (by kernel_rfl)
      have e3 : u 3 = .agg #[.slice da dl dc, .slice xa n1 xc] := hd 3 (by omega) (by kernel_rfl)
      have e4 : u 4 = .slice aa al ac := hd 4 (by omega) (by kernel_rfl)
      rw [e0, e3, e4]
      go_simp
      refine (HC.out wz (Below.on HB1.out hb)).mono ?_
      rintro e w2 ⟨rfl, hb2⟩
      exact ⟨rfl, hb2, fun h => by cases h⟩
  case rest =>
    intro u wz hb hf hp
    have f0 : u 0 = .agg #[.int .i64 11, vd, va, vl, vh, vs, .int .i64 x] := hf 0 (by omega)
    have f1 : u 1 = .slice (some ⟨b, off, none⟩) 1 cap := hf 1 (by omega)
    have f2 : u 2 = .pointer (some ⟨b, off, none⟩) := hf 2 (by omega)
    have f3 : u 3 = .agg #[.slice da dl dc, .slice xa n1 xc] := hf 3 (by omega)
    have f4 : u 4 = .slice aa al ac := hf 4 (by omega)
    have f5 : u 5 = .int .i64 v := hf 5 (by omega)
    refine UptoW.rest 1 6 (by rfl) (by kernel_rfl) ?_
    simp only [List.take, List.drop, putOps, Act.put, List.setIfInBounds_toArray, List.set_cons_zero, List.set_cons_succ, Nat.reduceAdd, f0, f1, f2, f3, f4, f5]
    clear f0 f1 f2 f3 f4 f5 hf hp
    have HBz := hide (Below.on HB1.out hb)
    refine wpList_plain rfl (fun K hK => ?_)
    go_simp
    refine hK _ _ (wpList_nil ?_)
    clear hK K hb k0 k1 o0 o1 o2 o3 o4 o5 o6
    go_wp2
    go_ret
    exact ⟨rfl, HBz.out⟩

set_option maxRecDepth 100000 in
set_option maxHeartbeats 1000000 in
theorem rentry_view13 (x : Int) (vd va vl vh vs : Value) (b off cap : Nat) (da : Option Addr) (dl dc : Nat) (xa : Option Addr) (n1 xc : Nat) (aa : Option Addr) (al ac : Nat) (nn v : Int) (w : World)
    (h0 : w.cell? ⟨b, off, none⟩ = some (.slice da dl dc)) (h1 : w.cell? ⟨b, off + 1, none⟩ = some (.slice xa n1 xc))
    (hC : ∀ W, Below w.heap.size w W → Calls Tryz.prog 49 #[.agg #[.int .i64 13, vd, va, vl, vh, vs, .int .i64 x], .agg #[.slice da dl dc, .slice xa n1 xc], .slice aa al ac] W fun e w' => e = .returned (.int .i64 v) ∧ Below W.heap.size W w') :
    Calls Tryz.prog 24 #[.agg #[.int .i64 13, vd, va, vl, vh, vs, .int .i64 x], .slice (some ⟨b, off, none⟩) 1 cap, .slice aa al ac, .int .i64 nn] w fun e w' => e = .returned (.int .i64 v) ∧ Below w.heap.size w w' := by
  have HB1 := hide ((Below.refl w.heap.size w).alloc (Nat.le_refl _) (.cells #[.int .i64 13, vd, va, vl, vh, vs, .int .i64 x] 24))
  have HOP := hide (OpAt.new w 13 vd va vl vh vs x)
  obtain ⟨o0, o1, o2, o3, o4, o5, o6⟩ := HOP.out.cells
  have k0 := (HB1.out.cell (p := ⟨b, off, none⟩) (lt_of_cell h0)).trans h0
  have k1 := (HB1.out.cell (p := ⟨b, off + 1, none⟩) (lt_of_cell h1)).trans h1
  have HC := hide hC
  clear hC h0 h1
  go_enter Tryz.func24, Tryz.ntmps24
  go_wp2_with fail
  refine region_made 6 6 [fIs (.agg #[.int .i64 13, vd, va, vl, vh, vs, .int .i64 x]), fIs (.slice (some ⟨b, off, none⟩) 1 cap), fIs (.pointer (some ⟨b, off, none⟩)), fIs (.agg #[.slice da dl dc, .slice xa n1 xc]), fIs (.slice aa al ac), fIs (.int .i64 v)] (by kernel_rfl) (by kernel_rfl) (by kernel_rfl) (fun _ ⟨_, _⟩ ⟨_, _⟩ _ e h => by cases e; exact h) ⟨fIs_good _, fIs_good _, fIs_good _, fIs_good _, fIs_good _, fIs_good _, trivial⟩ ?mk ?rest
  case mk =>
    refine ⟨fun u wz hb hd => ?_, fun u wz hb hd => ?_, fun u wz hb hd => ?_, fun u wz hb hd => ?_, fun u wz hb hd => ?_, fun u wz hb hd => ?_, trivial⟩
    all_goals simp only [Act.put, List.setIfInBounds_toArray, List.set_cons_zero, List.set_cons_succ]
    · have o0' := (hb.cell (p := ⟨w.heap.size, 0, none⟩) (lt_of_cell o0)).trans o0
      have o1' := (hb.cell (p := ⟨w.heap.size, 1, none⟩) (lt_of_cell o1)).trans o1
      have o2' := (hb.cell (p := ⟨w.heap.size, 2, none⟩) (lt_of_cell o2)).trans o2
      have o3' := (hb.cell (p := ⟨w.heap.size, 3, none⟩) (lt_of_cell o3)).trans o3
      have o4' := (hb.cell (p := ⟨w.heap.size, 4, none⟩) (lt_of_cell o4)).trans o4
      have o5' := (hb.cell (p := ⟨w.heap.size, 5, none⟩) (lt_of_cell o5)).trans o5
      have o6' := (hb.cell (p := ⟨w.heap.size, 6, none⟩) (lt_of_cell o6)).trans o6
      go_simp
      exact ⟨rfl, Below.refl _ _, fun h => by cases h⟩
    · go_simp
      exact ⟨rfl, Below.refl _ _, fun h => by cases h⟩
    · have e1 : u 1 = .slice (some ⟨b, off, none⟩) 1 cap := hd 1 (by omega) (by kernel_rfl)
      rw [e1]
      go_simp
      exact ⟨rfl, Below.refl _ _, fun h => by cases h⟩
    · have e2 : u 2 = .pointer (some ⟨b, off, none⟩) := hd 2 (by omega) (by kernel_rfl)
      rw [e2]
      have k0' := (hb.cell (p := ⟨b, off, none⟩) (lt_of_cell k0)).trans k0
      have k1' := (hb.cell (p := ⟨b, off + 1, none⟩) (lt_of_cell k1)).trans k1
      go_simp
      exact ⟨rfl, Below.refl _ _, fun h => by cases h⟩
    · go_simp
      exact ⟨rfl, Below.refl _ _, fun h => by cases h⟩
    · have e0 : u 0 = .agg #[.int .i64 13, vd, va, vl, vh, vs, .int .i64 x] := hd 0 (by omega) (by kernel_rfl)
      have e3 : u 3 = .agg #[.slice da dl dc, .slice xa n1 xc] := hd 3 (by omega) (by kernel_rfl)
      have e4 : u 4 = .slice aa al ac := hd 4 (by omega) (by kernel_rfl)
      rw [e0, e3, e4]
      go_simp
      refine (HC.out wz (Below.on HB1.out hb)).mono ?_
      rintro e w2 ⟨rfl, hb2⟩
      exact ⟨rfl, hb2, fun h => by cases h⟩
  case rest =>
    intro u wz hb hf hp
    have f0 : u 0 = .agg #[.int .i64 13, vd, va, vl, vh, vs, .int .i64 x] := hf 0 (by omega)
    have f1 : u 1 = .slice (some ⟨b, off, none⟩) 1 cap := hf 1 (by omega)
    have f2 : u 2 = .pointer (some ⟨b, off, none⟩) := hf 2 (by omega)
    have f3 : u 3 = .agg #[.slice da dl dc, .slice xa n1 xc] := hf 3 (by omega)
    have f4 : u 4 = .slice aa al ac := hf 4 (by omega)
    have f5 : u 5 = .int .i64 v := hf 5 (by omega)
    refine UptoW.rest 1 6 (by rfl) (by kernel_rfl) ?_
    simp only [List.take, List.drop, putOps, Act.put, List.setIfInBounds_toArray, List.set_cons_zero, List.set_cons_succ, Nat.reduceAdd, f0, f1, f2, f3, f4, f5]
    clear f0 f1 f2 f3 f4 f5 hf hp
    have HBz := hide (Below.on HB1.out hb)
    refine wpList_plain rfl (fun K hK => ?_)
    go_simp
    refine hK _ _ (wpList_nil ?_)
    clear hK K hb k0 k1 o0 o1 o2 o3 o4 o5 o6
    go_wp2
    go_ret
    exact ⟨rfl, HBz.out⟩

set_option maxRecDepth 100000 in
set_option maxHeartbeats 1000000 in
theorem rentry_view15 (x : Int) (vd va vl vh vs : Value) (b off cap : Nat) (da : Option Addr) (dl dc : Nat) (xa : Option Addr) (n1 xc : Nat) (aa : Option Addr) (al ac : Nat) (nn v : Int) (w : World)
    (h0 : w.cell? ⟨b, off, none⟩ = some (.slice da dl dc)) (h1 : w.cell? ⟨b, off + 1, none⟩ = some (.slice xa n1 xc))
    (hC : ∀ W, Below w.heap.size w W → Calls Tryz.prog 49 #[.agg #[.int .i64 15, vd, va, vl, vh, vs, .int .i64 x], .agg #[.slice da dl dc, .slice xa n1 xc], .slice aa al ac] W fun e w' => e = .returned (.int .i64 v) ∧ Below W.heap.size W w') :
    Calls Tryz.prog 24 #[.agg #[.int .i64 15, vd, va, vl, vh, vs, .int .i64 x], .slice (some ⟨b, off, none⟩) 1 cap, .slice aa al ac, .int .i64 nn] w fun e w' => e = .returned (.int .i64 v) ∧ Below w.heap.size w w' := by
  have HB1 := hide ((Below.refl w.heap.size w).alloc (Nat.le_refl _) (.cells #[.int .i64 15, vd, va, vl, vh, vs, .int .i64 x] 24))
  have HOP := hide (OpAt.new w 15 vd va vl vh vs x)
  obtain ⟨o0, o1, o2, o3, o4, o5, o6⟩ := HOP.out.cells
  have k0 := (HB1.out.cell (p := ⟨b, off, none⟩) (lt_of_cell h0)).trans h0
  have k1 := (HB1.out.cell (p := ⟨b, off + 1, none⟩) (lt_of_cell h1)).trans h1
  have HC := hide hC
  clear hC h0 h1
  go_enter Tryz.func24, Tryz.ntmps24
  go_wp2_with fail
  refine region_made 6 6 [fIs (.agg #[.int .i64 15, vd, va, vl, vh, vs, .int .i64 x]), fIs (.slice (some ⟨b, off, none⟩) 1 cap), fIs (.pointer (some ⟨b, off, none⟩)), fIs (.agg #[.slice da dl dc, .slice xa n1 xc]), fIs (.slice aa al ac), fIs (.int .i64 v)] (by kernel_rfl) (by kernel_rfl) (by kernel_rfl) (fun _ ⟨_, _⟩ ⟨_, _⟩ _ e h => by cases e; exact h) ⟨fIs_good _, fIs_good _, fIs_good _, fIs_good _, fIs_good _, fIs_good _, trivial⟩ ?mk ?rest
  case mk =>
    refine ⟨fun u wz hb hd => ?_, fun u wz hb hd => ?_, fun u wz hb hd => ?_, fun u wz hb hd => ?_, fun u wz hb hd => ?_, fun u wz hb hd => ?_, trivial⟩
    all_goals simp only [Act.put, List.setIfInBounds_toArray, List.set_cons_zero, List.set_cons_succ]
    · have o0' := (hb.cell (p := ⟨w.heap.size, 0, none⟩) (lt_of_cell o0)).trans o0
      have o1' := (hb.cell (p := ⟨w.heap.size, 1, none⟩) (lt_of_cell o1)).trans o1
      have o2' := (hb.cell (p := ⟨w.heap.size, 2, none⟩) (lt_of_cell o2)).trans o2
      have o3' := (hb.cell (p := ⟨w.heap.size, 3, none⟩) (lt_of_cell o3)).trans o3
      have o4' := (hb.cell (p := ⟨w.heap.size, 4, none⟩) (lt_of_cell o4)).trans o4
      have o5' := (hb.cell (p := ⟨w.heap.size, 5, none⟩) (lt_of_cell o5)).trans o5
      have o6' := (hb.cell (p := ⟨w.heap.size, 6, none⟩) (lt_of_cell o6)).trans o6
      go_simp
      exact ⟨rfl, Below.refl _ _, fun h => by cases h⟩
    · go_simp
      exact ⟨rfl, Below.refl _ _, fun h => by cases h⟩
    · have e1 : u 1 = .slice (some ⟨b, off, none⟩) 1 cap := hd 1 (by omega) (by kernel_rfl)
      rw [e1]
      go_simp
      exact ⟨rfl, Below.refl _ _, fun h => by cases h⟩
    · have e2 : u 2 = .pointer (some ⟨b, off, none⟩) := hd 2 (by omega) (by kernel_rfl)
      rw [e2]
      have k0' := (hb.cell (p := ⟨b, off, none⟩) (lt_of_cell k0)).trans k0
      have k1' := (hb.cell (p := ⟨b, off + 1, none⟩) (lt_of_cell k1)).trans k1
      go_simp
      exact ⟨rfl, Below.refl _ _, fun h => by cases h⟩
    · go_simp
      exact ⟨rfl, Below.refl _ _, fun h => by cases h⟩
    · have e0 : u 0 = .agg #[.int .i64 15, vd, va, vl, vh, vs, .int .i64 x] := hd 0 (by omega) (by kernel_rfl)
      have e3 : u 3 = .agg #[.slice da dl dc, .slice xa n1 xc] := hd 3 (by omega) (by kernel_rfl)
      have e4 : u 4 = .slice aa al ac := hd 4 (by omega) (by kernel_rfl)
      rw [e0, e3, e4]
      go_simp
      refine (HC.out wz (Below.on HB1.out hb)).mono ?_
      rintro e w2 ⟨rfl, hb2⟩
      exact ⟨rfl, hb2, fun h => by cases h⟩
  case rest =>
    intro u wz hb hf hp
    have f0 : u 0 = .agg #[.int .i64 15, vd, va, vl, vh, vs, .int .i64 x] := hf 0 (by omega)
    have f1 : u 1 = .slice (some ⟨b, off, none⟩) 1 cap := hf 1 (by omega)
    have f2 : u 2 = .pointer (some ⟨b, off, none⟩) := hf 2 (by omega)
    have f3 : u 3 = .agg #[.slice da dl dc, .slice xa n1 xc] := hf 3 (by omega)
    have f4 : u 4 = .slice aa al ac := hf 4 (by omega)
    have f5 : u 5 = .int .i64 v := hf 5 (by omega)
    refine UptoW.rest 1 6 (by rfl) (by kernel_rfl) ?_
    simp only [List.take, List.drop, putOps, Act.put, List.setIfInBounds_toArray, List.set_cons_zero, List.set_cons_succ, Nat.reduceAdd, f0, f1, f2, f3, f4, f5]
    clear f0 f1 f2 f3 f4 f5 hf hp
    have HBz := hide (Below.on HB1.out hb)
    refine wpList_plain rfl (fun K hK => ?_)
    go_simp
    refine hK _ _ (wpList_nil ?_)
    clear hK K hb k0 k1 o0 o1 o2 o3 o4 o5 o6
    go_wp2
    go_ret
    exact ⟨rfl, HBz.out⟩

set_option maxRecDepth 100000 in
set_option maxHeartbeats 1000000 in
theorem rentry_pad (x : Int) (vd va vl vh vs : Value) (b off cap : Nat) (da : Option Addr) (dl dc : Nat) (xa : Option Addr) (n1 xc : Nat) (aa : Option Addr) (al ac : Nat) (nn v : Int) (w : World)
    (h0 : w.cell? ⟨b, off, none⟩ = some (.slice da dl dc)) (h1 : w.cell? ⟨b, off + 1, none⟩ = some (.slice xa n1 xc))
    (hC : ∀ W, Below w.heap.size w W → Calls Tryz.prog 44 #[.agg #[.int .i64 14, vd, va, vl, vh, vs, .int .i64 x], .agg #[.slice da dl dc, .slice xa n1 xc], .slice aa al ac] W fun e w' => e = .returned (.int .i64 v) ∧ Below W.heap.size W w') :
    Calls Tryz.prog 24 #[.agg #[.int .i64 14, vd, va, vl, vh, vs, .int .i64 x], .slice (some ⟨b, off, none⟩) 1 cap, .slice aa al ac, .int .i64 nn] w fun e w' => e = .returned (.int .i64 v) ∧ Below w.heap.size w w' := by
  have HB1 := hide ((Below.refl w.heap.size w).alloc (Nat.le_refl _) (.cells #[.int .i64 14, vd, va, vl, vh, vs, .int .i64 x] 24))
  have HOP := hide (OpAt.new w 14 vd va vl vh vs x)
  obtain ⟨o0, o1, o2, o3, o4, o5, o6⟩ := HOP.out.cells
  have k0 := (HB1.out.cell (p := ⟨b, off, none⟩) (lt_of_cell h0)).trans h0
  have k1 := (HB1.out.cell (p := ⟨b, off + 1, none⟩) (lt_of_cell h1)).trans h1
  have HC := hide hC
  clear hC h0 h1
  go_enter Tryz.func24, Tryz.ntmps24
  go_wp2_with fail
  refine region_made 6 6 [fIs (.agg #[.int .i64 14, vd, va, vl, vh, vs, .int .i64 x]), fIs (.slice (some ⟨b, off, none⟩) 1 cap), fIs (.pointer (some ⟨b, off, none⟩)), fIs (.agg #[.slice da dl dc, .slice xa n1 xc]), fIs (.slice aa al ac), fIs (.int .i64 v)] (by kernel_rfl) (by kernel_rfl) (by kernel_rfl) (fun _ ⟨_, _⟩ ⟨_, _⟩ _ e h => by cases e; exact h) ⟨fIs_good _, fIs_good _, fIs_good _, fIs_good _, fIs_good _, fIs_good _, trivial⟩ ?mk ?rest
  case mk =>
    refine ⟨fun u wz hb hd => ?_, fun u wz hb hd => ?_, fun u wz hb hd => ?_, fun u wz hb hd => ?_, fun u wz hb hd => ?_, fun u wz hb hd => ?_, trivial⟩
    all_goals simp only [Act.put, List.setIfInBounds_toArray, List.set_cons_zero, List.set_cons_succ]
    · have o0' := (hb.cell (p := ⟨w.heap.size, 0, none⟩) (lt_of_cell o0)).trans o0
      have o1' := (hb.cell (p := ⟨w.heap.size, 1, none⟩) (lt_of_cell o1)).trans o1
      have o2' := (hb.cell (p := ⟨w.heap.size, 2, none⟩) (lt_of_cell o2)).trans o2
      have o3' := (hb.cell (p := ⟨w.heap.size, 3, none⟩) (lt_of_cell o3)).trans o3
      have o4' := (hb.cell (p := ⟨w.heap.size, 4, none⟩) (lt_of_cell o4)).trans o4
      have o5' := (hb.cell (p := ⟨w.heap.size, 5, none⟩) (lt_of_cell o5)).trans o5
      have o6' := (hb.cell (p := ⟨w.heap.size, 6, none⟩) (lt_of_cell o6)).trans o6
      go_simp
      exact ⟨rfl, Below.refl _ _, fun h => by cases h⟩
    · go_simp
      exact ⟨rfl, Below.refl _ _, fun h => by cases h⟩
    · have e1 : u 1 = .slice (some ⟨b, off, none⟩) 1 cap := hd 1 (by omega) (by kernel_rfl)
      rw [e1]
      go_simp
      exact ⟨rfl, Below.refl _ _, fun h => by cases h⟩
    · have e2 : u 2 = .pointer (some ⟨b, off, none⟩) := hd 2 (by omega) (by kernel_rfl)
      rw [e2]
      have k0' := (hb.cell (p := ⟨b, off, none⟩) (lt_of_cell k0)).trans k0
      have k1' := (hb.cell (p := ⟨b, off + 1, none⟩) (lt_of_cell k1)).trans k1
      go_simp
      exact ⟨rfl, Below.refl _ _, fun h => by cases h⟩
    · go_simp
      exact ⟨rfl, Below.refl _ _, fun h => by cases h⟩
    · have e0 : u 0 = .agg #[.int .i64 14, vd, va, vl, vh, vs, .int .i64 x] := hd 0 (by omega) (by kernel_rfl)
      have e3 : u 3 = .agg #[.slice da dl dc, .slice xa n1 xc] := hd 3 (by omega) (by kernel_rfl)
      have e4 : u 4 = .slice aa al ac := hd 4 (by omega) (by kernel_rfl)
      rw [e0, e3, e4]
      go_simp
      refine (HC.out wz (Below.on HB1.out hb)).mono ?_
      rintro e w2 ⟨rfl, hb2⟩
      exact ⟨rfl, hb2, fun h => by cases h⟩
  case rest =>
    intro u wz hb hf hp
    have f0 : u 0 = .agg #[.int .i64 14, vd, va, vl, vh, vs, .int .i64 x] := hf 0 (by omega)
    have f1 : u 1 = .slice (some ⟨b, off, none⟩) 1 cap := hf 1 (by omega)
    have f2 : u 2 = .pointer (some ⟨b, off, none⟩) := hf 2 (by omega)
    have f3 : u 3 = .agg #[.slice da dl dc, .slice xa n1 xc] := hf 3 (by omega)
    have f4 : u 4 = .slice aa al ac := hf 4 (by omega)
    have f5 : u 5 = .int .i64 v := hf 5 (by omega)
    refine UptoW.rest 1 6 (by rfl) (by kernel_rfl) ?_
    simp only [List.take, List.drop, putOps, Act.put, List.setIfInBounds_toArray, List.set_cons_zero, List.set_cons_succ, Nat.reduceAdd, f0, f1, f2, f3, f4, f5]
    clear f0 f1 f2 f3 f4 f5 hf hp
    have HBz := hide (Below.on HB1.out hb)
    refine wpList_plain rfl (fun K hK => ?_)
    go_simp
    refine hK _ _ (wpList_nil ?_)
    clear hK K hb k0 k1 o0 o1 o2 o3 o4 o5 o6
    go_wp2
    go_ret
    exact ⟨rfl, HBz.out⟩

set_option maxRecDepth 100000 in
set_option maxHeartbeats 1000000 in
theorem rentry_reform (x : Int) (vd va vl vh vs : Value) (b off cap : Nat) (da : Option Addr) (dl dc : Nat) (xa : Option Addr) (n1 xc : Nat) (xs : List Int) (at' : Value) (nn : Nat) (w : World)
    (h0 : w.cell? ⟨b, off, none⟩ = some (.slice da dl dc)) (h1 : w.cell? ⟨b, off + 1, none⟩ = some (.slice xa n1 xc)) (hx : Ints w xa n1 xs) (hn : nn < n1) :
    Calls Tryz.prog 24 #[.agg #[.int .i64 12, vd, va, vl, vh, vs, .int .i64 x], .slice (some ⟨b, off, none⟩) 1 cap, at', .int .i64 nn] w fun e w' => e = .returned (.int .i64 (xs[nn]?.getD 0)) ∧ Below w.heap.size w w' := by
  have HB1 := hide ((Below.refl w.heap.size w).alloc (Nat.le_refl _) (.cells #[.int .i64 12, vd, va, vl, vh, vs, .int .i64 x] 24))
  have HOP := hide (OpAt.new w 12 vd va vl vh vs x)
  obtain ⟨o0, o1, o2, o3, o4, o5, o6⟩ := HOP.out.cells
  have k0 := (HB1.out.cell (p := ⟨b, off, none⟩) (lt_of_cell h0)).trans h0
  have k1 := (HB1.out.cell (p := ⟨b, off + 1, none⟩) (lt_of_cell h1)).trans h1
  have hm := hx.2.1
  obtain ⟨b1, off1, rfl, _, hc⟩ := (hx.below HB1.out).at (by omega)
  have y1 := hc nn hn
  have i1 : (0 : Int) ≤ (nn : Int) := Int.natCast_nonneg _
  have i2 : (nn : Int) < (n1 : Int) := by omega
  clear hc hx h0 h1
  go_enter Tryz.func24, Tryz.ntmps24
  go_wp2
  go_ret
  exact ⟨rfl, HB1.out⟩

end Go.Proofs.YtoagnhppjlcpkaaGreat.V
