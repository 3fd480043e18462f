/-
  Contract: adjointref2.placed.
-/
import Derived.Test.YtoagnhppjlcpkaaGreatQJRAllC
import Derived.Test.YtoagnhppjlcpkaaGreatQGArrEach
import Derived.Test.YtoagnhppjlcpkaaGreatQGLapse
import Derived.Test.YtoagnhppjlcpkaaGreatQHArrTakes
import Derived.BigQuiet
namespace Go.Proofs.YtoagnhppjlcpkaaGreat.V
set_option maxRecDepth 20000
open Go.RowKit

theorem repl0_at (n j : Nat) : (List.replicate n (0 : Int))[j]?.getD 0 = 0 := by
  simp [List.getElem?_replicate]; split <;> rfl
theorem bd_get {xs : List Int} (h : ∀ x ∈ xs, -9223372036854775808 ≤ x ∧ x ≤ 9223372036854775807) (i : Nat) : -9223372036854775808 ≤ xs[i]?.getD 0 ∧ xs[i]?.getD 0 ≤ 9223372036854775807 := by
  by_cases hi : i < xs.length
  · rw [List.getElem?_eq_getElem hi]; exact h _ (List.getElem_mem hi)
  · rw [List.getElem?_eq_none (by omega)]; simp
/-- The first k numbers of a list, put where another one says. -/
def setAll (zs ps vs : List Int) : Nat → List Int
  | 0 => zs
  | k + 1 => (setAll zs ps vs k).set (ps[k]?.getD 0).toNat (vs[k]?.getD 0)
theorem setAll_length (zs ps vs : List Int) : ∀ k, (setAll zs ps vs k).length = zs.length
  | 0 => rfl
  | k + 1 => by simp [setAll, setAll_length zs ps vs k]
theorem setAll_bd {zs ps vs : List Int} (hz : ∀ x ∈ zs, -9223372036854775808 ≤ x ∧ x ≤ 9223372036854775807) (hv : ∀ x ∈ vs, -9223372036854775808 ≤ x ∧ x ≤ 9223372036854775807) : ∀ k, ∀ x ∈ setAll zs ps vs k, -9223372036854775808 ≤ x ∧ x ≤ 9223372036854775807
  | 0 => hz
  | k + 1 => fun x hx => by
    rcases List.mem_or_eq_of_mem_set hx with h | h
    · exact setAll_bd hz hv k x h
    · rw [h]; exact bd_get hv _

set_option maxRecDepth 100000 in
set_option maxHeartbeats 2000000 in
theorem placed_any (r : Nat) (pa : Option Addr) (pl pc : Nat) (ps : List Int) (va : Option Addr) (vl vc : Nat) (vs : List Int) (qa : Option Addr) (ql qc : Nat) (qs : List Int) (ua : Option Addr) (ul uc : Nat) (us : List Int) (w : World) (hr : r ≤ 6)
    (hp : Ints w pa pl ps) (hv : Ints w va vl vs) (hq : Ints w qa ql qs) (hu : Ints w ua ul us) (hpv : pl ≤ vl) (hqu : ql ≤ ul) (hpb : ∀ i, i < pl → 0 ≤ ps[i]?.getD 0 ∧ ps[i]?.getD 0 < r) (hqb : ∀ i, i < ql → 0 ≤ qs[i]?.getD 0 ∧ qs[i]?.getD 0 < r) :
    Calls Tryz.prog 43 #[.int .i64 r, .slice pa pl pc, .slice va vl vc, .slice qa ql qc, .slice ua ul uc] w fun e w' => (∃ g : Nat, e = .returned (.slice (some ⟨g, 0, none⟩) r r) ∧ Ints w' (some ⟨g, 0, none⟩) r (setAll (setAll (List.replicate r 0) ps vs pl) qs us ql) ∧ w.heap.size ≤ g) ∧ Below w.heap.size w w' := by
  have hm1 := hp.2.1
  have hm2 := hv.2.1
  have hm3 := hq.2.1
  have hm4 := hu.2.1
  have HP := hide hp
  have HV := hide hv
  have HQ := hide hq
  have HU := hide hu
  have HPB := hide hpb
  have HQB := hide hqb
  have hmk := run_make_row' (P := Tryz.prog) 22 3 (.int .i64 0) 8 Tryz.underlying22 info_int rfl .i64 .i64 r (by omega) (by omega)
  have HZL := hide (show (List.replicate r (0 : Int)).length = r by simp)
  clear hp hv hq hu hpb hqb
  go_enter Tryz.func43, Tryz.ntmps43
  go_wp2
  go_loopw [20] (fun i wr => ∃ k : Nat, k ≤ pl ∧ i = .int .i64 k ∧ RowI wr w.heap.size r (setAll (List.replicate r 0) ps vs k) ∧ Below w.heap.size w wr) (fun i _ => pl - (intOf i).toNat)
  case atStart =>
    refine ⟨0, Nat.zero_le _, rfl, ?_, (Below.refl _ _).alloc (Nat.le_refl _) _⟩
    exact (World.rowIs_made w (.int .i64 0) r 3).congr (fun j _ => by simp only [setAll]; rw [repl0_at])
  case round =>
    obtain ⟨k, hk, rfl, hrow, hB⟩ := hrel
    have HR := hide hrow
    have HB := hide hB
    clear hrow hB
    by_cases hlt : k < pl
    · obtain ⟨b, off, rfl, _, hc⟩ := (HP.out.below HB.out).at (by omega)
      obtain ⟨b', off', rfl, _, hc'⟩ := (HV.out.below HB.out).at (by omega)
      have hqk := HPB.out k hlt
      obtain ⟨q, hqq⟩ : ∃ q : Nat, ps[k]?.getD 0 = (q : Int) := ⟨(ps[k]?.getD 0).toNat, by omega⟩
      have hck := hc k (by omega)
      have hck' := hc' k (by omega)
      rw [hqq] at hck hqk
      have hqn : q < r := by omega
      have hr1 := HR.out.cell hqn
      have hf := HR.out.frozen q
      obtain ⟨X, hX⟩ : ∃ X, X = vs[k]?.getD 0 := ⟨_, rfl⟩
      have HS : Hid (setAll (List.replicate r 0) ps vs (k + 1) = (setAll (List.replicate r 0) ps vs k).set q X) := by rw [Hid, setAll, hqq, Int.toNat_natCast, hX]
      rw [← hX] at hck'
      have i1 : (0 : Int) ≤ (k : Int) := Int.natCast_nonneg _
      have i2 : (k : Int) < (vl : Int) := by omega
      have i3 : (0 : Int) ≤ (q : Int) := Int.natCast_nonneg _
      have i4 : (q : Int) < (r : Int) := by omega
      have HQL : Hid (q < (setAll (List.replicate r 0) ps vs k).length) := by rw [Hid, setAll_length]; exact HZL.out.symm ▸ hqn
      clear hc hc' hqq hX hqk
      go_wp2
      go_roundw
      case rel =>
        refine ⟨k + 1, by omega, by go_num, World.rowIs.congr (HR.out.set q (.int .i64 X)) (fun j _ => ?_), HB.out.setCell (p := ⟨w.heap.size, q, none⟩) (Nat.le_refl _) _⟩
        rw [HS.out]
        by_cases e : j = q
        · subst e
          rw [if_pos rfl, List.getElem?_set_self HQL.out]
          rfl
        · rw [if_neg e, List.getElem?_set_ne (fun h => e h.symm)]
      case measure => simp [intOf]; omega
    · obtain rfl : k = pl := by omega
      obtain ⟨Z1, hZ1⟩ : ∃ Z1, Z1 = setAll (List.replicate r 0) ps vs k := ⟨_, rfl⟩
      have hzl1 : Z1.length = r := by rw [hZ1, setAll_length]; exact HZL.out
      have hbd1 := setAll_bd (zs := Z1) (ps := qs) (by rw [hZ1]; exact setAll_bd (ps := ps) (fun x hx => by simp at hx; omega) HV.out.2.2.1 k) HU.out.2.2.1 ql
      clear HZL
      have HZL := hide hzl1
      have HBD := hide hbd1
      rw [← hZ1] at HR
      have HZ1 := hide hZ1
      have HR1 := HR
      have HB1 := HB
      clear HR HB hzl1 hbd1 hZ1 hlt hk
      go_wp2
      go_loopw [35] (fun i wr => ∃ k : Nat, k ≤ ql ∧ i = .int .i64 k ∧ RowI wr w.heap.size r (setAll Z1 qs us k) ∧ Below w.heap.size w wr) (fun i _ => ql - (intOf i).toNat)
      case atStart =>
        exact ⟨0, Nat.zero_le _, rfl, HR1.out, HB1.out⟩
      case round =>
        obtain ⟨k, hk, rfl, hrow, hB⟩ := hrel
        have HR := hide hrow
        have HB := hide hB
        clear hrow hB
        by_cases hlt : k < ql
        · obtain ⟨b, off, rfl, _, hc⟩ := (HQ.out.below HB.out).at (by omega)
          obtain ⟨b', off', rfl, _, hc'⟩ := (HU.out.below HB.out).at (by omega)
          have hqk := HQB.out k hlt
          obtain ⟨q, hqq⟩ : ∃ q : Nat, qs[k]?.getD 0 = (q : Int) := ⟨(qs[k]?.getD 0).toNat, by omega⟩
          have hck := hc k (by omega)
          have hck' := hc' k (by omega)
          rw [hqq] at hck hqk
          have hqn : q < r := by omega
          have hr1 := HR.out.cell hqn
          have hf := HR.out.frozen q
          obtain ⟨X, hX⟩ : ∃ X, X = us[k]?.getD 0 := ⟨_, rfl⟩
          have HS : Hid (setAll Z1 qs us (k + 1) = (setAll Z1 qs us k).set q X) := by rw [Hid, setAll, hqq, Int.toNat_natCast, hX]
          rw [← hX] at hck'
          have i1 : (0 : Int) ≤ (k : Int) := Int.natCast_nonneg _
          have i2 : (k : Int) < (ul : Int) := by omega
          have i3 : (0 : Int) ≤ (q : Int) := Int.natCast_nonneg _
          have i4 : (q : Int) < (r : Int) := by omega
          have HQL : Hid (q < (setAll Z1 qs us k).length) := by rw [Hid, setAll_length]; exact HZL.out.symm ▸ hqn
          clear hc hc' hqq hX hqk
          go_wp2
          go_roundw
          case rel =>
            refine ⟨k + 1, by omega, by go_num, World.rowIs.congr (HR.out.set q (.int .i64 X)) (fun j _ => ?_), HB.out.setCell (p := ⟨w.heap.size, q, none⟩) (Nat.le_refl _) _⟩
            rw [HS.out]
            by_cases e : j = q
            · subst e
              rw [if_pos rfl, List.getElem?_set_self HQL.out]
              rfl
            · rw [if_neg e, List.getElem?_set_ne (fun h => e h.symm)]
          case measure => simp [intOf]; omega
        · obtain rfl : k = ql := by omega
          go_wp2
          refine bodyPost_ret (v := .slice (some ⟨w.heap.size, 0, none⟩) r r) (by simp [results, Tryz.results43, go_sem]) rfl ⟨⟨w.heap.size, rfl, ?_, Nat.le_refl _⟩, HB.out⟩
          rw [← HZ1.out]
          exact ints_of_rowI HR.out (by rw [setAll_length]; exact HZL.out) (by omega) HBD.out
end Go.Proofs.YtoagnhppjlcpkaaGreat.V

/-
  Contract: adjointref2.viewEntry.
-/
namespace Go.Proofs.YtoagnhppjlcpkaaGreat.V
set_option maxRecDepth 20000
open Go.RowKit

end Go.Proofs.YtoagnhppjlcpkaaGreat.V

/-
  Contract: adjointref2.padEntry.
-/
namespace Go.Proofs.YtoagnhppjlcpkaaGreat.V
set_option maxRecDepth 20000
open Go.RowKit

end Go.Proofs.YtoagnhppjlcpkaaGreat.V

/-
  Contracts: adjointref2.entry, kind by kind.
-/
namespace Go.Proofs.YtoagnhppjlcpkaaGreat.V
set_option maxRecDepth 20000
open Go.RowKit

set_option maxRecDepth 100000 in
set_option maxHeartbeats 1000000 in
theorem rentry_join (x : Int) (vd va vl vh vs : Value) (A : Value) (aa : Option Addr) (al ac : Nat) (nn v : Int) (w : World)
    (hC : ∀ W, Below w.heap.size w W → Calls Tryz.prog 46 #[.agg #[.int .i64 17, vd, va, vl, vh, vs, .int .i64 x], A, .slice aa al ac] W fun e w' => e = .returned (.int .i64 v) ∧ Below W.heap.size W w') :
    Calls Tryz.prog 24 #[.agg #[.int .i64 17, vd, va, vl, vh, vs, .int .i64 x], A, .slice aa al ac, .int .i64 nn] w fun e w' => e = .returned (.int .i64 v) ∧ Below w.heap.size w w' := by
  have HB1 := hide ((Below.refl w.heap.size w).alloc (Nat.le_refl _) (.cells #[.int .i64 17, vd, va, vl, vh, vs, .int .i64 x] 24))
  have HOP := hide (OpAt.new w 17 vd va vl vh vs x)
  obtain ⟨o0, o1, o2, o3, o4, o5, o6⟩ := HOP.out.cells
  have HC := hide hC
  clear hC
  go_enter Tryz.func24, Tryz.ntmps24
  go_wp2_with (go_at_call 46; refine (HC.out _ HB1.out).mono ?_; rintro e w2 ⟨rfl, hb2⟩; have HB2 := hide (Below.on HB1.out hb2); clear hb2)
  go_ret
  exact ⟨rfl, HB2.out⟩

end Go.Proofs.YtoagnhppjlcpkaaGreat.V
