/-
  Contract: what came of it. A team in memory: its members, the notes that are on their way, what was seen. Rows grow, and a thing is taken out; a note's copy. Notes on their way, and what was seen, in memory.
-/
import Derived.Test.YticcoacoepajpaaPK20
import Derived.Test.YticcoacoepajpaaPK5
import Derived.Test.YticcoacoepajpaaPK4
import Derived.Test.YticcoacoepajpaaPK3
import Derived.Test.YticcoacoepajpaaPK14
import Derived.ArgAppend
import Derived.Maps.AppendAt
namespace Go.Proofs.Yticcoacoepajpaa.V
open Go Go.RowKit
set_option linter.unusedVariables false
set_option linter.unusedSimpArgs false

set_option maxHeartbeats 1000000 in
theorem result_no (g : Nat) (F : Nat → Prop) (d n me : Nat) (s : St) (G : Gh) (W : World) (h : MbAt W F g d n me s G) (hk : StOk d n me s) (ht : s.taken < notN d n) :
    Calls Try.prog 20 #[pm g] W fun e w' => e = .returned (.tuple #[.slice none 0 0, .int .i64 13]) ∧ Below W.heap.size W w' := by
  have HM : Hid (∀ V, Below W.heap.size W V → MbAt V F g d n me s G) := fun V hV => h.below hV
  obtain ⟨⟨-, -, -, -, -⟩, ⟨-, -, -, c10, -⟩, z0, -⟩ := mb_cells h
  have hn := hk.n1
  have h16 := hk.n16
  clear h hk
  unfold pm
  go_enter Try.func20, Try.ntmps20
  go_wp2
  go_quiet (first | (go_at_call 32; exact Calls.quiet_of (notes_any g F d n me s G _ (HM.out _ (below_draws (Below.refl _ _) _)) hn h16)))
  go_wp2
  go_ret2
  exact ⟨rfl, below_draws (Below.refl _ _) _⟩
theorem from_all {n me k : Nat} (hk : k < n) (hme : me < n) (hne : k ≠ me) : ∃ t, t < n - 1 ∧ k = fromN 4 n me t := by
  have hn : 0 < n := by omega
  refine ⟨modI ((me : Int) - k - 1) n, ?_, ?_⟩
  · have h1 := modI_lt hn ((me : Int) - k - 1)
    have h2 := modI_cast hn ((me : Int) - k - 1)
    by_cases h : k < me
    · rw [Int.emod_eq_of_lt (by omega) (by omega)] at h2
      omega
    · have h3 : ((me : Int) - k - 1) % (n : Int) = ((me : Int) - k - 1 + n) := by
        rw [← Int.add_emod_right]
        exact Int.emod_eq_of_lt (by omega) (by omega)
      rw [h3] at h2
      omega
  · unfold fromN
    rw [if_pos rfl]
    have h2 := modI_cast hn ((me : Int) - k - 1)
    have h3 : ((me : Int) - ((modI ((me : Int) - k - 1) n : Nat) : Int) - 1) % (n : Int) = (k : Int) := by
      rw [h2, show (me : Int) - ((me : Int) - k - 1) % (n : Int) - 1 = ((me : Int) - 1) - ((me : Int) - k - 1) % (n : Int) by omega, Int.sub_emod, Int.emod_emod_of_dvd _ (Int.dvd_refl _), ← Int.sub_emod, show (me : Int) - 1 - ((me : Int) - k - 1) = k by omega]
      exact Int.emod_eq_of_lt (by omega) (by omega)
    unfold modI at h3 ⊢
    rw [h3]
    omega
theorem known_all {d n me k : Nat} (hk : k < n) (hme : me < n) : Known d n me (notN d n) k := by
  by_cases hd : d = 4
  · by_cases e : k = me
    · exact .inr (.inl e)
    · obtain ⟨t, h1, h2⟩ := from_all hk hme e
      refine .inr (.inr ⟨t, ?_, by rw [hd]; exact h2⟩)
      unfold notN
      rw [if_neg (by omega)]
      exact h1
  · exact .inl hd
theorem flat_small : ∀ (L : List (List Int)), (∀ k, (prt L k).length ≤ 65536) → L.flatten.length ≤ L.length * 65536
  | [], _ => by simp
  | x :: L, h => by
    have h0 : x.length ≤ 65536 := h 0
    have ih := flat_small L (fun k => h (k + 1))
    simp only [List.flatten_cons, List.length_append, List.length_cons]
    omega
def fRes (B : Nat) (xs : List Int) : Fact := ⟨fun u W => ∃ y : Sl, u = .slice y.a y.n y.c ∧ Num W y xs ∧ ∀ b, y.On b → B ≤ b, false⟩
theorem fRes_good (B : Nat) (xs : List Int) : (fRes B xs).Good := ⟨fun _ _ _ ⟨y, h1, h2, h3⟩ hb => ⟨y, h1, h2.below hb, h3⟩, fun h => by cases h⟩
/-- What came of it was told. -/
def ResOk (W : World) (xs : List Int) (e : Ending) (w' : World) : Prop := (∃ y : Sl, e = .returned (.tuple #[.slice y.a y.n y.c, .int .i64 0]) ∧ Num w' y xs ∧ ∀ b, y.On b → W.heap.size ≤ b) ∧ Below W.heap.size W w'
set_option maxRecDepth 20000 in
set_option maxHeartbeats 2000000 in
theorem result_all (g : Nat) (F : Nat → Prop) (d n me : Nat) (s : St) (G : Gh) (W : World) (h : MbAt W F g d n me s G) (hk : StOk d n me s) (ht : ¬ s.taken < notN d n) (hd : d ≠ 2) :
    Calls Try.prog 20 #[pm g] W fun e w' => ResOk W (s.parts.flatten) e w' := by
  have HM : Hid (∀ V, Below W.heap.size W V → MbAt V F g d n me s G) := fun V hV => h.below hV
  obtain ⟨⟨-, -, -, -, -, -, a6⟩, ⟨-, a8, -, c10, -, -, a13⟩, z0, -⟩ := mb_cells h
  rw [show resF d = 53 by unfold resF; rw [if_neg hd]] at a6
  unfold fv at a6
  have hn := hk.n1
  have h16 := hk.n16
  have hme := hk.mel
  have htk : s.taken = notN d n := by have := hk.taken; omega
  have HCC0 : Hid (∀ V, Below W.heap.size W V → Calls Try.prog 37 #[.slice (some ⟨G.hh, 0, none⟩) n n] V fun e w' => (∃ y : Sl, e = .returned (.slice y.a y.n y.c) ∧ Num w' y (s.parts.flatten) ∧ ∀ b, y.On b → V.heap.size ≤ b) ∧ Below V.heap.size V w') := fun V hV => by
    have hm := h.below hV
    have hkn : ∀ k, k < n → Num V (G.Sh k) (prt s.parts k) := fun k hk' => (hm.has k hk').1 (by rw [htk]; exact known_all hk' hme)
    have hls : Lsn V G.hh 0 s.parts := fun j hj => by
      have hj' : j < n := by rw [← hk.lp]; exact hj
      refine ⟨(G.Sh j).a, (G.Sh j).n, (G.Sh j).c, ?_, hkn j hj'⟩
      rw [Nat.zero_add]
      exact hm.rowH.cell hj'
    have hf := flat_small s.parts (fun k => (hk.small k).1)
    have hlp := hk.lp
    have hc := concat_any G.hh 0 n s.parts V hls (by rw [hlp] at hf; omega) (by omega)
    rw [hlp] at hc
    exact hc
  clear h hk htk hd
  unfold pm
  go_enter Try.func20, Try.ntmps20
  go_wp2
  go_quiet (first | (go_at_call 32; exact Calls.quiet_of (notes_any g F d n me s G _ (HM.out _ (below_draws (Below.refl _ _) _)) hn h16)))
  go_upto_region 3 with fail
  obtain ⟨V, hV⟩ : ∃ V, V = W.drewN nq := ⟨_, rfl⟩
  rw [← hV]
  have hb0 : Below W.heap.size W V := by rw [hV]; exact below_draws (Below.refl _ _) _
  have c6 := (hb0.cell (p := ⟨g, 6, none⟩) z0).trans a6
  have c8 := (hb0.cell (p := ⟨g, 8, none⟩) z0).trans a8
  have c13 := (hb0.cell (p := ⟨g, 13, none⟩) z0).trans a13
  have HB0 := hide hb0
  have HCC : Hid (∀ U, Below V.heap.size V U → _) := fun U hU => HCC0.out U (bl_on hb0 hU)
  clear hV hb0 a6 a8 a13 c10
  refine region_made 16 17 [fIs (.pointer (some ⟨g, 0, none⟩)), fIs (.pointer (some ⟨g, 0, none⟩)), fIs (.pointer (some ⟨g, 0, none⟩)), fIs (.pointer (some ⟨g, 6, none⟩)), fIs (.func (.func 53) #[] #[]), fIs (.pointer (some ⟨g, 0, none⟩)), fIs (.pointer (some ⟨g, 0, none⟩)), fIs (.pointer (some ⟨g, 12, none⟩)), fIs (.pointer (some ⟨g, 13, none⟩)), fIs (.slice (some ⟨G.hh, 0, none⟩) n n), fIs (.pointer (some ⟨g, 0, none⟩)), fIs (.pointer (some ⟨g, 0, none⟩)), fIs (.pointer (some ⟨g, 8, none⟩)), fIs (.int .i64 (me : Int)), fIs (.slice (some ⟨G.hh, 0, none⟩) n n), fRes V.heap.size (s.parts.flatten)] (by kernel_rfl) (by kernel_rfl) (by kernel_rfl) (fun _ ⟨_, _⟩ ⟨_, _⟩ _ e h => by cases e; exact h) ⟨fIs_good _, fIs_good _, fIs_good _, fIs_good _, fIs_good _, fIs_good _, fIs_good _, fIs_good _, fIs_good _, fIs_good _, fIs_good _, fIs_good _, fIs_good _, fIs_good _, fIs_good _, fRes_good _ _, trivial⟩ ?mk ?rest
  case mk =>
    refine ⟨fun u wz hb hd => ?_, fun u wz hb hd => ?_, fun u wz hb hd => ?_, fun u wz hb hd => ?_, fun u wz hb hd => ?_, fun u wz hb hd => ?_, fun u wz hb hd => ?_, fun u wz hb hd => ?_, fun u wz hb hd => ?_, fun u wz hb hd => ?_, fun u wz hb hd => ?_, fun u wz hb hd => ?_, fun u wz hb hd => ?_, fun u wz hb hd => ?_, fun u wz hb hd => ?_, fun u wz hb hd => ?_, trivial⟩
    all_goals simp only [Act.put, List.setIfInBounds_toArray, List.set_cons_zero, List.set_cons_succ]
    · go_simp
      exact ⟨rfl, Below.refl _ _, fun h => by cases h⟩
    · have e0 : u 0 = .pointer (some ⟨g, 0, none⟩) := hd 0 (by omega) (by kernel_rfl)
      rw [e0]
      go_simp
      exact ⟨rfl, Below.refl _ _, fun h => by cases h⟩
    · have e1 : u 1 = .pointer (some ⟨g, 0, none⟩) := hd 1 (by omega) (by kernel_rfl)
      rw [e1]
      go_simp
      exact ⟨rfl, Below.refl _ _, fun h => by cases h⟩
    · have e2 : u 2 = .pointer (some ⟨g, 0, none⟩) := hd 2 (by omega) (by kernel_rfl)
      rw [e2]
      go_simp
      exact ⟨rfl, Below.refl _ _, fun h => by cases h⟩
    · have e3 : u 3 = .pointer (some ⟨g, 6, none⟩) := hd 3 (by omega) (by kernel_rfl)
      rw [e3]
      have c6' := (hb.cell (p := ⟨g, 6, none⟩) (lt_of_cell c6)).trans c6
      go_simp
      exact ⟨rfl, Below.refl _ _, fun h => by cases h⟩
    · go_simp
      exact ⟨rfl, Below.refl _ _, fun h => by cases h⟩
    · have e5 : u 5 = .pointer (some ⟨g, 0, none⟩) := hd 5 (by omega) (by kernel_rfl)
      rw [e5]
      go_simp
      exact ⟨rfl, Below.refl _ _, fun h => by cases h⟩
    · have e6 : u 6 = .pointer (some ⟨g, 0, none⟩) := hd 6 (by omega) (by kernel_rfl)
      rw [e6]
      go_simp
      exact ⟨rfl, Below.refl _ _, fun h => by cases h⟩
    · have e7 : u 7 = .pointer (some ⟨g, 12, none⟩) := hd 7 (by omega) (by kernel_rfl)
      rw [e7]
      go_simp
      exact ⟨rfl, Below.refl _ _, fun h => by cases h⟩
    · have e8 : u 8 = .pointer (some ⟨g, 13, none⟩) := hd 8 (by omega) (by kernel_rfl)
      rw [e8]
      have c13' := (hb.cell (p := ⟨g, 13, none⟩) (lt_of_cell c13)).trans c13
      go_simp
      exact ⟨rfl, Below.refl _ _, fun h => by cases h⟩
    · go_simp
      exact ⟨rfl, Below.refl _ _, fun h => by cases h⟩
    · have e10 : u 10 = .pointer (some ⟨g, 0, none⟩) := hd 10 (by omega) (by kernel_rfl)
      rw [e10]
      go_simp
      exact ⟨rfl, Below.refl _ _, fun h => by cases h⟩
    · have e11 : u 11 = .pointer (some ⟨g, 0, none⟩) := hd 11 (by omega) (by kernel_rfl)
      rw [e11]
      go_simp
      exact ⟨rfl, Below.refl _ _, fun h => by cases h⟩
    · have e12 : u 12 = .pointer (some ⟨g, 8, none⟩) := hd 12 (by omega) (by kernel_rfl)
      rw [e12]
      have c8' := (hb.cell (p := ⟨g, 8, none⟩) (lt_of_cell c8)).trans c8
      go_simp
      exact ⟨rfl, Below.refl _ _, fun h => by cases h⟩
    · have e4 : u 4 = .func (.func 53) #[] #[] := hd 4 (by omega) (by kernel_rfl)
      have e9 : u 9 = .slice (some ⟨G.hh, 0, none⟩) n n := hd 9 (by omega) (by kernel_rfl)
      have e13 : u 13 = .int .i64 (me : Int) := hd 13 (by omega) (by kernel_rfl)
      rw [e4, e9, e13]
      go_simp
      refine (k10_any _ _ _).mono ?_
      rintro e w4 ⟨rfl, hw4⟩
      obtain rfl := hw4.symm
      exact ⟨rfl, Below.refl _ _, fun h => by cases h⟩
    · have e14 : u 14 = .slice (some ⟨G.hh, 0, none⟩) n n := hd 14 (by omega) (by kernel_rfl)
      rw [e14]
      go_simp
      have hc := HCC.out wz hb
      refine hc.mono ?_
      rintro e w4 ⟨⟨y, rfl, h2, h3⟩, hb4⟩
      have hsz := hb.size
      exact ⟨⟨y, rfl, h2, fun b hO => Nat.le_trans hsz (h3 b hO)⟩, hb4, fun h => by cases h⟩
  case rest =>
    intro u wz hb hf hp
    have f0 : u 0 = .pointer (some ⟨g, 0, none⟩) := hf 0 (by omega)
    have f1 : u 1 = .pointer (some ⟨g, 0, none⟩) := hf 1 (by omega)
    have f2 : u 2 = .pointer (some ⟨g, 0, none⟩) := hf 2 (by omega)
    have f3 : u 3 = .pointer (some ⟨g, 6, none⟩) := hf 3 (by omega)
    have f4 : u 4 = .func (.func 53) #[] #[] := hf 4 (by omega)
    have f5 : u 5 = .pointer (some ⟨g, 0, none⟩) := hf 5 (by omega)
    have f6 : u 6 = .pointer (some ⟨g, 0, none⟩) := hf 6 (by omega)
    have f7 : u 7 = .pointer (some ⟨g, 12, none⟩) := hf 7 (by omega)
    have f8 : u 8 = .pointer (some ⟨g, 13, none⟩) := hf 8 (by omega)
    have f9 : u 9 = .slice (some ⟨G.hh, 0, none⟩) n n := hf 9 (by omega)
    have f10 : u 10 = .pointer (some ⟨g, 0, none⟩) := hf 10 (by omega)
    have f11 : u 11 = .pointer (some ⟨g, 0, none⟩) := hf 11 (by omega)
    have f12 : u 12 = .pointer (some ⟨g, 8, none⟩) := hf 12 (by omega)
    have f13 : u 13 = .int .i64 (me : Int) := hf 13 (by omega)
    have f14 : u 14 = .slice (some ⟨G.hh, 0, none⟩) n n := hf 14 (by omega)
    obtain ⟨y15, f15, n15, l15⟩ := hf 15 (by omega)
    refine UptoW.rest 2 16 (by rfl) (by kernel_rfl) ?_
    simp only [List.take, List.drop, putOps, Act.put, List.setIfInBounds_toArray, List.set_cons_zero, List.set_cons_succ, Nat.reduceAdd, f0, f1, f2, f3, f4, f5, f6, f7, f8, f9, f10, f11, f12, f13, f14, f15]
    clear f0 f1 f2 f3 f4 f5 f6 f7 f8 f9 f10 f11 f12 f13 f14 f15 hf hp
    have HBZ := hide hb
    have HN := hide n15
    have HL := hide l15
    clear hb n15 l15
    go_wp2
    go_ret2
    exact ⟨⟨y15, rfl, HN.out, fun b hO => Nat.le_trans HB0.out.size (HL.out b hO)⟩, bl_on HB0.out HBZ.out⟩
set_option maxRecDepth 20000 in
set_option maxHeartbeats 2000000 in
theorem result_sum (g : Nat) (F : Nat → Prop) (d n me : Nat) (s : St) (G : Gh) (W : World) (h : MbAt W F g d n me s G) (hk : StOk d n me s) (ht : ¬ s.taken < notN d n) (hd : d = 2) :
    Calls Try.prog 20 #[pm g] W fun e w' => ResOk W (prt s.parts me) e w' := by
  have HM : Hid (∀ V, Below W.heap.size W V → MbAt V F g d n me s G) := fun V hV => h.below hV
  obtain ⟨⟨-, -, -, -, -, -, a6⟩, ⟨-, a8, -, c10, -, -, a13⟩, z0, -⟩ := mb_cells h
  rw [show resF d = 54 by unfold resF; rw [if_pos hd]] at a6
  unfold fv at a6
  have hn := hk.n1
  have h16 := hk.n16
  have hme := hk.mel
  have htk : s.taken = notN d n := by have := hk.taken; omega
  have HCC0 : Hid (∀ V, Below W.heap.size W V → Calls Try.prog 37 #[.slice (some ⟨G.hh, me, none⟩) 1 (n - me)] V fun e w' => (∃ y : Sl, e = .returned (.slice y.a y.n y.c) ∧ Num w' y (prt s.parts me) ∧ ∀ b, y.On b → V.heap.size ≤ b) ∧ Below V.heap.size V w') := fun V hV => by
    have hm := h.below hV
    have hkn : ∀ k, k < n → Num V (G.Sh k) (prt s.parts k) := fun k hk' => (hm.has k hk').1 (by rw [htk]; exact known_all hk' hme)
    have hls : Lsn V G.hh me [prt s.parts me] := fun j hj => by
      have hj' : j = 0 := by simp at hj; exact hj
      subst hj'
      exact ⟨(G.Sh me).a, (G.Sh me).n, (G.Sh me).c, hm.rowH.cell hme, hkn me hme⟩
    have hf := (hk.small me).1
    have hc := concat_any G.hh me (n - me) [prt s.parts me] V hls (by simp; omega) (by simp)
    simp only [List.flatten_cons, List.flatten_nil, List.append_nil, List.length_cons, List.length_nil, Nat.zero_add] at hc
    exact hc
  clear h hk htk hd
  unfold pm
  go_enter Try.func20, Try.ntmps20
  go_wp2
  go_quiet (first | (go_at_call 32; exact Calls.quiet_of (notes_any g F d n me s G _ (HM.out _ (below_draws (Below.refl _ _) _)) hn h16)))
  go_upto_region 3 with fail
  obtain ⟨V, hV⟩ : ∃ V, V = W.drewN nq := ⟨_, rfl⟩
  rw [← hV]
  have hb0 : Below W.heap.size W V := by rw [hV]; exact below_draws (Below.refl _ _) _
  have c6 := (hb0.cell (p := ⟨g, 6, none⟩) z0).trans a6
  have c8 := (hb0.cell (p := ⟨g, 8, none⟩) z0).trans a8
  have c13 := (hb0.cell (p := ⟨g, 13, none⟩) z0).trans a13
  have HB0 := hide hb0
  have HCC : Hid (∀ U, Below V.heap.size V U → _) := fun U hU => HCC0.out U (bl_on hb0 hU)
  clear hV hb0 a6 a8 a13 c10
  refine region_made 16 17 [fIs (.pointer (some ⟨g, 0, none⟩)), fIs (.pointer (some ⟨g, 0, none⟩)), fIs (.pointer (some ⟨g, 0, none⟩)), fIs (.pointer (some ⟨g, 6, none⟩)), fIs (.func (.func 54) #[] #[]), fIs (.pointer (some ⟨g, 0, none⟩)), fIs (.pointer (some ⟨g, 0, none⟩)), fIs (.pointer (some ⟨g, 12, none⟩)), fIs (.pointer (some ⟨g, 13, none⟩)), fIs (.slice (some ⟨G.hh, 0, none⟩) n n), fIs (.pointer (some ⟨g, 0, none⟩)), fIs (.pointer (some ⟨g, 0, none⟩)), fIs (.pointer (some ⟨g, 8, none⟩)), fIs (.int .i64 (me : Int)), fIs (.slice (some ⟨G.hh, me, none⟩) 1 (n - me)), fRes V.heap.size (prt s.parts me)] (by kernel_rfl) (by kernel_rfl) (by kernel_rfl) (fun _ ⟨_, _⟩ ⟨_, _⟩ _ e h => by cases e; exact h) ⟨fIs_good _, fIs_good _, fIs_good _, fIs_good _, fIs_good _, fIs_good _, fIs_good _, fIs_good _, fIs_good _, fIs_good _, fIs_good _, fIs_good _, fIs_good _, fIs_good _, fIs_good _, fRes_good _ _, trivial⟩ ?mk ?rest
  case mk =>
    refine ⟨fun u wz hb hd => ?_, fun u wz hb hd => ?_, fun u wz hb hd => ?_, fun u wz hb hd => ?_, fun u wz hb hd => ?_, fun u wz hb hd => ?_, fun u wz hb hd => ?_, fun u wz hb hd => ?_, fun u wz hb hd => ?_, fun u wz hb hd => ?_, fun u wz hb hd => ?_, fun u wz hb hd => ?_, fun u wz hb hd => ?_, fun u wz hb hd => ?_, fun u wz hb hd => ?_, fun u wz hb hd => ?_, trivial⟩
    all_goals simp only [Act.put, List.setIfInBounds_toArray, List.set_cons_zero, List.set_cons_succ]
    · go_simp
      exact ⟨rfl, Below.refl _ _, fun h => by cases h⟩
    · have e0 : u 0 = .pointer (some ⟨g, 0, none⟩) := hd 0 (by omega) (by kernel_rfl)
      rw [e0]
      go_simp
      exact ⟨rfl, Below.refl _ _, fun h => by cases h⟩
    · have e1 : u 1 = .pointer (some ⟨g, 0, none⟩) := hd 1 (by omega) (by kernel_rfl)
      rw [e1]
      go_simp
      exact ⟨rfl, Below.refl _ _, fun h => by cases h⟩
    · have e2 : u 2 = .pointer (some ⟨g, 0, none⟩) := hd 2 (by omega) (by kernel_rfl)
      rw [e2]
      go_simp
      exact ⟨rfl, Below.refl _ _, fun h => by cases h⟩
    · have e3 : u 3 = .pointer (some ⟨g, 6, none⟩) := hd 3 (by omega) (by kernel_rfl)
      rw [e3]
      have c6' := (hb.cell (p := ⟨g, 6, none⟩) (lt_of_cell c6)).trans c6
      go_simp
      exact ⟨rfl, Below.refl _ _, fun h => by cases h⟩
    · go_simp
      exact ⟨rfl, Below.refl _ _, fun h => by cases h⟩
    · have e5 : u 5 = .pointer (some ⟨g, 0, none⟩) := hd 5 (by omega) (by kernel_rfl)
      rw [e5]
      go_simp
      exact ⟨rfl, Below.refl _ _, fun h => by cases h⟩
    · have e6 : u 6 = .pointer (some ⟨g, 0, none⟩) := hd 6 (by omega) (by kernel_rfl)
      rw [e6]
      go_simp
      exact ⟨rfl, Below.refl _ _, fun h => by cases h⟩
    · have e7 : u 7 = .pointer (some ⟨g, 12, none⟩) := hd 7 (by omega) (by kernel_rfl)
      rw [e7]
      go_simp
      exact ⟨rfl, Below.refl _ _, fun h => by cases h⟩
    · have e8 : u 8 = .pointer (some ⟨g, 13, none⟩) := hd 8 (by omega) (by kernel_rfl)
      rw [e8]
      have c13' := (hb.cell (p := ⟨g, 13, none⟩) (lt_of_cell c13)).trans c13
      go_simp
      exact ⟨rfl, Below.refl _ _, fun h => by cases h⟩
    · go_simp
      exact ⟨rfl, Below.refl _ _, fun h => by cases h⟩
    · have e10 : u 10 = .pointer (some ⟨g, 0, none⟩) := hd 10 (by omega) (by kernel_rfl)
      rw [e10]
      go_simp
      exact ⟨rfl, Below.refl _ _, fun h => by cases h⟩
    · have e11 : u 11 = .pointer (some ⟨g, 0, none⟩) := hd 11 (by omega) (by kernel_rfl)
      rw [e11]
      go_simp
      exact ⟨rfl, Below.refl _ _, fun h => by cases h⟩
    · have e12 : u 12 = .pointer (some ⟨g, 8, none⟩) := hd 12 (by omega) (by kernel_rfl)
      rw [e12]
      have c8' := (hb.cell (p := ⟨g, 8, none⟩) (lt_of_cell c8)).trans c8
      go_simp
      exact ⟨rfl, Below.refl _ _, fun h => by cases h⟩
    · have e4 : u 4 = .func (.func 54) #[] #[] := hd 4 (by omega) (by kernel_rfl)
      have e9 : u 9 = .slice (some ⟨G.hh, 0, none⟩) n n := hd 9 (by omega) (by kernel_rfl)
      have e13 : u 13 = .int .i64 (me : Int) := hd 13 (by omega) (by kernel_rfl)
      rw [e4, e9, e13]
      go_simp
      refine (k11_any G.hh n me _ (by omega) hme).mono ?_
      rintro e w4 ⟨rfl, hw4⟩
      obtain rfl := hw4.symm
      exact ⟨rfl, Below.refl _ _, fun h => by cases h⟩
    · have e14 : u 14 = .slice (some ⟨G.hh, me, none⟩) 1 (n - me) := hd 14 (by omega) (by kernel_rfl)
      rw [e14]
      go_simp
      have hc := HCC.out wz hb
      refine hc.mono ?_
      rintro e w4 ⟨⟨y, rfl, h2, h3⟩, hb4⟩
      have hsz := hb.size
      exact ⟨⟨y, rfl, h2, fun b hO => Nat.le_trans hsz (h3 b hO)⟩, hb4, fun h => by cases h⟩
  case rest =>
    intro u wz hb hf hp
    have f0 : u 0 = .pointer (some ⟨g, 0, none⟩) := hf 0 (by omega)
    have f1 : u 1 = .pointer (some ⟨g, 0, none⟩) := hf 1 (by omega)
    have f2 : u 2 = .pointer (some ⟨g, 0, none⟩) := hf 2 (by omega)
    have f3 : u 3 = .pointer (some ⟨g, 6, none⟩) := hf 3 (by omega)
    have f4 : u 4 = .func (.func 54) #[] #[] := hf 4 (by omega)
    have f5 : u 5 = .pointer (some ⟨g, 0, none⟩) := hf 5 (by omega)
    have f6 : u 6 = .pointer (some ⟨g, 0, none⟩) := hf 6 (by omega)
    have f7 : u 7 = .pointer (some ⟨g, 12, none⟩) := hf 7 (by omega)
    have f8 : u 8 = .pointer (some ⟨g, 13, none⟩) := hf 8 (by omega)
    have f9 : u 9 = .slice (some ⟨G.hh, 0, none⟩) n n := hf 9 (by omega)
    have f10 : u 10 = .pointer (some ⟨g, 0, none⟩) := hf 10 (by omega)
    have f11 : u 11 = .pointer (some ⟨g, 0, none⟩) := hf 11 (by omega)
    have f12 : u 12 = .pointer (some ⟨g, 8, none⟩) := hf 12 (by omega)
    have f13 : u 13 = .int .i64 (me : Int) := hf 13 (by omega)
    have f14 : u 14 = .slice (some ⟨G.hh, me, none⟩) 1 (n - me) := hf 14 (by omega)
    obtain ⟨y15, f15, n15, l15⟩ := hf 15 (by omega)
    refine UptoW.rest 2 16 (by rfl) (by kernel_rfl) ?_
    simp only [List.take, List.drop, putOps, Act.put, List.setIfInBounds_toArray, List.set_cons_zero, List.set_cons_succ, Nat.reduceAdd, f0, f1, f2, f3, f4, f5, f6, f7, f8, f9, f10, f11, f12, f13, f14, f15]
    clear f0 f1 f2 f3 f4 f5 f6 f7 f8 f9 f10 f11 f12 f13 f14 f15 hf hp
    have HBZ := hide hb
    have HN := hide n15
    have HL := hide l15
    clear hb n15 l15
    go_wp2
    go_ret2
    exact ⟨⟨y15, rfl, HN.out, fun b hO => Nat.le_trans HB0.out.size (HL.out b hO)⟩, bl_on HB0.out HBZ.out⟩
/-- The answer of Result. -/
def ResAns (W : World) (d n me : Nat) (s : St) (e : Ending) (w' : World) : Prop := (∃ y : Sl, e = .returned (.tuple #[.slice y.a y.n y.c, .int .i64 (resE d n s)]) ∧ Num w' y (resL d n me s) ∧ ∀ b, y.On b → W.heap.size ≤ b) ∧ Below W.heap.size W w'
theorem result_any (g : Nat) (F : Nat → Prop) (d n me : Nat) (s : St) (G : Gh) (W : World) (h : MbAt W F g d n me s G) (hk : StOk d n me s) :
    Calls Try.prog 20 #[pm g] W fun e w' => ResAns W d n me s e w' := by
  unfold ResAns resE resL
  by_cases ht : s.taken < notN d n
  · rw [if_pos ht, if_pos ht]
    exact (result_no g F d n me s G W h hk ht).mono fun e w' ⟨h1, h2⟩ => ⟨⟨slZ, h1, Num.nil _, fun b hO => by obtain ⟨h0, _⟩ := hO; simp [slZ] at h0⟩, h2⟩
  · rw [if_neg ht, if_neg ht]
    by_cases hd : d = 2
    · rw [if_pos hd]
      exact result_sum g F d n me s G W h hk ht hd
    · rw [if_neg hd]
      exact result_all g F d n me s G W h hk ht hd
end Go.Proofs.Yticcoacoepajpaa.V
namespace Go.Proofs.Yticcoacoepajpaa.V
open Go Go.RowKit
set_option linter.unusedVariables false
set_option linter.unusedSimpArgs false

/-- A step of a script, and what is seen of it. -/
structure Stp where
  act : Int
  mem : Int
  num : Int
  nt : Nt
structure Sn where
  some : Bool
  nt : Nt
  err : Int
  data : List Int
def updN {α : Type} (f : Nat → α) (i : Nat) (x : α) : Nat → α := fun j => if j = i then x else f j
theorem updN_same {α : Type} (f : Nat → α) (i : Nat) (x : α) : updN f i x i = x := by simp [updN]
theorem updN_other {α : Type} (f : Nat → α) {i j : Nat} (x : α) (h : j ≠ i) : updN f i x j = f j := by simp [updN, h]
theorem updN_self {α : Type} (f : Nat → α) (i : Nat) : updN f i (f i) = f := by
  funext j
  unfold updN
  split
  · rename_i e; rw [e]
  · rfl

/-- A team's members in memory. -/
structure TmAt (W : World) (B tb d n : Nat) (ss : Nat → St) (gs : Nat → Nat) (Fs : Nat → Nat → Prop) (Gs : Nat → Gh) : Prop where
  mb : ∀ i, i < n → MbAt W (Fs i) (gs i) d n i (ss i) (Gs i)
  ok : ∀ i, i < n → StOk d n i (ss i)
  row : ∀ i, i < n → W.cell? ⟨tb, i, none⟩ = some (pm (gs i))
  tbf : ∀ i, i < n → ¬ Fs i tb
  lo : ∀ i b, i < n → Fs i b → B ≤ b ∧ b < W.heap.size
  dis : ∀ i j b, i < n → j < n → i ≠ j → Fs i b → ¬ Fs j b
/-- A block that belongs to no member. -/
def Fre (W : World) (n : Nat) (Fs : Nat → Nat → Prop) (b : Nat) : Prop := b < W.heap.size ∧ ∀ i, i < n → ¬ Fs i b
theorem TmAt.below {W V : World} {B tb d n : Nat} {ss : Nat → St} {gs : Nat → Nat} {Fs : Nat → Nat → Prop} {Gs : Nat → Gh} (h : TmAt W B tb d n ss gs Fs Gs) (hb : Below W.heap.size W V) : TmAt V B tb d n ss gs Fs Gs :=
  ⟨fun i hi => (h.mb i hi).below hb, h.ok, fun i hi => (hb.cell (p := ⟨tb, i, none⟩) (lt_of_cell (h.row i hi))).trans (h.row i hi), h.tbf, fun i b hi hf => ⟨(h.lo i b hi hf).1, Nat.lt_of_lt_of_le (h.lo i b hi hf).2 hb.size⟩, h.dis⟩
theorem Fre.below {W V : World} {n : Nat} {Fs : Nat → Nat → Prop} {b : Nat} (h : Fre W n Fs b) (hb : Below W.heap.size W V) : Fre V n Fs b := ⟨Nat.lt_of_lt_of_le h.1 hb.size, h.2⟩
/-- One member has done something. -/
theorem TmAt.step {W V : World} {B tb d n : Nat} {ss : Nat → St} {gs : Nat → Nat} {Fs : Nat → Nat → Prop} {Gs : Nat → Gh} (h : TmAt W B tb d n ss gs Fs Gs) (hB : B ≤ W.heap.size) {i : Nat} (hi : i < n) {s' : St} {G' : Gh} {F' : Nat → Prop} (hm : MbAt V F' (gs i) d n i s' G') (hok : StOk d n i s') (hF : ∀ b, F' b → Fs i b ∨ (W.heap.size ≤ b ∧ b < V.heap.size)) (hw : Wr (Fs i) W V) :
    TmAt V B tb d n (updN ss i s') gs (updN Fs i F') (updN Gs i G') := by
  refine ⟨fun j hj => ?_, fun j hj => ?_, fun j hj => ?_, fun j hj => ?_, fun j b hj hf => ?_, fun j k b hj hk hne hf => ?_⟩
  · by_cases e : j = i
    · subst e
      rw [updN_same, updN_same, updN_same]
      exact hm
    · rw [updN_other _ _ e, updN_other _ _ e, updN_other _ _ e]
      exact (h.mb j hj).keep hw.size fun b hb hl => hw.block b hl (h.dis j i b hj hi e hb)
  · by_cases e : j = i
    · subst e; rw [updN_same]; exact hok
    · rw [updN_other _ _ e]; exact h.ok j hj
  · exact (World.cell?_of_block (hw.block tb (lt_of_cell (h.row j hj)) (h.tbf i hi))).trans (h.row j hj)
  · by_cases e : j = i
    · subst e
      rw [updN_same]
      intro hf
      rcases hF tb hf with h1 | h1
      · exact h.tbf j hj h1
      · have : tb < W.heap.size := lt_of_cell (h.row j hj)
        omega
    · rw [updN_other _ _ e]; exact h.tbf j hj
  · by_cases e : j = i
    · subst e
      rw [updN_same] at hf
      rcases hF b hf with h1 | h1
      · exact ⟨(h.lo j b hj h1).1, Nat.lt_of_lt_of_le (h.lo j b hj h1).2 hw.size⟩
      · exact ⟨by omega, h1.2⟩
    · rw [updN_other _ _ e] at hf
      exact ⟨(h.lo j b hj hf).1, Nat.lt_of_lt_of_le (h.lo j b hj hf).2 hw.size⟩
  · by_cases e : j = i
    · subst e
      rw [updN_same] at hf
      rw [updN_other _ _ (Ne.symm hne)]
      intro hf'
      rcases hF b hf with h1 | h1
      · exact h.dis j k b hj hk hne h1 hf'
      · have := (h.lo k b hk hf').2
        omega
    · rw [updN_other _ _ e] at hf
      by_cases e' : k = i
      · subst e'
        rw [updN_same]
        intro hf'
        rcases hF b hf' with h1 | h1
        · exact h.dis k j b hk hj (Ne.symm hne) h1 hf
        · have := (h.lo j b hj hf).2
          omega
      · rw [updN_other _ _ e']; exact h.dis j k b hj hk hne hf
theorem Fre.step {W V : World} {n : Nat} {Fs : Nat → Nat → Prop} {b i : Nat} {F' : Nat → Prop} (h : Fre W n Fs b) (hi : i < n) (hF : ∀ b, F' b → Fs i b ∨ (W.heap.size ≤ b ∧ b < V.heap.size)) (hw : Wr (Fs i) W V) : Fre V n (updN Fs i F') b ∧ V.heap[b]? = W.heap[b]? := by
  refine ⟨⟨Nat.lt_of_lt_of_le h.1 hw.size, fun j hj => ?_⟩, hw.block b h.1 (h.2 i hi)⟩
  by_cases e : j = i
  · subst e
    rw [updN_same]
    intro hf
    rcases hF b hf with h1 | h1
    · exact h.2 j hj h1
    · have := h.1; omega
  · rw [updN_other _ _ e]; exact h.2 j hj
/-- A row of things of so many cells, of the call's own, with room behind it or without. -/
def RowC (W : World) (B : Nat) (e : TypeId) (size : Nat) (v : Value) (n : Nat) (xs : List Value) : Prop :=
  W.ownsRow B e size v n xs ∨ (xs.length = n * size ∧ ∃ g cur, v = .slice (some ⟨g, 0, none⟩) n n ∧ B ≤ g ∧ W.heap[g]? = some (.cells cur e (0, 0)) ∧ n ≤ maxLen ∧ cur.toList.take (n * size) = xs)
theorem RowC.len {W : World} {B : Nat} {e : TypeId} {size : Nat} {v : Value} {n : Nat} {xs : List Value} (h : RowC W B e size v n xs) : xs.length = n * size := by
  rcases h with h | h
  · exact h.1
  · exact h.1
/-- Its parts. -/
theorem RowC.parts {W : World} {B : Nat} {e : TypeId} {size : Nat} {v : Value} {n : Nat} {xs : List Value} (h : RowC W B e size v n xs) : (v = .slice none 0 0 ∧ n = 0) ∨ ∃ g cap cur, v = .slice (some ⟨g, 0, none⟩) n cap ∧ B ≤ g ∧ W.heap[g]? = some (.cells cur e (0, 0)) ∧ n ≤ cap ∧ cap ≤ maxLen ∧ cur.toList.take (n * size) = xs := by
  rcases h with h | ⟨_, g, cur, h1, h2, h3, h4, h5⟩
  · rcases h.2 with h | ⟨g, cap, cur, h1, h2, h3, h4, h5, _, h6⟩
    · exact .inl h
    · exact .inr ⟨g, cap, cur, h1, h2, h3, h4, h5, h6⟩
  · exact .inr ⟨g, n, cur, h1, h2, h3, Nat.le_refl _, h4, h5⟩
theorem RowC.keep {W V : World} {B : Nat} {e : TypeId} {size : Nat} {v : Value} {n : Nat} {xs : List Value} (h : RowC W B e size v n xs) (hb : ∀ g, v.ownBlock = some g → V.heap[g]? = W.heap[g]?) : RowC V B e size v n xs := by
  rcases h with h | ⟨h0, g, cur, rfl, h2, h3, h4, h5⟩
  · left
    refine ⟨h.1, ?_⟩
    rcases h.2 with h | ⟨g, cap, cur, rfl, h2, h3, h4⟩
    · exact .inl h
    · exact .inr ⟨g, cap, cur, rfl, h2, (hb g rfl).trans h3, h4⟩
  · right
    exact ⟨h0, g, cur, rfl, h2, (hb g rfl).trans h3, h4, h5⟩
theorem RowC.lt {W : World} {B : Nat} {e : TypeId} {size : Nat} {v : Value} {n : Nat} {xs : List Value} (h : RowC W B e size v n xs) : ∀ g, v.ownBlock = some g → B ≤ g ∧ g < W.heap.size ∧ ∃ cur, W.heap[g]? = some (.cells cur e (0, 0)) := by
  intro g hg
  rcases h.parts with ⟨rfl, _⟩ | ⟨g', cap, cur, rfl, h2, h3, _⟩
  · simp [Value.ownBlock] at hg
  · obtain rfl : g' = g := by simpa [Value.ownBlock] using hg
    exact ⟨h2, (Array.getElem?_eq_some_iff.1 h3).1, cur, h3⟩
theorem RowC.cell {W : World} {B : Nat} {e : TypeId} {size : Nat} {v : Value} {n : Nat} {xs : List Value} (h : RowC W B e size v n xs) {g cap : Nat} (hv : v = .slice (some ⟨g, 0, none⟩) n cap) {j : Nat} {u : Value} (hj : xs[j]? = some u) : W.cell? ⟨g, j, none⟩ = some u := by
  rcases h.parts with ⟨e1, _⟩ | ⟨g', cap', cur, e1, h2, h3, _, _, h6⟩
  · rw [e1] at hv; cases hv
  · rw [e1] at hv
    cases hv
    simp only [World.cell?, h3]
    rw [← h6] at hj
    have hjl : j < n * size := by
      by_cases hlt : j < n * size
      · exact hlt
      · rw [List.getElem?_take_eq_none (by omega)] at hj; cases hj
    rw [List.getElem?_take_of_lt hjl] at hj
    simpa using hj
end Go.Proofs.Yticcoacoepajpaa.V
namespace Go.Proofs.Yticcoacoepajpaa.V
open Go Go.RowKit
set_option linter.unusedVariables false
set_option linter.unusedSimpArgs false

theorem add_pl (g o j : Nat) : (⟨g, o, none⟩ : Addr).add j = ⟨g, o + j, none⟩ := Go.WideShapes.add_plain _ _ _
/-- What an append does to a row. -/
theorem run_append_c {W : World} {B : Nat} {t ty e : TypeId} {i : TypeInfo} {z : Value} {size bytes : Nat} (ht : Try.prog.underlying t = some (.slice e)) (hi : Try.prog.info? e = some i) (hz : i.zero = some z) (hsize : i.size = size) (hby : i.bytes = bytes) (hzs : z.cells.size = size) (hsz : 0 < size)
    {v : Value} {n : Nat} {xs : List Value} (h : RowC W B e size v n xs) (a : Addr) (m c : Nat) (news : List Value) (hl : news.length = m * size) (hnews : ∀ j u, news[j]? = some u → W.cell? (a.add j) = some u) (h1 : ∀ u ∈ news, u.oneCell' = true)
    (hm : 1 ≤ m) (h63 : n + m ≤ maxLen) (hbytes : (n + m) * bytes ≤ 140737488355328) (hbase : B ≤ W.heap.size) :
    ∃ v' w', (Builtin.append_ #[t, t] ty #[v, .slice (some a) m c]).run Try.prog W = .ok v' w' ∧ RowC w' B e size v' (n + m) (xs ++ news) ∧ W.grownBy w' v.ownBlock ∧ (v'.ownBlock = v.ownBlock ∨ ∃ g', v'.ownBlock = some g' ∧ W.heap.size ≤ g') := by
  rcases h with h | ⟨h0, g, cur, rfl, h2, h3, h4, h5⟩
  · obtain ⟨v', w', r1, r2, r3, _, r5⟩ := run_append_own_at (P := Try.prog) W B t ty e i z size bytes ht hi hz hsize hby hzs hsz v n xs h a m c news hl hnews h1 h63 hbytes hbase
    exact ⟨v', w', r1, .inl r2, r3, r5.imp id fun e => ⟨_, e, Nat.le_refl _⟩⟩
  · have hc : ∀ j u, xs[j]? = some u → W.cell? ((⟨g, 0, none⟩ : Addr).add j) = some u := fun j u hj => by
      rw [add_pl, Nat.zero_add]
      exact RowC.cell (.inr ⟨h0, g, cur, rfl, h2, h3, h4, h5⟩ : RowC W B e size _ n xs) rfl hj
    obtain ⟨v', w', r1, r2, r3⟩ := run_append_arg_grows (P := Try.prog) W t ty e i z size bytes ht hi hz hsize hby hzs hsz ⟨g, 0, none⟩ n n xs h0 hc a m c news hl hnews (by omega) h63 hbytes
    have hob : ∃ g', v'.ownBlock = some g' ∧ W.heap.size ≤ g' := by
      rcases r2.2 with ⟨e1, e2⟩ | ⟨g', cap, cur', e1, e2, e3, _⟩
      · omega
      · subst e1
        exact ⟨g', rfl, e2⟩
    refine ⟨v', w', r1, .inl ⟨r2.1, ?_⟩, ⟨r3.os, r3.tape, r3.output, r3.size, fun k hk _ => r3.block k hk (by simp)⟩, .inr hob⟩
    rcases r2.2 with h | ⟨g', cap, cur', e1, e2, e3⟩
    · exact .inl h
    · exact .inr ⟨g', cap, cur', e1, Nat.le_trans hbase e2, e3⟩
/-- append(row, thing), at the operation. -/
theorem append_c {w : World} {ops : Array Oper} {rest : List Oper} {o : Oper} {a : Act} {Q : Exit → Act → World → Prop} (hgd : o.guard = none) (s x : Operand) (t : TypeId) (ho : o.op = .call { callee := .builtin .append, args := #[s, x], argTypes := #[t, t] })
    (B : Nat) (e : TypeId) (i : TypeInfo) (z : Value) (size bytes : Nat) (ht : Try.prog.underlying t = some (.slice e)) (hi : Try.prog.info? e = some i) (hz : i.zero = some z) (hsize : i.size = size) (hby : i.bytes = bytes) (hzs : z.cells.size = size) (hsz : 0 < size)
    (v : Value) (n : Nat) (xs : List Value) (hs : a.eval s = v) (h : RowC w B e size v n xs) (ad : Addr) (m c : Nat) (news : List Value) (hx : a.eval x = .slice (some ad) m c) (hl : news.length = m * size) (hnews : ∀ j u, news[j]? = some u → w.cell? (ad.add j) = some u) (h1 : ∀ u ∈ news, u.oneCell' = true)
    (hm : 1 ≤ m) (h63 : n + m ≤ maxLen) (hbytes : (n + m) * bytes ≤ 140737488355328) (hbase : B ≤ w.heap.size)
    (hQ : ∀ v' w', RowC w' B e size v' (n + m) (xs ++ news) → w.grownBy w' v.ownBlock → (v'.ownBlock = v.ownBlock ∨ ∃ g', v'.ownBlock = some g' ∧ w.heap.size ≤ g') → wpList Try.prog ops Q rest (a.put o.dst v') w') : wpList Try.prog ops Q (o :: rest) a w := by
  refine wpList_plain hgd fun K hK => ?_
  obtain ⟨v', w', hr, h2, h3, h4⟩ := run_append_c (ty := o.type) ht hi hz hsize hby hzs hsz h ad m c news hl hnews h1 hm h63 hbytes hbase
  unfold Oper.wp execOp
  simp only [ho, resolve, invoke, builtin, Sem.run_bind, Sem.run_pure, Result.andThen_ok, List.map_toArray, List.map_cons, List.map_nil, hs, hx, hr]
  exact hK _ _ (hQ v' w' h2 h3 h4)
theorem take_take_list {α : Type} (l : List α) {a b : Nat} (h : a ≤ b) : (l.take b).take a = l.take a := by rw [List.take_take, Nat.min_eq_left h]
/-- A thing is taken out of a row. -/
theorem run_gone {W : World} {B : Nat} {t ty e : TypeId} {i : TypeInfo} {z : Value} {size bytes : Nat} (ht : Try.prog.underlying t = some (.slice e)) (hi : Try.prog.info? e = some i) (hz : i.zero = some z) (hsize : i.size = size) (hby : i.bytes = bytes) (hzs : z.cells.size = size) (hsz : 0 < size)
    {g n cap k : Nat} {xs : List Value} (h : RowC W B e size (.slice (some ⟨g, 0, none⟩) n cap) n xs) (hk : k < n) (hbytes : n * bytes ≤ 140737488355328) (hbase : B ≤ W.heap.size) (A : Option Addr) (hA : k + 1 < n → A = some ⟨g, (k + 1) * size, none⟩) (hA0 : ∃ ad, A = some ad) (c : Nat) :
    ∃ v' w', (Builtin.append_ #[t, t] ty #[.slice (some ⟨g, 0, none⟩) k k, .slice A (n - (k + 1)) c]).run Try.prog W = .ok v' w' ∧ RowC w' B e size v' (n - 1) (xs.take (k * size) ++ xs.drop ((k + 1) * size)) ∧ W.grownBy w' none ∧ (v'.ownBlock = some g ∨ ∃ g', v'.ownBlock = some g' ∧ W.heap.size ≤ g') := by
  have hlen := h.len
  rcases h.parts with ⟨e1, _⟩ | ⟨g', cap', cur, e1, h2, h3, h4, h5, h6⟩
  · cases e1
  · cases e1
    have hkl : k * size ≤ n * size := Nat.mul_le_mul_right _ (by omega)
    have hk1 : (k + 1) * size ≤ n * size := Nat.mul_le_mul_right _ (by omega)
    obtain ⟨ad, rfl⟩ := hA0
    by_cases hlast : k + 1 < n
    · cases hA hlast
      have hlo : (xs.take (k * size)).length = k * size := by rw [List.length_take]; omega
      have hl : (xs.drop ((k + 1) * size)).length = (n - (k + 1)) * size := by rw [List.length_drop, hlen, Nat.sub_mul]
      have hc1 : ∀ j u, (xs.take (k * size))[j]? = some u → W.cell? ((⟨g, 0, none⟩ : Addr).add j) = some u := fun j u hj => by
        rw [add_pl, Nat.zero_add]
        refine h.cell rfl ?_
        by_cases hjl : j < k * size
        · rwa [List.getElem?_take_of_lt hjl] at hj
        · rw [List.getElem?_take_eq_none (by omega)] at hj; cases hj
      have hc2 : ∀ j u, (xs.drop ((k + 1) * size))[j]? = some u → W.cell? ((⟨g, (k + 1) * size, none⟩ : Addr).add j) = some u := fun j u hj => by
        rw [add_pl]
        refine h.cell rfl ?_
        rwa [List.getElem?_drop] at hj
      obtain ⟨v', w', r1, r2, r3⟩ := run_append_arg_grows (P := Try.prog) W t ty e i z size bytes ht hi hz hsize hby hzs hsz ⟨g, 0, none⟩ k k _ hlo hc1 ⟨g, (k + 1) * size, none⟩ (n - (k + 1)) c _ hl hc2 (by omega) (by omega) (Nat.le_trans (Nat.mul_le_mul_right _ (by omega)) hbytes)
      have en : k + (n - (k + 1)) = n - 1 := by omega
      rw [en] at r2
      refine ⟨v', w', r1, .inl ⟨r2.1, ?_⟩, r3, .inr ?_⟩
      · rcases r2.2 with h | ⟨g', cap, cur', e1, e2, e3⟩
        · exact .inl h
        · exact .inr ⟨g', cap, cur', e1, Nat.le_trans hbase e2, e3⟩
      · rcases r2.2 with ⟨e1, e2⟩ | ⟨g', cap, cur', e1, e2, e3, _⟩
        · omega
        · subst e1
          exact ⟨g', rfl, e2⟩
    · have hn : n = k + 1 := by omega
      subst hn
      rw [show k + 1 - (k + 1) = 0 by omega]
      have hr := run_append_room_cells (P := Try.prog) W t ty e i ht hi g 0 k k ad 0 c [] (by simp) (by simp) (by simp) (by omega) (by simp) (by simp)
      refine ⟨_, _, hr, .inr ⟨?_, g, cur, ?_, h2, ?_, by omega, ?_⟩, ⟨rfl, rfl, rfl, Nat.le_refl _, fun _ _ _ => rfl⟩, .inl rfl⟩
      · rw [List.drop_of_length_le (by omega), List.append_nil, List.length_take]
        show _ = (k + 1 - 1) * size
        rw [Nat.add_sub_cancel]
        omega
      · rw [Nat.add_sub_cancel]; rfl
      · exact h3
      · rw [List.drop_of_length_le (by omega), List.append_nil, ← h6, take_take_list _ hkl, Nat.add_sub_cancel]
/-- Here the walk stops. -/
def Stp1 (p : Prop) : Prop := p
theorem stp {p : Prop} (h : Stp1 p) : p := h
theorem empty_own (w : World) : (w.alloc (.cells #[] 2)).ownsRow w.heap.size 2 1 (.slice (some ⟨w.heap.size, 0, none⟩) 0 0) 0 [] :=
  ⟨rfl, .inr ⟨w.heap.size, 0, #[], rfl, Nat.le_refl _, World.alloc_heap_new _ _, Nat.le_refl _, by unfold maxLen; omega, rfl, rfl⟩⟩
set_option maxHeartbeats 2000000 in
theorem own_any (x : Nt) (y : Sl) (w : World) (hy : Ints w y.a y.n x.data) (hby : y.n * 8 ≤ 140737488355328) :
    Calls Try.prog 18 #[ntV x y] w fun e w' => (∃ y' : Sl, e = .returned (ntV x y') ∧ Num w' y' x.data ∧ ∀ b, y'.On b → w.heap.size ≤ b ∧ b < w'.heap.size) ∧ Below w.heap.size w w' := by
  obtain ⟨fr, to, st, data⟩ := x
  obtain ⟨ya, yn, yc⟩ := y
  unfold ntV
  simp only at hby hy ⊢
  have HY := hide hy
  clear hy
  go_enter Try.func18, Try.ntmps18
  go_upto_region 1 with fail
  obtain ⟨V, hV⟩ : ∃ V, V = (w.alloc (.cells #[.int .i64 fr, .int .i64 to, .int .i64 st, .slice ya yn yc] 39)).alloc (.cells #[.int .i64 0, .int .i64 0, .int .i64 0, .slice none 0 0] 39) := ⟨_, rfl⟩
  rw [← hV]
  have hb : Below w.heap.size w V := by rw [hV]; exact (bl_new _).alloc (by simp) _
  have h1 : V.heap[w.heap.size]? = some (.cells #[.int .i64 fr, .int .i64 to, .int .i64 st, .slice ya yn yc] 39 (0, 0)) := by
    rw [hV]
    exact ((bl_new (w := w.alloc _) _).block _ (by simp)).trans (World.alloc_heap_new _ _)
  have h2 : V.heap[w.heap.size + 1]? = some (.cells #[.int .i64 0, .int .i64 0, .int .i64 0, .slice none 0 0] 39 (0, 0)) := by
    rw [hV]
    exact World.alloc_heap_new' _ _ (by simp)
  have hsz : V.heap.size = w.heap.size + 2 := by rw [hV]; simp
  have c3 : V.cell? ⟨w.heap.size, 3, none⟩ = some (.slice ya yn yc) := by simp only [World.cell?, h1]; rfl
  have cz := (Array.getElem?_eq_some_iff.1 h1).1
  have HB := hide hb
  have H1 := hide h1
  have H2 := hide h2
  have HSZ := hide hsz
  have HYV := hide (HY.out.below hb)
  clear hV hb h1 h2 hsz
  go_upto_region 2 with (at_builtin; refine stp ?_)
  unfold Stp1
  refine append_i64s (by rfl) (.tmp 3) (.tmp 5) (by rfl) V.heap.size _ 0 [] (by rfl) (empty_own V) ya yn yc data (by rfl) (HYV.out.below (bl_new _)) (by omega) (by simp) ?_
  intro v1 w1 hown hg
  rw [Nat.zero_add, List.nil_append, show yn = data.length from HYV.out.1.symm] at hown
  obtain ⟨y', e1, hn1, ho1⟩ := num_of_own hown (by have h9 : data.length = yn := HYV.out.1; omega) HYV.out.2.2.1
  subst e1
  have hb1 : Below V.heap.size V w1 := (bl_new _).grown hg (by simp) (fun j e => by simp [Value.ownBlock] at e; omega)
  have d3 := (hb1.cell (p := ⟨w.heap.size, 3, none⟩) cz).trans c3
  have dz := Nat.lt_of_lt_of_le cz hb1.size
  have df : w1.frozen? ⟨w.heap.size, 3, none⟩ = false := by
    have h8 := (hb1.block _ cz).trans H1.out
    simp [World.frozen?, h8]
  have HB1 := hide hb1
  have HN1 := hide hn1
  have HO1 := hide ho1
  clear hown hg hb1 hn1 ho1
  go_upto_region 2 with fail
  obtain ⟨V2, hV2⟩ : ∃ U, U = w1.setCell ⟨w.heap.size, 3, none⟩ (.slice y'.a y'.n y'.c) := ⟨_, rfl⟩
  rw [← hV2]
  have hs := HSZ.out
  have g1 : V2.heap[w.heap.size]? = some (.cells #[.int .i64 fr, .int .i64 to, .int .i64 st, .slice y'.a y'.n y'.c] 39 (0, 0)) := by
    rw [hV2]
    have h8 := (HB1.out.block _ cz).trans H1.out
    simp [World.setCell, Array.getElem?_modify, h8]
  have g2 : V2.heap[w.heap.size + 1]? = some (.cells #[.int .i64 0, .int .i64 0, .int .i64 0, .slice none 0 0] 39 (0, 0)) := by
    rw [hV2, Below.heap_setCell _ _ _ _ (by simp only; omega)]
    exact (HB1.out.block _ (by omega)).trans H2.out
  have gb : Below w.heap.size w V2 := by rw [hV2]; exact (bl_on HB.out HB1.out).setCell (Nat.le_refl _) _
  have gn : Num V2 y' data := by
    rw [hV2]
    refine HN1.out.keep fun b hO => Below.heap_setCell _ _ _ _ ?_
    have h9 := HO1.out b hO
    simp only
    omega
  have gsz : V2.heap.size = w1.heap.size := by rw [hV2]; simp [World.setCell]
  have x0 : V2.cell? ⟨w.heap.size, 0, none⟩ = some (.int .i64 fr) := by simp only [World.cell?, g1]; rfl
  have x1 : V2.cell? ⟨w.heap.size, 1, none⟩ = some (.int .i64 to) := by simp only [World.cell?, g1]; rfl
  have x2 : V2.cell? ⟨w.heap.size, 2, none⟩ = some (.int .i64 st) := by simp only [World.cell?, g1]; rfl
  have x3 : V2.cell? ⟨w.heap.size, 3, none⟩ = some (.slice y'.a y'.n y'.c) := by simp only [World.cell?, g1]; rfl
  have v0 : V2.cell? ⟨w.heap.size + 1, 0, none⟩ = some (.int .i64 0) := by simp only [World.cell?, g2]; rfl
  have v1 : V2.cell? ⟨w.heap.size + 1, 1, none⟩ = some (.int .i64 0) := by simp only [World.cell?, g2]; rfl
  have v2 : V2.cell? ⟨w.heap.size + 1, 2, none⟩ = some (.int .i64 0) := by simp only [World.cell?, g2]; rfl
  have v3 : V2.cell? ⟨w.heap.size + 1, 3, none⟩ = some (.slice none 0 0) := by simp only [World.cell?, g2]; rfl
  have vf : ∀ k, V2.frozen? ⟨w.heap.size + 1, k, none⟩ = false := fun k => by simp [World.frozen?, g2]
  have z1 := (Array.getElem?_eq_some_iff.1 g1).1
  have z2 := (Array.getElem?_eq_some_iff.1 g2).1
  have G1 := hide g1
  have G2 := hide g2
  have GB := hide gb
  have GN := hide gn
  clear hV2 g1 g2 gb gn gsz hs d3 dz df c3 cz
  go_wp2
  refine bodyPost_ret (results_cell_row Try.results18 _ _ (w.heap.size + 1) 39 _ (0, 0) _ rfl (set4_heap G2.out rfl) Try.underlying39 rfl size_note) rfl ⟨⟨y', rfl, ?_, fun b hO => ?_⟩, set4_below GB.out (by omega)⟩
  · refine GN.out.keep fun b hO => set4_other ?_
    obtain ⟨cur, hc⟩ := GN.out.blk b hO
    intro e
    rw [e, G2.out] at hc
    simp at hc
  · have h8 := HO1.out b hO
    have h9 := GN.out.lt hO
    refine ⟨by have := HSZ.out; omega, ?_⟩
    show b < (set4 V2 _ _ _ _ _).heap.size
    rw [set4_size]
    exact h9
end Go.Proofs.Yticcoacoepajpaa.V
namespace Go.Proofs.Yticcoacoepajpaa.V
open Go Go.RowKit
set_option linter.unusedVariables false
set_option linter.unusedSimpArgs false

theorem flat_get {α β : Type} (f : α → List β) (c : Nat) (hf : ∀ a, (f a).length = c) : ∀ (l : List α) (k i : Nat), i < c → (l.flatMap f)[k * c + i]? = (l[k]?).bind fun a => (f a)[i]?
  | [], k, i, hi => by simp
  | x :: l, 0, i, hi => by
    rw [List.flatMap_cons, Nat.zero_mul, Nat.zero_add, List.getElem?_append_left (by rw [hf]; exact hi)]
    simp
  | x :: l, k + 1, i, hi => by
    rw [List.flatMap_cons, List.getElem?_append_right (by rw [hf, Nat.succ_mul]; omega), hf, show (k + 1) * c + i - c = k * c + i by rw [Nat.succ_mul]; omega, flat_get f c hf l k i hi]
    simp
theorem flat_take {α β : Type} (f : α → List β) (c : Nat) (hf : ∀ a, (f a).length = c) : ∀ (l : List α) (k : Nat), (l.flatMap f).take (k * c) = (l.take k).flatMap f
  | [], k => by simp
  | x :: l, 0 => by simp
  | x :: l, k + 1 => by
    rw [List.flatMap_cons, List.take_succ_cons, List.flatMap_cons, ← flat_take f c hf l k, Nat.succ_mul, List.take_append, hf, List.take_of_length_le (by rw [hf]; omega), show k * c + c - c = k * c by omega]
theorem flat_drop {α β : Type} (f : α → List β) (c : Nat) (hf : ∀ a, (f a).length = c) : ∀ (l : List α) (k : Nat), (l.flatMap f).drop (k * c) = (l.drop k).flatMap f
  | [], k => by simp
  | x :: l, 0 => by simp
  | x :: l, k + 1 => by
    rw [List.flatMap_cons, List.drop_succ_cons, ← flat_drop f c hf l k, Nat.succ_mul, List.drop_append, hf, List.drop_of_length_le (by rw [hf]; omega), List.nil_append, show k * c + c - c = k * c by omega]
theorem flat_erase {α β : Type} (f : α → List β) (c : Nat) (hf : ∀ a, (f a).length = c) (l : List α) (k : Nat) : (l.eraseIdx k).flatMap f = (l.flatMap f).take (k * c) ++ (l.flatMap f).drop ((k + 1) * c) := by
  rw [flat_take f c hf, flat_drop f c hf, ← List.flatMap_append, List.eraseIdx_eq_take_drop_succ]
/-- A note's cells; those of what was seen. -/
def ntC (p : Nt × Sl) : List Value := [.int .i64 p.1.fr, .int .i64 p.1.to, .int .i64 p.1.st, .slice p.2.a p.2.n p.2.c]
def wyC (ps : List (Nt × Sl)) : List Value := ps.flatMap ntC
def snC (q : Sn × Sl × Sl) : List Value := [.bool q.1.some, .int .i64 q.1.nt.fr, .int .i64 q.1.nt.to, .int .i64 q.1.nt.st, .slice q.2.1.a q.2.1.n q.2.1.c, .int .i64 q.1.err, .slice q.2.2.a q.2.2.n q.2.2.c]
def seC (qs : List (Sn × Sl × Sl)) : List Value := qs.flatMap snC
structure WyAt (W : World) (B n : Nat) (Fs : Nat → Nat → Prop) (v : Value) (ps : List (Nt × Sl)) : Prop where
  row : RowC W B 39 4 v ps.length (wyC ps)
  num : ∀ p ∈ ps, Num W p.2 p.1.data ∧ ∀ b, p.2.On b → Fre W n Fs b
  fre : ∀ b, v.ownBlock = some b → Fre W n Fs b
structure OutAt (W : World) (B n : Nat) (Fs : Nat → Nat → Prop) (v : Value) (qs : List (Sn × Sl × Sl)) : Prop where
  row : RowC W B 41 7 v qs.length (seC qs)
  num : ∀ q ∈ qs, (Num W q.2.1 q.1.nt.data ∧ ∀ b, q.2.1.On b → Fre W n Fs b) ∧ (Num W q.2.2 q.1.data ∧ ∀ b, q.2.2.On b → Fre W n Fs b)
  fre : ∀ b, v.ownBlock = some b → Fre W n Fs b
/-- Blocks that are free stay as they are, but for those of one type. -/
def Kp (W V : World) (n : Nat) (Fs Fs' : Nat → Nat → Prop) (ty : TypeId) : Prop := ∀ b, Fre W n Fs b → Fre V n Fs' b ∧ ((∃ cur e f, W.heap[b]? = some (.cells cur e f) ∧ e ≠ ty) → V.heap[b]? = W.heap[b]?)
theorem Num.kp {W V : World} {n : Nat} {Fs Fs' : Nat → Nat → Prop} {ty : TypeId} (hk : Kp W V n Fs Fs' ty) (ht : (2 : TypeId) ≠ ty) {y : Sl} {ys : List Int} (h : Num W y ys) (hf : ∀ b, y.On b → Fre W n Fs b) : Num V y ys ∧ ∀ b, y.On b → Fre V n Fs' b :=
  ⟨h.keep fun b hO => by
    obtain ⟨cur, hc⟩ := h.blk b hO
    exact (hk b (hf b hO)).2 ⟨cur, _, _, hc, ht⟩, fun b hO => (hk b (hf b hO)).1⟩
theorem WyAt.kp {W V : World} {B n : Nat} {Fs Fs' : Nat → Nat → Prop} {v : Value} {ps : List (Nt × Sl)} {ty : TypeId} (h : WyAt W B n Fs v ps) (hk : Kp W V n Fs Fs' ty) (h1 : (2 : TypeId) ≠ ty) (h2 : (39 : TypeId) ≠ ty) : WyAt V B n Fs' v ps :=
  ⟨h.row.keep fun g hg => by
    obtain ⟨_, _, cur, hc⟩ := h.row.lt g hg
    exact (hk g (h.fre g hg)).2 ⟨cur, _, _, hc, h2⟩, fun p hp => Num.kp hk h1 (h.num p hp).1 (h.num p hp).2, fun b hb => (hk b (h.fre b hb)).1⟩
theorem OutAt.kp {W V : World} {B n : Nat} {Fs Fs' : Nat → Nat → Prop} {v : Value} {qs : List (Sn × Sl × Sl)} {ty : TypeId} (h : OutAt W B n Fs v qs) (hk : Kp W V n Fs Fs' ty) (h1 : (2 : TypeId) ≠ ty) (h2 : (41 : TypeId) ≠ ty) : OutAt V B n Fs' v qs :=
  ⟨h.row.keep fun g hg => by
    obtain ⟨_, _, cur, hc⟩ := h.row.lt g hg
    exact (hk g (h.fre g hg)).2 ⟨cur, _, _, hc, h2⟩, fun q hq => ⟨Num.kp hk h1 (h.num q hq).1.1 (h.num q hq).1.2, Num.kp hk h1 (h.num q hq).2.1 (h.num q hq).2.2⟩, fun b hb => (hk b (h.fre b hb)).1⟩
theorem kp_below {W V : World} {n : Nat} {Fs : Nat → Nat → Prop} (hb : Below W.heap.size W V) (ty : TypeId) : Kp W V n Fs Fs ty := fun b h => ⟨h.below hb, fun _ => hb.block b h.1⟩
theorem kp_step {W V : World} {n : Nat} {Fs : Nat → Nat → Prop} {i : Nat} {F' : Nat → Prop} (hi : i < n) (hF : ∀ b, F' b → Fs i b ∨ (W.heap.size ≤ b ∧ b < V.heap.size)) (hw : Wr (Fs i) W V) (ty : TypeId) : Kp W V n Fs (updN Fs i F') ty := fun b h => ⟨(h.step hi hF hw).1, fun _ => (h.step hi hF hw).2⟩
/-- A row of things of one type has grown. -/
theorem kp_grown {W V : World} {B n : Nat} {Fs : Nat → Nat → Prop} {ty : TypeId} {size m : Nat} {v : Value} {xs : List Value} (hr : RowC W B ty size v m xs) (hg : W.grownBy V v.ownBlock) : Kp W V n Fs Fs ty := fun b h => ⟨⟨Nat.lt_of_lt_of_le h.1 hg.size, h.2⟩, fun ⟨cur, e, f, hc, hne⟩ => hg.block b h.1 (fun e' => by
  obtain ⟨_, _, cur', hc'⟩ := hr.lt b e'.symm
  rw [hc] at hc'
  cases hc'
  exact hne rfl)⟩
theorem TmAt.grown {W V : World} {B tb d n : Nat} {ss : Nat → St} {gs : Nat → Nat} {Fs : Nat → Nat → Prop} {Gs : Nat → Gh} (h : TmAt W B tb d n ss gs Fs Gs) {r : Option Nat} (hg : W.grownBy V r) (hr : ∀ b, r = some b → Fre W n Fs b) (htb : 0 < n → r ≠ some tb) : TmAt V B tb d n ss gs Fs Gs := by
  refine ⟨fun i hi => (h.mb i hi).keep hg.size fun b hb hl => hg.block b hl (fun e => (hr b e.symm).2 i hi hb), h.ok, fun i hi => ?_, h.tbf, fun i b hi hf => ⟨(h.lo i b hi hf).1, Nat.lt_of_lt_of_le (h.lo i b hi hf).2 hg.size⟩, h.dis⟩
  exact (World.cell?_of_block (hg.block tb (lt_of_cell (h.row i hi)) (fun e => htb (by omega) e.symm))).trans (h.row i hi)
theorem ntC_len (p : Nt × Sl) : (ntC p).length = 4 := rfl
theorem snC_len (q : Sn × Sl × Sl) : (snC q).length = 7 := rfl
/-- A note of those on their way. -/
theorem WyAt.cells {W : World} {B n : Nat} {Fs : Nat → Nat → Prop} {g cap k : Nat} {ps : List (Nt × Sl)} (h : WyAt W B n Fs (.slice (some ⟨g, 0, none⟩) ps.length cap) ps) {p : Nt × Sl} (hp : ps[k]? = some p) :
    W.cell? ⟨g, k * 4, none⟩ = some (.int .i64 p.1.fr) ∧ W.cell? ⟨g, k * 4 + 1, none⟩ = some (.int .i64 p.1.to) ∧ W.cell? ⟨g, k * 4 + 2, none⟩ = some (.int .i64 p.1.st) ∧ W.cell? ⟨g, k * 4 + 3, none⟩ = some (.slice p.2.a p.2.n p.2.c) := by
  have key : ∀ i u, i < 4 → (ntC p)[i]? = some u → W.cell? ⟨g, k * 4 + i, none⟩ = some u := fun i u hi hu => h.row.cell rfl (by
    unfold wyC
    rw [flat_get ntC 4 ntC_len ps k i hi, hp]
    exact hu)
  exact ⟨key 0 _ (by decide) rfl, key 1 _ (by decide) rfl, key 2 _ (by decide) rfl, key 3 _ (by decide) rfl⟩
/-- All that a team's play has in memory. -/
structure Tv (W : World) (B tb d n : Nat) (ss : Nat → St) (v13 v14 : Value) (ps : List (Nt × Sl)) (qs : List (Sn × Sl × Sl)) (gs : Nat → Nat) (Fs : Nat → Nat → Prop) (Gs : Nat → Gh) : Prop where
  tm : TmAt W B tb d n ss gs Fs Gs
  wy : WyAt W B n Fs v14 ps
  ou : OutAt W B n Fs v13 qs
  tbk : 0 < n → ∃ cur f, W.heap[tb]? = some (.cells cur 48 f)
  tos : ∀ p ∈ ps, (∃ i, i < n ∧ p.1.to = (i : Int)) ∧ p.1.data.length ≤ 65536
  low : B ≤ W.heap.size
theorem Tv.below {W V : World} {B tb d n : Nat} {ss : Nat → St} {v13 v14 : Value} {ps : List (Nt × Sl)} {qs : List (Sn × Sl × Sl)} {gs : Nat → Nat} {Fs : Nat → Nat → Prop} {Gs : Nat → Gh} (h : Tv W B tb d n ss v13 v14 ps qs gs Fs Gs) (hb : Below W.heap.size W V) : Tv V B tb d n ss v13 v14 ps qs gs Fs Gs := by
  exact ⟨h.tm.below hb, h.wy.kp (kp_below hb 4) (by decide) (by decide), h.ou.kp (kp_below hb 4) (by decide) (by decide), fun h0 => by
    obtain ⟨cur, f, hc⟩ := h.tbk h0
    exact ⟨cur, f, (hb.block tb (Array.getElem?_eq_some_iff.1 hc).1).trans hc⟩, h.tos, Nat.le_trans h.low hb.size⟩
theorem Tv.step {W V : World} {B tb d n : Nat} {ss : Nat → St} {v13 v14 : Value} {ps : List (Nt × Sl)} {qs : List (Sn × Sl × Sl)} {gs : Nat → Nat} {Fs : Nat → Nat → Prop} {Gs : Nat → Gh} (h : Tv W B tb d n ss v13 v14 ps qs gs Fs Gs) {i : Nat} (hi : i < n) {s' : St} {G' : Gh} {F' : Nat → Prop} (hm : MbAt V F' (gs i) d n i s' G') (hok : StOk d n i s') (hF : ∀ b, F' b → Fs i b ∨ (W.heap.size ≤ b ∧ b < V.heap.size)) (hw : Wr (Fs i) W V) :
    Tv V B tb d n (updN ss i s') v13 v14 ps qs gs (updN Fs i F') (updN Gs i G') := by
  exact ⟨h.tm.step h.low hi hm hok hF hw, h.wy.kp (kp_step hi hF hw 4) (by decide) (by decide), h.ou.kp (kp_step hi hF hw 4) (by decide) (by decide), fun h0 => by
    obtain ⟨cur, f, hc⟩ := h.tbk h0
    exact ⟨cur, f, (hw.block tb (Array.getElem?_eq_some_iff.1 hc).1 (h.tm.tbf i hi)).trans hc⟩, h.tos, Nat.le_trans h.low hw.size⟩
theorem fre_new {W V : World} {B tb d n : Nat} {ss : Nat → St} {gs : Nat → Nat} {Fs : Nat → Nat → Prop} {Gs : Nat → Gh} (h : TmAt W B tb d n ss gs Fs Gs) {b : Nat} (h1 : W.heap.size ≤ b) (h2 : b < V.heap.size) : Fre V n Fs b := ⟨h2, fun i hi hf => by have := (h.lo i b hi hf).2; omega⟩
theorem Tv.seen {W V : World} {B tb d n : Nat} {ss : Nat → St} {v13 v14 u : Value} {ps : List (Nt × Sl)} {qs : List (Sn × Sl × Sl)} {gs : Nat → Nat} {Fs : Nat → Nat → Prop} {Gs : Nat → Gh} (h : Tv W B tb d n ss v13 v14 ps qs gs Fs Gs) (q : Sn × Sl × Sl) (hr : RowC V B 41 7 u (qs.length + 1) (seC qs ++ snC q)) (hg : W.grownBy V v13.ownBlock) (ho : u.ownBlock = v13.ownBlock ∨ ∃ g', u.ownBlock = some g' ∧ W.heap.size ≤ g')
    (h1 : Num W q.2.1 q.1.nt.data ∧ ∀ b, q.2.1.On b → Fre W n Fs b) (h2 : Num W q.2.2 q.1.data ∧ ∀ b, q.2.2.On b → Fre W n Fs b) : Tv V B tb d n ss u v14 ps (qs ++ [q]) gs Fs Gs := by
  have hk : Kp W V n Fs Fs 41 := kp_grown h.ou.row hg
  have htb : 0 < n → v13.ownBlock ≠ some tb := fun h0 e => by
    obtain ⟨cur, f, hc⟩ := h.tbk h0
    obtain ⟨_, _, cur', hc'⟩ := h.ou.row.lt tb e
    rw [hc] at hc'
    simp at hc'
  refine ⟨h.tm.grown hg h.ou.fre htb, h.wy.kp hk (by decide) (by decide), ⟨?_, fun q' hq' => ?_, fun b hb => ?_⟩, fun h0 => (h.tbk h0).imp fun cur ⟨f, hc⟩ => ⟨f, (hg.block tb (Array.getElem?_eq_some_iff.1 hc).1 (fun e => htb h0 e.symm)).trans hc⟩, h.tos, Nat.le_trans h.low hg.size⟩
  · have e : seC (qs ++ [q]) = seC qs ++ snC q := by simp [seC]
    rw [e, List.length_append]
    exact hr
  · rcases List.mem_append.1 hq' with h' | h'
    · exact ⟨Num.kp hk (by decide) (h.ou.num q' h').1.1 (h.ou.num q' h').1.2, Num.kp hk (by decide) (h.ou.num q' h').2.1 (h.ou.num q' h').2.2⟩
    · have : q' = q := by simpa using h'
      subst this
      exact ⟨Num.kp hk (by decide) h1.1 h1.2, Num.kp hk (by decide) h2.1 h2.2⟩
  · rcases ho with e | ⟨g', e, hl⟩
    · rw [e] at hb
      exact (hk b (h.ou.fre b hb)).1
    · rw [e] at hb
      cases hb
      exact fre_new h.tm hl (hr.lt _ e).2.1
theorem Tv.note {W V : World} {B tb d n : Nat} {ss : Nat → St} {v13 v14 u : Value} {ps : List (Nt × Sl)} {qs : List (Sn × Sl × Sl)} {gs : Nat → Nat} {Fs : Nat → Nat → Prop} {Gs : Nat → Gh} (h : Tv W B tb d n ss v13 v14 ps qs gs Fs Gs) (p : Nt × Sl) (hr : RowC V B 39 4 u (ps.length + 1) (wyC ps ++ ntC p)) (hg : W.grownBy V v14.ownBlock) (ho : u.ownBlock = v14.ownBlock ∨ ∃ g', u.ownBlock = some g' ∧ W.heap.size ≤ g')
    (h1 : Num W p.2 p.1.data ∧ ∀ b, p.2.On b → Fre W n Fs b) (h2 : (∃ i, i < n ∧ p.1.to = (i : Int)) ∧ p.1.data.length ≤ 65536) : Tv V B tb d n ss v13 u (ps ++ [p]) qs gs Fs Gs := by
  have hk : Kp W V n Fs Fs 39 := kp_grown h.wy.row hg
  have htb : 0 < n → v14.ownBlock ≠ some tb := fun h0 e => by
    obtain ⟨cur, f, hc⟩ := h.tbk h0
    obtain ⟨_, _, cur', hc'⟩ := h.wy.row.lt tb e
    rw [hc] at hc'
    simp at hc'
  refine ⟨h.tm.grown hg h.wy.fre htb, ⟨?_, fun q' hq' => ?_, fun b hb => ?_⟩, h.ou.kp hk (by decide) (by decide), fun h0 => (h.tbk h0).imp fun cur ⟨f, hc⟩ => ⟨f, (hg.block tb (Array.getElem?_eq_some_iff.1 hc).1 (fun e => htb h0 e.symm)).trans hc⟩, fun p' hp' => ?_, Nat.le_trans h.low hg.size⟩
  · have e : wyC (ps ++ [p]) = wyC ps ++ ntC p := by simp [wyC]
    rw [e, List.length_append]
    exact hr
  · rcases List.mem_append.1 hq' with h' | h'
    · exact Num.kp hk (by decide) (h.wy.num q' h').1 (h.wy.num q' h').2
    · have : q' = p := by simpa using h'
      subst this
      exact Num.kp hk (by decide) h1.1 h1.2
  · rcases ho with e | ⟨g', e, hl⟩
    · rw [e] at hb
      exact (hk b (h.wy.fre b hb)).1
    · rw [e] at hb
      cases hb
      exact fre_new h.tm hl (hr.lt _ e).2.1
  · rcases List.mem_append.1 hp' with h' | h'
    · exact h.tos p' h'
    · have : p' = p := by simpa using h'
      subst this
      exact h2
theorem Tv.gone {W V : World} {B tb d n : Nat} {ss : Nat → St} {v13 v14 u : Value} {ps : List (Nt × Sl)} {qs : List (Sn × Sl × Sl)} {gs : Nat → Nat} {Fs : Nat → Nat → Prop} {Gs : Nat → Gh} (h : Tv W B tb d n ss v13 v14 ps qs gs Fs Gs) {k : Nat} (hk : k < ps.length) (hr : RowC V B 39 4 u (ps.length - 1) ((wyC ps).take (k * 4) ++ (wyC ps).drop ((k + 1) * 4))) (hg : W.grownBy V none) (ho : u.ownBlock = v14.ownBlock ∨ ∃ g', u.ownBlock = some g' ∧ W.heap.size ≤ g') : Tv V B tb d n ss v13 u (ps.eraseIdx k) qs gs Fs Gs := by
  have hb : Below W.heap.size W V := ⟨hg.os, hg.tape, hg.output, hg.size, fun b hb => hg.block b hb (by simp)⟩
  have h' := h.below hb
  refine ⟨h'.tm, ⟨?_, fun p hp => h'.wy.num p (List.mem_of_mem_eraseIdx hp), fun b hb' => ?_⟩, h'.ou, h'.tbk, fun p hp => h.tos p (List.mem_of_mem_eraseIdx hp), h'.low⟩
  · have e : wyC (ps.eraseIdx k) = (wyC ps).take (k * 4) ++ (wyC ps).drop ((k + 1) * 4) := flat_erase ntC 4 ntC_len ps k
    rw [e, List.length_eraseIdx_of_lt hk]
    exact hr
  · rcases ho with e | ⟨g', e, hl⟩
    · rw [e] at hb'
      exact (h.wy.fre b hb').below hb
    · rw [e] at hb'
      cases hb'
      exact fre_new h.tm hl (hr.lt _ e).2.1
end Go.Proofs.Yticcoacoepajpaa.V
