/-
  A machine in memory: a step of an engine. A machine in memory: what right code gives; what is left alone. append([]int64{}, list...): words of their own. Contracts: the document's SameMemory and the law's sameWords, of equal lists.
-/
import Derived.Test.YtoabffmiedbkkaaGreatRJ13
import Derived.ArgAppend
import Derived.Deep.RegionLaw
import Derived.BigQuiet
namespace Go.Proofs.YtoabffmiedbkkaaGreat.V
set_option maxRecDepth 20000
open Go Go.RowKit
set_option linter.unusedVariables false
set_option linter.unusedSimpArgs false

/-- A fact: a new box for an instruction. -/
def fBxN (N : Nat) : Fact := ⟨fun u W => ∃ b, u = .pointer (some ⟨b, 0, none⟩) ∧ N ≤ b ∧ W.heap[b]? = some (.cells #[.int .i64 0, .int .i64 0, .int .i64 0, .int .i64 0, .int .i64 0, .int .i64 0] 50 (0, 0)), false⟩
theorem fBxN_good (N : Nat) : (fBxN N).Good := ⟨fun _ _ _ ⟨b, h1, h2, h3⟩ hb => ⟨b, h1, h2, (hb.block b (Array.getElem?_eq_some_iff.1 h3).1).trans h3⟩, fun h => by cases h⟩
theorem drew_below (w : World) : Below w.heap.size w w.drew := ⟨rfl, rfl, rfl, Nat.le_refl _, fun _ _ => rfl⟩
theorem mchV_done0 (c : CV) (B : MbK) (s : Mac) : mchV c B { s with i := s.i + 1 } 22 = .int .i64 ((s.i : Int) + 1) := by simp [mchV]
theorem mchV_done1 (c : CV) (B : MbK) (s : Mac) : mchV c B { s with j := s.j + 1 } 23 = .int .i64 ((s.j : Int) + 1) := by simp [mchV]
theorem mchV_oth (c : CV) (B : MbK) (s s' : Mac) (j : Nat) (hs : s'.sem = s.sem) (hi : j = 22 → s'.i = s.i) (hj : 22 < j → s'.j = s.j) : mchV c B s' j = mchV c B s j := by
  unfold mchV
  rw [hs]
  by_cases h : j < 22
  · simp only [h, if_true]
  · rw [if_neg h]
    by_cases h2 : j = 22
    · subst h2
      rw [hi rfl]
      simp
    · rw [hj (by omega)]
      simp only [h2, if_false, h]
theorem MchAt.incI {W : World} {g : Nat} {c : CV} {mv mk : List In} {B : MbK} {s : Mac} (h : MchAt W g c mv mk B s) : MchAt (W.setCell ⟨g, 22, none⟩ (.int .i64 ((s.i : Int) + 1))) g c mv mk B { s with i := s.i + 1 } := h.putG (by decide) _ (mchV_done0 c B s) (fun j hj hn => mchV_oth c B s _ j rfl (fun e => absurd e hn) (fun _ => rfl)) rfl rfl
theorem MchAt.incJ {W : World} {g : Nat} {c : CV} {mv mk : List In} {B : MbK} {s : Mac} (h : MchAt W g c mv mk B s) : MchAt (W.setCell ⟨g, 23, none⟩ (.int .i64 ((s.j : Int) + 1))) g c mv mk B { s with j := s.j + 1 } := h.putG (by decide) _ (mchV_done1 c B s) (fun j hj hn => mchV_oth c B s _ j rfl (fun _ => rfl) (fun h => by omega)) rfl rfl
theorem MchAt.putSem {W : World} {g : Nat} {c : CV} {mv mk : List In} {B : MbK} {s : Mac} (h : MchAt W g c mv mk B s) {a : Nat} (ha : a < 16) (v : Int) : MchAt (W.setCell ⟨g, 6 + a, none⟩ (.int .i64 v)) g c mv mk B { s with sem := fun q => if q = (a : Int) then v else s.sem q } := by
  refine h.putG (by omega) _ ?_ (fun j hj hn => ?_) rfl rfl
  · unfold mchV
    rw [if_neg (by omega), if_neg (by omega), if_neg (by omega), if_neg (by omega), if_neg (by omega), if_neg (by omega), if_pos (by omega)]
    simp only
    rw [if_pos (by omega)]
  · unfold mchV
    repeat' split
    all_goals first | rfl | omega | (simp only; rw [if_neg (by omega)])
set_option maxRecDepth 20000 in
set_option maxHeartbeats 8000000 in
theorem step_A (g : Nat) (c : CV) (mv mk : List In) (B : MbK) (s : Mac) (k : Nat) (x : In) (wr : World) (h : MchAt wr g c mv mk B s) (hk : s.i = k) (hkl : k < mv.length) (hx : getI mv k = x) (hk9 : k ≤ 262144) (hsem : x.d = 3 ∨ x.d = 4 → 0 ≤ x.a ∧ x.a < 16) (hsm : ∀ q, -1000000 ≤ s.sem q ∧ s.sem q ≤ 1000000) (hkd : x.d = 1 ∨ x.d = 2 ∨ x.d = 3 ∨ x.d = 4) (hmvok : x.d = 1 ∨ x.d = 2 → MvOk x B) :
    Calls Tryz.prog 26 #[.pointer (some ⟨g, 0, none⟩), .int .i64 0] wr fun e w' => e = .returned (.tuple #[]) ∧ MchAt w' g c mv mk B (stA mv s) ∧ WrB (fun b => b = g ∨ b = B.gp ∨ b = B.gm) wr w' := by
  obtain ⟨cpad, cmem, ma, ml, mc, ka, kl, kc⟩ := c
  have gz := h.lt
  have m0 := h.cell (k := 0) (by decide)
  have m1 := h.cell (k := 1) (by decide)
  have m2 := h.cell (k := 2) (by decide)
  have m3 := h.cell (k := 3) (by decide)
  have mD := h.cell (k := 22) (by decide)
  simp [mchV] at m0 m1 m2 m3 mD
  rw [hk] at mD
  have hll : mv.length = ml := h.mvs.1
  have hkn : k < ml := by omega
  obtain ⟨ib, io, hia, hat⟩ : ∃ b off, ma = some ⟨b, off, none⟩ ∧ ∀ j, j < ml → InAt wr b (off + j * 6) (mv[j]?.getD inD) := by
    rcases h.mvs.2.2 with h0 | h0
    · simp only at h0; omega
    · exact h0
  subst hia
  obtain ⟨x0, x1, x2, x3, x4, x5⟩ := hat k hkn
  rw [show mv[k]?.getD inD = x from hx] at x0 x1 x2 x3 x4 x5
  have xz := lt_of_cell x0
  have hkz : (k : Int) < (ml : Int) := by omega
  have hk0 : (0 : Int) ≤ (k : Int) := by omega
  have H := hide h
  have HK := hide hk
  have HX := hide hx
  clear h hat hx hk hll hkl
  go_enter Tryz.func26, Tryz.ntmps26
  go_upto_region 0 with fail
  refine region_made 16 18 [fIs (.pointer (some ⟨g, 0, none⟩)), fIs (.pointer (some ⟨g, 0, none⟩)), fIs (.pointer (some ⟨g, 0, none⟩)), fIs (.agg #[.int .i64 cpad, .int .i64 cmem, .slice (some ⟨ib, io, none⟩) ml mc, .slice ka kl kc]), fIs (.agg #[.slice (some ⟨ib, io, none⟩) ml mc, .slice ka kl kc]), fIs (.int .i64 0), fIs (.slice (some ⟨ib, io, none⟩) ml mc), fIs (.pointer (some ⟨g, 0, none⟩)), fIs (.int .i64 0), fIs (.pointer (some ⟨g, 0, none⟩)), fIs (.pointer (some ⟨g, 22, none⟩)), fIs (.pointer (some ⟨g, 22, none⟩)), fIs (.int .i64 (k : Int)), fIs (.pointer (some ⟨ib, io + k * 6, none⟩)), fIs (.agg #[.int .i64 x.d, .int .i64 x.a, .int .i64 x.b, .int .i64 x.c, .int .i64 x.n, .int .i64 x.v]), fBxN wr.heap.size] (by kernel_rfl) (by kernel_rfl) (by kernel_rfl) (fun _ ⟨_, _⟩ ⟨_, _⟩ _ e h => by cases e; exact h) ⟨fIs_good _, fIs_good _, fIs_good _, fIs_good _, fIs_good _, fIs_good _, fIs_good _, fIs_good _, fIs_good _, fIs_good _, fIs_good _, fIs_good _, fIs_good _, fIs_good _, fIs_good _, fBxN_good _, trivial⟩ ?mk ?rest
  case mk =>
    refine ⟨fun u wz hb hd => ?_, fun u wz hb hd => ?_, fun u wz hb hd => ?_, fun u wz hb hd => ?_, fun u wz hb hd => ?_, fun u wz hb hd => ?_, fun u wz hb hd => ?_, fun u wz hb hd => ?_, fun u wz hb hd => ?_, fun u wz hb hd => ?_, fun u wz hb hd => ?_, fun u wz hb hd => ?_, fun u wz hb hd => ?_, fun u wz hb hd => ?_, fun u wz hb hd => ?_, fun u wz hb hd => ?_, trivial⟩
    all_goals simp only [Act.put, List.setIfInBounds_toArray, List.set_cons_zero, List.set_cons_succ]
    · go_simp
      exact ⟨rfl, Below.refl _ _, fun h => by cases h⟩
    · have e0 : u 0 = .pointer (some ⟨g, 0, none⟩) := hd 0 (by omega) (by kernel_rfl)
      rw [e0]
      have gz' : g < wz.heap.size := Nat.lt_of_lt_of_le gz hb.size
      go_simp
      exact ⟨rfl, Below.refl _ _, fun h => by cases h⟩
    · have e1 : u 1 = .pointer (some ⟨g, 0, none⟩) := hd 1 (by omega) (by kernel_rfl)
      rw [e1]
      go_simp
      exact ⟨rfl, Below.refl _ _, fun h => by cases h⟩
    · have e2 : u 2 = .pointer (some ⟨g, 0, none⟩) := hd 2 (by omega) (by kernel_rfl)
      rw [e2]
      have m0' := (hb.cell (p := ⟨g, 0, none⟩) (lt_of_cell m0)).trans m0
      have m1' := (hb.cell (p := ⟨g, 1, none⟩) (lt_of_cell m1)).trans m1
      have m2' := (hb.cell (p := ⟨g, 2, none⟩) (lt_of_cell m2)).trans m2
      have m3' := (hb.cell (p := ⟨g, 3, none⟩) (lt_of_cell m3)).trans m3
      have gz' : g < wz.heap.size := Nat.lt_of_lt_of_le gz hb.size
      go_simp
      exact ⟨rfl, Below.refl _ _, fun h => by cases h⟩
    · have e3 : u 3 = .agg #[.int .i64 cpad, .int .i64 cmem, .slice (some ⟨ib, io, none⟩) ml mc, .slice ka kl kc] := hd 3 (by omega) (by kernel_rfl)
      rw [e3]
      go_simp
      have he := engines_any ⟨cpad, cmem, (some ⟨ib, io, none⟩), ml, mc, ka, kl, kc⟩ wz
      unfold CV.v at he
      simp only at he
      refine he.mono ?_
      rintro e w2 ⟨rfl, hb2⟩
      exact ⟨rfl, hb2, fun h => by cases h⟩
    · go_simp
      exact ⟨rfl, Below.refl _ _, fun h => by cases h⟩
    · have e4 : u 4 = .agg #[.slice (some ⟨ib, io, none⟩) ml mc, .slice ka kl kc] := hd 4 (by omega) (by kernel_rfl)
      have e5 : u 5 = .int .i64 0 := hd 5 (by omega) (by kernel_rfl)
      rw [e4, e5]
      have hix := idx2_0 (.slice (some ⟨ib, io, none⟩) ml mc) (.slice ka kl kc)
      go_simp
      exact ⟨rfl, Below.refl _ _, fun h => by cases h⟩
    · go_simp
      exact ⟨rfl, Below.refl _ _, fun h => by cases h⟩
    · go_simp
      exact ⟨rfl, Below.refl _ _, fun h => by cases h⟩
    · have e7 : u 7 = .pointer (some ⟨g, 0, none⟩) := hd 7 (by omega) (by kernel_rfl)
      rw [e7]
      have gz' : g < wz.heap.size := Nat.lt_of_lt_of_le gz hb.size
      go_simp
      exact ⟨rfl, Below.refl _ _, fun h => by cases h⟩
    · have e9 : u 9 = .pointer (some ⟨g, 0, none⟩) := hd 9 (by omega) (by kernel_rfl)
      rw [e9]
      go_simp
      exact ⟨rfl, Below.refl _ _, fun h => by cases h⟩
    · have e10 : u 10 = .pointer (some ⟨g, 22, none⟩) := hd 10 (by omega) (by kernel_rfl)
      have e8 : u 8 = .int .i64 0 := hd 8 (by omega) (by kernel_rfl)
      rw [e10, e8]
      go_simp
      exact ⟨rfl, Below.refl _ _, fun h => by cases h⟩
    · have e11 : u 11 = .pointer (some ⟨g, 22, none⟩) := hd 11 (by omega) (by kernel_rfl)
      rw [e11]
      have mD' := (hb.cell (p := ⟨g, 22, none⟩) (lt_of_cell mD)).trans mD
      go_simp
      exact ⟨rfl, Below.refl _ _, fun h => by cases h⟩
    · have e6 : u 6 = .slice (some ⟨ib, io, none⟩) ml mc := hd 6 (by omega) (by kernel_rfl)
      have e12 : u 12 = .int .i64 (k : Int) := hd 12 (by omega) (by kernel_rfl)
      rw [e6, e12]
      go_simp
      exact ⟨rfl, Below.refl _ _, fun h => by cases h⟩
    · have e13 : u 13 = .pointer (some ⟨ib, io + k * 6, none⟩) := hd 13 (by omega) (by kernel_rfl)
      rw [e13]
      have x0' := (hb.cell (p := ⟨ib, io + k * 6, none⟩) (lt_of_cell x0)).trans x0
      have x1' := (hb.cell (p := ⟨ib, io + k * 6 + 1, none⟩) (lt_of_cell x1)).trans x1
      have x2' := (hb.cell (p := ⟨ib, io + k * 6 + 2, none⟩) (lt_of_cell x2)).trans x2
      have x3' := (hb.cell (p := ⟨ib, io + k * 6 + 3, none⟩) (lt_of_cell x3)).trans x3
      have x4' := (hb.cell (p := ⟨ib, io + k * 6 + 4, none⟩) (lt_of_cell x4)).trans x4
      have x5' := (hb.cell (p := ⟨ib, io + k * 6 + 5, none⟩) (lt_of_cell x5)).trans x5
      have xz' : ib < wz.heap.size := Nat.lt_of_lt_of_le xz hb.size
      go_simp
      exact ⟨rfl, Below.refl _ _, fun h => by cases h⟩
    · go_simp
      exact ⟨⟨_, rfl, hb.size, World.alloc_heap_new _ _⟩, bl_new _, fun h => by cases h⟩
  case rest =>
    intro u wz hb hf hp
    have f0 : u 0 = .pointer (some ⟨g, 0, none⟩) := hf 0 (by omega)
    have f1 : u 1 = .pointer (some ⟨g, 0, none⟩) := hf 1 (by omega)
    have f2 : u 2 = .pointer (some ⟨g, 0, none⟩) := hf 2 (by omega)
    have f3 : u 3 = .agg #[.int .i64 cpad, .int .i64 cmem, .slice (some ⟨ib, io, none⟩) ml mc, .slice ka kl kc] := hf 3 (by omega)
    have f4 : u 4 = .agg #[.slice (some ⟨ib, io, none⟩) ml mc, .slice ka kl kc] := hf 4 (by omega)
    have f5 : u 5 = .int .i64 0 := hf 5 (by omega)
    have f6 : u 6 = .slice (some ⟨ib, io, none⟩) ml mc := hf 6 (by omega)
    have f7 : u 7 = .pointer (some ⟨g, 0, none⟩) := hf 7 (by omega)
    have f8 : u 8 = .int .i64 0 := hf 8 (by omega)
    have f9 : u 9 = .pointer (some ⟨g, 0, none⟩) := hf 9 (by omega)
    have f10 : u 10 = .pointer (some ⟨g, 22, none⟩) := hf 10 (by omega)
    have f11 : u 11 = .pointer (some ⟨g, 22, none⟩) := hf 11 (by omega)
    have f12 : u 12 = .int .i64 (k : Int) := hf 12 (by omega)
    have f13 : u 13 = .pointer (some ⟨ib, io + k * 6, none⟩) := hf 13 (by omega)
    have f14 : u 14 = .agg #[.int .i64 x.d, .int .i64 x.a, .int .i64 x.b, .int .i64 x.c, .int .i64 x.n, .int .i64 x.v] := hf 14 (by omega)
    obtain ⟨tb, f15, hNB, hTB⟩ := hf 15 (by omega)
    refine UptoW.rest 1 16 (by rfl) (by kernel_rfl) ?_
    simp only [List.take, List.drop, putOps, Act.put, List.setIfInBounds_toArray, List.set_cons_zero, List.set_cons_succ, Nat.reduceAdd, f0, f1, f2, f3, f4, f5, f6, f7, f8, f9, f10, f11, f12, f13, f14, f15]
    clear f0 f1 f2 f3 f4 f5 f6 f7 f8 f9 f10 f11 f12 f13 f14 f15 hf hp
    have HBZ := hide hb
    have tz := (Array.getElem?_eq_some_iff.1 hTB).1
    have HTB := hide hTB
    have y0 : wz.cell? ⟨tb, 0, none⟩ = some (.int .i64 0) := by simp only [World.cell?, hTB]; rfl
    have y1 : wz.cell? ⟨tb, 1, none⟩ = some (.int .i64 0) := by simp only [World.cell?, hTB]; rfl
    have y2 : wz.cell? ⟨tb, 2, none⟩ = some (.int .i64 0) := by simp only [World.cell?, hTB]; rfl
    have y3 : wz.cell? ⟨tb, 3, none⟩ = some (.int .i64 0) := by simp only [World.cell?, hTB]; rfl
    have y4 : wz.cell? ⟨tb, 4, none⟩ = some (.int .i64 0) := by simp only [World.cell?, hTB]; rfl
    have y5 : wz.cell? ⟨tb, 5, none⟩ = some (.int .i64 0) := by simp only [World.cell?, hTB]; rfl
    have yf : ∀ q, wz.frozen? ⟨tb, q, none⟩ = false := fun q => by simp [World.frozen?, hTB]
    clear hb hTB
    go_upto_region 1 with fail
    obtain ⟨U, hU⟩ : ∃ U, U = (((((wz.setCell ⟨tb, 0, none⟩ (.int .i64 x.d)).setCell ⟨tb, 1, none⟩ (.int .i64 x.a)).setCell ⟨tb, 2, none⟩ (.int .i64 x.b)).setCell ⟨tb, 3, none⟩ (.int .i64 x.c)).setCell ⟨tb, 4, none⟩ (.int .i64 x.n)).setCell ⟨tb, 5, none⟩ (.int .i64 x.v) := ⟨_, rfl⟩
    rw [← hU]
    have hT2 : U.heap[tb]? = some (.cells #[.int .i64 x.d, .int .i64 x.a, .int .i64 x.b, .int .i64 x.c, .int .i64 x.n, .int .i64 x.v] 50 (0, 0)) := by rw [hU]; simp [World.setCell, Array.getElem?_modify, HTB.out]
    have hBU : Below wr.heap.size wr U := by
      rw [hU]
      exact (((((HBZ.out.setCell hNB _).setCell hNB _).setCell hNB _).setCell hNB _).setCell hNB _).setCell hNB _
    have h2 := H.out.below hBU
    have gU := h2.lt
    have mU := h2.cell (k := 22) (by decide)
    simp [mchV] at mU
    rw [HK.out] at mU
    have mF := h2.frozen 22
    have HBU := hide hBU
    have HT2 := hide hT2
    have H2 := hide h2
    clear hU hT2 hBU h2 y0 y1 y2 y3 y4 y5 yf tz m0 m1 m2 m3 mD x0 x1 x2 x3 x4 x5
    go_region
    go_upto_region 2 with fail
    obtain ⟨X, hX⟩ : ∃ X, X = (U.setCell ⟨g, 22, none⟩ (.int .i64 ((k : Int) + 1))).drew := ⟨_, rfl⟩
    rw [← hX]
    have h3 : MchAt X g ⟨cpad, cmem, (some ⟨ib, io, none⟩), ml, mc, ka, kl, kc⟩ mv mk B { s with i := k + 1 } := by
      rw [hX]
      have h9 := H2.out.incI
      rw [HK.out] at h9
      exact h9.below (drew_below _)
    have hW3 : WrB (fun b => b = g) wr X := by
      rw [hX]
      exact ((WrB.of (F := fun b => b = g) HBU.out).set (a := ⟨g, 22, none⟩) rfl _).trans (WrB.of (drew_below _))
    have hgt : tb ≠ g := fun e => by
      have h9 := H.out.lt
      omega
    have hT3 : X.heap[tb]? = some (.cells #[.int .i64 x.d, .int .i64 x.a, .int .i64 x.b, .int .i64 x.c, .int .i64 x.n, .int .i64 x.v] 50 (0, 0)) := by
      rw [hX]
      exact (Below.heap_setCell U ⟨g, 22, none⟩ _ tb hgt).trans HT2.out
    have t0 : X.cell? ⟨tb, 0, none⟩ = some (.int .i64 x.d) := by simp only [World.cell?, hT3]; rfl
    have t1 : X.cell? ⟨tb, 1, none⟩ = some (.int .i64 x.a) := by simp only [World.cell?, hT3]; rfl
    have t2 : X.cell? ⟨tb, 2, none⟩ = some (.int .i64 x.b) := by simp only [World.cell?, hT3]; rfl
    have t3 : X.cell? ⟨tb, 3, none⟩ = some (.int .i64 x.c) := by simp only [World.cell?, hT3]; rfl
    have t4 : X.cell? ⟨tb, 4, none⟩ = some (.int .i64 x.n) := by simp only [World.cell?, hT3]; rfl
    have t5 : X.cell? ⟨tb, 5, none⟩ = some (.int .i64 x.v) := by simp only [World.cell?, hT3]; rfl
    have tz := (Array.getElem?_eq_some_iff.1 hT3).1
    have gX := h3.lt
    have H3 := hide h3
    have HW3 := hide hW3
    clear hX h3 hW3 hT3 mU mF gU
    by_cases h3 : x.d = 3
    · skip
      have hs := hsem (.inl h3)
      obtain ⟨an, han⟩ : ∃ an : Nat, x.a = (an : Int) := ⟨x.a.toNat, by omega⟩
      have a17 : an < 16 := by omega
      have a16 : (an : Int) < 16 := by omega
      have a0 : (0 : Int) ≤ (an : Int) := by omega
      obtain ⟨sv, hsv⟩ : ∃ sv, sv = s.sem x.a := ⟨_, rfl⟩
      have hsb := hsm x.a
      rw [← hsv] at hsb
      have y := mch_sem H3.out hs.1 hs.2
      rw [show ({ s with i := k + 1 } : Mac).sem x.a = sv from hsv.symm, han] at y
      simp only [Int.toNat_natCast] at y
      have yf := H3.out.frozen (6 + an)
      rw [h3] at t0
      rw [han] at t1
      have HSV := hide hsv
      have HAN := hide han
      have HD := hide h3
      clear hs han hsv h3
      go_upto_region 5 with fail
      go_region
      go_wp2_with fail
      go_end0
      refine ⟨rfl, ?_, ?_⟩
      · have h9 := (H3.out.putSem a17 (sv + 1)).below (drew_below _)
        have e : ({ s with sem := fun q => if q = (an : Int) then sv + 1 else s.sem q, i := k + 1 } : Mac) = stA mv s := by
          have h2 : x.d = 2 ∨ x.d = 3 ∨ x.d = 4 := by rw [HD.out]; simp
          unfold stA
          rw [HK.out, HX.out]
          simp only [Mac.mk.injEq, and_true, true_and]
          refine ⟨?_, ?_, ?_⟩
          · funext w
            exact (doP_off (by rw [wr_none h2]; simp)).symm
          · unfold doMm
            rw [if_neg (by rw [HD.out]; simp)]
          · funext q
            unfold dlS
            rw [HD.out]
            by_cases hq : q = (an : Int)
            · rw [if_pos hq, hq, HSV.out, HAN.out]
              simp <;> omega
            · rw [if_neg hq, HAN.out]
              simp [show ¬ (an : Int) = q from fun h => hq h.symm]
        rw [← e]
        exact h9
      · exact (HW3.out.mono (fun b h => .inl h)).trans (((WrB.refl (fun b => b = g ∨ b = B.gp ∨ b = B.gm) X).set (a := ⟨g, 6 + an, none⟩) (.inl rfl) _).trans (WrB.of (drew_below _)))
    by_cases h4 : x.d = 4
    · skip
      have hs := hsem (.inr h4)
      obtain ⟨an, han⟩ : ∃ an : Nat, x.a = (an : Int) := ⟨x.a.toNat, by omega⟩
      have a17 : an < 16 := by omega
      have a16 : (an : Int) < 16 := by omega
      have a0 : (0 : Int) ≤ (an : Int) := by omega
      obtain ⟨sv, hsv⟩ : ∃ sv, sv = s.sem x.a := ⟨_, rfl⟩
      have hsb := hsm x.a
      rw [← hsv] at hsb
      have y := mch_sem H3.out hs.1 hs.2
      rw [show ({ s with i := k + 1 } : Mac).sem x.a = sv from hsv.symm, han] at y
      simp only [Int.toNat_natCast] at y
      have yf := H3.out.frozen (6 + an)
      rw [h4] at t0
      rw [han] at t1
      have HSV := hide hsv
      have HAN := hide han
      have HD := hide h4
      clear hs han hsv h4
      go_upto_region 7 with fail
      go_region
      go_wp2_with fail
      go_end0
      refine ⟨rfl, ?_, ?_⟩
      · have h9 := (H3.out.putSem a17 (sv - 1)).below (drew_below _)
        have e : ({ s with sem := fun q => if q = (an : Int) then sv - 1 else s.sem q, i := k + 1 } : Mac) = stA mv s := by
          have h2 : x.d = 2 ∨ x.d = 3 ∨ x.d = 4 := by rw [HD.out]; simp
          unfold stA
          rw [HK.out, HX.out]
          simp only [Mac.mk.injEq, and_true, true_and]
          refine ⟨?_, ?_, ?_⟩
          · funext w
            exact (doP_off (by rw [wr_none h2]; simp)).symm
          · unfold doMm
            rw [if_neg (by rw [HD.out]; simp)]
          · funext q
            unfold dlS
            rw [HD.out]
            by_cases hq : q = (an : Int)
            · rw [if_pos hq, hq, HSV.out, HAN.out]
              simp <;> omega
            · rw [if_neg hq, HAN.out]
              simp [show ¬ (an : Int) = q from fun h => hq h.symm]
        rw [← e]
        exact h9
      · exact (HW3.out.mono (fun b h => .inl h)).trans (((WrB.refl (fun b => b = g ∨ b = B.gp ∨ b = B.gm) X).set (a := ⟨g, 6 + an, none⟩) (.inl rfl) _).trans (WrB.of (drew_below _)))
    by_cases h1 : x.d = 1
    · skip
      have hmv := hmvok (.inl h1)
      have HMV := hide (move_load g ⟨cpad, cmem, (some ⟨ib, io, none⟩), ml, mc, ka, kl, kc⟩ mv mk B _ x X H3.out h1 hmv)
      unfold In.w at HMV
      have HD := hide h1
      rw [h1] at t0 HMV
      clear hmv h1
      go_wp2_with (go_at_call 42; refine HMV.out.mono ?_; rintro e w9 ⟨rfl, h9, hw9⟩; have H9 := hide h9; have HW9 := hide hw9; clear h9 hw9)
      go_end0
      refine ⟨rfl, ?_, ?_⟩
      · have h9 := H9.out
        have e : ({ s with pad := doP x s.pad s.mem, i := k + 1 } : Mac) = stA mv s := by
          unfold stA
          rw [HK.out, HX.out]
          simp only [Mac.mk.injEq, and_true, true_and]
          refine ⟨?_, ?_⟩
          · unfold doMm; rw [if_neg (by rw [HD.out]; simp)]
          · funext q
            unfold dlS
            rw [HD.out]
            simp
        rw [← e]
        exact h9
      · exact (HW3.out.mono (fun b h => .inl h)).trans (HW9.out.mono (fun b h => .inr (.inl h)))
    have h2 : x.d = 2 := by omega
    have hmv := hmvok (.inr h2)
    have HMV := hide (move_store g ⟨cpad, cmem, (some ⟨ib, io, none⟩), ml, mc, ka, kl, kc⟩ mv mk B _ x X H3.out h2 hmv)
    unfold In.w at HMV
    have HD := hide h2
    rw [h2] at t0 HMV
    clear hmv h2
    go_wp2_with (go_at_call 42; refine HMV.out.mono ?_; rintro e w9 ⟨rfl, h9, hw9⟩; have H9 := hide h9; have HW9 := hide hw9; clear h9 hw9)
    go_end0
    refine ⟨rfl, ?_, ?_⟩
    · have h9 := H9.out
      have e : ({ s with mem := doMm x s.pad s.mem, i := k + 1 } : Mac) = stA mv s := by
        unfold stA
        rw [HK.out, HX.out]
        simp only [Mac.mk.injEq, and_true, true_and]
        refine ⟨?_, ?_⟩
        · funext w; exact (doP_off (by rw [wr_none (.inl HD.out)]; simp)).symm
        · funext q
          unfold dlS
          rw [HD.out]
          simp
      rw [← e]
      exact h9
    · exact (HW3.out.mono (fun b h => .inl h)).trans (HW9.out.mono (fun b h => .inr (.inr h)))
set_option maxRecDepth 20000 in
set_option maxHeartbeats 8000000 in
theorem step_B (g : Nat) (c : CV) (mv mk : List In) (B : MbK) (s : Mac) (k : Nat) (x : In) (wr : World) (h : MchAt wr g c mv mk B s) (hk : s.j = k) (hkl : k < mk.length) (hx : getI mk k = x) (hk9 : k ≤ 262144) (hsem : x.d = 3 ∨ x.d = 4 → 0 ≤ x.a ∧ x.a < 16) (hsm : ∀ q, -1000000 ≤ s.sem q ∧ s.sem q ≤ 1000000) (hnd : x.d ≠ 1 ∧ x.d ≠ 2) (hrk : x.d ≠ 3 ∧ x.d ≠ 4 → ∀ (V : World) (s' : Mac), MchAt V g c mv mk B s' → s'.pad = s.pad → Calls Tryz.prog 45 #[.pointer (some ⟨g, 0, none⟩), x.w] V fun e w' => e = .returned (.tuple #[]) ∧ MchAt w' g c mv mk B { s' with pad := doP x s'.pad s'.mem } ∧ WrB (fun b => b = B.gp) V w') :
    Calls Tryz.prog 26 #[.pointer (some ⟨g, 0, none⟩), .int .i64 1] wr fun e w' => e = .returned (.tuple #[]) ∧ MchAt w' g c mv mk B (stB mk s) ∧ WrB (fun b => b = g ∨ b = B.gp ∨ b = B.gm) wr w' := by
  obtain ⟨cpad, cmem, ma, ml, mc, ka, kl, kc⟩ := c
  have gz := h.lt
  have m0 := h.cell (k := 0) (by decide)
  have m1 := h.cell (k := 1) (by decide)
  have m2 := h.cell (k := 2) (by decide)
  have m3 := h.cell (k := 3) (by decide)
  have mD := h.cell (k := 23) (by decide)
  simp [mchV] at m0 m1 m2 m3 mD
  rw [hk] at mD
  have hll : mk.length = kl := h.mks.1
  have hkn : k < kl := by omega
  obtain ⟨ib, io, hia, hat⟩ : ∃ b off, ka = some ⟨b, off, none⟩ ∧ ∀ j, j < kl → InAt wr b (off + j * 6) (mk[j]?.getD inD) := by
    rcases h.mks.2.2 with h0 | h0
    · simp only at h0; omega
    · exact h0
  subst hia
  obtain ⟨x0, x1, x2, x3, x4, x5⟩ := hat k hkn
  rw [show mk[k]?.getD inD = x from hx] at x0 x1 x2 x3 x4 x5
  have xz := lt_of_cell x0
  have hkz : (k : Int) < (kl : Int) := by omega
  have hk0 : (0 : Int) ≤ (k : Int) := by omega
  have H := hide h
  have HK := hide hk
  have HX := hide hx
  clear h hat hx hk hll hkl
  go_enter Tryz.func26, Tryz.ntmps26
  go_upto_region 0 with fail
  refine region_made 16 18 [fIs (.pointer (some ⟨g, 0, none⟩)), fIs (.pointer (some ⟨g, 0, none⟩)), fIs (.pointer (some ⟨g, 0, none⟩)), fIs (.agg #[.int .i64 cpad, .int .i64 cmem, .slice ma ml mc, .slice (some ⟨ib, io, none⟩) kl kc]), fIs (.agg #[.slice ma ml mc, .slice (some ⟨ib, io, none⟩) kl kc]), fIs (.int .i64 1), fIs (.slice (some ⟨ib, io, none⟩) kl kc), fIs (.pointer (some ⟨g, 0, none⟩)), fIs (.int .i64 1), fIs (.pointer (some ⟨g, 0, none⟩)), fIs (.pointer (some ⟨g, 22, none⟩)), fIs (.pointer (some ⟨g, 23, none⟩)), fIs (.int .i64 (k : Int)), fIs (.pointer (some ⟨ib, io + k * 6, none⟩)), fIs (.agg #[.int .i64 x.d, .int .i64 x.a, .int .i64 x.b, .int .i64 x.c, .int .i64 x.n, .int .i64 x.v]), fBxN wr.heap.size] (by kernel_rfl) (by kernel_rfl) (by kernel_rfl) (fun _ ⟨_, _⟩ ⟨_, _⟩ _ e h => by cases e; exact h) ⟨fIs_good _, fIs_good _, fIs_good _, fIs_good _, fIs_good _, fIs_good _, fIs_good _, fIs_good _, fIs_good _, fIs_good _, fIs_good _, fIs_good _, fIs_good _, fIs_good _, fIs_good _, fBxN_good _, trivial⟩ ?mk ?rest
  case mk =>
    refine ⟨fun u wz hb hd => ?_, fun u wz hb hd => ?_, fun u wz hb hd => ?_, fun u wz hb hd => ?_, fun u wz hb hd => ?_, fun u wz hb hd => ?_, fun u wz hb hd => ?_, fun u wz hb hd => ?_, fun u wz hb hd => ?_, fun u wz hb hd => ?_, fun u wz hb hd => ?_, fun u wz hb hd => ?_, fun u wz hb hd => ?_, fun u wz hb hd => ?_, fun u wz hb hd => ?_, fun u wz hb hd => ?_, trivial⟩
    all_goals simp only [Act.put, List.setIfInBounds_toArray, List.set_cons_zero, List.set_cons_succ]
    · go_simp
      exact ⟨rfl, Below.refl _ _, fun h => by cases h⟩
    · have e0 : u 0 = .pointer (some ⟨g, 0, none⟩) := hd 0 (by omega) (by kernel_rfl)
      rw [e0]
      have gz' : g < wz.heap.size := Nat.lt_of_lt_of_le gz hb.size
      go_simp
      exact ⟨rfl, Below.refl _ _, fun h => by cases h⟩
    · have e1 : u 1 = .pointer (some ⟨g, 0, none⟩) := hd 1 (by omega) (by kernel_rfl)
      rw [e1]
      go_simp
      exact ⟨rfl, Below.refl _ _, fun h => by cases h⟩
    · have e2 : u 2 = .pointer (some ⟨g, 0, none⟩) := hd 2 (by omega) (by kernel_rfl)
      rw [e2]
      have m0' := (hb.cell (p := ⟨g, 0, none⟩) (lt_of_cell m0)).trans m0
      have m1' := (hb.cell (p := ⟨g, 1, none⟩) (lt_of_cell m1)).trans m1
      have m2' := (hb.cell (p := ⟨g, 2, none⟩) (lt_of_cell m2)).trans m2
      have m3' := (hb.cell (p := ⟨g, 3, none⟩) (lt_of_cell m3)).trans m3
      have gz' : g < wz.heap.size := Nat.lt_of_lt_of_le gz hb.size
      go_simp
      exact ⟨rfl, Below.refl _ _, fun h => by cases h⟩
    · have e3 : u 3 = .agg #[.int .i64 cpad, .int .i64 cmem, .slice ma ml mc, .slice (some ⟨ib, io, none⟩) kl kc] := hd 3 (by omega) (by kernel_rfl)
      rw [e3]
      go_simp
      have he := engines_any ⟨cpad, cmem, ma, ml, mc, (some ⟨ib, io, none⟩), kl, kc⟩ wz
      unfold CV.v at he
      simp only at he
      refine he.mono ?_
      rintro e w2 ⟨rfl, hb2⟩
      exact ⟨rfl, hb2, fun h => by cases h⟩
    · go_simp
      exact ⟨rfl, Below.refl _ _, fun h => by cases h⟩
    · have e4 : u 4 = .agg #[.slice ma ml mc, .slice (some ⟨ib, io, none⟩) kl kc] := hd 4 (by omega) (by kernel_rfl)
      have e5 : u 5 = .int .i64 1 := hd 5 (by omega) (by kernel_rfl)
      rw [e4, e5]
      have hix := idx2_1 (.slice ma ml mc) (.slice (some ⟨ib, io, none⟩) kl kc)
      go_simp
      exact ⟨rfl, Below.refl _ _, fun h => by cases h⟩
    · go_simp
      exact ⟨rfl, Below.refl _ _, fun h => by cases h⟩
    · go_simp
      exact ⟨rfl, Below.refl _ _, fun h => by cases h⟩
    · have e7 : u 7 = .pointer (some ⟨g, 0, none⟩) := hd 7 (by omega) (by kernel_rfl)
      rw [e7]
      have gz' : g < wz.heap.size := Nat.lt_of_lt_of_le gz hb.size
      go_simp
      exact ⟨rfl, Below.refl _ _, fun h => by cases h⟩
    · have e9 : u 9 = .pointer (some ⟨g, 0, none⟩) := hd 9 (by omega) (by kernel_rfl)
      rw [e9]
      go_simp
      exact ⟨rfl, Below.refl _ _, fun h => by cases h⟩
    · have e10 : u 10 = .pointer (some ⟨g, 22, none⟩) := hd 10 (by omega) (by kernel_rfl)
      have e8 : u 8 = .int .i64 1 := hd 8 (by omega) (by kernel_rfl)
      rw [e10, e8]
      go_simp
      exact ⟨rfl, Below.refl _ _, fun h => by cases h⟩
    · have e11 : u 11 = .pointer (some ⟨g, 23, none⟩) := hd 11 (by omega) (by kernel_rfl)
      rw [e11]
      have mD' := (hb.cell (p := ⟨g, 23, none⟩) (lt_of_cell mD)).trans mD
      go_simp
      exact ⟨rfl, Below.refl _ _, fun h => by cases h⟩
    · have e6 : u 6 = .slice (some ⟨ib, io, none⟩) kl kc := hd 6 (by omega) (by kernel_rfl)
      have e12 : u 12 = .int .i64 (k : Int) := hd 12 (by omega) (by kernel_rfl)
      rw [e6, e12]
      go_simp
      exact ⟨rfl, Below.refl _ _, fun h => by cases h⟩
    · have e13 : u 13 = .pointer (some ⟨ib, io + k * 6, none⟩) := hd 13 (by omega) (by kernel_rfl)
      rw [e13]
      have x0' := (hb.cell (p := ⟨ib, io + k * 6, none⟩) (lt_of_cell x0)).trans x0
      have x1' := (hb.cell (p := ⟨ib, io + k * 6 + 1, none⟩) (lt_of_cell x1)).trans x1
      have x2' := (hb.cell (p := ⟨ib, io + k * 6 + 2, none⟩) (lt_of_cell x2)).trans x2
      have x3' := (hb.cell (p := ⟨ib, io + k * 6 + 3, none⟩) (lt_of_cell x3)).trans x3
      have x4' := (hb.cell (p := ⟨ib, io + k * 6 + 4, none⟩) (lt_of_cell x4)).trans x4
      have x5' := (hb.cell (p := ⟨ib, io + k * 6 + 5, none⟩) (lt_of_cell x5)).trans x5
      have xz' : ib < wz.heap.size := Nat.lt_of_lt_of_le xz hb.size
      go_simp
      exact ⟨rfl, Below.refl _ _, fun h => by cases h⟩
    · go_simp
      exact ⟨⟨_, rfl, hb.size, World.alloc_heap_new _ _⟩, bl_new _, fun h => by cases h⟩
  case rest =>
    intro u wz hb hf hp
    have f0 : u 0 = .pointer (some ⟨g, 0, none⟩) := hf 0 (by omega)
    have f1 : u 1 = .pointer (some ⟨g, 0, none⟩) := hf 1 (by omega)
    have f2 : u 2 = .pointer (some ⟨g, 0, none⟩) := hf 2 (by omega)
    have f3 : u 3 = .agg #[.int .i64 cpad, .int .i64 cmem, .slice ma ml mc, .slice (some ⟨ib, io, none⟩) kl kc] := hf 3 (by omega)
    have f4 : u 4 = .agg #[.slice ma ml mc, .slice (some ⟨ib, io, none⟩) kl kc] := hf 4 (by omega)
    have f5 : u 5 = .int .i64 1 := hf 5 (by omega)
    have f6 : u 6 = .slice (some ⟨ib, io, none⟩) kl kc := hf 6 (by omega)
    have f7 : u 7 = .pointer (some ⟨g, 0, none⟩) := hf 7 (by omega)
    have f8 : u 8 = .int .i64 1 := hf 8 (by omega)
    have f9 : u 9 = .pointer (some ⟨g, 0, none⟩) := hf 9 (by omega)
    have f10 : u 10 = .pointer (some ⟨g, 22, none⟩) := hf 10 (by omega)
    have f11 : u 11 = .pointer (some ⟨g, 23, none⟩) := hf 11 (by omega)
    have f12 : u 12 = .int .i64 (k : Int) := hf 12 (by omega)
    have f13 : u 13 = .pointer (some ⟨ib, io + k * 6, none⟩) := hf 13 (by omega)
    have f14 : u 14 = .agg #[.int .i64 x.d, .int .i64 x.a, .int .i64 x.b, .int .i64 x.c, .int .i64 x.n, .int .i64 x.v] := hf 14 (by omega)
    obtain ⟨tb, f15, hNB, hTB⟩ := hf 15 (by omega)
    refine UptoW.rest 1 16 (by rfl) (by kernel_rfl) ?_
    simp only [List.take, List.drop, putOps, Act.put, List.setIfInBounds_toArray, List.set_cons_zero, List.set_cons_succ, Nat.reduceAdd, f0, f1, f2, f3, f4, f5, f6, f7, f8, f9, f10, f11, f12, f13, f14, f15]
    clear f0 f1 f2 f3 f4 f5 f6 f7 f8 f9 f10 f11 f12 f13 f14 f15 hf hp
    have HBZ := hide hb
    have tz := (Array.getElem?_eq_some_iff.1 hTB).1
    have HTB := hide hTB
    have y0 : wz.cell? ⟨tb, 0, none⟩ = some (.int .i64 0) := by simp only [World.cell?, hTB]; rfl
    have y1 : wz.cell? ⟨tb, 1, none⟩ = some (.int .i64 0) := by simp only [World.cell?, hTB]; rfl
    have y2 : wz.cell? ⟨tb, 2, none⟩ = some (.int .i64 0) := by simp only [World.cell?, hTB]; rfl
    have y3 : wz.cell? ⟨tb, 3, none⟩ = some (.int .i64 0) := by simp only [World.cell?, hTB]; rfl
    have y4 : wz.cell? ⟨tb, 4, none⟩ = some (.int .i64 0) := by simp only [World.cell?, hTB]; rfl
    have y5 : wz.cell? ⟨tb, 5, none⟩ = some (.int .i64 0) := by simp only [World.cell?, hTB]; rfl
    have yf : ∀ q, wz.frozen? ⟨tb, q, none⟩ = false := fun q => by simp [World.frozen?, hTB]
    clear hb hTB
    go_upto_region 1 with fail
    obtain ⟨U, hU⟩ : ∃ U, U = (((((wz.setCell ⟨tb, 0, none⟩ (.int .i64 x.d)).setCell ⟨tb, 1, none⟩ (.int .i64 x.a)).setCell ⟨tb, 2, none⟩ (.int .i64 x.b)).setCell ⟨tb, 3, none⟩ (.int .i64 x.c)).setCell ⟨tb, 4, none⟩ (.int .i64 x.n)).setCell ⟨tb, 5, none⟩ (.int .i64 x.v) := ⟨_, rfl⟩
    rw [← hU]
    have hT2 : U.heap[tb]? = some (.cells #[.int .i64 x.d, .int .i64 x.a, .int .i64 x.b, .int .i64 x.c, .int .i64 x.n, .int .i64 x.v] 50 (0, 0)) := by rw [hU]; simp [World.setCell, Array.getElem?_modify, HTB.out]
    have hBU : Below wr.heap.size wr U := by
      rw [hU]
      exact (((((HBZ.out.setCell hNB _).setCell hNB _).setCell hNB _).setCell hNB _).setCell hNB _).setCell hNB _
    have h2 := H.out.below hBU
    have gU := h2.lt
    have mU := h2.cell (k := 23) (by decide)
    simp [mchV] at mU
    rw [HK.out] at mU
    have mF := h2.frozen 23
    have HBU := hide hBU
    have HT2 := hide hT2
    have H2 := hide h2
    clear hU hT2 hBU h2 y0 y1 y2 y3 y4 y5 yf tz m0 m1 m2 m3 mD x0 x1 x2 x3 x4 x5
    go_region
    go_upto_region 2 with fail
    obtain ⟨X, hX⟩ : ∃ X, X = (U.setCell ⟨g, 23, none⟩ (.int .i64 ((k : Int) + 1))).drew := ⟨_, rfl⟩
    rw [← hX]
    have h3 : MchAt X g ⟨cpad, cmem, ma, ml, mc, (some ⟨ib, io, none⟩), kl, kc⟩ mv mk B { s with j := k + 1 } := by
      rw [hX]
      have h9 := H2.out.incJ
      rw [HK.out] at h9
      exact h9.below (drew_below _)
    have hW3 : WrB (fun b => b = g) wr X := by
      rw [hX]
      exact ((WrB.of (F := fun b => b = g) HBU.out).set (a := ⟨g, 23, none⟩) rfl _).trans (WrB.of (drew_below _))
    have hgt : tb ≠ g := fun e => by
      have h9 := H.out.lt
      omega
    have hT3 : X.heap[tb]? = some (.cells #[.int .i64 x.d, .int .i64 x.a, .int .i64 x.b, .int .i64 x.c, .int .i64 x.n, .int .i64 x.v] 50 (0, 0)) := by
      rw [hX]
      exact (Below.heap_setCell U ⟨g, 23, none⟩ _ tb hgt).trans HT2.out
    have t0 : X.cell? ⟨tb, 0, none⟩ = some (.int .i64 x.d) := by simp only [World.cell?, hT3]; rfl
    have t1 : X.cell? ⟨tb, 1, none⟩ = some (.int .i64 x.a) := by simp only [World.cell?, hT3]; rfl
    have t2 : X.cell? ⟨tb, 2, none⟩ = some (.int .i64 x.b) := by simp only [World.cell?, hT3]; rfl
    have t3 : X.cell? ⟨tb, 3, none⟩ = some (.int .i64 x.c) := by simp only [World.cell?, hT3]; rfl
    have t4 : X.cell? ⟨tb, 4, none⟩ = some (.int .i64 x.n) := by simp only [World.cell?, hT3]; rfl
    have t5 : X.cell? ⟨tb, 5, none⟩ = some (.int .i64 x.v) := by simp only [World.cell?, hT3]; rfl
    have tz := (Array.getElem?_eq_some_iff.1 hT3).1
    have gX := h3.lt
    have H3 := hide h3
    have HW3 := hide hW3
    clear hX h3 hW3 hT3 mU mF gU
    by_cases h3 : x.d = 3
    · skip
      have hs := hsem (.inl h3)
      obtain ⟨an, han⟩ : ∃ an : Nat, x.a = (an : Int) := ⟨x.a.toNat, by omega⟩
      have a17 : an < 16 := by omega
      have a16 : (an : Int) < 16 := by omega
      have a0 : (0 : Int) ≤ (an : Int) := by omega
      obtain ⟨sv, hsv⟩ : ∃ sv, sv = s.sem x.a := ⟨_, rfl⟩
      have hsb := hsm x.a
      rw [← hsv] at hsb
      have y := mch_sem H3.out hs.1 hs.2
      rw [show ({ s with j := k + 1 } : Mac).sem x.a = sv from hsv.symm, han] at y
      simp only [Int.toNat_natCast] at y
      have yf := H3.out.frozen (6 + an)
      rw [h3] at t0
      rw [han] at t1
      have HSV := hide hsv
      have HAN := hide han
      have HD := hide h3
      clear hs han hsv h3
      go_upto_region 5 with fail
      go_region
      go_wp2_with fail
      go_end0
      refine ⟨rfl, ?_, ?_⟩
      · have h9 := (H3.out.putSem a17 (sv + 1)).below (drew_below _)
        have e : ({ s with sem := fun q => if q = (an : Int) then sv + 1 else s.sem q, j := k + 1 } : Mac) = stB mk s := by
          have h2 : x.d = 2 ∨ x.d = 3 ∨ x.d = 4 := by rw [HD.out]; simp
          unfold stB
          rw [HK.out, HX.out]
          simp only [Mac.mk.injEq, and_true, true_and]
          refine ⟨?_, ?_, ?_⟩
          · funext w
            exact (doP_off (by rw [wr_none h2]; simp)).symm
          · unfold doMm
            rw [if_neg (by rw [HD.out]; simp)]
          · funext q
            unfold dlS
            rw [HD.out]
            by_cases hq : q = (an : Int)
            · rw [if_pos hq, hq, HSV.out, HAN.out]
              simp <;> omega
            · rw [if_neg hq, HAN.out]
              simp [show ¬ (an : Int) = q from fun h => hq h.symm]
        rw [← e]
        exact h9
      · exact (HW3.out.mono (fun b h => .inl h)).trans (((WrB.refl (fun b => b = g ∨ b = B.gp ∨ b = B.gm) X).set (a := ⟨g, 6 + an, none⟩) (.inl rfl) _).trans (WrB.of (drew_below _)))
    by_cases h4 : x.d = 4
    · skip
      have hs := hsem (.inr h4)
      obtain ⟨an, han⟩ : ∃ an : Nat, x.a = (an : Int) := ⟨x.a.toNat, by omega⟩
      have a17 : an < 16 := by omega
      have a16 : (an : Int) < 16 := by omega
      have a0 : (0 : Int) ≤ (an : Int) := by omega
      obtain ⟨sv, hsv⟩ : ∃ sv, sv = s.sem x.a := ⟨_, rfl⟩
      have hsb := hsm x.a
      rw [← hsv] at hsb
      have y := mch_sem H3.out hs.1 hs.2
      rw [show ({ s with j := k + 1 } : Mac).sem x.a = sv from hsv.symm, han] at y
      simp only [Int.toNat_natCast] at y
      have yf := H3.out.frozen (6 + an)
      rw [h4] at t0
      rw [han] at t1
      have HSV := hide hsv
      have HAN := hide han
      have HD := hide h4
      clear hs han hsv h4
      go_upto_region 7 with fail
      go_region
      go_wp2_with fail
      go_end0
      refine ⟨rfl, ?_, ?_⟩
      · have h9 := (H3.out.putSem a17 (sv - 1)).below (drew_below _)
        have e : ({ s with sem := fun q => if q = (an : Int) then sv - 1 else s.sem q, j := k + 1 } : Mac) = stB mk s := by
          have h2 : x.d = 2 ∨ x.d = 3 ∨ x.d = 4 := by rw [HD.out]; simp
          unfold stB
          rw [HK.out, HX.out]
          simp only [Mac.mk.injEq, and_true, true_and]
          refine ⟨?_, ?_, ?_⟩
          · funext w
            exact (doP_off (by rw [wr_none h2]; simp)).symm
          · unfold doMm
            rw [if_neg (by rw [HD.out]; simp)]
          · funext q
            unfold dlS
            rw [HD.out]
            by_cases hq : q = (an : Int)
            · rw [if_pos hq, hq, HSV.out, HAN.out]
              simp <;> omega
            · rw [if_neg hq, HAN.out]
              simp [show ¬ (an : Int) = q from fun h => hq h.symm]
        rw [← e]
        exact h9
      · exact (HW3.out.mono (fun b h => .inl h)).trans (((WrB.refl (fun b => b = g ∨ b = B.gp ∨ b = B.gm) X).set (a := ⟨g, 6 + an, none⟩) (.inl rfl) _).trans (WrB.of (drew_below _)))
    have HRK := hide (hrk ⟨h3, h4⟩ X _ H3.out rfl)
    unfold In.w at HRK
    obtain ⟨h1, h2⟩ := hnd
    have q3 : (x.d == 3) = false := by simp [h3]
    have q4 : (x.d == 4) = false := by simp [h4]
    have q1 : (x.d == 1) = false := by simp [h1]
    have q2 : (x.d == 2) = false := by simp [h2]
    go_wp2_with (go_at_call 45; refine HRK.out.mono ?_; rintro e w9 ⟨rfl, h9, hw9⟩; have H9 := hide h9; have HW9 := hide hw9; clear h9 hw9)
    go_end0
    refine ⟨rfl, ?_, ?_⟩
    · have h9 := H9.out
      have e : ({ s with pad := doP x s.pad s.mem, j := k + 1 } : Mac) = stB mk s := by
        unfold stB
        rw [HK.out, HX.out]
        simp only [Mac.mk.injEq, and_true, true_and]
        refine ⟨?_, ?_⟩
        · unfold doMm
          rw [if_neg h2]
        · funext q
          unfold dlS
          simp [h3, h4]
      rw [← e]
      exact h9
    · exact (HW3.out.mono (fun b h => .inl h)).trans (HW9.out.mono (fun b h => .inr (.inl h)))
end Go.Proofs.YtoabffmiedbkkaaGreat.V
namespace Go.Proofs.YtoabffmiedbkkaaGreat.V
set_option maxRecDepth 20000
open Go Go.RowKit
set_option linter.unusedVariables false
set_option linter.unusedSimpArgs false

/-- So many words as the code says. -/
structure Fits (c : CV) (B : MbK) : Prop where
  p : (B.p.n : Int) = c.pad
  m : (B.m.n : Int) = c.mem
theorem between {n k c : Int} (h0 : 0 ≤ k) (h1 : k ≤ n) : (0 ≤ c → 0 ≤ k * c ∧ k * c ≤ n * c) ∧ (c ≤ 0 → n * c ≤ k * c ∧ k * c ≤ 0) := by
  refine ⟨fun hc => ⟨Int.mul_nonneg h0 hc, Int.mul_le_mul_of_nonneg_right h1 hc⟩, fun hc => ⟨?_, ?_⟩⟩
  · have := Int.mul_le_mul_of_nonneg_right h1 (show 0 ≤ -c by omega)
    rw [Int.mul_neg, Int.mul_neg] at this
    omega
  · have := Int.mul_nonneg h0 (show 0 ≤ -c by omega)
    rw [Int.mul_neg] at this
    omega
theorem mv_ok {c : CV} {B : MbK} {x : In} {e : Bool} (hf : Fits c B) (hp : 0 ≤ c.pad ∧ c.pad ≤ 4096) (hm : 0 ≤ c.mem ∧ c.mem ≤ 1048576) (h : insE c.pad c.mem e x = 0) (hd : x.d = 1 ∨ x.d = 2) : MvOk x B := by
  unfold insE at h
  by_cases h1 : hasV e x.d = false
  · rw [if_pos h1] at h; omega
  rw [if_neg h1, if_neg (by omega)] at h
  by_cases h2 : x.n < 0 ∨ 4096 < x.n ∨ farV x.a = true ∨ farV x.b = true ∨ farV x.c = true
  · rw [if_pos h2] at h; omega
  rw [if_neg h2] at h
  by_cases h3 : tchIn (tchV x) c.pad = false ∨ findV c.mem x = false
  · rw [if_pos h3] at h; omega
  simp only [not_or, Bool.not_eq_true, Bool.not_eq_false] at h2 h3
  obtain ⟨n1, n2, fa, fb, fc⟩ := h2
  obtain ⟨t1, t2⟩ := h3
  have far : ∀ v : Int, farV v = false → -1048576 ≤ v ∧ v ≤ 1048576 := fun v hv => by
    unfold farV at hv
    simp only [Bool.or_eq_false_iff, decide_eq_false_iff_not] at hv
    omega
  have hfp := hf.p
  have hfm := hf.m
  have hin : inBk ⟨x.a, x.n⟩ c.pad = true := by
    unfold tchIn tchV at t1
    rw [if_neg (by omega)] at t1
    rcases hd with hd | hd
    · rw [if_pos (.inl hd)] at t1
      simp only [Bool.and_eq_true] at t1
      exact t1.2
    · rw [if_neg (by omega), if_pos hd] at t1
      simp only [Bool.and_eq_true] at t1
      exact t1.1.1.1
  refine ⟨by omega, fun h0 => ?_, fun k hk => ?_, far _ fa, far _ fb, far _ fc, by omega, by omega⟩
  · unfold inBk at hin
    simp only [Bool.or_eq_true, Bool.and_eq_true, decide_eq_true_eq] at hin
    omega
  · unfold findV at t2
    rw [if_neg (by omega)] at t2
    simp only [Bool.and_eq_true, decide_eq_true_eq] at t2
    obtain ⟨⟨⟨e1, e2⟩, e3⟩, e4⟩ := t2
    obtain ⟨p1, p2⟩ := between (n := x.n - 1) (k := (k : Int)) (c := x.c) (by omega) (by omega)
    by_cases hc : 0 ≤ x.c
    · have := p1 hc
      omega
    · have := p2 (by omega)
      omega
theorem MacI.bd {mv mk : List In} {s : Mac} (h : MacI mv mk s) (h1 : mv.length ≤ 262144) (h2 : mk.length ≤ 262144) (q : Int) : -1000000 ≤ s.sem q ∧ s.sem q ≤ 1000000 := by
  have wl : ∀ (l : List In) (j : Nat), waitsTo l q j ≤ j := by
    intro l j
    induction j with
    | zero => exact Nat.le_refl _
    | succ j ih => unfold waitsTo; split <;> omega
  have a1 := postsTo_len mv q s.i
  have a2 := postsTo_len mk q s.j
  have a3 := wl mv s.i
  have a4 := wl mk s.j
  have a5 := h.i
  have a6 := h.j
  have a7 := h.sem q
  unfold pcN at a7
  omega
/-- What is left alone. -/
theorem MchAt.alone {W V : World} {F : Nat → Prop} {g : Nat} {c : CV} {mv mk : List In} {B : MbK} {s : Mac} (h : MchAt W g c mv mk B s) (hw : WrB F W V) (hg : ¬ F g) (hp : ¬ F B.gp) (hm : ¬ F B.gm) (hi : ∀ b off, (c.ma = some ⟨b, off, none⟩ ∧ 0 < c.ml) ∨ (c.ka = some ⟨b, off, none⟩ ∧ 0 < c.kl) → ¬ F b ∧ b < W.heap.size) : MchAt V g c mv mk B s := by
  obtain ⟨cur, h1, h2, h3⟩ := h.blk
  exact ⟨⟨cur, (hw.2.2 g h.lt hg).trans h1, h2, h3⟩, h.mvs.keep (fun b off e h0 => hw.2.2 b (hi b off (.inl ⟨e, h0⟩)).2 (hi b off (.inl ⟨e, h0⟩)).1), h.mks.keep (fun b off e h0 => hw.2.2 b (hi b off (.inr ⟨e, h0⟩)).2 (hi b off (.inr ⟨e, h0⟩)).1), h.pad.keep (fun h0 => hw.2.2 _ (h.pad.lt h0) hp), h.mem.keep (fun h0 => hw.2.2 _ (h.mem.lt h0) hm), h.ne, h.far⟩
theorem TurnAt.alone {W V : World} {F : Nat → Prop} {b1 b2 : Nat} {xa : Option Addr} {xl xc : Nat} {ps : List Int} {t : Nat} (h : TurnAt W b1 b2 xa xl xc ps t) (hw : WrB F W V) (h1 : ¬ F b1) (h2 : ¬ F b2) (hx : ∀ b off, xa = some ⟨b, off, none⟩ → 0 < xl → ¬ F b ∧ b < W.heap.size) : TurnAt V b1 b2 xa xl xc ps t := by
  obtain ⟨k1, k2, k3, k4⟩ := h
  refine ⟨(hw.2.2 b1 (Array.getElem?_eq_some_iff.1 k1).1 h1).trans k1, (hw.2.2 b2 (Array.getElem?_eq_some_iff.1 k2).1 h2).trans k2, ?_, k4⟩
  obtain ⟨i1, i2, i3, i4⟩ := k3
  refine ⟨i1, i2, i3, i4.imp id fun ⟨b, off, e, hc⟩ => ⟨b, off, e, fun j hj => ?_⟩⟩
  have hx' := hx b off e (by omega)
  rw [World.cell?_of_block (hw.2.2 b hx'.2 hx'.1)]
  exact hc j hj
/-- One step of the run. -/
theorem run_a {mv mk : List In} {ps : List Int} {F t t' : Nat} {s : Mac} (hF : leftC mv mk s ≤ F) (ga : goI mv s.i s.sem = true) (h : (goI mk s.j s.sem = true ∧ pickB ps t = true ∧ t' = t + 1) ∨ (goI mk s.j s.sem = false ∧ t' = t)) : runM mv mk ps F t s = runM mv mk ps F t' (stA mv s) := by
  have hl := go_lt ga
  cases F with
  | zero => unfold leftC at hF; omega
  | succ F =>
    have h1 : leftC mv mk (stA mv s) ≤ F := by
      unfold leftC at hF ⊢
      show (mv.length - (s.i + 1)) + (mk.length - s.j) ≤ F
      omega
    rw [run_more mv mk ps F t' _ h1]
    have e1 : runM mv mk ps (F + 1) t s = if goI mv s.i s.sem = true then
      (if goI mk s.j s.sem = true then (if pickB ps t = true then runM mv mk ps F (t + 1) (stA mv s) else runM mv mk ps F (t + 1) (stB mk s)) else runM mv mk ps F t (stA mv s))
      else (if goI mk s.j s.sem = true then runM mv mk ps F t (stB mk s) else s) := rfl
    rw [e1, if_pos ga]
    rcases h with ⟨gb, p, rfl⟩ | ⟨gb, rfl⟩
    · rw [if_pos gb, if_pos p]
    · rw [if_neg (by rw [gb]; simp)]
theorem run_b {mv mk : List In} {ps : List Int} {F t t' : Nat} {s : Mac} (hF : leftC mv mk s ≤ F) (gb : goI mk s.j s.sem = true) (h : (goI mv s.i s.sem = true ∧ pickB ps t = false ∧ t' = t + 1) ∨ (goI mv s.i s.sem = false ∧ t' = t)) : runM mv mk ps F t s = runM mv mk ps F t' (stB mk s) := by
  have hl := go_lt gb
  cases F with
  | zero => unfold leftC at hF; omega
  | succ F =>
    have h1 : leftC mv mk (stB mk s) ≤ F := by
      unfold leftC at hF ⊢
      show (mv.length - s.i) + (mk.length - (s.j + 1)) ≤ F
      omega
    rw [run_more mv mk ps F t' _ h1]
    have e1 : runM mv mk ps (F + 1) t s = if goI mv s.i s.sem = true then
      (if goI mk s.j s.sem = true then (if pickB ps t = true then runM mv mk ps F (t + 1) (stA mv s) else runM mv mk ps F (t + 1) (stB mk s)) else runM mv mk ps F t (stA mv s))
      else (if goI mk s.j s.sem = true then runM mv mk ps F t (stB mk s) else s) := rfl
    rw [e1]
    rcases h with ⟨ga, p, rfl⟩ | ⟨ga, rfl⟩
    · rw [if_pos ga, if_pos gb, if_neg (by rw [p]; simp)]
    · rw [if_neg (by rw [ga]; simp), if_pos gb]
theorem run_stop {mv mk : List In} {ps : List Int} {F t : Nat} {s : Mac} (ga : goI mv s.i s.sem = false) (gb : goI mk s.j s.sem = false) : runM mv mk ps F t s = s := by
  cases F with
  | zero => rfl
  | succ F =>
    unfold runM
    rw [if_neg (by rw [ga]; simp), if_neg (by rw [gb]; simp)]
end Go.Proofs.YtoabffmiedbkkaaGreat.V
namespace Go.Proofs.YtoabffmiedbkkaaGreat.V
set_option maxRecDepth 20000
open Go Go.RowKit
set_option linter.unusedVariables false
set_option linter.unusedSimpArgs false

theorem run_append_e {t ty e : TypeId} {i : TypeInfo} {z : Value} {size bytes : Nat} (ht : Tryz.prog.underlying t = some (.slice e)) (hi : Tryz.prog.info? e = some i) (hz : i.zero = some z) (hsize : i.size = size) (hby : i.bytes = bytes) (hzs : z.cells.size = size) (hsz : 0 < size)
    (W : World) (B : Nat) (X : Option Addr) (m c : Nat) (news : List Value) (hl : news.length = m * size) (hX : 0 < m → ∃ ad, X = some ad ∧ ∀ j u, news[j]? = some u → W.cell? (ad.add j) = some u) (h63 : m ≤ maxLen) (hbytes : m * bytes ≤ 140737488355328) :
    ∃ g cap w', (Builtin.append_ #[t, t] ty #[.slice (some ⟨B, 0, none⟩) 0 0, .slice X m c]).run Tryz.prog W = .ok (.slice (some ⟨g, 0, none⟩) m cap) w' ∧ m ≤ cap ∧ Below W.heap.size W w' ∧ (0 < m → W.heap.size ≤ g ∧ ∃ cur, w'.heap[g]? = some (.cells cur e (0, 0)) ∧ cap ≤ maxLen ∧ cur.size = cap * size ∧ cur.toList.take (m * size) = news) := by
  by_cases h0 : m = 0
  · subst h0
    refine ⟨B, 0, W, ?_, Nat.le_refl _, Below.refl _ _, fun h => by omega⟩
    cases X with
    | none => simp [Builtin.append_, run_underlying ht, sizeOf, typeInfo, hi, Builtin.lenOf, Builtin.firstCells, storeCells]
    | some ad => exact run_append_room_cells (P := Tryz.prog) W t ty e i ht hi B 0 0 0 ad 0 c [] (by simp) (by simp) (by simp) (by omega) (by simp) (by simp)
  · obtain ⟨ad, rfl, hc⟩ := hX (by omega)
    obtain ⟨v', w', r1, r2, r3⟩ := run_append_arg_grows (P := Tryz.prog) W t ty e i z size bytes ht hi hz hsize hby hzs hsz ⟨B, 0, none⟩ 0 0 [] (by simp) (fun j u hj => by simp at hj) ad m c news hl hc (by omega) (by omega) (by simpa using hbytes)
    rcases r2.2 with ⟨_, e2⟩ | ⟨g, cap, cur, e1, e2, e3, e4, e5, e6, e7⟩
    · omega
    · subst e1
      simp only [Nat.zero_add, List.nil_append] at r1 e4 e7
      exact ⟨g, cap, w', r1, e4, (Below.refl _ W).grown r3 (Nat.le_refl _) (fun k hk => by cases hk), fun _ => ⟨e2, cur, e3, e5, e6, e7⟩⟩
theorem words_e (ty : TypeId) (W : World) (B : Nat) (X : Option Addr) (m c : Nat) (f : Int → Int) (hX : 0 < m → ∃ b off, X = some ⟨b, off, none⟩ ∧ ∀ k, k < m → W.cell? ⟨b, off + k, none⟩ = some (.int .i64 (f (k : Int)))) (hm : m ≤ 1048576) :
    ∃ (g cap : Nat) (w' : World), (Builtin.append_ #[25, 25] ty #[.slice (some ⟨B, 0, none⟩) 0 0, .slice X m c]).run Tryz.prog W = .ok (.slice (some ⟨g, 0, none⟩) m cap) w' ∧ WrdAt w' ⟨some ⟨g, 0, none⟩, m, cap⟩ g 0 f ∧ (0 < m → W.heap.size ≤ g) ∧ Below W.heap.size W w' := by
  have hi0 : (Tryz.prog.info? 2).map (fun i => (i.zero, i.size, i.bytes)) = some (some (.int .i64 0), 1, 8) := by kernel_rfl
  obtain ⟨i0, hi, hz⟩ := Option.map_eq_some_iff.1 hi0
  simp only [Prod.mk.injEq] at hz
  obtain ⟨hz0, hz1, hz2⟩ := hz
  obtain ⟨news, hnews⟩ : ∃ l : List Value, l = (List.range m).map (fun k : Nat => Value.int .i64 (f (k : Int))) := ⟨_, rfl⟩
  have hnl : news.length = m := by rw [hnews]; simp
  have hna : ∀ j, j < m → news[j]? = some (.int .i64 (f (j : Int))) := fun j hj => by rw [hnews]; simp [hj]
  obtain ⟨g, cap, w', h1, h2, h3, h4⟩ := run_append_e (t := 25) (ty := ty) Tryz.underlying25 hi hz0 hz1 hz2 rfl (by decide) W B X m c news (by rw [hnl, Nat.mul_one]) (fun h0 => by
    obtain ⟨b, off, rfl, hc⟩ := hX h0
    refine ⟨_, rfl, fun j u hj => ?_⟩
    have hjl : j < m := by have := (List.getElem?_eq_some_iff.1 hj).1; omega
    rw [hna j hjl] at hj
    simp only [Option.some.injEq] at hj
    rw [← hj, Go.WideShapes.add_plain]
    exact hc j hjl) (by unfold maxLen; omega) (by omega)
  refine ⟨g, cap, w', h1, ⟨fun _ => rfl, fun h0 => ?_, h2⟩, fun h0 => (h4 h0).1, h3⟩
  obtain ⟨k0, cur, k1, _, k2, k3⟩ := h4 h0
  refine ⟨cur, k1, fun k hk => ?_⟩
  have e : cur[k]? = news[k]? := by rw [← k3, List.getElem?_take_of_lt (by simp only at hk; omega), Array.getElem?_toList]
  rw [Nat.zero_add, e, hna k hk]
theorem wp_wrd_e {w : World} {o : Oper} {a : Act} {K : Act → World → Prop} {Q : Exit → Act → World → Prop} (s x : Operand) (ho : o.op = .call { callee := .builtin .append, args := #[s, x], argTypes := #[25, 25] })
    (B m c : Nat) (X : Option Addr) (f : Int → Int) (hs : a.eval s = .slice (some ⟨B, 0, none⟩) 0 0) (hx : a.eval x = .slice X m c) (hX : 0 < m → ∃ b off, X = some ⟨b, off, none⟩ ∧ ∀ k, k < m → w.cell? ⟨b, off + k, none⟩ = some (.int .i64 (f (k : Int)))) (hm : m ≤ 1048576)
    (h : ∀ (g cap : Nat) w', WrdAt w' ⟨some ⟨g, 0, none⟩, m, cap⟩ g 0 f → (0 < m → w.heap.size ≤ g) → Below w.heap.size w w' → K (a.put o.dst (.slice (some ⟨g, 0, none⟩) m cap)) w') : o.wp Tryz.prog a w K Q := by
  obtain ⟨g, cap, w', hr, h1, h2, h3⟩ := words_e o.type w B X m c f hX hm
  unfold Oper.wp
  simp [execOp, ho, resolve, invoke, builtin, hs, hx, hr, Result.andThen]
  exact h g cap w' h1 h2 h3
theorem wpl_wrd_e {w : World} {ops : Array Oper} {rest : List Oper} {o : Oper} {a : Act} {Q : Exit → Act → World → Prop} (hgd : o.guard = none) (s x : Operand) (ho : o.op = .call { callee := .builtin .append, args := #[s, x], argTypes := #[25, 25] })
    (B m c : Nat) (X : Option Addr) (f : Int → Int) (hs : a.eval s = .slice (some ⟨B, 0, none⟩) 0 0) (hx : a.eval x = .slice X m c) (hX : 0 < m → ∃ b off, X = some ⟨b, off, none⟩ ∧ ∀ k, k < m → w.cell? ⟨b, off + k, none⟩ = some (.int .i64 (f (k : Int)))) (hm : m ≤ 1048576)
    (h : ∀ (g cap : Nat) w', Hid (WrdAt w' ⟨some ⟨g, 0, none⟩, m, cap⟩ g 0 f) → Hid (0 < m → w.heap.size ≤ g) → Hid (Below w.heap.size w w') → wpList Tryz.prog ops Q rest (a.put o.dst (.slice (some ⟨g, 0, none⟩) m cap)) w') : wpList Tryz.prog ops Q (o :: rest) a w := by
  refine wpList_plain hgd fun K hK => ?_
  exact wp_wrd_e s x ho B m c X f hs hx hX hm fun g cap w' h1 h2 h3 => hK _ _ (h g cap w' h1 h2 h3)
end Go.Proofs.YtoabffmiedbkkaaGreat.V
namespace Go.Proofs.YtoabffmiedbkkaaGreat.V
set_option maxRecDepth 20000
open Go Go.RowKit
set_option linter.unusedVariables false
set_option linter.unusedSimpArgs false

/-- Lists of words. -/
def LsA (W : World) (a : Option Addr) (len : Nat) (xss : List (List Int)) : Prop := xss.length = len ∧ len ≤ 9223372036854775807 ∧ (len = 0 ∨ ∃ b off, a = some ⟨b, off, none⟩ ∧ ∀ i, i < len → ∃ X m c, W.cell? ⟨b, off + i, none⟩ = some (.slice X m c) ∧ Ints W X m (xss[i]?.getD []) ∧ m ≤ c)
theorem LsA.below {W V : World} {a : Option Addr} {len : Nat} {xss : List (List Int)} (h : LsA W a len xss) (hb : Below W.heap.size W V) : LsA V a len xss := by
  refine ⟨h.1, h.2.1, h.2.2.imp id fun ⟨b, off, e, hc⟩ => ⟨b, off, e, fun i hi => ?_⟩⟩
  obtain ⟨X, m, c, h1, h2, h3⟩ := hc i hi
  exact ⟨X, m, c, (hb.cell (p := ⟨b, off + i, none⟩) (lt_of_cell h1)).trans h1, h2.below hb, h3⟩
theorem LsA.at {W : World} {a : Option Addr} {len : Nat} {xss : List (List Int)} (h : LsA W a len xss) (h0 : 0 < len) : ∃ b off, a = some ⟨b, off, none⟩ ∧ ∀ i, i < len → ∃ X m c, W.cell? ⟨b, off + i, none⟩ = some (.slice X m c) ∧ Ints W X m (xss[i]?.getD []) ∧ m ≤ c := by
  rcases h.2.2 with e | h
  · omega
  · exact h
set_option maxRecDepth 100000 in
set_option maxHeartbeats 4000000 in
theorem sameMem_eq (a : Option Addr) (cap : Nat) (a' : Option Addr) (cap' : Nat) (len : Nat) (M : List (List Int)) (w : World) (h : LsA w a len M) (h' : LsA w a' len M) :
    Calls Tryz.prog 18 #[.slice a len cap, .slice a' len cap'] w fun e w' => e = .returned (.bool true) ∧ ∃ n, w' = w.drewN n := by
  have hm := h.2.1
  have H := hide h
  have H' := hide h'
  have q0 : ((len : Int) != (len : Int)) = false := by simp
  clear h h'
  go_enter Tryz.func18, Tryz.ntmps18
  go_wp2_with fail
  go_loopw [14] (fun i wr => ∃ k : Nat, k ≤ len ∧ i = .int .i64 k ∧ ∃ n, wr = w.drewN n) (fun i _ => len - (intOf i).toNat)
  case atStart => exact ⟨0, Nat.zero_le _, rfl, 0, rfl⟩
  case round =>
    obtain ⟨k, hk, rfl, nn, rfl⟩ := hrel
    by_cases hlt : k < len
    · obtain ⟨b, off, rfl, hat⟩ := H.out.at (by omega)
      obtain ⟨x, l, c, c1, c2⟩ := hat k hlt
      obtain ⟨b', off', rfl, hat'⟩ := H'.out.at (by omega)
      obtain ⟨x', l', c', c1', c2'⟩ := hat' k hlt
      obtain rfl : l = l' := by have := c2.1.1; have := c2'.1.1; omega
      have z1 := lt_of_cell c1
      have z1' := lt_of_cell c1'
      simp only at z1 z1'
      have hlm := c2.1.2.1
      have q1 : ((l : Int) != (l : Int)) = false := by simp
      have HX := hide c2.1
      have HX' := hide c2'.1
      have HC1 := hide c1
      have HC1' := hide c1'
      clear hat hat' c2 c2'
      go_wp2_with fail
      go_quiet (fail)
      go_wp2_with fail
      go_loopw [33] (fun i wr => ∃ j : Nat, j ≤ l ∧ i = .int .i64 j ∧ ∃ n, wr = w.drewN n) (fun i _ => l - (intOf i).toNat)
      case atStart => exact ⟨0, Nat.zero_le _, rfl, _, rfl⟩
      case round =>
        obtain ⟨j, hj, rfl, n2, rfl⟩ := hrel
        by_cases hlt2 : j < l
        · obtain ⟨y, yo, rfl, hy, hyc⟩ := HX.out.at (by omega)
          obtain ⟨y', yo', rfl, hy', hyc'⟩ := HX'.out.at (by omega)
          have d1 := hyc j hlt2
          have d1' := hyc' j hlt2
          obtain ⟨V, hV⟩ : ∃ V, V = (M[k]?.getD [])[j]?.getD 0 := ⟨_, rfl⟩
          rw [← hV] at d1 d1'
          have q2 : (V != V) = false := by simp
          clear hyc hyc' hV
          go_wp2_with fail
          go_quiet (fail)
          go_wp2_with fail
          go_roundw
          case rel => exact ⟨j + 1, by omega, by go_num, _, rfl⟩
          case measure => simp [intOf]; omega
        · go_wp2_with fail
          go_roundw
          case rel => exact ⟨k + 1, by omega, by go_num, _, rfl⟩
          case measure => simp [intOf]; omega
    · go_wp2_with fail
      go_ret
      exact ⟨rfl, _, rfl⟩
theorem bl_drewC (w : World) (n : Nat) : Below w.heap.size w (w.drewN n) := ⟨rfl, rfl, rfl, Nat.le_refl _, fun _ _ => rfl⟩
theorem lsA_one {w : World} {g : Nat} {X : Option Addr} {m c : Nat} {xs : List Int} (hc : w.cell? ⟨g, 0, none⟩ = some (.slice X m c)) (h : Ints w X m xs) (hmc : m ≤ c) : LsA w (some ⟨g, 0, none⟩) 1 [xs] := by
  refine ⟨rfl, by omega, .inr ⟨g, 0, rfl, fun i hi => ?_⟩⟩
  have : i = 0 := by omega
  subst this
  exact ⟨X, m, c, hc, h, hmc⟩
set_option maxRecDepth 100000 in
theorem sameW13 (xa : Option Addr) (xn xc : Nat) (ya : Option Addr) (yn yc : Nat) (xs : List Int) (w : World) (hx : Ints w xa xn xs) (hxc : xn ≤ xc) (hy : Ints w ya yn xs) (hyc : yn ≤ yc) :
    Calls Tryz.prog 7 #[.slice xa xn xc, .slice ya yn yc] w fun e w' => e = .returned (.bool true) ∧ Below w.heap.size w w' := by
  have HX := hide hx
  have HY := hide hy
  clear hx hy
  go_enter Tryz.func7, Tryz.ntmps7
  obtain ⟨V, hV⟩ : ∃ V, V = ((w.alloc (.cells #[.slice xa xn xc] 25)).alloc (.cells #[.slice ya yn yc] 25)) := ⟨_, rfl⟩
  have hb1 : Below w.heap.size w V := by rw [hV]; exact (bl_new _).alloc (by simp) _
  have k1 : V.cell? ⟨w.heap.size, 0, none⟩ = some (.slice xa xn xc) := by
    have h8 := ((bl_new (w := w.alloc (.cells #[.slice xa xn xc] 25)) (.cells #[.slice ya yn yc] 25)).block w.heap.size (by simp)).trans (World.alloc_heap_new _ _)
    rw [hV]
    simp only [World.cell?, h8]
    rfl
  have k2 : V.cell? ⟨w.heap.size + 1, 0, none⟩ = some (.slice ya yn yc) := by
    have h8 := World.alloc_heap_new (w.alloc (.cells #[.slice xa xn xc] 25)) (.cells #[.slice ya yn yc] 25)
    rw [show (w.alloc (.cells #[.slice xa xn xc] 25)).heap.size = w.heap.size + 1 by simp] at h8
    rw [hV]
    simp only [World.cell?, h8]
    rfl
  have HB1 := hide hb1
  have HL1 := hide (lsA_one k1 (HX.out.below hb1) hxc)
  have HL2 := hide (lsA_one k2 (HY.out.below hb1) hyc)
  have HV := hide hV
  clear k1 k2 hb1 hV
  go_wp2_with (go_at_call 18; rw [← HV.out]; refine (sameMem_eq _ _ _ _ 1 [xs] _ HL1.out HL2.out).mono ?_; rintro e w1 ⟨rfl, nn, rfl⟩)
  go_ret
  exact ⟨rfl, bl_on HB1.out (bl_drewC _ nn)⟩
end Go.Proofs.YtoabffmiedbkkaaGreat.V
