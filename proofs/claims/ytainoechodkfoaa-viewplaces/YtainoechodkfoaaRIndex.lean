/-
  Contract: adjointref1.Index.
-/
import Derived.Test.YtainoechodkfoaaRPlace
import Derived.Test.YtainoechodkfoaaIndexAny
import Derived.Deep.RegionLaw
import Derived.Deep.AppendLies
namespace Go.Proofs.Ytainoechodkfoaa.V
open Go.RowKit

theorem indexV_take_succ (xs : List Int) (p : Int) (k : Nat) (h : k < xs.length) : ((indexV xs p).take (k + 1)).map (Value.int .i64) = ((indexV xs p).take k).map (Value.int .i64) ++ [.int .i64 (idxV xs p k)] := by
  rw [take_succ_getD (indexV xs p) k (by simpa [indexV] using h), List.map_append]
  simp [indexV, h]

set_option maxRecDepth 100000 in
set_option maxHeartbeats 4000000 in
theorem rindex_ok (a : Option Addr) (len cap : Nat) (xs : List Int) (p : Int) (w : World) (h : Ints w a len xs) (hcap : len ≤ cap) (hE : sizeE xs = 0) (h0 : 0 ≤ p) (h1 : p < sizeN xs) :
    Calls Try.prog 14 #[.slice a len cap, .int .i64 p] w fun e w' => (∃ (g : Nat) (c : Nat), e = .returned (.tuple #[.slice (some ⟨g, 0, none⟩) len c, .int .i64 0]) ∧ Ints w' (some ⟨g, 0, none⟩) len (indexV xs p)) ∧ Below w.heap.size w w' := by
  obtain ⟨hg, hp, hn, hl6⟩ := index_good hE h0 h1
  have hl := h.1
  have hlen : len ≤ 6 := by omega
  have h1' : p ≤ 65536 := by omega
  have hpos : ∀ x ∈ xs, 1 ≤ x := fun x hx => (hg x hx).1
  have hz : (0 : Int) ∉ xs := fun e => by have := hpos 0 e; omega
  have HZ := hide hz
  have H := hide h
  have HE := hide hE
  have HL := hide hl
  have HP := hide hp
  have HPOS := hide hpos
  have HG := hide hg
  clear h hE hl hp hpos hg hl6 hn hz
  obtain ⟨i0, hi, hz0, hz1, hz2⟩ := info_parts info_int
  have HI := hide hi
  have HZ0 := hide hz0
  have HZ1 := hide hz1
  have HZ2 := hide hz2
  clear hi hz0 hz1 hz2
  go_enter Try.func14, Try.ntmps14
  go_wp2_with (first
    | (go_at_call 10; refine (rsize_any _ _ _ xs _ H.out).mono ?_; rintro e w' ⟨rfl, hw'⟩; obtain rfl := hw'.symm; rw [HE.out])
    | (go_at_call 39; refine (rsteps_any _ _ _ xs _ (H.out.below ((Below.refl _ w).alloc (Nat.le_refl _) _)) hcap hlen (fun x hx => ⟨by have := (HG.out x hx).1; omega, (HG.out x hx).2⟩)).mono ?_; rintro e w1 ⟨⟨g1, c1, rfl, hgc, hi1⟩, hb1⟩; have HI1 := hide hi1; have HB1 := hide hb1; clear hi1 hb1))
  go_loopw [8, 30] (fun v i wr => ∃ k : Nat, k ≤ len ∧ i = .int .i64 k ∧ wr.ownsRow w.heap.size 3 1 v k (((indexV xs p).take k).map (Value.int .i64)) ∧ Below w.heap.size w wr ∧ (Ints wr (some ⟨g1, 0, none⟩) len (stepsV xs) ∧ g1 < wr.heap.size) ∧ ∃ g c, v = .slice (some ⟨g, 0, none⟩) k c ∧ g ≠ g1) (fun _ i _ => len - (intOf i).toNat)
  case atStart =>
    have hb := HB1.out
    have hsz := hb.size
    have ho : (w.alloc (.cells #[] 3)).ownsRow w.heap.size 3 1 (.slice (some ⟨w.heap.size, 0, none⟩) 0 0) 0 [] := World.ownsRow_made w #[] 0 (Nat.le_refl _) (by decide) (by simp)
    refine ⟨0, Nat.zero_le _, rfl, ?_, ((Below.refl _ w).alloc (Nat.le_refl _) _).trans (hb.mono (by simp)), ⟨HI1.out, ?_⟩, _, _, rfl, ?_⟩
    · exact own_below ho hb
    · exact hgc.2.2
    · have := hgc.2.1
      simp at this
      omega
  case round =>
    obtain ⟨k, hk, rfl, hown, hB, ⟨hi2, hlt2⟩, g, c, rfl, hgne⟩ := hrel
    have HO := hide hown
    have HB := hide hB
    have HI2 := hide hi2
    clear hown hB hi2
    by_cases hlt : k < len
    · obtain ⟨b, off, rfl, hb, hc⟩ := H.out.at (by omega)
      obtain ⟨b2, off2, hb2, hlb2, hc2⟩ := HI2.out.at (by omega)
      cases hb2
      have hkl : k < xs.length := by rw [HL.out]; exact hlt
      have hck2 := hc2 k hlt
      rw [stepsV_getD HZ.out hkl] at hck2
      rw [Nat.zero_add] at hck2
      have hck : wr.cell? ⟨b, off + k, none⟩ = some (.int .i64 (xs[k]?.getD 0)) := (HB.out.cell (p := ⟨b, off + k, none⟩) hb).trans (hc k hlt)
      have hd := HG.out _ (mem_getD xs k hkl)
      obtain ⟨hd1, hd2⟩ := hd
      have hbh := prod_drop_le xs HPOS.out (k + 1)
      have hb1 : 1 ≤ beh xs k := hbh.1
      have hb2 : beh xs k ≤ 65536 := Int.le_trans hbh.2 HP.out
      have hq1 : 0 ≤ p / beh xs k := Int.ediv_nonneg h0 (by omega)
      have hq2 : p / beh xs k ≤ 65536 := Int.le_trans (Int.ediv_le_self _ h0) h1'
      have hk0 : (0 : Int) ≤ (k : Int) := Int.natCast_nonneg _
      have hk1 : (k : Int) < (len : Int) := by omega
      have HKL := hide hkl
      clear hc hc2 hkl hbh
      have hz1' : ¬ beh xs k = 0 := by omega
      have hz2' : ¬ xs[k]?.getD 0 = 0 := by omega
      have ht1 : IntKind.i64.wrap (p.tdiv (beh xs k)) = p / beh xs k := by
        rw [Int.tdiv_eq_ediv_of_nonneg h0]; exact wrap_in _ (by omega) (by omega)
      have HV : Hid ((p / beh xs k).tmod (xs[k]?.getD 0) = idxV xs p k) := by rw [Hid, Int.tmod_eq_emod_of_nonneg hq1]; rfl
      go_wp2_with fail
      go_region_law ((refine step_append_lies _ (by rfl) _ _ _ (by rfl) w.heap.size 3 i0 _ 1 8 Try.underlying22 HI.out HZ0.out HZ1.out HZ2.out rfl (by omega) _ _ _ (by rfl) ((HO.out.alloc _).drew) ⟨wr.heap.size, 0, none⟩ 1 1 [.int .i64 ((p / beh xs k).tmod (xs[k]?.getD 0))] (by rfl) (by rfl) (World.news_of_block (cs := #[.int .i64 ((p / beh xs k).tmod (xs[k]?.getD 0))]) (t := 3) (fr := (0, 0)) (heap_alloc_new wr _)) (by simp [Value.oneCell']) (by omega) (by unfold maxLen; omega) (by omega) (by have := HB.out.size; simp; omega) (wr.heap.size + 1) (by simp) ?_; intro g' c' w2 hown1 hgrow hat hlt3))
      go_wp2
      go_roundw
      case rel =>
        have hst := indexV_take_succ xs p k HKL.out
        rw [HV.out, ← hst] at hown1
        have hbel := rel_below' HB.out HO.out hgrow
        have hal : Below wr.heap.size wr (wr.alloc (.cells #[.int .i64 ((p / beh xs k).tmod (xs[k]?.getD 0))] 3)).drew := ((Below.refl _ wr).alloc (Nat.le_refl _) _).drew
        have hii := ints_grown (HI2.out.below hal) (by show _ < (wr.alloc _).heap.size; simp; omega) hgrow (by simp [Value.ownBlock]; omega)
        refine ⟨k + 1, by omega, by go_num, hown1, hbel, ⟨hii, ?_⟩, _, _, rfl, ?_⟩
        · have := hgrow.size
          have e : (wr.alloc (.cells #[.int .i64 ((p / beh xs k).tmod (xs[k]?.getD 0))] 3)).drew.heap.size = wr.heap.size + 1 := by show (wr.alloc _).heap.size = _; simp
          omega
        · rcases hat with h | h
          · simp [Value.ownBlock] at h; omega
          · omega
      case measure => simp [intOf]; omega
    · go_wp2
      go_ret2
      obtain rfl : k = len := by omega
      have ho := HO.out
      have ht : (indexV xs p).take k = indexV xs p := List.take_of_length_le (by simp [indexV, HL.out])
      rw [ht] at ho
      refine ⟨⟨_, _, rfl, ints_of_own ho (by simp [indexV, HL.out]) (by omega) (fun y hy => ?_)⟩, HB.out⟩
      simp only [indexV, List.mem_map, List.mem_range] at hy
      obtain ⟨j, hj, rfl⟩ := hy
      have e1 := idxV_bd (p := p) HPOS.out hj
      have e2 := HG.out _ (mem_getD xs j hj)
      omega

set_option maxHeartbeats 1000000 in
theorem rindex_call (a : Option Addr) (len cap : Nat) (xs : List Int) (p : Int) (w : World) (h : Ints w a len xs) (hcap : len ≤ cap) :
    Calls Try.prog 14 #[.slice a len cap, .int .i64 p] w fun e w' => (∃ (b : Option Addr) (n c : Nat), e = .returned (.tuple #[.slice b n c, .int .i64 (indexE xs p)]) ∧ Ints w' b n (indexL xs p)) ∧ Below w.heap.size w w' := by
  by_cases hE : sizeE xs ≠ 0
  · have e1 : indexE xs p = sizeE xs := by simp [indexE, hE]
    have e2 : indexL xs p = [] := by simp [indexL, hE]
    rw [e1, e2]
    have H := hide h
    have hE1 : (sizeE xs != 0) = true := by simp [hE]
    clear h hE e1 e2
    go_enter Try.func14, Try.ntmps14
    go_wp2_with (go_at_call 10; refine (rsize_any _ _ _ xs _ H.out).mono ?_; rintro e w' ⟨rfl, rfl⟩)
    go_ret2
    exact ⟨⟨none, 0, 0, rfl, ints_nil _⟩, Below.refl _ _⟩
  replace hE : sizeE xs = 0 := by simpa using hE
  by_cases hp : p < 0 ∨ sizeN xs ≤ p
  · have e1 : indexE xs p = 4 := by simp only [indexE, hE]; simp [hp]
    have e2 : indexL xs p = [] := by simp only [indexL, hE]; simp [hp]
    rw [e1, e2]
    have H := hide h
    have HE := hide hE
    clear h hE e1 e2
    by_cases hp0 : p < 0
    · clear hp
      go_enter Try.func14, Try.ntmps14
      go_wp2_with (go_at_call 10; refine (rsize_any _ _ _ xs _ H.out).mono ?_; rintro e w' ⟨rfl, rfl⟩; rw [HE.out])
      go_ret2
      exact ⟨⟨none, 0, 0, rfl, ints_nil _⟩, Below.refl _ _⟩
    · have hp1 : sizeN xs ≤ p := by omega
      clear hp
      go_enter Try.func14, Try.ntmps14
      go_wp2_with (go_at_call 10; refine (rsize_any _ _ _ xs _ H.out).mono ?_; rintro e w' ⟨rfl, rfl⟩; rw [HE.out])
      go_ret2
      exact ⟨⟨none, 0, 0, rfl, ints_nil _⟩, Below.refl _ _⟩
  · have e1 : indexE xs p = 0 := by simp only [indexE, hE]; simp [hp]
    have e2 : indexL xs p = indexV xs p := by simp only [indexL, hE]; simp [hp]
    rw [e1, e2]
    refine (rindex_ok a len cap xs p w h hcap hE (by omega) (by omega)).mono ?_
    rintro e w' ⟨⟨g, c, rfl, hi⟩, hb⟩
    exact ⟨⟨_, _, _, rfl, hi⟩, hb⟩
end Go.Proofs.Ytainoechodkfoaa.V
