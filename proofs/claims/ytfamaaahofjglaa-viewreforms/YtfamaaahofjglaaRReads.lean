/-
  Contracts: adjointref1.Whole, adjointref1.Reads.
-/
import Derived.Test.YtfamaaahofjglaaRAll
import Derived.Test.YtfamaaahofjglaaRPlace
import Derived.Test.YtfamaaahofjglaaWhole
import Derived.Deep.AppendLies
namespace Go.Proofs.Ytfamaaahofjglaa.V
open Go.RowKit

theorem prod_zero {xs : List Int} (h : (0 : Int) ∈ xs) : prod xs = 0 := by
  induction xs with
  | nil => cases h
  | cons x r ih =>
    rcases List.mem_cons.1 h with e | e
    · rw [prod, ← e]; omega
    · rw [prod, ih e]; omega
theorem dims_cases {xs : List Int} (hE : sizeE xs = 0) : (0 : Int) ∈ xs ∧ sizeN xs = 0 ∧ prod xs = 0 ∨ (∀ x ∈ xs, 1 ≤ x) ∧ sizeN xs = prod xs ∧ prod xs ≤ 65536 ∧ 1 ≤ prod xs := by
  obtain ⟨z1, z2, z3, z4⟩ := sizeE_ok hE
  by_cases hz : (0 : Int) ∈ xs
  · exact .inl ⟨hz, z4 hz, prod_zero hz⟩
  · have hpos : ∀ x ∈ xs, 1 ≤ x := fun x hx => by
      have := z2 x hx
      by_cases e : x = 0
      · exact absurd (e ▸ hx) hz
      · omega
    exact .inr ⟨hpos, (z3 hpos).2, (z3 hpos).1, prod_pos xs hpos⟩

set_option maxHeartbeats 1000000 in
theorem rall_none (a : Option Addr) (len cap : Nat) (xs : List Int) (w : World) (h : Ints w a len xs) (hE : sizeE xs = 0) (hN : sizeN xs = 0) :
    Calls Try.prog 36 #[.slice a len cap] w fun e w' => e = .returned (.slice none 0 0) ∧ Below w.heap.size w w' := by
  have H := hide h
  have HE := hide hE
  have HN := hide hN
  clear h hE hN
  go_enter Try.func36, Try.ntmps36
  go_wp2_with (go_at_call 32; refine (rsize_any _ _ _ xs _ H.out).mono ?_; rintro e w' ⟨rfl, hw'⟩; obtain rfl := hw'.symm; rw [HE.out, HN.out])
  go_ret
  exact ⟨rfl, Below.refl _ _⟩

theorem rall_any (a : Option Addr) (len cap : Nat) (xs : List Int) (w : World) (h : Ints w a len xs) (hE : sizeE xs = 0) :
    Calls Try.prog 36 #[.slice a len cap] w fun e w' => (∃ (A : Option Addr) (c : Nat), e = .returned (.slice A (prod xs).toNat c) ∧ Lists w' w.heap.size A (prod xs).toNat len (fun i => dig xs i)) ∧ Below w.heap.size w w' := by
  rcases dims_cases hE with ⟨_, h1, h2⟩ | ⟨h1, _⟩
  · rw [h2]
    refine (rall_none a len cap xs w h hE h1).mono ?_
    rintro e w' ⟨rfl, hb⟩
    exact ⟨⟨none, 0, rfl, .inl rfl⟩, hb⟩
  · exact rall_ok a len cap xs w h hE h1

/-- Where the entry lies, reckoned as the document's side does. -/
theorem lies_exact {s : Int} {ds ss : List Int} (hs : Small s ds ss) {n : Int} (hpos : ∀ x ∈ ds, 1 ≤ x) (h0 : 0 ≤ n) (h1 : n < prod ds) : ∀ k, k ≤ ds.length → liesS s ss (dig ds n) k = s + dotT (dig ds n) ss k
  | 0, _ => by simp [liesS, dotT]
  | k + 1, hk => by
    have ih := lies_exact hs hpos h0 h1 k (by omega)
    have hb := dig_bd ds n hpos h0 h1
    have hd := hs.dims
    have hl := hs.len
    have h6 := hs.rank
    have hst := hs.start
    have bx : ∀ j, j < ds.length → 0 ≤ (dig ds n)[j]?.getD 0 ∧ (dig ds n)[j]?.getD 0 ≤ 4095 := fun j hj => by
      have := hb j hj
      have := hd _ (mem_getD ds j hj)
      omega
    have by' : ∀ j, j < ds.length → -1099511627776 ≤ ss[j]?.getD 0 ∧ ss[j]?.getD 0 ≤ 1099511627776 := fun j hj => hs.steps _ (mem_getD ss j (by omega))
    have b1 := dotT_bd bx by' k (by omega)
    have b2 := dotT_bd bx by' (k + 1) (by omega)
    have b3 := mul_bd (bx k (by omega)) (by' k (by omega))
    rw [dotT] at b2
    rw [liesS, ih, dotT, IntWalk.wrap64_in ((dig ds n)[k]?.getD 0 * ss[k]?.getD 0) (by omega), IntWalk.wrap64_in _ (by omega)]
    omega
theorem readsV_getD (s : Int) (ds ss : List Int) (i : Nat) (h : i < (prod ds).toNat) : (readsV s ds ss)[i]?.getD 0 = s + lieN ds ss i := by simp [readsV, h]
theorem readsV_bd {s : Int} {ds ss : List Int} (hs : Small s ds ss) (hpos : ∀ x ∈ ds, 1 ≤ x) : ∀ x ∈ readsV s ds ss, -28115000000000000 ≤ x ∧ x ≤ 28115000000000000 := by
  intro x hx
  simp only [readsV, List.mem_map, List.mem_range] at hx
  obtain ⟨n, hn, rfl⟩ := hx
  have := lieN_bd (n := n) hs.len hs.rank (fun x hx => ⟨hpos x hx, (hs.dims x hx).2⟩) hs.steps (by omega) (by omega)
  have := hs.start
  omega

set_option maxRecDepth 100000 in
set_option maxHeartbeats 4000000 in
theorem rreads_ok (s : Int) (da : Option Addr) (dl dc : Nat) (ds : List Int) (sa : Option Addr) (sl sc : Nat) (ss : List Int) (w : World) (hd : Ints w da dl ds) (hs : Ints w sa sl ss) (hW : wrongE s ds ss = 0) :
    Calls Try.prog 15 #[.agg #[.int .i64 s, .slice da dl dc, .slice sa sl sc]] w fun e w' => (∃ (A : Option Addr) (n c : Nat), e = .returned (.tuple #[.slice A n c, .int .i64 0]) ∧ Ints w' A n (readsV s ds ss) ∧ n ≤ c ∧ Far w.heap.size A) ∧ Below w.heap.size w w' := by
  obtain ⟨hE, _, _⟩ := wrongE_ok hW
  have hsm := small_of hW
  have hcs := dims_cases hE
  have hN2 : (prod ds).toNat ≤ 65536 := by rcases hcs with ⟨_, _, h⟩ | ⟨_, _, h, _⟩ <;> omega
  obtain ⟨N, hN⟩ : ∃ N : Nat, (prod ds).toNat = N := ⟨_, rfl⟩
  have hposN : Hid (0 < N → (∀ x ∈ ds, 1 ≤ x) ∧ prod ds = (N : Int)) := fun h => by
    rcases hcs with ⟨_, _, h3⟩ | ⟨h1, _, _, h2⟩
    · omega
    · exact ⟨h1, by omega⟩
  rw [hN] at hN2
  have HD := hide hd
  have HS := hide hs
  have HW := hide hW
  have HE := hide hE
  have HSM := hide hsm
  have HN := hide hN
  have hdl : dl ≤ 6 := by have := hd.1; have := hsm.rank; omega
  have hsl : sl = dl := by have := hd.1; have := hs.1; have := hsm.len; omega
  subst hsl
  clear hd hs hW hE hsm hcs hN
  obtain ⟨i0, hi, hz0, hz1, hz2⟩ := info_parts info_int
  have HI := hide hi
  have HZ0 := hide hz0
  have HZ1 := hide hz1
  have HZ2 := hide hz2
  clear hi hz0 hz1 hz2
  have hb1 : Below w.heap.size w (w.alloc (.cells #[.int .i64 s, .slice da sl dc, .slice sa sl sc] 24)) := (Below.refl _ _).alloc (Nat.le_refl _) _
  have HB1 := hide hb1
  clear hb1
  go_enter Try.func15, Try.ntmps15
  go_wp2_with fail
  refine (rwrong_any _ _ _ _ ds _ _ _ ss _ (HD.out.below HB1.out) (HS.out.below HB1.out)).mono ?_
  rintro e w1 ⟨rfl, hb⟩
  rw [HW.out]
  have HB := hide (Below.on HB1.out hb)
  have HV1 := hide ((ViewAt.new w (.int .i64 s) (.slice da sl dc) (.slice sa sl sc)).below hb)
  obtain ⟨⟨v0, v1, v2⟩, _⟩ := HV1.out.cells
  have hlt1 := HV1.out.lt
  clear hb
  go_wp2_with fail
  refine (rall_any _ _ _ ds _ (HD.out.below (bl_alloc HB.out)) HE.out).mono ?_
  rintro e w2 ⟨⟨A, c, rfl, hls⟩, hb⟩
  rw [HN.out] at hls ⊢
  have hown0 : (w1.alloc (.cells #[] 3)).ownsRow w.heap.size 3 1 (.slice (some ⟨w1.heap.size, 0, none⟩) 0 0) 0 [] := World.ownsRow_made w1 #[] 0 HB.out.size (by decide) (by simp)
  have HO := hide (own_below hown0 hb)
  have HV2 := hide ((HV1.out.alloc _).below hb)
  have HB2 := hide (Below.on (bl_alloc HB.out) hb)
  have HLS := hide hls
  have hsz2 := hb.size
  simp only [World.size_alloc] at hsz2
  clear hb hls v0 v1 v2 hown0 HV1 HB
  go_wp2_with fail
  go_loopw [5, 18] (fun v i wr => ∃ k : Nat, k ≤ N ∧ i = .int .i64 k ∧ wr.ownsRow w.heap.size 3 1 v k (((readsV s ds ss).take k).map (Value.int .i64)) ∧ (∃ g c, v = .slice (some ⟨g, 0, none⟩) k c ∧ (g = w1.heap.size ∨ w2.heap.size ≤ g)) ∧ (ViewAt wr w.heap.size (.int .i64 s) (.slice da sl dc) (.slice sa sl sc) ∧ (∀ x, w1.heap.size < x → x < w2.heap.size → wr.heap[x]? = w2.heap[x]?) ∧ w2.heap.size ≤ wr.heap.size) ∧ Below w.heap.size w wr) (fun _ i _ => N - (intOf i).toNat)
  case atStart => exact ⟨0, Nat.zero_le _, rfl, HO.out, ⟨_, _, rfl, .inl rfl⟩, ⟨HV2.out, fun _ _ _ => rfl, Nat.le_refl _⟩, HB2.out⟩
  case round =>
    clear HO HV2 HB2
    obtain ⟨k, hk, rfl, hown, ⟨g, c', rfl, hgr⟩, ⟨hv, hsame, hsz3⟩, hB⟩ := hrel
    have HO := hide hown
    have HV := hide hv
    have HSA := hide hsame
    have HB := hide hB
    clear hown hv hsame hB
    by_cases hlt : k < N
    · obtain ⟨hpos, hpN⟩ := hposN.out (by omega)
      have HPOS := hide hpos
      have HPN := hide hpN
      rcases HLS.out with h0 | ⟨b, rfl, hBb, hcl⟩
      · omega
      obtain ⟨gk, ck, hBk, hck0, hik0⟩ := hcl k hlt
      simp only [World.size_alloc] at hBb hBk
      have hck : wr.cell? ⟨b, k, none⟩ = some (.slice (some ⟨gk, 0, none⟩) sl ck) := (World.cell?_of_block (w := w2) (HSA.out b (by omega) (lt_of_cell hck0))).trans hck0
      have hik : Ints wr (some ⟨gk, 0, none⟩) sl (dig ds k) := by
        obtain ⟨q1, q2, q3, q4⟩ := hik0
        refine ⟨q1, q2, q3, ?_⟩
        rcases q4 with q4 | ⟨b', off, e, q4⟩
        · exact .inl q4
        · cases e
          exact .inr ⟨_, _, rfl, fun j hj => (World.cell?_of_block (w := w2) (HSA.out gk (by omega) (lt_of_cell (q4 j hj)))).trans (q4 j hj)⟩
      have HIK := hide hik
      obtain ⟨⟨v0, v1, v2⟩, _⟩ := HV.out.cells
      have hlx : Hid (liesS s ss (dig ds k) sl = (readsV s ds ss)[k]?.getD 0) := by
        have hl := HD.out.1
        have := lies_exact HSM.out HPOS.out (n := k) (by omega) (by rw [HPN.out]; omega) sl (by omega)
        rw [Hid, this, readsV_getD s ds ss k (by rw [HN.out]; exact hlt), lieN_dig ds ss k HSM.out.len, hl]
      obtain ⟨R, hR⟩ : ∃ R, R = (readsV s ds ss)[k]?.getD 0 := ⟨_, rfl⟩
      rw [← hR] at hlx
      have HR := hide hR
      have i1 : (0 : Int) ≤ (k : Int) := Int.natCast_nonneg _
      have i2 : (k : Int) < (N : Int) := by omega
      clear hcl hik hpos hpN hR hck0 hik0
      go_wp2_with (first
        | (go_at_call 37; refine (rlies_any s (.slice da sl dc) sa sl sc ss _ _ _ (dig ds k) _ (HS.out.below HB.out) HIK.out (Nat.le_refl _) da sl dc rfl).mono ?_; rintro e w3 ⟨rfl, hb3⟩; rw [hlx.out]; have HO3 := hide (own_below HO.out hb3); have HB3 := hide hb3; clear hb3)
        | (at_builtin; refine wpList_append_lies _ (by rfl) _ _ _ (by rfl) w.heap.size 3 i0 _ 1 8 Try.underlying22 HI.out HZ0.out HZ1.out HZ2.out rfl (by omega) _ _ _ (by rfl) (HO3.out.alloc _) ⟨w3.heap.size, 0, none⟩ 1 1 [.int .i64 R] (by rfl) (by rfl) (World.news_of_block (cs := #[.int .i64 R]) (t := 3) (fr := (0, 0)) (heap_alloc_new w3 _)) (by simp [Value.oneCell']) (by omega) (by unfold maxLen; omega) (by omega) (by have := HB.out.size; have := HB3.out.size; simp; omega) (w3.heap.size + 1) (by simp) ?_; intro g' c4 w4 hown' hgrow hat hlt4; have HO' := hide hown'; have HG' := hide hgrow; clear hown' hgrow))
      go_wp2
      go_roundw
      case rel =>
        have hb := Below.on HB.out HB3.out
        have ho := HO'.out
        rw [HR.out] at ho
        have hst : ((readsV s ds ss).take (k + 1)).map (Value.int .i64) = ((readsV s ds ss).take k).map (Value.int .i64) ++ [.int .i64 ((readsV s ds ss)[k]?.getD 0)] := by
          rw [take_succ_getD _ k (by rw [readsV_length, HN.out]; exact hlt), List.map_append]; rfl
        rw [← hst] at ho
        have hs3 := HB3.out.size
        have hat' : g' = g ∨ g' = w3.heap.size + 1 := by
          rcases hat with e | e
          · exact .inl (by simp [Value.ownBlock] at e; omega)
          · exact .inr e
        refine ⟨k + 1, by omega, by go_num, ho, ⟨_, _, rfl, by omega⟩, ⟨?_, fun x hx1 hx2 => ?_, ?_⟩, ?_⟩
        · exact (HG'.out.block _ (by have := HV.out.lt; simp; omega) (view_ne_row (HV.out.below HB3.out) HO3.out)).trans ((HV.out.below HB3.out).alloc _)
        · have h1 := HG'.out.block x (by simp; omega) (by simp [Value.ownBlock]; omega)
          rw [h1, Below.heap_alloc _ _ _ (by omega), HB3.out.block x (by omega), HSA.out x hx1 hx2]
        · have := HG'.out.size
          simp only [World.size_alloc] at this
          omega
        · refine (hb.alloc hb.size _).grown HG'.out (by have := hb.size; simp; omega) (fun j e => ?_)
          exact (HO3.out.lt j e).1
      case measure => simp [intOf]; omega
    · obtain rfl : k = N := by omega
      go_wp2
      go_ret2
      have ht : (readsV s ds ss).take k = readsV s ds ss := List.take_of_length_le (by rw [readsV_length, HN.out]; exact Nat.le_refl _)
      have ho := HO.out
      rw [ht] at ho
      refine ⟨⟨_, _, _, rfl, ints_of_own ho (by rw [readsV_length, HN.out]) (by omega) (fun x hx => ?_), own_le ho, far_some (ho.lt _ rfl).1⟩, HB.out⟩
      by_cases h0 : 0 < k
      · have := readsV_bd HSM.out (hposN.out h0).1 x hx; omega
      · have : (readsV s ds ss).length = 0 := by rw [readsV_length, HN.out]; omega
        rw [List.length_eq_zero_iff] at this
        rw [this] at hx; cases hx
end Go.Proofs.Ytfamaaahofjglaa.V
