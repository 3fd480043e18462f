/-
  Contracts: array.sumDims, reformDims.
-/
import Derived.Test.YtdhkglafpjcdhaaHArrSeen
import Derived.Test.YtdhkglafpjcdhaaGRReads
import Derived.Test.YtdhkglafpjcdhaaGAgainMath
namespace Go.Proofs.Ytdhkglafpjcdhaa.V
open Go.RowKit

theorem lsts_one {w : World} {X : Option Addr} {m c : Nat} {xs : List Int} (h : Lst w X m c xs) (t : TypeId) : Lsts (w.alloc (.cells #[.slice X m c] t)) (some ⟨w.heap.size, 0, none⟩) 1 [xs] := by
  have hb : Below w.heap.size w (w.alloc (.cells #[.slice X m c] t)) := (Below.refl _ _).alloc (Nat.le_refl _) _
  have hn := World.alloc_heap_new w (.cells #[.slice X m c] t)
  refine ⟨rfl, by omega, .inr ⟨_, _, rfl, fun j hj => ?_⟩⟩
  have e : j = 0 := by omega
  subst e
  exact ⟨X, m, c, by unfold World.cell?; rw [hn]; rfl, h.below hb⟩

theorem lsts_one' {w : World} {X : Option Addr} {m c B : Nat} {xs : List Int} (h : Lst w X m c xs) (t : TypeId) (hB : w.heap.size = B) : Lsts (w.alloc (.cells #[.slice X m c] t)) (some ⟨B, 0, none⟩) 1 [xs] := hB ▸ lsts_one h t

theorem count_ok {xs : List Int} (h : sizeE xs = 0) : ∀ k, k ≤ xs.length → 0 ≤ prod (xs.take k) ∧ prod (xs.take k) ≤ 9223372036854775807 := by
  obtain ⟨z1, z2, z3, z4⟩ := sizeE_ok h
  intro k hk
  have hm : ∀ x ∈ xs.take k, 0 ≤ x ∧ x ≤ 4096 := fun x hx => z2 x (List.mem_of_mem_take hx)
  by_cases h5 : k ≤ 5
  · have := prod_small5 (xs.take k) hm (by simp; omega)
    omega
  · have e : xs.take k = xs := List.take_of_length_le (by omega)
    rw [e]
    rcases dims_cases h with ⟨_, _, h1⟩ | ⟨_, _, h1, h2⟩ <;> omega
theorem size_prod {xs : List Int} (h : sizeE xs = 0) : sizeN xs = prod xs := by
  rcases dims_cases h with ⟨_, h1, h2⟩ | ⟨_, h1, _, _⟩ <;> omega

def reformP (ds es : List Int) : List Int × Int := if sizeE es ≠ 0 then ([], sizeE es) else if sizeN es = sizeN ds then (es, 0) else ([], 6)

set_option maxRecDepth 100000 in
set_option maxHeartbeats 1000000 in
theorem reformDims_any (k : Int) (va vl vh vs : Value) (x : Int) (ea : Option Addr) (el ec : Nat) (es : List Int) (a : Option Addr) (len cap : Nat) (ds : List Int) (w : World) (he : Ints w ea el es) (h : Ints w a len ds) (hz : sizeE ds = 0) :
    Calls Try.prog 37 #[.agg #[.int .i64 k, .slice ea el ec, va, vl, vh, vs, .int .i64 x], .slice a len cap] w fun e w' => OutP e w' (reformP ds es) ∧ Below w.heap.size w w' := by
  have HE := hide he
  have H := hide h
  have HZ := hide hz
  clear he h hz
  have HB1 := hide ((Below.refl w.heap.size w).alloc (Nat.le_refl _) (.cells #[.int .i64 k, .slice ea el ec, va, vl, vh, vs, .int .i64 x] 33))
  by_cases c1 : sizeE es = 0
  case neg =>
    have hp : reformP ds es = ([], sizeE es) := by unfold reformP; rw [if_pos c1]
    rw [hp]
    have q : (sizeE es != 0) = true := by simp [c1]
    clear hp c1
    go_enter Try.func37, Try.ntmps37
    go_wp2_with (go_at_call 21; refine (size_any _ _ _ es _ (HE.out.below HB1.out)).mono ?_; rintro e w' ⟨rfl, hw'⟩; obtain rfl := hw'.symm)
    go_ret2
    exact ⟨outP_none _ _, HB1.out⟩
  have HC := hide c1
  have hel : el ≤ 6 := by have := (sizeE_ok c1).1; have := HE.out.1; omega
  by_cases c2 : sizeN es = prod ds
  · have hp : reformP ds es = (es, 0) := by unfold reformP; rw [if_neg (by simp [c1]), if_pos (by rw [size_prod HZ.out]; exact c2)]
    rw [hp]
    have q : (sizeN es != prod ds) = false := by simp [c2]
    clear hp c1 c2
    go_enter Try.func37, Try.ntmps37
    go_wp2_with (first
      | (go_at_call 21; refine (size_any _ _ _ es _ (HE.out.below HB1.out)).mono ?_; rintro e w' ⟨rfl, hw'⟩; obtain rfl := hw'.symm; rw [HC.out])
      | (go_at_call 19; refine (count_any _ _ _ ds _ (H.out.below HB1.out) (count_ok HZ.out)).mono ?_; rintro e w' ⟨rfl, hw'⟩; obtain rfl := hw'.symm)
      | (go_at_call 34; refine (afresh_any _ _ _ es _ (HE.out.below HB1.out) (by omega)).mono ?_; rintro e w1 ⟨⟨g, rfl, hr, hg⟩, hb⟩; have HR := hide hr; have HB2 := hide (Below.on HB1.out hb); have hgg : w.heap.size ≤ g := Nat.le_trans HB1.out.size hg; clear hr hb hg))
    go_ret2
    exact ⟨outP_new (newAt_row HR.out hgg HE.out.1 (by omega) HE.out.2.2.1) 0, HB2.out⟩
  · have hp : reformP ds es = ([], 6) := by unfold reformP; rw [if_neg (by simp [c1]), if_neg (by rw [size_prod HZ.out]; exact c2)]
    rw [hp]
    have q : (sizeN es != prod ds) = true := by simp [c2]
    clear hp c1 c2
    go_enter Try.func37, Try.ntmps37
    go_wp2_with (first
      | (go_at_call 21; refine (size_any _ _ _ es _ (HE.out.below HB1.out)).mono ?_; rintro e w' ⟨rfl, hw'⟩; obtain rfl := hw'.symm; rw [HC.out])
      | (go_at_call 19; refine (count_any _ _ _ ds _ (H.out.below HB1.out) (count_ok HZ.out)).mono ?_; rintro e w' ⟨rfl, hw'⟩; obtain rfl := hw'.symm))
    go_ret2
    exact ⟨outP_none _ _, HB1.out⟩

/-- A rising list names none twice. -/
theorem once_of_rise {xs : List Int} {n : Nat} (h : RiseOk xs n) : Once xs n := fun i hi => ⟨(h i hi).1, (h i hi).2.1, fun j hj => by have := rise_lt h j i hj hi; omega⟩
/-- What may be flipped may be summed: an array as it lies does not go too far when it is flipped. -/
theorem flip_whole {ds : List Int} (ps : List Int) (h : sizeE ds = 0) : flipE 0 ds (stepsV ds) ps = if riseB ps ds.length = true then 0 else 6 := by
  unfold flipE
  rw [if_neg (by simp [wrong_whole h])]
  by_cases c : riseB ps ds.length = true
  · rw [if_pos c, if_pos c]
    have hpo := (riseB_iff _ _).1 c
    have hbw : beyondB (flipAcc 0 ds (stepsV ds) ps ps.length) (flipL (stepsV ds) ps) = false := by
      have ha := flipAcc_whole h ps ps.length
      have hl := rise_len hpo
      have h6 := (sizeE_ok h).1
      refine far_of (by omega) fun x hx => ?_
      simp only [flipL, List.mem_map, List.mem_range] at hx
      obtain ⟨k, _, rfl⟩ := hx
      have := steps_bd h k
      split <;> omega
    rw [hbw]; simp
  · rw [if_neg c, if_neg c]
def sumP (ds ps : List Int) : List Int × Int := if riseB ps ds.length = true then (taken ds (freeL ps ds.length), 0) else ([], 6)

theorem ints_nil (w : World) : Ints w none 0 [] := ⟨rfl, by omega, by simp, .inl rfl⟩

set_option maxRecDepth 100000 in
set_option maxHeartbeats 4000000 in
theorem sumDims_any (k : Int) (vd vl vh vs : Value) (x : Int) (pa : Option Addr) (pl pc : Nat) (ps : List Int) (a : Option Addr) (len cap : Nat) (ds : List Int) (w : World) (hp : Lst w pa pl pc ps) (h : Ints w a len ds) (hz : sizeE ds = 0) :
    Calls Try.prog 36 #[.agg #[.int .i64 k, vd, .slice pa pl pc, vl, vh, vs, .int .i64 x], .slice a len cap] w fun e w' => OutP e w' (sumP ds ps) ∧ Below w.heap.size w w' := by
  have HP := hide hp
  have H := hide h
  have HN := hide h.1
  have HZ := hide hz
  have h6 : len ≤ 6 := by have := (sizeE_ok hz).1; have := h.1; omega
  have HFW := hide (flip_whole ps hz)
  clear hp h hz
  have HB1 := hide ((Below.refl w.heap.size w).alloc (Nat.le_refl _) (.cells #[.int .i64 k, vd, .slice pa pl pc, vl, vh, vs, .int .i64 x] 33))
  have HOP := hide (OpAt.new w k vd (.slice pa pl pc) vl vh vs x)
  cases c : riseB ps ds.length with
  | false =>
    have hpp : sumP ds ps = ([], 6) := by unfold sumP; rw [if_neg (by simp [c])]
    rw [hpp]
    have HF6 : Hid (flipE 0 ds (stepsV ds) ps = 6) := by rw [Hid, HFW.out, if_neg (by simp [c])]
    clear hpp c
    go_enter Try.func36, Try.ntmps36
    go_wp2_with (go_at_call 35; refine (seen_flip 15 0 _ _ _ ds none 0 0 [] _ _ _ ps none 0 0 [] none 0 0 [] none 0 0 [] _ (H.out.below HB1.out) (ints_nil _) (HP.out.1.below HB1.out) (ints_nil _) (ints_nil _) (ints_nil _) HZ.out (by decide)).mono ?_; rintro e w1 ⟨hgv, hb⟩; rw [HF6.out] at hgv; obtain ⟨da1, dl1, dc1, sa1, sl1, sc1, rfl, _⟩ := hgv; have HB2 := hide (Below.on HB1.out hb); clear hb)
    go_ret2
    exact ⟨outP_none _ _, HB2.out.alloc HB2.out.size _⟩
  | true =>
    have hpp : sumP ds ps = (taken ds (freeL ps ds.length), 0) := by unfold sumP; rw [if_pos c]
    rw [hpp]
    have HF0 : Hid (flipE 0 ds (stepsV ds) ps = 0) := by rw [Hid, HFW.out, if_pos c]
    have HON : Hid (Once ps len) := by rw [Hid, ← HN.out]; exact once_of_rise ((riseB_iff _ _).1 c)
    clear hpp c
    go_enter Try.func36, Try.ntmps36
    go_wp2_with (first
      | (go_at_call 35; refine (seen_flip 15 0 _ _ _ ds none 0 0 [] _ _ _ ps none 0 0 [] none 0 0 [] none 0 0 [] _ (H.out.below HB1.out) (ints_nil _) (HP.out.1.below HB1.out) (ints_nil _) (ints_nil _) (ints_nil _) HZ.out (by decide)).mono ?_; rintro e w1 ⟨hgv, hb⟩; rw [HF0.out] at hgv; obtain ⟨da1, dl1, dc1, sa1, sl1, sc1, rfl, _⟩ := hgv; obtain ⟨S, hS⟩ : ∃ S, S = okS 0 (flipAcc 0 ds (stepsV ds) ps ps.length) := ⟨_, rfl⟩; rw [← hS]; clear hS; have HB2' := Below.on HB1.out hb; have HB2 := hide (HB2'.alloc HB2'.size (.cells #[.int .i64 S, .slice da1 dl1 dc1, .slice sa1 sl1 sc1] 66)); obtain ⟨o0, o1, o2, o3, o4, o5, o6⟩ := ((HOP.out.below hb).alloc (.cells #[.int .i64 S, .slice da1 dl1 dc1, .slice sa1 sl1 sc1] 66)).cells; clear hb HB2')
      | (go_at_call 45; refine (others_any _ _ _ _ [ps] _ (lsts_one' (HP.out.below HB2.out) _ (World.size_alloc _ _)) h6).mono ?_; rintro e w2 ⟨hop, hb⟩; rw [show [ps].flatten = ps by simp] at hop; obtain ⟨_, v, rfl, hv⟩ := hop.resolve_right (fun hh => hh.1 HON.out); obtain ⟨X, n, c, rfl, hl, _⟩ := hv; have HL := hide hl; have HB3 := hide (Below.on (HB2.out.alloc HB2.out.size _) hb); have hn6 : n ≤ 6 := by { have := hl.1.1; have := freeL_len ps len; omega }; clear hb hl hop)
      | (go_at_call 51; refine (these_any _ _ _ ds _ _ _ (freeL ps len) _ (H.out.below HB3.out) HL.out.1 (fun y hy => freeL_bd ps len y hy) hn6).mono ?_; rintro e w3 ⟨⟨v, rfl, hv⟩, hb⟩; have HV := hide hv; have HB4 := hide (Below.on HB3.out hb); clear hv hb))
    go_ret2
    rw [HN.out]
    exact ⟨outP_new HV.out 0, HB4.out⟩
end Go.Proofs.Ytdhkglafpjcdhaa.V
