/-
  ArrayAdjoint, by kind. ArrayAdjoint: the law.
-/
import Derived.Test.YteoobeldmicjhaaGreatPAKArrayAdjoint49
import Derived.Test.YteoobeldmicjhaaGreatPAKArrayAdjoint53
import Derived.Test.YteoobeldmicjhaaGreatPAKArrayAdjoint45
import Derived.Test.YteoobeldmicjhaaGreatPAKArrayAdjoint54
import Derived.Test.YteoobeldmicjhaaGreatPAKArrayAdjoint28
import Derived.Test.YteoobeldmicjhaaGreatPAKArrayAdjoint51
namespace Go.Proofs.YteoobeldmicjhaaGreat.V
set_option maxRecDepth 20000
open Go.RowKit

theorem adj_kind9 (x : Int) (ea : Option Addr) (el ec : Nat) (es : List Int) (pa : Option Addr) (pl pc : Nat) (ps : List Int) (la : Option Addr) (ll lc : Nat) (lo : List Int) (ha : Option Addr) (hl hc : Nat) (hi : List Int) (ta : Option Addr) (tl tc : Nat) (st : List Int) (da : Option Addr) (dl dc : Nat) (ds : List Int) (xa : Option Addr) (n xc : Nat) (xs : List Int) (ua : Option Addr) (un uc : Nat) (us : List Int) (w : World)
    (he : Lst w ea el ec es) (hp : Lst w pa pl pc ps) (hlo : Lst w la ll lc lo) (hhi : Lst w ha hl hc hi) (hst : Lst w ta tl tc st) (hda : Lst w da dl dc ds) (hxa : Ints w xa n xs) (hxc : n ≤ xc) (hua : Ints w ua un us) (hE : doE 9 es ps lo hi st 1 (oneV ds n) = 0) :
    Calls Tryz.prog 5 #[.agg #[.int .i64 9, .slice ea el ec, .slice pa pl pc, .slice la ll lc, .slice ha hl hc, .slice ta tl tc, .int .i64 x], .agg #[.slice da dl dc, .slice xa n xc], .slice ua un uc] w fun e w' => e = .returned (.bool true) ∧ Below w.heap.size w w' := by
  obtain ⟨haD, haL, htw, htk, h2E, hbd⟩ := adj_9 hE
  have hn := nn_of haD
  have hdl := hda.1.1
  have h6 := (sizeE_ok (arrE_ok haD).1).1
  have hel := he.1.1
  have hes6 := (sizeE_ok (arrE_ok haL).1).1
  refine adj_good 9 x (.slice ea el ec) (.slice pa pl pc) (.slice la ll lc) (.slice ha hl hc) (.slice ta tl tc) da dl dc ds xa n xc xs ua un uc us (es) (lookL xs (readsV 0 es (sprS es.length (stepsV ds) ps))) ((prod es).toNat) (fun ys => addS (List.replicate n 0) (readsV 0 es (sprS es.length (stepsV ds) ps)) ys (prod es).toNat) w (by omega) hda.1 hxa hua haD haL (fun W b hW hA => ?_) (fun W b hW hA => ?_) (fun W hW => ?_) (fun ys hyl hyb => ?_)
  · refine (rdo_9R x ea el ec es pa pl pc ps la ll lc lo ha hl hc hi ta tl tc st b 0 1 da dl dc ds xa n xc xs W (he.below hW) (hp.below hW) (hlo.below hW) (hhi.below hW) (hst.below hW) hA.cells.1.1 (by rw [Nat.zero_add]; exact hA.cells.1.2) (hda.below hW) (hxa.below hW) hE).mono ?_
    rintro e W' ⟨⟨Z, nz, cz, G, gr, rfl, _⟩, hb⟩
    exact ⟨⟨_, _, _, _, _, _, rfl⟩, hb⟩
  · have h1 := do_9Q x ea el ec es pa pl pc ps la ll lc lo ha hl hc hi ta tl tc st ds n w he hp hlo hhi hst hE W b 0 1 da dl dc xa xc xs hW hA.cells.1.1 (by rw [Nat.zero_add]; exact hA.cells.1.2) (hda.below hW).q (hxa.below hW) hxc
    exact h1
  · refine (back_9 ea el ec pa pl pc la ll lc ha hl hc ta tl tc x da dl dc ps W (hp.below hW).1 (by omega)).mono ?_
    rintro e W' ⟨⟨X, nx, cx, rfl, hl2⟩, hb⟩
    rw [← hel] at hl2
    refine ⟨⟨_, rfl, 10, .slice none 0 0, .slice X nx cx, .slice none 0 0, .slice none 0 0, .slice none 0 0, 0, rfl, fun W2 b Z nz cz G ys hW2 hA hZ hys => ?_⟩, hb⟩
    have h1 := do_10Q 0 none 0 0 [] X nx cx (freeL ps es.length) none 0 0 [] none 0 0 [] none 0 0 [] es (prod es).toNat W' (lst_none _) hl2 (lst_none _) (lst_none _) (lst_none _) h2E W2 b 0 1 Z nz cz (some ⟨G, 0, none⟩) _ ys hW2 hA.cells.1.1 (by rw [Nat.zero_add]; exact hA.cells.1.2) hZ hys (Nat.le_refl _)
    rw [htw, htk, hn] at h1
    exact h1
  · exact ⟨adj_core hbd (by rw [readsV_length]; exact Nat.le_refl _), by rw [lookL_length, readsV_length], by rw [addS_length]; simp⟩
theorem adj_kind10 (x : Int) (ea : Option Addr) (el ec : Nat) (es : List Int) (pa : Option Addr) (pl pc : Nat) (ps : List Int) (la : Option Addr) (ll lc : Nat) (lo : List Int) (ha : Option Addr) (hl hc : Nat) (hi : List Int) (ta : Option Addr) (tl tc : Nat) (st : List Int) (da : Option Addr) (dl dc : Nat) (ds : List Int) (xa : Option Addr) (n xc : Nat) (xs : List Int) (ua : Option Addr) (un uc : Nat) (us : List Int) (w : World)
    (he : Lst w ea el ec es) (hp : Lst w pa pl pc ps) (hlo : Lst w la ll lc lo) (hhi : Lst w ha hl hc hi) (hst : Lst w ta tl tc st) (hda : Lst w da dl dc ds) (hxa : Ints w xa n xs) (hxc : n ≤ xc) (hua : Ints w ua un us) (hE : doE 10 es ps lo hi st 1 (oneV ds n) = 0) :
    Calls Tryz.prog 5 #[.agg #[.int .i64 10, .slice ea el ec, .slice pa pl pc, .slice la ll lc, .slice ha hl hc, .slice ta tl tc, .int .i64 x], .agg #[.slice da dl dc, .slice xa n xc], .slice ua un uc] w fun e w' => e = .returned (.bool true) ∧ Below w.heap.size w w' := by
  obtain ⟨haD, haL, h2E, hbd⟩ := adj_10 hE
  have hn := nn_of haD
  have hdl := hda.1.1
  have h6 := (sizeE_ok (arrE_ok haD).1).1
  refine adj_good 10 x (.slice ea el ec) (.slice pa pl pc) (.slice la ll lc) (.slice ha hl hc) (.slice ta tl tc) da dl dc ds xa n xc xs ua un uc us (taken ds (freeL ps ds.length)) (addS (List.replicate (prod (taken ds (freeL ps ds.length))).toNat 0) (readsV 0 ds (sprS ds.length (stepsV (taken ds (freeL ps ds.length))) (freeL ps ds.length))) xs n) ((prod (taken ds (freeL ps ds.length))).toNat) (fun ys => lookL ys (readsV 0 ds (sprS ds.length (stepsV (taken ds (freeL ps ds.length))) (freeL ps ds.length)))) w (by omega) hda.1 hxa hua haD haL (fun W b hW hA => ?_) (fun W b hW hA => ?_) (fun W hW => ?_) (fun ys hyl hyb => ?_)
  · refine (rdo_10R x ea el ec es pa pl pc ps la ll lc lo ha hl hc hi ta tl tc st b 0 1 da dl dc ds xa n xc xs W (he.below hW) (hp.below hW) (hlo.below hW) (hhi.below hW) (hst.below hW) hA.cells.1.1 (by rw [Nat.zero_add]; exact hA.cells.1.2) (hda.below hW) (hxa.below hW) hE).mono ?_
    rintro e W' ⟨⟨Z, nz, cz, G, gr, rfl, _⟩, hb⟩
    exact ⟨⟨_, _, _, _, _, _, rfl⟩, hb⟩
  · have h1 := do_10Q x ea el ec es pa pl pc ps la ll lc lo ha hl hc hi ta tl tc st ds n w he hp hlo hhi hst hE W b 0 1 da dl dc xa xc xs hW hA.cells.1.1 (by rw [Nat.zero_add]; exact hA.cells.1.2) (hda.below hW).q (hxa.below hW) hxc
    exact h1
  · refine (back_10 ea el ec pa pl pc la ll lc ha hl hc ta tl tc x da dl dc ps W (hp.below hW).1 (by omega)).mono ?_
    rintro e W' ⟨⟨X, nx, cx, rfl, hl2⟩, hb⟩
    rw [← hdl] at hl2
    refine ⟨⟨_, rfl, 9, .slice da dl dc, .slice X nx cx, .slice none 0 0, .slice none 0 0, .slice none 0 0, 0, rfl, fun W2 b Z nz cz G ys hW2 hA hZ hys => ?_⟩, hb⟩
    have h1 := do_9Q 0 da dl dc ds X nx cx (freeL ps ds.length) none 0 0 [] none 0 0 [] none 0 0 [] (taken ds (freeL ps ds.length)) (prod (taken ds (freeL ps ds.length))).toNat W' ((hda.below hW).below hb) hl2 (lst_none _) (lst_none _) (lst_none _) h2E W2 b 0 1 Z nz cz (some ⟨G, 0, none⟩) _ ys hW2 hA.cells.1.1 (by rw [Nat.zero_add]; exact hA.cells.1.2) hZ hys (Nat.le_refl _)
    rw [hn] at h1
    exact h1
  · exact ⟨by rw [innS_comm, ← adj_core (xs := ys) (ys := xs) hbd (by rw [readsV_length]; omega), innS_comm], by rw [addS_length]; simp, by rw [lookL_length, readsV_length, hn]⟩
theorem adj_kind11 (x : Int) (ea : Option Addr) (el ec : Nat) (es : List Int) (pa : Option Addr) (pl pc : Nat) (ps : List Int) (la : Option Addr) (ll lc : Nat) (lo : List Int) (ha : Option Addr) (hl hc : Nat) (hi : List Int) (ta : Option Addr) (tl tc : Nat) (st : List Int) (da : Option Addr) (dl dc : Nat) (ds : List Int) (xa : Option Addr) (n xc : Nat) (xs : List Int) (ua : Option Addr) (un uc : Nat) (us : List Int) (w : World)
    (he : Lst w ea el ec es) (hp : Lst w pa pl pc ps) (hlo : Lst w la ll lc lo) (hhi : Lst w ha hl hc hi) (hst : Lst w ta tl tc st) (hda : Lst w da dl dc ds) (hxa : Ints w xa n xs) (hxc : n ≤ xc) (hua : Ints w ua un us) (hE : doE 11 es ps lo hi st 1 (oneV ds n) = 0) :
    Calls Tryz.prog 5 #[.agg #[.int .i64 11, .slice ea el ec, .slice pa pl pc, .slice la ll lc, .slice ha hl hc, .slice ta tl tc, .int .i64 x], .agg #[.slice da dl dc, .slice xa n xc], .slice ua un uc] w fun e w' => e = .returned (.bool true) ∧ Below w.heap.size w w' := by
  obtain ⟨haD, haL, hperm, hpr, htb, h2E⟩ := adj_11 hE
  have hn := nn_of haD
  have hdl := hda.1.1
  have h6 := (sizeE_ok (arrE_ok haD).1).1
  have hpl := hp.1.1
  have hpl2 := hperm.1
  obtain ⟨hm1, hm2⟩ := turn_maps (arrE_ok haD).1 hperm
  rw [hn] at hm1 hm2
  refine adj_good 11 x (.slice ea el ec) (.slice pa pl pc) (.slice la ll lc) (.slice ha hl hc) (.slice ta tl tc) da dl dc ds xa n xc xs ua un uc us (taken ds ps) (lookL xs (readsV 0 (taken ds ps) (taken (stepsV ds) ps))) (n) (fun ys => lookL ys (readsV 0 ds (taken (stepsV (taken ds ps)) (invL ps)))) w (by omega) hda.1 hxa hua haD haL (fun W b hW hA => ?_) (fun W b hW hA => ?_) (fun W hW => ?_) (fun ys hyl hyb => ?_)
  · refine (rdo_11R x ea el ec es pa pl pc ps la ll lc lo ha hl hc hi ta tl tc st b 0 1 da dl dc ds xa n xc xs W (he.below hW) (hp.below hW) (hlo.below hW) (hhi.below hW) (hst.below hW) hA.cells.1.1 (by rw [Nat.zero_add]; exact hA.cells.1.2) (hda.below hW) (hxa.below hW) hE).mono ?_
    rintro e W' ⟨⟨Z, nz, cz, G, gr, rfl, _⟩, hb⟩
    exact ⟨⟨_, _, _, _, _, _, rfl⟩, hb⟩
  · have h1 := do_11Q x ea el ec es pa pl pc ps la ll lc lo ha hl hc hi ta tl tc st ds n w he hp hlo hhi hst hE W b 0 1 da dl dc xa xc xs hW hA.cells.1.1 (by rw [Nat.zero_add]; exact hA.cells.1.2) (hda.below hW).q (hxa.below hW) hxc
    rw [hpr, hn] at h1
    exact h1
  · refine (back_11 ea el ec pa pl pc la ll lc ha hl hc ta tl tc x da dl dc ps W (hp.below hW).1 (by rw [← hpl, hpl2]; exact hperm) (by omega)).mono ?_
    rintro e W' ⟨⟨X, nx, cx, rfl, hl2⟩, hb⟩
    refine ⟨⟨_, rfl, 11, .slice none 0 0, .slice X nx cx, .slice none 0 0, .slice none 0 0, .slice none 0 0, 0, rfl, fun W2 b Z nz cz G ys hW2 hA hZ hys => ?_⟩, hb⟩
    have h1 := do_11Q 0 none 0 0 [] X nx cx (invL ps) none 0 0 [] none 0 0 [] none 0 0 [] (taken ds ps) n W' (lst_none _) hl2 (lst_none _) (lst_none _) (lst_none _) h2E W2 b 0 1 Z nz cz (some ⟨G, 0, none⟩) _ ys hW2 hA.cells.1.1 (by rw [Nat.zero_add]; exact hA.cells.1.2) hZ hys (Nat.le_refl _)
    rw [htb, hn] at h1
    exact h1
  · exact ⟨adj_perm (by rw [readsV_length, hpr, hn]) (by rw [readsV_length, hn]) hm1 hm2 hyb, by rw [lookL_length, readsV_length, hpr, hn], by rw [lookL_length, readsV_length, hn]⟩
theorem adj_kind12 (x : Int) (ea : Option Addr) (el ec : Nat) (es : List Int) (pa : Option Addr) (pl pc : Nat) (ps : List Int) (la : Option Addr) (ll lc : Nat) (lo : List Int) (ha : Option Addr) (hl hc : Nat) (hi : List Int) (ta : Option Addr) (tl tc : Nat) (st : List Int) (da : Option Addr) (dl dc : Nat) (ds : List Int) (xa : Option Addr) (n xc : Nat) (xs : List Int) (ua : Option Addr) (un uc : Nat) (us : List Int) (w : World)
    (he : Lst w ea el ec es) (hp : Lst w pa pl pc ps) (hlo : Lst w la ll lc lo) (hhi : Lst w ha hl hc hi) (hst : Lst w ta tl tc st) (hda : Lst w da dl dc ds) (hxa : Ints w xa n xs) (hxc : n ≤ xc) (hua : Ints w ua un us) (hE : doE 12 es ps lo hi st 1 (oneV ds n) = 0) :
    Calls Tryz.prog 5 #[.agg #[.int .i64 12, .slice ea el ec, .slice pa pl pc, .slice la ll lc, .slice ha hl hc, .slice ta tl tc, .int .i64 x], .agg #[.slice da dl dc, .slice xa n xc], .slice ua un uc] w fun e w' => e = .returned (.bool true) ∧ Below w.heap.size w w' := by
  obtain ⟨haD, haL, h2E⟩ := adj_12 hE
  have hn := nn_of haD
  have hdl := hda.1.1
  have h6 := (sizeE_ok (arrE_ok haD).1).1
  refine adj_good 12 x (.slice ea el ec) (.slice pa pl pc) (.slice la ll lc) (.slice ha hl hc) (.slice ta tl tc) da dl dc ds xa n xc xs ua un uc us (es) (xs) (n) (fun ys => ys) w (by omega) hda.1 hxa hua haD haL (fun W b hW hA => ?_) (fun W b hW hA => ?_) (fun W hW => ?_) (fun ys hyl hyb => ?_)
  · refine (rdo_12R x ea el ec es pa pl pc ps la ll lc lo ha hl hc hi ta tl tc st b 0 1 da dl dc ds xa n xc xs W (he.below hW) (hp.below hW) (hlo.below hW) (hhi.below hW) (hst.below hW) hA.cells.1.1 (by rw [Nat.zero_add]; exact hA.cells.1.2) (hda.below hW) (hxa.below hW) hE).mono ?_
    rintro e W' ⟨⟨Z, nz, cz, G, gr, rfl, _⟩, hb⟩
    exact ⟨⟨_, _, _, _, _, _, rfl⟩, hb⟩
  · have h1 := do_12Q x ea el ec es pa pl pc ps la ll lc lo ha hl hc hi ta tl tc st ds n w he hp hlo hhi hst hE W b 0 1 da dl dc xa xc xs hW hA.cells.1.1 (by rw [Nat.zero_add]; exact hA.cells.1.2) (hda.below hW).q (hxa.below hW) hxc
    exact h1
  · refine (back_12 ea el ec pa pl pc la ll lc ha hl hc ta tl tc x da dl dc W).mono ?_
    rintro e W' ⟨rfl, hb⟩
    refine ⟨⟨_, rfl, 12, .slice da dl dc, .slice none 0 0, .slice none 0 0, .slice none 0 0, .slice none 0 0, 0, rfl, fun W2 b Z nz cz G ys hW2 hA hZ hys => ?_⟩, hb⟩
    have h1 := do_12Q 0 da dl dc ds none 0 0 [] none 0 0 [] none 0 0 [] none 0 0 [] es n W' ((hda.below hW).below hb) (lst_none _) (lst_none _) (lst_none _) (lst_none _) h2E W2 b 0 1 Z nz cz (some ⟨G, 0, none⟩) _ ys hW2 hA.cells.1.1 (by rw [Nat.zero_add]; exact hA.cells.1.2) hZ hys (Nat.le_refl _)
    exact h1
  · exact ⟨rfl, hxa.1, hyl⟩
theorem adj_kind13 (x : Int) (ea : Option Addr) (el ec : Nat) (es : List Int) (pa : Option Addr) (pl pc : Nat) (ps : List Int) (la : Option Addr) (ll lc : Nat) (lo : List Int) (ha : Option Addr) (hl hc : Nat) (hi : List Int) (ta : Option Addr) (tl tc : Nat) (st : List Int) (da : Option Addr) (dl dc : Nat) (ds : List Int) (xa : Option Addr) (n xc : Nat) (xs : List Int) (ua : Option Addr) (un uc : Nat) (us : List Int) (w : World)
    (he : Lst w ea el ec es) (hp : Lst w pa pl pc ps) (hlo : Lst w la ll lc lo) (hhi : Lst w ha hl hc hi) (hst : Lst w ta tl tc st) (hda : Lst w da dl dc ds) (hxa : Ints w xa n xs) (hxc : n ≤ xc) (hua : Ints w ua un us) (hE : doE 13 es ps lo hi st 1 (oneV ds n) = 0) :
    Calls Tryz.prog 5 #[.agg #[.int .i64 13, .slice ea el ec, .slice pa pl pc, .slice la ll lc, .slice ha hl hc, .slice ta tl tc, .int .i64 x], .agg #[.slice da dl dc, .slice xa n xc], .slice ua un uc] w fun e w' => e = .returned (.bool true) ∧ Below w.heap.size w w' := by
  obtain ⟨haD, haL, ⟨l1, l2, l3⟩, hok, hpd, h2E, hbd⟩ := adj_13 hE
  have hn := nn_of haD
  have hdl := hda.1.1
  have h6 := (sizeE_ok (arrE_ok haD).1).1
  have q1 := hlo.1.1
  have q2 := hhi.1.1
  have q3 := hst.1.1
  refine adj_good 13 x (.slice ea el ec) (.slice pa pl pc) (.slice la ll lc) (.slice ha hl hc) (.slice ta tl tc) da dl dc ds xa n xc xs ua un uc us (cutD ds lo hi st) (lookL xs (readsV (cutAcc 0 (stepsV ds) lo ds.length) (cutD ds lo hi st) (cutS (stepsV ds) st))) ((prod (cutD ds lo hi st)).toNat) (fun ys => addS (List.replicate n 0) (readsV (cutAcc 0 (stepsV ds) lo ds.length) (cutD ds lo hi st) (cutS (stepsV ds) st)) ys (prod (cutD ds lo hi st)).toNat) w (by omega) hda.1 hxa hua haD haL (fun W b hW hA => ?_) (fun W b hW hA => ?_) (fun W hW => ?_) (fun ys hyl hyb => ?_)
  · refine (rdo_13R x ea el ec es pa pl pc ps la ll lc lo ha hl hc hi ta tl tc st b 0 1 da dl dc ds xa n xc xs W (he.below hW) (hp.below hW) (hlo.below hW) (hhi.below hW) (hst.below hW) hA.cells.1.1 (by rw [Nat.zero_add]; exact hA.cells.1.2) (hda.below hW) (hxa.below hW) hE).mono ?_
    rintro e W' ⟨⟨Z, nz, cz, G, gr, rfl, _⟩, hb⟩
    exact ⟨⟨_, _, _, _, _, _, rfl⟩, hb⟩
  · have h1 := do_13Q x ea el ec es pa pl pc ps la ll lc lo ha hl hc hi ta tl tc st ds n w he hp hlo hhi hst hE W b 0 1 da dl dc xa xc xs hW hA.cells.1.1 (by rw [Nat.zero_add]; exact hA.cells.1.2) (hda.below hW).q (hxa.below hW) hxc
    exact h1
  · refine (back_13 ea el ec pa pl pc la ll lc ha hl hc ta tl tc x da dl dc ds lo hi st W (hda.below hW).1 (hlo.below hW).1 (hhi.below hW).1 (hst.below hW).1 (by omega) (by omega) (by omega) (by omega) (fun j hj => hok j (by omega))).mono ?_
    rintro e W' ⟨⟨X, nx, cx, rfl, hl2⟩, hb⟩
    refine ⟨⟨_, rfl, 14, .slice none 0 0, .slice none 0 0, .slice la ll lc, .slice X nx cx, .slice ta tl tc, 0, rfl, fun W2 b Z nz cz G ys hW2 hA hZ hys => ?_⟩, hb⟩
    have h1 := do_14Q 0 none 0 0 [] none 0 0 [] la ll lc lo X nx cx (bkHi ds lo hi st) ta tl tc st (cutD ds lo hi st) (prod (cutD ds lo hi st)).toNat W' (lst_none _) (lst_none _) ((hlo.below hW).below hb) hl2 ((hst.below hW).below hb) h2E W2 b 0 1 Z nz cz (some ⟨G, 0, none⟩) _ ys hW2 hA.cells.1.1 (by rw [Nat.zero_add]; exact hA.cells.1.2) hZ hys (Nat.le_refl _)
    rw [hpd, hn] at h1
    exact h1
  · exact ⟨adj_core hbd (by rw [readsV_length]; exact Nat.le_refl _), by rw [lookL_length, readsV_length], by rw [addS_length]; simp⟩
theorem adj_kind14 (x : Int) (ea : Option Addr) (el ec : Nat) (es : List Int) (pa : Option Addr) (pl pc : Nat) (ps : List Int) (la : Option Addr) (ll lc : Nat) (lo : List Int) (ha : Option Addr) (hl hc : Nat) (hi : List Int) (ta : Option Addr) (tl tc : Nat) (st : List Int) (da : Option Addr) (dl dc : Nat) (ds : List Int) (xa : Option Addr) (n xc : Nat) (xs : List Int) (ua : Option Addr) (un uc : Nat) (us : List Int) (w : World)
    (he : Lst w ea el ec es) (hp : Lst w pa pl pc ps) (hlo : Lst w la ll lc lo) (hhi : Lst w ha hl hc hi) (hst : Lst w ta tl tc st) (hda : Lst w da dl dc ds) (hxa : Ints w xa n xs) (hxc : n ≤ xc) (hua : Ints w ua un us) (hE : doE 14 es ps lo hi st 1 (oneV ds n) = 0) :
    Calls Tryz.prog 5 #[.agg #[.int .i64 14, .slice ea el ec, .slice pa pl pc, .slice la ll lc, .slice ha hl hc, .slice ta tl tc, .int .i64 x], .agg #[.slice da dl dc, .slice xa n xc], .slice ua un uc] w fun e w' => e = .returned (.bool true) ∧ Below w.heap.size w w' := by
  obtain ⟨haD, haL, ⟨l1, l2, l3⟩, hok, hpd, h2E, hbd⟩ := adj_14 hE
  have hn := nn_of haD
  have hdl := hda.1.1
  have h6 := (sizeE_ok (arrE_ok haD).1).1
  have q1 := hlo.1.1
  have q2 := hhi.1.1
  have q3 := hst.1.1
  refine adj_good 14 x (.slice ea el ec) (.slice pa pl pc) (.slice la ll lc) (.slice ha hl hc) (.slice ta tl tc) da dl dc ds xa n xc xs ua un uc us (padD ds lo hi st) (addS (List.replicate (prod (padD ds lo hi st)).toNat 0) (readsV (cutAcc 0 (stepsV (padD ds lo hi st)) lo (padD ds lo hi st).length) ds (cutS (stepsV (padD ds lo hi st)) st)) xs n) ((prod (padD ds lo hi st)).toNat) (fun ys => lookL ys (readsV (cutAcc 0 (stepsV (padD ds lo hi st)) lo (padD ds lo hi st).length) ds (cutS (stepsV (padD ds lo hi st)) st))) w (by omega) hda.1 hxa hua haD haL (fun W b hW hA => ?_) (fun W b hW hA => ?_) (fun W hW => ?_) (fun ys hyl hyb => ?_)
  · refine (rdo_14R x ea el ec es pa pl pc ps la ll lc lo ha hl hc hi ta tl tc st b 0 1 da dl dc ds xa n xc xs W (he.below hW) (hp.below hW) (hlo.below hW) (hhi.below hW) (hst.below hW) hA.cells.1.1 (by rw [Nat.zero_add]; exact hA.cells.1.2) (hda.below hW) (hxa.below hW) hE).mono ?_
    rintro e W' ⟨⟨Z, nz, cz, G, gr, rfl, _⟩, hb⟩
    exact ⟨⟨_, _, _, _, _, _, rfl⟩, hb⟩
  · have h1 := do_14Q x ea el ec es pa pl pc ps la ll lc lo ha hl hc hi ta tl tc st ds n w he hp hlo hhi hst hE W b 0 1 da dl dc xa xc xs hW hA.cells.1.1 (by rw [Nat.zero_add]; exact hA.cells.1.2) (hda.below hW).q (hxa.below hW) hxc
    exact h1
  · refine (back_14 ea el ec pa pl pc la ll lc ha hl hc ta tl tc x da dl dc ds lo hi st W (hda.below hW).1 (hlo.below hW).1 (hhi.below hW).1 (hst.below hW).1 (by omega) (by omega) (by omega) (by omega) (fun j hj => hok j (by omega))).mono ?_
    rintro e W' ⟨⟨X, nx, cx, rfl, hl2⟩, hb⟩
    refine ⟨⟨_, rfl, 13, .slice none 0 0, .slice none 0 0, .slice la ll lc, .slice X nx cx, .slice ta tl tc, 0, rfl, fun W2 b Z nz cz G ys hW2 hA hZ hys => ?_⟩, hb⟩
    have h1 := do_13Q 0 none 0 0 [] none 0 0 [] la ll lc lo X nx cx (pdHi ds lo st) ta tl tc st (padD ds lo hi st) (prod (padD ds lo hi st)).toNat W' (lst_none _) (lst_none _) ((hlo.below hW).below hb) hl2 ((hst.below hW).below hb) h2E W2 b 0 1 Z nz cz (some ⟨G, 0, none⟩) _ ys hW2 hA.cells.1.1 (by rw [Nat.zero_add]; exact hA.cells.1.2) hZ hys (Nat.le_refl _)
    rw [hpd, hn] at h1
    exact h1
  · exact ⟨by rw [innS_comm, ← adj_core (xs := ys) (ys := xs) hbd (by rw [readsV_length]; omega), innS_comm], by rw [addS_length]; simp, by rw [lookL_length, readsV_length, hn]⟩
theorem adj_kind15 (x : Int) (ea : Option Addr) (el ec : Nat) (es : List Int) (pa : Option Addr) (pl pc : Nat) (ps : List Int) (la : Option Addr) (ll lc : Nat) (lo : List Int) (ha : Option Addr) (hl hc : Nat) (hi : List Int) (ta : Option Addr) (tl tc : Nat) (st : List Int) (da : Option Addr) (dl dc : Nat) (ds : List Int) (xa : Option Addr) (n xc : Nat) (xs : List Int) (ua : Option Addr) (un uc : Nat) (us : List Int) (w : World)
    (he : Lst w ea el ec es) (hp : Lst w pa pl pc ps) (hlo : Lst w la ll lc lo) (hhi : Lst w ha hl hc hi) (hst : Lst w ta tl tc st) (hda : Lst w da dl dc ds) (hxa : Ints w xa n xs) (hxc : n ≤ xc) (hua : Ints w ua un us) (hE : doE 15 es ps lo hi st 1 (oneV ds n) = 0) :
    Calls Tryz.prog 5 #[.agg #[.int .i64 15, .slice ea el ec, .slice pa pl pc, .slice la ll lc, .slice ha hl hc, .slice ta tl tc, .int .i64 x], .agg #[.slice da dl dc, .slice xa n xc], .slice ua un uc] w fun e w' => e = .returned (.bool true) ∧ Below w.heap.size w w' := by
  obtain ⟨haD, hrise⟩ := adj_15 hE
  have hn := nn_of haD
  have hdl := hda.1.1
  have h6 := (sizeE_ok (arrE_ok haD).1).1
  have haL := haD
  have h2E := hE
  have hm1 := flip_maps (arrE_ok haD).1 hrise
  rw [hn] at hm1
  refine adj_good 15 x (.slice ea el ec) (.slice pa pl pc) (.slice la ll lc) (.slice ha hl hc) (.slice ta tl tc) da dl dc ds xa n xc xs ua un uc us (ds) (lookL xs (readsV (flipAcc 0 ds (stepsV ds) ps ps.length) ds (flipL (stepsV ds) ps))) (n) (fun ys => lookL ys (readsV (flipAcc 0 ds (stepsV ds) ps ps.length) ds (flipL (stepsV ds) ps))) w (by omega) hda.1 hxa hua haD haL (fun W b hW hA => ?_) (fun W b hW hA => ?_) (fun W hW => ?_) (fun ys hyl hyb => ?_)
  · refine (rdo_15R x ea el ec es pa pl pc ps la ll lc lo ha hl hc hi ta tl tc st b 0 1 da dl dc ds xa n xc xs W (he.below hW) (hp.below hW) (hlo.below hW) (hhi.below hW) (hst.below hW) hA.cells.1.1 (by rw [Nat.zero_add]; exact hA.cells.1.2) (hda.below hW) (hxa.below hW) hE).mono ?_
    rintro e W' ⟨⟨Z, nz, cz, G, gr, rfl, _⟩, hb⟩
    exact ⟨⟨_, _, _, _, _, _, rfl⟩, hb⟩
  · have h1 := do_15Q x ea el ec es pa pl pc ps la ll lc lo ha hl hc hi ta tl tc st ds n w he hp hlo hhi hst hE W b 0 1 da dl dc xa xc xs hW hA.cells.1.1 (by rw [Nat.zero_add]; exact hA.cells.1.2) (hda.below hW).q (hxa.below hW) hxc
    rw [hn] at h1
    exact h1
  · refine (back_15 ea el ec pa pl pc la ll lc ha hl hc ta tl tc x da dl dc W).mono ?_
    rintro e W' ⟨rfl, hb⟩
    refine ⟨⟨_, rfl, 15, .slice ea el ec, .slice pa pl pc, .slice la ll lc, .slice ha hl hc, .slice ta tl tc, x, rfl, fun W2 b Z nz cz G ys hW2 hA hZ hys => ?_⟩, hb⟩
    have h1 := do_15Q x ea el ec es pa pl pc ps la ll lc lo ha hl hc hi ta tl tc st ds n W' ((he.below hW).below hb) ((hp.below hW).below hb) ((hlo.below hW).below hb) ((hhi.below hW).below hb) ((hst.below hW).below hb) h2E W2 b 0 1 Z nz cz (some ⟨G, 0, none⟩) _ ys hW2 hA.cells.1.1 (by rw [Nat.zero_add]; exact hA.cells.1.2) hZ hys (Nat.le_refl _)
    rw [hn] at h1
    exact h1
  · exact ⟨adj_perm (by rw [readsV_length, hn]) (by rw [readsV_length, hn]) hm1 hm1 hyb, by rw [lookL_length, readsV_length, hn], by rw [lookL_length, readsV_length, hn]⟩
end Go.Proofs.YteoobeldmicjhaaGreat.V
namespace Go.Proofs.YteoobeldmicjhaaGreat.V
set_option maxRecDepth 20000
open Go.RowKit

set_option maxRecDepth 100000 in
set_option maxHeartbeats 2000000 in
theorem adj_other (k x : Int) (ea : Option Addr) (el ec : Nat) (pa : Option Addr) (pl pc : Nat) (la : Option Addr) (ll lc : Nat) (ha : Option Addr) (hl hc : Nat) (ta : Option Addr) (tl tc : Nat) (da : Option Addr) (dl dc : Nat) (xa : Option Addr) (n xc : Nat) (ua : Option Addr) (un uc : Nat) (w : World) (hk : ¬ (9 ≤ k ∧ k ≤ 15)) :
    Calls Tryz.prog 5 #[.agg #[.int .i64 k, .slice ea el ec, .slice pa pl pc, .slice la ll lc, .slice ha hl hc, .slice ta tl tc, .int .i64 x], .agg #[.slice da dl dc, .slice xa n xc], .slice ua un uc] w fun e w' => e = .returned (.bool true) ∧ Below w.heap.size w w' := by
  have HB1 := (Below.refl w.heap.size w).alloc (Nat.le_refl _) (.cells #[.int .i64 k, .slice ea el ec, .slice pa pl pc, .slice la ll lc, .slice ha hl hc, .slice ta tl tc, .int .i64 x] 31)
  have HB2 := hide (HB1.alloc HB1.size (.cells #[.slice da dl dc, .slice xa n xc] 25))
  have HOP := hide ((OpAt.new w k (.slice ea el ec) (.slice pa pl pc) (.slice la ll lc) (.slice ha hl hc) (.slice ta tl tc) x).alloc (.cells #[.slice da dl dc, .slice xa n xc] 25))
  have har := ArrAt.new (w.alloc (.cells #[.int .i64 k, .slice ea el ec, .slice pa pl pc, .slice la ll lc, .slice ha hl hc, .slice ta tl tc, .int .i64 x] 31)) (.slice da dl dc) (.slice xa n xc)
  simp only [World.size_alloc] at har
  have HAR := hide har
  obtain ⟨W1, hW1⟩ : ∃ W1, W1 = (w.alloc (.cells #[.int .i64 k, .slice ea el ec, .slice pa pl pc, .slice la ll lc, .slice ha hl hc, .slice ta tl tc, .int .i64 x] 31)).alloc (.cells #[.slice da dl dc, .slice xa n xc] 25) := ⟨_, rfl⟩
  rw [← hW1] at HB2 HOP HAR
  clear har HB1
  have h9 : (k == 9) = false := by simp; omega
  have h10 : (k == 10) = false := by simp; omega
  have h11 : (k == 11) = false := by simp; omega
  have h12 : (k == 12) = false := by simp; omega
  have h13 : (k == 13) = false := by simp; omega
  have h14 : (k == 14) = false := by simp; omega
  have h15 : (k == 15) = false := by simp; omega
  clear hk
  go_enter Tryz.func5, Tryz.ntmps5
  go_wp2_with (go_at_call 7; rw [← hW1]; refine (alive2_any _).mono ?_; rintro e w1 ⟨rfl, hb⟩; have HB3 := hide (Below.on HB2.out hb); have HO3 := hide (HOP.out.below hb); have HA3 := hide (HAR.out.below hb); obtain ⟨o0, o1, o2, o3, o4, o5, o6⟩ := HO3.out.cells; obtain ⟨⟨a0, a1⟩, _⟩ := HA3.out.cells; clear hb)
  go_ret
  exact ⟨rfl, HB3.out⟩

set_option maxRecDepth 100000 in
set_option maxHeartbeats 2000000 in
theorem adj_err (k x : Int) (ea : Option Addr) (el ec : Nat) (es : List Int) (pa : Option Addr) (pl pc : Nat) (ps : List Int) (la : Option Addr) (ll lc : Nat) (lo : List Int) (ha : Option Addr) (hl hc : Nat) (hi : List Int) (ta : Option Addr) (tl tc : Nat) (st : List Int) (da : Option Addr) (dl dc : Nat) (ds : List Int) (xa : Option Addr) (n xc : Nat) (ua : Option Addr) (un uc : Nat) (w : World)
    (he : Lst w ea el ec es) (hp : Lst w pa pl pc ps) (hlo : Lst w la ll lc lo) (hhi : Lst w ha hl hc hi) (hst : Lst w ta tl tc st) (hda : Lst w da dl dc ds) (hk : 9 ≤ k ∧ k ≤ 15) (hE : doE k es ps lo hi st 1 (oneV ds n) ≠ 0) :
    Calls Tryz.prog 5 #[.agg #[.int .i64 k, .slice ea el ec, .slice pa pl pc, .slice la ll lc, .slice ha hl hc, .slice ta tl tc, .int .i64 x], .agg #[.slice da dl dc, .slice xa n xc], .slice ua un uc] w fun e w' => e = .returned (.bool true) ∧ Below w.heap.size w w' := by
  have HB1 := (Below.refl w.heap.size w).alloc (Nat.le_refl _) (.cells #[.int .i64 k, .slice ea el ec, .slice pa pl pc, .slice la ll lc, .slice ha hl hc, .slice ta tl tc, .int .i64 x] 31)
  have HB2 := hide (HB1.alloc HB1.size (.cells #[.slice da dl dc, .slice xa n xc] 25))
  have HOP := hide ((OpAt.new w k (.slice ea el ec) (.slice pa pl pc) (.slice la ll lc) (.slice ha hl hc) (.slice ta tl tc) x).alloc (.cells #[.slice da dl dc, .slice xa n xc] 25))
  have har := ArrAt.new (w.alloc (.cells #[.int .i64 k, .slice ea el ec, .slice pa pl pc, .slice la ll lc, .slice ha hl hc, .slice ta tl tc, .int .i64 x] 31)) (.slice da dl dc) (.slice xa n xc)
  simp only [World.size_alloc] at har
  have HAR := hide har
  obtain ⟨W1, hW1⟩ : ∃ W1, W1 = (w.alloc (.cells #[.int .i64 k, .slice ea el ec, .slice pa pl pc, .slice la ll lc, .slice ha hl hc, .slice ta tl tc, .int .i64 x] 31)).alloc (.cells #[.slice da dl dc, .slice xa n xc] 25) := ⟨_, rfl⟩
  rw [← hW1] at HB2 HOP HAR
  clear har HB1
  have HE := hide he
  have HP := hide hp
  have HLO := hide hlo
  have HHI := hide hhi
  have HST := hide hst
  have HDA := hide hda
  have HK := hide hk
  have HEE : Hid (doE k es ps lo hi st 1 (fun _ => ⟨da, dl, dc, ds, xa, n, xc⟩) ≠ 0) := by
    rw [Hid, doE_congr (v := fun _ => ⟨da, dl, dc, ds, xa, n, xc⟩) (v' := oneV ds n) (fun j _ => ⟨rfl, rfl⟩)]; exact hE
  obtain ⟨E, hEe⟩ : ∃ E, E = doE k es ps lo hi st 1 (fun _ => ⟨da, dl, dc, ds, xa, n, xc⟩) := ⟨_, rfl⟩
  have hEb : (E != 0) = true := by have := HEE.out; rw [← hEe] at this; simp [this]
  have HEQ := hide hEe
  clear he hp hlo hhi hst hda hk hE hEe
  go_enter Tryz.func5, Tryz.ntmps5
  go_upto_block 0 with (go_at_call 7; rw [← hW1]; refine (alive2_any _).mono ?_; rintro e w1 ⟨rfl, hb⟩; have HB3 := hide (Below.on HB2.out hb); have HO3 := hide (HOP.out.below hb); have HA3 := hide (HAR.out.below hb); obtain ⟨o0, o1, o2, o3, o4, o5, o6⟩ := HO3.out.cells; obtain ⟨⟨a0, a1⟩, _⟩ := HA3.out.cells; clear hb)
  go_cut [] (fun wc => wc = w1)
  case first =>
    have hk := HK.out
    have hk' : k = 9 ∨ k = 10 ∨ k = 11 ∨ k = 12 ∨ k = 13 ∨ k = 14 ∨ k = 15 := by omega
    clear hk
    rcases hk' with rfl | rfl | rfl | rfl | rfl | rfl | rfl
    all_goals go_wp2
    all_goals go_meet
    all_goals rfl
  case rest =>
  subst hcut
  go_wp2_with (go_at_call 8; have hb4 := HB3.out.alloc HB3.out.size (.cells #[.slice da dl dc, .slice xa n xc] 25); have hA4 := ArrAt.new wc (.slice da dl dc) (.slice xa n xc); refine (rDo_badR k HK.out x ea el ec es pa pl pc ps la ll lc lo ha hl hc hi ta tl tc st (some ⟨wc.heap.size, 0, none⟩) 1 1 (fun _ => ⟨da, dl, dc, ds, xa, n, xc⟩) _ (HE.out.below hb4) (HP.out.below hb4) (HLO.out.below hb4) (HHI.out.below hb4) (HST.out.below hb4) (.inr ⟨wc.heap.size, 0, rfl, fun j hj => by obtain rfl : j = 0 := by { omega }; exact ⟨hA4.cells.1.1, hA4.cells.1.2, HDA.out.below hb4⟩⟩) (by omega) HEE.out).mono ?_; rintro e w5 ⟨rfl, hb⟩; rw [← HEQ.out]; have HB5 := hide (Below.on hb4 hb); clear hb4 hA4 hb)
  go_ret
  exact ⟨rfl, HB5.out.alloc HB5.out.size _⟩

theorem arrayAdjoint_walk (k x : Int) (ea : Option Addr) (el ec : Nat) (es : List Int) (pa : Option Addr) (pl pc : Nat) (ps : List Int) (la : Option Addr) (ll lc : Nat) (lo : List Int) (ha : Option Addr) (hl hc : Nat) (hi : List Int) (ta : Option Addr) (tl tc : Nat) (st : List Int) (da : Option Addr) (dl dc : Nat) (ds : List Int) (xa : Option Addr) (n xc : Nat) (xs : List Int) (ua : Option Addr) (un uc : Nat) (us : List Int) (w : World)
    (he : Lst w ea el ec es) (hp : Lst w pa pl pc ps) (hlo : Lst w la ll lc lo) (hhi : Lst w ha hl hc hi) (hst : Lst w ta tl tc st) (hda : Lst w da dl dc ds) (hxa : Ints w xa n xs) (hxc : n ≤ xc) (hua : Ints w ua un us) :
    Calls Tryz.prog 5 #[.agg #[.int .i64 k, .slice ea el ec, .slice pa pl pc, .slice la ll lc, .slice ha hl hc, .slice ta tl tc, .int .i64 x], .agg #[.slice da dl dc, .slice xa n xc], .slice ua un uc] w fun e w' => e = .returned (.bool true) ∧ Below w.heap.size w w' := by
  by_cases hk : 9 ≤ k ∧ k ≤ 15
  · by_cases hE : doE k es ps lo hi st 1 (oneV ds n) = 0
    · have hk' : k = 9 ∨ k = 10 ∨ k = 11 ∨ k = 12 ∨ k = 13 ∨ k = 14 ∨ k = 15 := by omega
      rcases hk' with rfl | rfl | rfl | rfl | rfl | rfl | rfl
      · exact adj_kind9 x ea el ec es pa pl pc ps la ll lc lo ha hl hc hi ta tl tc st da dl dc ds xa n xc xs ua un uc us w he hp hlo hhi hst hda hxa hxc hua hE
      · exact adj_kind10 x ea el ec es pa pl pc ps la ll lc lo ha hl hc hi ta tl tc st da dl dc ds xa n xc xs ua un uc us w he hp hlo hhi hst hda hxa hxc hua hE
      · exact adj_kind11 x ea el ec es pa pl pc ps la ll lc lo ha hl hc hi ta tl tc st da dl dc ds xa n xc xs ua un uc us w he hp hlo hhi hst hda hxa hxc hua hE
      · exact adj_kind12 x ea el ec es pa pl pc ps la ll lc lo ha hl hc hi ta tl tc st da dl dc ds xa n xc xs ua un uc us w he hp hlo hhi hst hda hxa hxc hua hE
      · exact adj_kind13 x ea el ec es pa pl pc ps la ll lc lo ha hl hc hi ta tl tc st da dl dc ds xa n xc xs ua un uc us w he hp hlo hhi hst hda hxa hxc hua hE
      · exact adj_kind14 x ea el ec es pa pl pc ps la ll lc lo ha hl hc hi ta tl tc st da dl dc ds xa n xc xs ua un uc us w he hp hlo hhi hst hda hxa hxc hua hE
      · exact adj_kind15 x ea el ec es pa pl pc ps la ll lc lo ha hl hc hi ta tl tc st da dl dc ds xa n xc xs ua un uc us w he hp hlo hhi hst hda hxa hxc hua hE
    · exact adj_err k x ea el ec es pa pl pc ps la ll lc lo ha hl hc hi ta tl tc st da dl dc ds xa n xc ua un uc w he hp hlo hhi hst hda hk hE
  · exact adj_other k x ea el ec pa pl pc la ll lc ha hl hc ta tl tc da dl dc xa n xc ua un uc w hk
end Go.Proofs.YteoobeldmicjhaaGreat.V
