/-
  Contract: view.Index. Contract: view.Index, whatever it is asked. Places and indices go back and forth. Points: the mathematics of chapter 9. Contracts: a row's number, what is above all rows, what is wrong with rows, boxes, points. Contracts: view.fresh, view.blank, view.reached, adjointref1.made. All points of a box, in order: by its last number.
-/
import Derived.Test.YtoidgdbgpbcebaaK3
import Derived.Test.YtoidgdbgpbcebaaK6
import Derived.Test.YtoidgdbgpbcebaaK5
import Derived.Deep.OwnRows
import Derived.Test.YtoidgdbgpbcebaaK2
import Derived.Laws.CopyOwn
import Derived.Deep.RegionWith
namespace Go.Proofs.Ytoidgdbgpbcebaa.V
open Go.RowKit Go.Shelf
attribute [local go_sem] Oper.semAt_some


def idxV (xs : List Int) (p : Int) (k : Nat) : Int := p / beh xs k % xs[k]?.getD 0
def indexV (xs : List Int) (p : Int) : List Int := (List.range xs.length).map (idxV xs p)
def indexE (xs : List Int) (p : Int) : Int := if sizeE xs ≠ 0 then sizeE xs else if p < 0 ∨ sizeN xs ≤ p then 4 else 0
def indexL (xs : List Int) (p : Int) : List Int := if sizeE xs ≠ 0 then [] else if p < 0 ∨ sizeN xs ≤ p then [] else indexV xs p

/-- The row of an index on its way: those that have come hold their number, the others 0. -/
def rowF (xs : List Int) (p : Int) {n : Nat} (pre : List (Fin n)) (j : Nat) : Value := .int .i64 (if pre.any (fun k => k.1 == j) = true then idxV xs p j else 0)
theorem rowF_snoc (xs : List Int) (p : Int) {n : Nat} (pre : List (Fin n)) (k : Fin n) (j : Nat) : (if j = k.1 then .int .i64 (idxV xs p k.1) else rowF xs p pre j) = rowF xs p (pre ++ [k]) j := by
  unfold rowF
  rw [List.any_append]
  by_cases e : j = k.1
  · subst e; simp
  · have : (k.1 == j) = false := by simp; omega
    simp [e, this]
theorem down_any (n j : Nat) (hj : j < n) : (down n 0).any (fun k => k.1 == j) = true := by
  rw [List.any_eq_true]
  exact ⟨⟨j, hj⟩, by simp [down], by simp⟩
theorem rowF_all (xs : List Int) (p : Int) (n j : Nat) (hj : j < n) : rowF xs p (down n 0) j = .int .i64 (idxV xs p j) := by
  unfold rowF; rw [down_any n j hj]; simp

theorem row_own {β : Type} (R : Nat) (t : TypeId) (n : Nat) (f : β → Nat → Value) : Own (fun s W => W.rowIs R t n (f s)) := fun s X Y row hs hg hrow =>
  hs.of_block (hg.block R hs.lt (fun e' => by obtain ⟨o, ho, hc⟩ := hrow R e'.symm; obtain ⟨c, hb, _⟩ := hs; rw [hb] at ho; cases ho; cases hc))
theorem row_setBox {w : World} {b : Nat} {t : TypeId} {n : Nat} {f : Nat → Value} (h : w.rowIs b t n f) {b' : Nat} (hne : b ≠ b') (v : Value) : (w.setCell ⟨b', 0, none⟩ v).rowIs b t n f := h.setOther (a := ⟨b', 0, none⟩) hne v
theorem boxed_setRow {W : World} {B : Nat} {t : TypeId} {v : Value} (h : Boxed W B t v) {b : Nat} (hne : B ≠ b) (i : Nat) (u : Value) : Boxed (W.setCell ⟨b, i, none⟩ u) B t v := (Below.heap_setCell W ⟨b, i, none⟩ u B hne).trans h

theorem wrap_in (n : Int) (h1 : -9223372036854775808 ≤ n) (h2 : n ≤ 9223372036854775807) : IntKind.i64.wrap n = n := by
  simp only [IntKind.wrap, IntKind.bits, IntKind.signed]
  simp
  split <;> omega

theorem idxV_bd {xs : List Int} {p : Int} (hg : ∀ x ∈ xs, 1 ≤ x) {k : Nat} (hk : k < xs.length) : 0 ≤ idxV xs p k ∧ idxV xs p k < xs[k]?.getD 0 := by
  have := hg _ (mem_getD xs k hk)
  unfold idxV
  exact ⟨Int.emod_nonneg _ (by omega), Int.emod_lt_of_pos _ (by omega)⟩

theorem index_good {xs : List Int} {p : Int} (hE : sizeE xs = 0) (h0 : 0 ≤ p) (h1 : p < sizeN xs) : (∀ x ∈ xs, 1 ≤ x ∧ x ≤ 4096) ∧ prod xs ≤ 65536 ∧ sizeN xs = prod xs ∧ xs.length ≤ 6 := by
  obtain ⟨z1, z2, z3, z4⟩ := sizeE_ok hE
  have hpos : ∀ x ∈ xs, 1 ≤ x := fun x hx => by
    have := z2 x hx
    by_cases e : x = 0
    · subst e; have := z4 hx; omega
    · omega
  exact ⟨fun x hx => ⟨hpos x hx, (z2 x hx).2⟩, (z3 hpos).1, (z3 hpos).2, z1⟩

set_option maxRecDepth 100000 in
set_option maxHeartbeats 4000000 in
theorem index_row (a : Option Addr) (len cap : Nat) (xs : List Int) (p : Int) (w : World) (h : Ints w a len xs) (hE : sizeE xs = 0) (h0 : 0 ≤ p) (h1 : p < sizeN xs) :
    CallsIn FW 8 Try.prog 93 #[.slice a len cap, .int .i64 p] w fun e w' => (∃ g : Nat, e = .returned (.tuple #[.slice (some ⟨g, 0, none⟩) len len, .int .i64 0]) ∧ Ints w' (some ⟨g, 0, none⟩) len (indexV xs p) ∧ w.heap.size ≤ g ∧ w'.rowIs g 3 len (fun j => .int .i64 (idxV xs p j))) ∧ Below w.heap.size w w' := by
  obtain ⟨hg, hp, hn, hl6⟩ := index_good hE h0 h1
  have hl := h.1
  have hlen : len ≤ 6 := by omega
  have h1' : p ≤ 65536 := by omega
  have hpos : ∀ x ∈ xs, 1 ≤ x := fun x hx => (hg x hx).1
  have H := hide h
  have HE := hide hE
  have HL := hide hl
  have HP := hide hp
  have HPOS := hide hpos
  have HG := hide hg
  have HN := hide hn
  clear h hE hl hp hpos hg hl6 hn
  have hro : FW.round = none := rfl
  have hmk := run_make_row' (P := Try.prog) 22 3 (.int .i64 0) 8 Try.underlying22 info_int rfl .i64 .i64 len (by omega) (by omega)
  refine callsIn_of_wp_marks Try.func93 rfl trivial ?_ hro
  simp only [Try.ntmps93, List.size_toArray, List.length_cons, List.length_nil, Nat.reduceAdd, Nat.reduceSub, Array.replicate_succ, Array.replicate_zero, List.push_toArray, List.append_toArray, List.nil_append, List.cons_append]
  gi_wp2_with (first | (refine ⟨trivial, ?_⟩; gi_at_call 92; refine (callsIn_wide.2 (size_any _ _ _ xs _ (H.out.below (((Below.refl _ w).alloc (Nat.le_refl _) _).alloc (by simp) _)))).mono ?_; rintro e w' ⟨rfl, rfl⟩; rw [HE.out]) | (refine ⟨trivial, ?_⟩; gi_at_call 110; refine (lastFirst_in FW _ trivial rfl _ _ _ _).mono ?_; rintro e w' ⟨rfl, rfl⟩))
  have bD := Boxed.new w 22 (.slice a len cap)
  have bP := Boxed.new (w.alloc (.cells #[.slice a len cap] 22)) 3 (.int .i64 p)
  have bR := World.rowIs_made ((w.alloc (.cells #[.slice a len cap] 22)).alloc (.cells #[.int .i64 p] 3)) (.int .i64 0) len 3
  simp only [World.size_alloc] at bP bR
  have bA := Boxed.new (((w.alloc (.cells #[.slice a len cap] 22)).alloc (.cells #[.int .i64 p] 3)).alloc (.cells (madeCells #[.int .i64 0] len) 3)) 22 (.slice (some ⟨w.heap.size + 1 + 1, 0, none⟩) len len)
  simp only [World.size_alloc] at bA
  have bN := Boxed.new ((((w.alloc (.cells #[.slice a len cap] 22)).alloc (.cells #[.int .i64 p] 3)).alloc (.cells (madeCells #[.int .i64 0] len) 3)).alloc (.cells #[.slice (some ⟨w.heap.size + 1 + 1, 0, none⟩) len len] 22)) 22 (.slice a len cap)
  simp only [World.size_alloc] at bN
  have hB0 : Below w.heap.size w (((((w.alloc (.cells #[.slice a len cap] 22)).alloc (.cells #[.int .i64 p] 3)).alloc (.cells (madeCells #[.int .i64 0] len) 3)).alloc (.cells #[.slice (some ⟨w.heap.size + 1 + 1, 0, none⟩) len len] 22)).alloc (.cells #[.slice a len cap] 22)) :=
    (((((Below.refl _ w).alloc (Nat.le_refl _) _).alloc (by simp) _).alloc (by simp; omega) _).alloc (by simp; omega) _).alloc (by simp; omega) _
  replace bD := (((bD.alloc (.cells #[.int .i64 p] 3)).alloc (.cells (madeCells #[.int .i64 0] len) 3)).alloc (.cells #[.slice (some ⟨w.heap.size + 1 + 1, 0, none⟩) len len] 22)).alloc (.cells #[.slice a len cap] 22)
  replace bP := ((bP.alloc (.cells (madeCells #[.int .i64 0] len) 3)).alloc (.cells #[.slice (some ⟨w.heap.size + 1 + 1, 0, none⟩) len len] 22)).alloc (.cells #[.slice a len cap] 22)
  replace bR := (bR.alloc (.cells #[.slice (some ⟨w.heap.size + 1 + 1, 0, none⟩) len len] 22)).alloc (.cells #[.slice a len cap] 22)
  replace bA := bA.alloc (.cells #[.slice a len cap] 22)
  obtain ⟨W0, hW0⟩ : ∃ W0, (((((w.alloc (.cells #[.slice a len cap] 22)).alloc (.cells #[.int .i64 p] 3)).alloc (.cells (madeCells #[.int .i64 0] len) 3)).alloc (.cells #[.slice (some ⟨w.heap.size + 1 + 1, 0, none⟩) len len] 22)).alloc (.cells #[.slice a len cap] 22)) = W0 := ⟨_, rfl⟩
  have hsz : W0.heap.size = w.heap.size + 5 := by rw [← hW0]; simp
  rw [hW0] at bD bP bR bA bN hB0 ⊢
  clear hW0 hmk
  refine wpIn_rangeFunc_ownG (F := FW) (n := 8) hro (by omega) (gf := 116) (lb := #[.pointer (some ⟨w.heap.size + 1 + 1 + 1 + 1, 0, none⟩)]) rfl trivial (enters_of Try.func116 (by kernel_rfl) rfl)
    (lastFirst_stops FW 7 trivial rfl (by omega) (w.heap.size + 1 + 1 + 1 + 1) w.heap.size len cap a xs HL.out hlen HPOS.out HP.out W0 (by omega) bN ?hints) Keep.trans (keep_b (by omega) (by omega)) (Below.refl _ _) (fun _ => rfl)
    (fun pre W => ((Boxed W w.heap.size 22 (.slice a len cap) ∧ Boxed W (w.heap.size + 1) 3 (.int .i64 p)) ∧ (W.rowIs (w.heap.size + 1 + 1) 3 len (rowF xs p pre) ∧ Boxed W (w.heap.size + 1 + 1 + 1) 22 (.slice (some ⟨w.heap.size + 1 + 1, 0, none⟩) len len))) ∧ Below w.heap.size w W)
    (fun _ _ _ => False)
    ?own (fun _ _ _ _ _ hs _ _ => hs)
    ⟨⟨⟨bD, bP⟩, ⟨bR.congr (fun i _ => by simp [rowF]), bA⟩⟩, hB0⟩
    ?a1 ?assign ?body ?done ?stop
  case assign =>
    intro l x W K hK
    simp only [enc2]
    gi_wp2
    exact hK
  case hints =>
    by_cases h0 : len = 0
    · exact .inl h0
    · obtain ⟨b, off, ha, hb, hc⟩ := H.out.at (by omega)
      exact .inr ⟨b, off, ha, hb, fun j hj => (hB0.cell (p := ⟨b, off + j, none⟩) hb).trans (hc j hj)⟩
  case own =>
    exact OwnFrom.and (OwnFrom.and (OwnFrom.and (Own.from (boxed_own _ _ _) _) (Own.from (boxed_own _ _ _) _)) (OwnFrom.and (Own.from (row_own _ _ _ _) _) (Own.from (boxed_own _ _ _) _))) (ownFrom_below (Nat.le_refl _) (by omega))
  case body =>
    rintro l pre x W ⟨⟨⟨hbD, hbP⟩, ⟨hbR, hbA⟩⟩, hB⟩ hpre
    have hx := x.2
    obtain ⟨b, off, rfl, hb, hc⟩ := H.out.at (by omega)
    have hkl : x.1 < xs.length := by rw [HL.out]; exact hx
    have hcD := hbD.cell
    have hcP := hbP.cell
    have hcA := hbA.cell
    have hcR := hbR.cell hx
    have hfR := hbR.frozen x.1
    have hcx : W.cell? ⟨b, off + x.1, none⟩ = some (.int .i64 (xs[x.1]?.getD 0)) := (hB.cell (p := ⟨b, off + x.1, none⟩) hb).trans (hc x.1 hx)
    have hd := HG.out _ (mem_getD xs x.1 hkl)
    obtain ⟨hd1, hd2⟩ := hd
    have hbh := prod_drop_le xs HPOS.out (x.1 + 1)
    have hb1 : 1 ≤ beh xs x.1 := hbh.1
    have hb2 : beh xs x.1 ≤ 65536 := Int.le_trans hbh.2 HP.out
    have hq1 : 0 ≤ p / beh xs x.1 := Int.ediv_nonneg h0 (by omega)
    have hq2 : p / beh xs x.1 ≤ 65536 := Int.le_trans (Int.ediv_le_self _ h0) h1'
    have hz1 : ¬ beh xs x.1 = 0 := by omega
    have hz2 : ¬ xs[x.1]?.getD 0 = 0 := by omega
    have ht1 : IntKind.i64.wrap (p.tdiv (beh xs x.1)) = p / beh xs x.1 := by
      rw [Int.tdiv_eq_ediv_of_nonneg h0]; exact wrap_in _ (by omega) (by omega)
    have ht2 : IntKind.i64.wrap ((p / beh xs x.1).tmod (xs[x.1]?.getD 0)) = idxV xs p x.1 := by
      rw [Int.tmod_eq_emod_of_nonneg hq1]
      have := idxV_bd (p := p) HPOS.out hkl
      unfold idxV at this ⊢
      exact wrap_in _ (by omega) (by omega)
    have HID : Hid (p / beh xs x.1 % xs[x.1]?.getD 0 = idxV xs p x.1) := rfl
    have HD := hide hbD
    have HP' := hide hbP
    have HR := hide hbR
    have HA := hide hbA
    have HB := hide hB
    clear hbD hbP hbR hbA hB hc hkl hbh bD bP bR bA bN hB0
    gi_wp2
    refine region_reads 11 (by kernel_rfl) (by kernel_rfl) rfl ?_
    simp only [List.take]
    iterate 11
      apply Reads.step
      · go_simp
        try rfl
      · rfl
      simp only [Act.put, List.setIfInBounds_toArray, List.set_cons_succ, List.set_cons_zero]
    refine Reads.nil ?_
    gi_wp2
    refine ⟨((KeepsOthers.setCell _ _ _).trans (KeepsOthers.drew _)).from _, ?_, ⟨⟨⟨?_, ?_⟩, ⟨?_, ?_⟩⟩, ?_⟩⟩
    · exact ((Keep.refl _ _ W).setCell (p := ⟨w.heap.size + 1 + 1, x.1, none⟩) (by simp; omega) (by simp; omega) _).drewN
    · exact boxed_setRow HD.out (by omega) _ _
    · exact boxed_setRow HP'.out (by omega) _ _
    · exact (HR.out.set x.1 _).congr (fun j _ => rowF_snoc xs p pre x j)
    · exact boxed_setRow HA.out (by omega) _ _
    · exact (HB.out.setCell (p := ⟨w.heap.size + 1 + 1, x.1, none⟩) (by simp; omega) _).drew
  case done =>
    rintro D zs W hD rfl ⟨⟨⟨hbD, hbP⟩, ⟨hbR, hbA⟩⟩, hB⟩ hK
    have hcA := hbA.cell
    gi_wp2
    refine ⟨by simp, .inl ⟨_, _, rfl, run_takeDeferred hK, ?_⟩⟩
    refine ⟨_, results_tmp2 rfl _ _ _, ⟨_, rfl, ?_, by omega, (hbR.of_block (World.putObj_heap_other (by omega))).congr fun j hj => rowF_all xs p len j hj⟩, hB.trans (belowK_b (w := w) (Nat.le_refl _) W D _ _ (by omega) hK rfl rfl)⟩
    have hrow : (W.putObj D (.deferred none)).rowIs (w.heap.size + 1 + 1) 3 len (rowF xs p (down len 0)) := hbR.of_block (World.putObj_heap_other (by omega))
    refine ⟨by simp [indexV, HL.out], by omega, fun y hy => ?_, ?_⟩
    · simp only [indexV, List.mem_map, List.mem_range] at hy
      obtain ⟨k, hk, rfl⟩ := hy
      have h1 := idxV_bd (p := p) HPOS.out hk
      have h2 := HG.out _ (mem_getD xs k hk)
      omega
    · refine .inr ⟨_, _, rfl, fun j hj => ?_⟩
      have := hrow.cell hj
      rw [rowF_all xs p len j hj] at this
      simpa [indexV, HL.out, hj] using this
  case stop =>
    rintro D c pre W _ _ h _
    exact h.elim
theorem index_ok (a : Option Addr) (len cap : Nat) (xs : List Int) (p : Int) (w : World) (h : Ints w a len xs) (hE : sizeE xs = 0) (h0 : 0 ≤ p) (h1 : p < sizeN xs) :
    CallsIn FW 8 Try.prog 93 #[.slice a len cap, .int .i64 p] w fun e w' => (∃ g : Nat, e = .returned (.tuple #[.slice (some ⟨g, 0, none⟩) len len, .int .i64 0]) ∧ Ints w' (some ⟨g, 0, none⟩) len (indexV xs p)) ∧ Below w.heap.size w w' := by
  refine (index_row a len cap xs p w h hE h0 h1).mono ?_
  rintro e w' ⟨⟨g, e1, e2, _⟩, hb⟩
  exact ⟨⟨g, e1, e2⟩, hb⟩
end Go.Proofs.Ytoidgdbgpbcebaa.V
namespace Go.Proofs.Ytoidgdbgpbcebaa.V
open Go.RowKit Go.Shelf
attribute [local go_sem] Oper.semAt_some

set_option maxRecDepth 100000 in
set_option maxHeartbeats 2000000 in
theorem index_size (a : Option Addr) (len cap : Nat) (xs : List Int) (p : Int) (w : World) (h : Ints w a len xs) (hE : sizeE xs ≠ 0) :
    CallsIn FW 8 Try.prog 93 #[.slice a len cap, .int .i64 p] w fun e w' => e = .returned (.tuple #[.slice none 0 0, .int .i64 (sizeE xs)]) ∧ Below w.heap.size w w' := by
  have H := hide h
  have hro : FW.round = none := rfl
  have hE1 : (sizeE xs != 0) = true := by simp [hE]
  clear h hE
  refine callsIn_of_wp Try.func93 rfl trivial ?_ hro
  simp only [Try.ntmps93, List.size_toArray, List.length_cons, List.length_nil, Nat.reduceAdd, Nat.reduceSub, Array.replicate_succ, Array.replicate_zero, List.push_toArray, List.append_toArray, List.nil_append, List.cons_append]
  gi_wp2_with (refine ⟨trivial, ?_⟩; gi_at_call 92; refine (callsIn_wide.2 (size_any _ _ _ xs _ (H.out.below (((Below.refl _ w).alloc (Nat.le_refl _) _).alloc (by simp) _)))).mono ?_; rintro e w' ⟨rfl, rfl⟩)
  go_ret2
  exact ⟨rfl, ((Below.refl _ w).alloc (Nat.le_refl _) _).alloc (by simp) _⟩

set_option maxRecDepth 100000 in
set_option maxHeartbeats 2000000 in
theorem index_range (a : Option Addr) (len cap : Nat) (xs : List Int) (p : Int) (w : World) (h : Ints w a len xs) (hE : sizeE xs = 0) (hp : p < 0 ∨ sizeN xs ≤ p) :
    CallsIn FW 8 Try.prog 93 #[.slice a len cap, .int .i64 p] w fun e w' => e = .returned (.tuple #[.slice none 0 0, .int .i64 4]) ∧ Below w.heap.size w w' := by
  have H := hide h
  have HE := hide hE
  have hro : FW.round = none := rfl
  clear h hE
  by_cases hp0 : p < 0
  · clear hp
    refine callsIn_of_wp Try.func93 rfl trivial ?_ hro
    simp only [Try.ntmps93, List.size_toArray, List.length_cons, List.length_nil, Nat.reduceAdd, Nat.reduceSub, Array.replicate_succ, Array.replicate_zero, List.push_toArray, List.append_toArray, List.nil_append, List.cons_append]
    gi_wp2_with (refine ⟨trivial, ?_⟩; gi_at_call 92; refine (callsIn_wide.2 (size_any _ _ _ xs _ (H.out.below (((Below.refl _ w).alloc (Nat.le_refl _) _).alloc (by simp) _)))).mono ?_; rintro e w' ⟨rfl, rfl⟩; rw [HE.out])
    go_ret2
    exact ⟨rfl, ((Below.refl _ w).alloc (Nat.le_refl _) _).alloc (by simp) _⟩
  · have hp1 : sizeN xs ≤ p := by omega
    clear hp
    refine callsIn_of_wp Try.func93 rfl trivial ?_ hro
    simp only [Try.ntmps93, List.size_toArray, List.length_cons, List.length_nil, Nat.reduceAdd, Nat.reduceSub, Array.replicate_succ, Array.replicate_zero, List.push_toArray, List.append_toArray, List.nil_append, List.cons_append]
    gi_wp2_with (refine ⟨trivial, ?_⟩; gi_at_call 92; refine (callsIn_wide.2 (size_any _ _ _ xs _ (H.out.below (((Below.refl _ w).alloc (Nat.le_refl _) _).alloc (by simp) _)))).mono ?_; rintro e w' ⟨rfl, rfl⟩; rw [HE.out])
    go_ret2
    exact ⟨rfl, ((Below.refl _ w).alloc (Nat.le_refl _) _).alloc (by simp) _⟩

theorem ints_nil (w : World) : Ints w none 0 [] := ⟨rfl, by omega, by simp, .inl rfl⟩

/-- Index answers a new list, or none. -/
theorem index_call (a : Option Addr) (len cap : Nat) (xs : List Int) (p : Int) (w : World) (h : Ints w a len xs) :
    Calls Try.prog 93 #[.slice a len cap, .int .i64 p] w fun e w' => (∃ (b : Option Addr) (n c : Nat), e = .returned (.tuple #[.slice b n c, .int .i64 (indexE xs p)]) ∧ Ints w' b n (indexL xs p)) ∧ Below w.heap.size w w' := by
  refine (callsIn_wide (n := 8)).1 ?_
  by_cases hE : sizeE xs = 0
  · by_cases hp : p < 0 ∨ sizeN xs ≤ p
    · have e1 : indexE xs p = 4 := by simp only [indexE, hE]; simp [hp]
      have e2 : indexL xs p = [] := by simp only [indexL, hE]; simp [hp]
      rw [e1, e2]
      refine (index_range a len cap xs p w h hE hp).mono ?_
      rintro e w' ⟨rfl, hb⟩
      exact ⟨⟨none, 0, 0, rfl, ints_nil _⟩, hb⟩
    · have e1 : indexE xs p = 0 := by simp only [indexE, hE]; simp [hp]
      have e2 : indexL xs p = indexV xs p := by simp only [indexL, hE]; simp [hp]
      rw [e1, e2]
      refine (index_ok a len cap xs p w h hE (by omega) (by omega)).mono ?_
      rintro e w' ⟨⟨g, rfl, hi⟩, hb⟩
      exact ⟨⟨_, _, _, rfl, hi⟩, hb⟩
  · have e1 : indexE xs p = sizeE xs := by simp [indexE, hE]
    have e2 : indexL xs p = [] := by simp [indexL, hE]
    rw [e1, e2]
    refine (index_size a len cap xs p w h hE).mono ?_
    rintro e w' ⟨rfl, hb⟩
    exact ⟨⟨none, 0, 0, rfl, ints_nil _⟩, hb⟩
end Go.Proofs.Ytoidgdbgpbcebaa.V
namespace Go.Proofs.Ytoidgdbgpbcebaa.V

/-- The product from dimension k on. -/
def P (xs : List Int) (k : Nat) : Int := prod (xs.drop k)
theorem P_succ (xs : List Int) (k : Nat) (h : k < xs.length) : P xs k = xs[k]?.getD 0 * P xs (k + 1) := prod_drop xs k h
theorem P_pos {xs : List Int} (h : ∀ x ∈ xs, 1 ≤ x) (k : Nat) : 1 ≤ P xs k := (prod_drop_le xs h k).1
theorem P_end (xs : List Int) : P xs xs.length = 1 := by simp [P, prod]
theorem P_zero (xs : List Int) : P xs 0 = prod xs := by simp [P]
theorem beh_P (xs : List Int) (k : Nat) : beh xs k = P xs (k + 1) := rfl

theorem indexV_getD (xs : List Int) (p : Int) (k : Nat) (h : k < xs.length) : (indexV xs p)[k]?.getD 0 = idxV xs p k := by simp [indexV, h]
theorem indexV_length (xs : List Int) (p : Int) : (indexV xs p).length = xs.length := by simp [indexV]

theorem place_index_step {xs : List Int} {p : Int} (hg : ∀ x ∈ xs, 1 ≤ x) : ∀ k, k ≤ xs.length → placeS xs (indexV xs p) k = p / P xs k * P xs k - p / P xs 0 * P xs 0
  | 0, _ => by simp [placeS]
  | k + 1, h => by
    have hk : k < xs.length := by omega
    have h1 := P_pos hg k
    have h2 := P_pos hg (k + 1)
    have hx := hg _ (mem_getD xs k hk)
    have e := P_succ xs k hk
    rw [placeS, place_index_step hg k (by omega), indexV_getD xs p k hk, beh_P]
    unfold idxV
    rw [beh_P]
    have hdm := Int.emod_add_mul_ediv (p / P xs (k + 1)) (xs[k]?.getD 0)
    have hdd : p / P xs (k + 1) / xs[k]?.getD 0 = p / P xs k := by
      rw [Int.ediv_ediv_of_nonneg (by omega), e, Int.mul_comm]
    rw [hdd] at hdm
    have key : (p / P xs (k + 1) % xs[k]?.getD 0) * P xs (k + 1) = p / P xs (k + 1) * P xs (k + 1) - p / P xs k * P xs k := by
      have e2 : p / P xs (k + 1) % xs[k]?.getD 0 = p / P xs (k + 1) - xs[k]?.getD 0 * (p / P xs k) := by omega
      rw [e2, Int.sub_mul, e]
      congr 1
      rw [Int.mul_comm (xs[k]?.getD 0) (p / _), Int.mul_assoc]
    rw [key]; omega

theorem place_index {xs : List Int} {p : Int} (hg : ∀ x ∈ xs, 1 ≤ x) (h0 : 0 ≤ p) (h1 : p < prod xs) : placeS xs (indexV xs p) xs.length = p := by
  rw [place_index_step hg _ (Nat.le_refl _), P_end, P_zero, Int.ediv_eq_zero_of_lt h0 h1]; simp

theorem index_idxOk {xs : List Int} (p : Int) (hg : ∀ x ∈ xs, 1 ≤ x) : IdxOk xs (indexV xs p) := by
  intro k hk
  rw [indexV_getD xs p k hk]
  exact idxV_bd hg hk

theorem rest_bd {xs ys : List Int} (h : IdxOk xs ys) : ∀ d k, k + d = xs.length → 0 ≤ placeS xs ys xs.length - placeS xs ys k ∧ placeS xs ys xs.length - placeS xs ys k < P xs k := by
  intro d
  induction d with
  | zero =>
    intro k hk
    obtain rfl : k = xs.length := by omega
    rw [P_end]; omega
  | succ d ih =>
    intro k hk
    obtain ⟨i1, i2⟩ := ih (k + 1) (by omega)
    have hkl : k < xs.length := by omega
    have hg := idxOk_pos h
    have h2 := P_pos hg (k + 1)
    obtain ⟨j1, j2⟩ := h k hkl
    have e := P_succ xs k hkl
    rw [placeS, beh_P] at i1 i2
    have m1 : 0 ≤ ys[k]?.getD 0 * P xs (k + 1) := Int.mul_nonneg j1 (by omega)
    have m2 : ys[k]?.getD 0 * P xs (k + 1) ≤ (xs[k]?.getD 0 - 1) * P xs (k + 1) := Int.mul_le_mul_of_nonneg_right (by omega) (by omega)
    rw [Int.sub_mul, Int.one_mul] at m2
    rw [e]; omega

theorem head_div {xs ys : List Int} : ∀ k, k ≤ xs.length → ∃ c, placeS xs ys k = c * P xs k
  | 0, _ => ⟨0, by simp [placeS]⟩
  | k + 1, h => by
    obtain ⟨c, hc⟩ := head_div (xs := xs) (ys := ys) k (by omega)
    refine ⟨c * xs[k]?.getD 0 + ys[k]?.getD 0, ?_⟩
    rw [placeS, hc, beh_P, P_succ xs k (by omega), Int.add_mul, Int.mul_assoc]

theorem place_bd {xs ys : List Int} (h : IdxOk xs ys) : 0 ≤ placeS xs ys xs.length ∧ placeS xs ys xs.length < prod xs := by
  have := rest_bd h xs.length 0 (by omega)
  simpa [placeS, P_zero] using this

theorem index_place {xs ys : List Int} (h : IdxOk xs ys) (hl : ys.length = xs.length) : indexV xs (placeS xs ys xs.length) = ys := by
  apply List.ext_getElem
  · rw [indexV_length, hl]
  intro k h1 h2
  have hk : k < xs.length := by rw [indexV_length] at h1; exact h1
  have e1 : (indexV xs (placeS xs ys xs.length))[k] = idxV xs (placeS xs ys xs.length) k := by simp [indexV]
  rw [e1]
  have e2 : ys[k] = ys[k]?.getD 0 := by simp [h2]
  rw [e2]
  obtain ⟨c, hc⟩ := head_div (xs := xs) (ys := ys) k (by omega)
  obtain ⟨i1, i2⟩ := rest_bd h (xs.length - (k + 1)) (k + 1) (by omega)
  obtain ⟨j1, j2⟩ := h k hk
  have hp := P_pos (idxOk_pos h) (k + 1)
  have e := P_succ xs k hk
  have hs : placeS xs ys (k + 1) = (c * xs[k]?.getD 0 + ys[k]?.getD 0) * P xs (k + 1) := by
    rw [placeS, hc, beh_P, e, Int.add_mul, Int.mul_assoc]
  unfold idxV
  rw [beh_P]
  have hq : placeS xs ys xs.length / P xs (k + 1) = c * xs[k]?.getD 0 + ys[k]?.getD 0 := by
    have : placeS xs ys xs.length = (placeS xs ys xs.length - placeS xs ys (k + 1)) + (c * xs[k]?.getD 0 + ys[k]?.getD 0) * P xs (k + 1) := by rw [← hs]; omega
    rw [this, Int.add_mul_ediv_right _ _ (by omega), Int.ediv_eq_zero_of_lt i1 i2]; simp
  rw [hq, Int.add_comm, Int.add_mul_emod_self_right]
  exact Int.emod_eq_of_lt j1 j2
end Go.Proofs.Ytoidgdbgpbcebaa.V
namespace Go.Proofs.Ytoidgdbgpbcebaa.V
open Go.RowKit
set_option linter.unusedVariables false

/-- The sum of the products. -/
def dotV : List Int → List Int → Int
  | c :: cs, x :: xs => c * x + dotV cs xs
  | _, _ => 0
/-- A row's number. -/
def worthV (r : List Int × Int) (xs : List Int) : Int := r.2 + dotV r.1 xs
def aboveB (rs : List (List Int × Int)) (xs : List Int) : Bool := rs.all fun r => decide (0 ≤ worthV r xs)
def ptFar (n : Int) : Bool := decide (n < -1048576) || decide (1048576 < n)
/-- What is wrong with a row. -/
def rowE (r : List Int × Int) (many : Nat) : Int := if r.1.length ≠ many then 6 else if (ptFar r.2 || r.1.any ptFar) = true then 4 else 0
/-- What is wrong with a box. -/
def boxE (box : List Int) : Int := if 4 < box.length then 3 else if box.any badDim = true then 4 else if 4096 < prod box then 5 else 0
/-- What is wrong with the first row that is not right. -/
def rowsE : List (List Int × Int) → Nat → Int
  | [], _ => 0
  | r :: rs, many => if rowE r many ≠ 0 then rowE r many else rowsE rs many
/-- What is wrong with a description of points. -/
def ptE (box : List Int) (rs : List (List Int × Int)) : Int := if boxE box ≠ 0 then boxE box else if 8 < rs.length then 2 else rowsE rs box.length

theorem dotV_take (cs xs : List Int) : ∀ k, k < cs.length → k < xs.length → dotV (cs.take (k + 1)) (xs.take (k + 1)) = dotV (cs.take k) (xs.take k) + cs[k]?.getD 0 * xs[k]?.getD 0 := by
  induction cs generalizing xs with
  | nil => intro k h; simp at h
  | cons c cs ih =>
    intro k h1 h2
    cases xs with
    | nil => simp at h2
    | cons x xs =>
      cases k with
      | zero => simp [dotV]
      | succ k =>
        have := ih xs k (by simpa using h1) (by simpa using h2)
        simp only [List.take_succ_cons, dotV, this, List.getElem?_cons_succ]
        omega
theorem pt_mul_bd {a b : Int} (ha : -1048576 ≤ a ∧ a ≤ 1048576) (hb : 0 ≤ b ∧ b ≤ 4096) : -4294967296 ≤ a * b ∧ a * b ≤ 4294967296 := by
  have h1 : a * b ≤ 1048576 * b := Int.mul_le_mul_of_nonneg_right ha.2 hb.1
  have h2 : -1048576 * b ≤ a * b := Int.mul_le_mul_of_nonneg_right ha.1 hb.1
  omega
theorem dotV_bd : ∀ (cs xs : List Int), (∀ c ∈ cs, -1048576 ≤ c ∧ c ≤ 1048576) → (∀ x ∈ xs, 0 ≤ x ∧ x ≤ 4096) → -(4294967296 * (cs.length : Int)) ≤ dotV cs xs ∧ dotV cs xs ≤ 4294967296 * (cs.length : Int)
  | [], _, _, _ => by simp [dotV]
  | c :: cs, [], h1, _ => by simp [dotV]; omega
  | c :: cs, x :: xs, h1, h2 => by
    have a := pt_mul_bd (h1 c (by simp)) (h2 x (by simp))
    have b := dotV_bd cs xs (fun c hc => h1 c (by simp [hc])) (fun x hx => h2 x (by simp [hx]))
    simp only [dotV, List.length_cons]
    omega
theorem ptFar_no {n : Int} (h : ptFar n = false) : -1048576 ≤ n ∧ n ≤ 1048576 := by
  simp [ptFar] at h; omega
theorem rowE_ok {r : List Int × Int} {many : Nat} (h : rowE r many = 0) : r.1.length = many ∧ (-1048576 ≤ r.2 ∧ r.2 ≤ 1048576) ∧ ∀ c ∈ r.1, -1048576 ≤ c ∧ c ≤ 1048576 := by
  unfold rowE at h
  by_cases h1 : r.1.length ≠ many
  · simp [h1] at h
  · rw [if_neg h1] at h
    by_cases h2 : (ptFar r.2 || r.1.any ptFar) = true
    · simp [h2] at h
    · have h2' : (ptFar r.2 || r.1.any ptFar) = false := by simpa using h2
      rw [Bool.or_eq_false_iff] at h2'
      refine ⟨by simpa using h1, ptFar_no h2'.1, fun c hc => ptFar_no ?_⟩
      have := List.any_eq_false.1 h2'.2 c hc
      simpa using this
theorem rowsE_ok : ∀ {rs : List (List Int × Int)} {many : Nat}, rowsE rs many = 0 → ∀ r ∈ rs, rowE r many = 0
  | [], _, _, r, hr => by simp at hr
  | q :: rs, many, h, r, hr => by
    simp only [rowsE] at h
    by_cases h1 : rowE q many ≠ 0
    · rw [if_pos h1] at h; exact absurd h h1
    · rw [if_neg h1] at h
      rcases List.mem_cons.1 hr with rfl | hr
      · simpa using h1
      · exact rowsE_ok h r hr
theorem pt_prod_zero : ∀ {xs : List Int}, (0 : Int) ∈ xs → prod xs = 0
  | x :: xs, h => by
    rcases List.mem_cons.1 h with e | h
    · simp [prod, ← e]
    · simp [prod, pt_prod_zero h]
theorem boxE_ok {box : List Int} (h : boxE box = 0) : box.length ≤ 4 ∧ (∀ x ∈ box, 0 ≤ x ∧ x ≤ 4096) ∧ prod box ≤ 4096 ∧ sizeE box = 0 ∧ sizeN box = prod box ∧ 0 ≤ prod box := by
  unfold boxE at h
  by_cases h1 : 4 < box.length
  · simp [h1] at h
  rw [if_neg h1] at h
  by_cases h2 : box.any badDim = true
  · simp [h2] at h
  rw [if_neg h2] at h
  by_cases h3 : 4096 < prod box
  · simp [h3] at h
  have h2' : box.any badDim = false := by simpa using h2
  have hx : ∀ x ∈ box, 0 ≤ x ∧ x ≤ 4096 := by
    intro x hx
    have := List.any_eq_false.1 h2' x hx
    simp [badDim] at this
    omega
  have e1 : sizeE box = if (0 : Int) ∈ box then 0 else if 65536 < prod box then 5 else 0 := by
    unfold sizeE; rw [if_neg (by omega), if_neg h2]
  have e2 : sizeN box = if (0 : Int) ∈ box then 0 else if 65536 < prod box then 0 else prod box := by
    unfold sizeN; rw [if_neg (by omega), if_neg h2]
  refine ⟨by omega, hx, by omega, ?_, ?_, ?_⟩
  · rw [e1]; split <;> simp; omega
  · rw [e2]
    by_cases hz : (0 : Int) ∈ box
    · rw [if_pos hz, pt_prod_zero hz]
    · rw [if_neg hz, if_neg (by omega)]
  · by_cases hz : (0 : Int) ∈ box
    · rw [pt_prod_zero hz]; omega
    · have := prod_pos box (fun x hx' => by
        have := hx x hx'
        have : x ≠ 0 := fun e => hz (e ▸ hx')
        omega)
      omega
/-- What is right with a description of points. -/
structure PtOk (box : List Int) (rs : List (List Int × Int)) : Prop where
  rank : box.length ≤ 4
  dims : ∀ x ∈ box, 0 ≤ x ∧ x ≤ 4096
  size : prod box ≤ 4096 ∧ sizeE box = 0 ∧ sizeN box = prod box ∧ 0 ≤ prod box
  many : rs.length ≤ 8
  rows : ∀ r ∈ rs, r.1.length = box.length ∧ (-1048576 ≤ r.2 ∧ r.2 ≤ 1048576) ∧ ∀ c ∈ r.1, -1048576 ≤ c ∧ c ≤ 1048576
theorem ptE_ok {box : List Int} {rs : List (List Int × Int)} (h : ptE box rs = 0) : PtOk box rs := by
  unfold ptE at h
  by_cases h1 : boxE box ≠ 0
  · rw [if_pos h1] at h; exact absurd h h1
  rw [if_neg h1] at h
  by_cases h2 : 8 < rs.length
  · rw [if_pos h2] at h; omega
  rw [if_neg h2] at h
  have h1' : boxE box = 0 := by simpa using h1
  obtain ⟨a, b, c, d, e, f⟩ := boxE_ok h1'
  exact ⟨a, b, ⟨c, d, e, f⟩, by omega, fun r hr => rowE_ok (rowsE_ok h r hr)⟩

/-- The points among the first k places. -/
def upto (box : List Int) (rs : List (List Int × Int)) (k : Nat) : List (List Int) := (((List.range k).map fun p : Nat => indexV box p)).filter (aboveB rs)
def pts (box : List Int) (rs : List (List Int × Int)) : List (List Int) := upto box rs (prod box).toNat
theorem upto_zero (box : List Int) (rs : List (List Int × Int)) : upto box rs 0 = [] := rfl
theorem upto_succ (box : List Int) (rs : List (List Int × Int)) (k : Nat) : upto box rs (k + 1) = upto box rs k ++ (if aboveB rs (indexV box k) = true then [indexV box k] else []) := by
  unfold upto
  rw [List.range_succ, List.map_append, List.filter_append]
  congr 1
  simp only [List.map_cons, List.map_nil, List.filter_cons, List.filter_nil]
theorem upto_pts (box : List Int) (rs : List (List Int × Int)) (k : Nat) (h : k ≤ (prod box).toNat) : ∃ post, pts box rs = upto box rs k ++ post := by
  have e : (prod box).toNat = k + ((prod box).toNat - k) := by omega
  refine ⟨(((List.range' k ((prod box).toNat - k)).map fun p : Nat => indexV box p)).filter (aboveB rs), ?_⟩
  unfold pts upto
  rw [← List.filter_append, ← List.map_append]
  congr 2
  rw [List.range_eq_range', List.range_eq_range']
  conv => lhs; rw [e]
  have := List.range'_append (s := 0) (m := k) (n := (prod box).toNat - k) (step := 1)
  simpa using this.symm
theorem upto_here {box : List Int} {rs : List (List Int × Int)} {k : Nat} (h : k < (prod box).toNat) (ha : aboveB rs (indexV box k) = true) : ∃ post, pts box rs = upto box rs k ++ indexV box k :: post := by
  obtain ⟨post, e⟩ := upto_pts box rs (k + 1) (by omega)
  rw [upto_succ, if_pos ha, List.append_assoc] at e
  exact ⟨post, e⟩
theorem upto_len (box : List Int) (rs : List (List Int × Int)) (k : Nat) : (upto box rs k).length ≤ k := by
  unfold upto
  exact Nat.le_trans (List.length_filter_le _ _) (by simp)
theorem index_bd {box : List Int} {rs : List (List Int × Int)} (ho : PtOk box rs) {p : Nat} (hp : p < (prod box).toNat) : (∀ x ∈ indexV box p, 0 ≤ x ∧ x ≤ 4096) ∧ (indexV box p).length = box.length := by
  have hg := (index_good (xs := box) (p := p) ho.size.2.1 (by omega) (by rw [ho.size.2.2.1]; omega)).1
  refine ⟨fun x hx => ?_, by simp [indexV]⟩
  simp only [indexV, List.mem_map, List.mem_range] at hx
  obtain ⟨k, hk, rfl⟩ := hx
  have h1 := idxV_bd (p := (p : Int)) (fun x hx => (hg x hx).1) hk
  have h2 := hg _ (mem_getD box k hk)
  omega
theorem pts_mem {box : List Int} {rs : List (List Int × Int)} {x : List Int} (h : x ∈ pts box rs) : ∃ p : Nat, p < (prod box).toNat ∧ x = indexV box p ∧ aboveB rs x = true := by
  unfold pts upto at h
  rw [List.mem_filter, List.mem_map] at h
  obtain ⟨⟨p, hp, rfl⟩, ha⟩ := h
  exact ⟨p, by simpa using hp, rfl, ha⟩
theorem pts_len {box : List Int} {rs : List (List Int × Int)} (ho : PtOk box rs) : (pts box rs).length ≤ 4096 := by
  have h1 := upto_len box rs (prod box).toNat
  have h2 := ho.size.1
  unfold pts
  omega
end Go.Proofs.Ytoidgdbgpbcebaa.V
namespace Go.Proofs.Ytoidgdbgpbcebaa.V
open Go.RowKit
set_option linter.unusedVariables false

/-- A row's two cells. -/
def RowAt (w : World) (b o : Nat) (r : List Int × Int) : Prop := ∃ a l c, w.cell? ⟨b, o, none⟩ = some (.slice a l c) ∧ w.cell? ⟨b, o + 1, none⟩ = some (.int .i64 r.2) ∧ Ints w a l r.1 ∧ (l ≤ c ∧ (a = none → c = 0)) ∧ (-9223372036854775808 ≤ r.2 ∧ r.2 ≤ 9223372036854775807)
theorem RowAt.below {w w' : World} {b o : Nat} {r : List Int × Int} (h : RowAt w b o r) (hb : Below w.heap.size w w') : RowAt w' b o r := by
  obtain ⟨a, l, c, h1, h2, h3, h4⟩ := h
  exact ⟨a, l, c, (hb.cell (p := ⟨b, o, none⟩) (lt_of_cell h1)).trans h1, (hb.cell (p := ⟨b, o + 1, none⟩) (lt_of_cell h2)).trans h2, h3.below hb, h4⟩
/-- A list of rows. -/
def Rws (w : World) (a : Option Addr) (len : Nat) (rs : List (List Int × Int)) : Prop := rs.length = len ∧ len ≤ 9223372036854775807 ∧ (len = 0 ∨ ∃ b off, a = some ⟨b, off, none⟩ ∧ ∀ j, j < len → RowAt w b (off + j * 2) (rs[j]?.getD ([], 0)))
theorem Rws.below {w w' : World} {a : Option Addr} {len : Nat} {rs : List (List Int × Int)} (h : Rws w a len rs) (hb : Below w.heap.size w w') : Rws w' a len rs := by
  obtain ⟨h1, h2, h3⟩ := h
  refine ⟨h1, h2, ?_⟩
  rcases h3 with h3 | ⟨b, off, e, h⟩
  · exact .inl h3
  · exact .inr ⟨b, off, e, fun j hj => (h j hj).below hb⟩
theorem Rws.at {w : World} {a : Option Addr} {len : Nat} {rs : List (List Int × Int)} (h : Rws w a len rs) (h0 : 0 < len) : ∃ b off, a = some ⟨b, off, none⟩ ∧ ∀ j, j < len → RowAt w b (off + j * 2) (rs[j]?.getD ([], 0)) := by
  rcases h.2.2 with h3 | h3
  · omega
  · exact h3
theorem mem_getR (rs : List (List Int × Int)) (k : Nat) (h : k < rs.length) : rs[k]?.getD ([], 0) ∈ rs := by simp [h]

set_option maxHeartbeats 1000000 in
theorem worth_any (a : Option Addr) (l c : Nat) (cs : List Int) (K : Int) (xa : Option Addr) (xl xc : Nat) (xs : List Int) (w : World) (h : Ints w a l cs) (hx : Ints w xa xl xs) (hl : l = xl) (h4 : l ≤ 4)
    (hK : -1048576 ≤ K ∧ K ≤ 1048576) (hc : ∀ c ∈ cs, -1048576 ≤ c ∧ c ≤ 1048576) (hb : ∀ x ∈ xs, 0 ≤ x ∧ x ≤ 4096) :
    Calls Try.prog 47 #[.agg #[.slice a l c, .int .i64 K], .slice xa xl xc] w fun e w' => e = .returned (.int .i64 (worthV (cs, K) xs)) ∧ Below w.heap.size w w' := by
  have B1 : Below w.heap.size w (w.alloc (.cells #[.slice a l c, .int .i64 K] 66)) := bl_new _
  have H := hide (h.below B1)
  have HX := hide (hx.below B1)
  have HL1 := hide h.1
  have HL2 := hide hx.1
  have HC := hide hc
  have HB := hide hb
  have HB1 := hide B1
  subst hl
  clear h hx hc hb B1
  go_enter Try.func47, Try.ntmps47
  go_wp2
  go_loop [5, 13] (fun s i => ∃ k : Nat, k ≤ l ∧ i = .int .i64 k ∧ s = .int .i64 (K + dotV (cs.take k) (xs.take k))) (fun _ i => l - (intOf i).toNat)
  case atStart => exact ⟨0, Nat.zero_le _, rfl, by simp [dotV]⟩
  case round =>
    obtain ⟨k, hk, rfl, rfl⟩ := hrel
    by_cases hlt : k < l
    · obtain ⟨b, off, rfl, hb, hcc⟩ := H.out.at (by omega)
      obtain ⟨b', off', rfl, hb', hcc'⟩ := HX.out.at (by omega)
      have hck := hcc k hlt
      have hck' := hcc' k hlt
      have k1 : k < cs.length := by rw [HL1.out]; exact hlt
      have k2 : k < xs.length := by rw [HL2.out]; exact hlt
      have m1 := pt_mul_bd (HC.out _ (mem_getD cs k k1)) (HB.out _ (mem_getD xs k k2))
      have m2 := dotV_bd (cs.take k) (xs.take k) (fun c hc => HC.out c (List.mem_of_mem_take hc)) (fun x hx => HB.out x (List.mem_of_mem_take hx))
      have m3 : (cs.take k).length ≤ 4 := by rw [List.length_take]; omega
      have HD := hide (dotV_take cs xs k k1 k2)
      obtain ⟨S, hS⟩ : ∃ S, S = dotV (cs.take k) (xs.take k) := ⟨_, rfl⟩
      rw [← hS] at m2 ⊢
      have HS := hide hS
      have m4 : -17179869184 ≤ S ∧ S ≤ 17179869184 := by omega
      obtain ⟨x1, hx1⟩ : ∃ x, x = cs[k]?.getD 0 := ⟨_, rfl⟩
      obtain ⟨x2, hx2⟩ : ∃ x, x = xs[k]?.getD 0 := ⟨_, rfl⟩
      rw [← hx1] at hck m1
      rw [← hx2] at hck' m1
      have HX1 := hide hx1
      have HX2 := hide hx2
      have HM := hide (And.intro k1 k2)
      clear hcc hcc' k1 k2 m2 m3 hS hx1 hx2
      go_wp2
      go_round
      case rel => exact ⟨k + 1, by omega, by go_num, by rw [HD.out, ← HS.out, ← HX1.out, ← HX2.out]; go_num⟩
      case measure => simp [intOf]; omega
    · go_wp2
      go_ret
      refine ⟨?_, HB1.out⟩
      rw [take_all HL1.out hlt, take_all HL2.out hlt]
      rfl

set_option maxHeartbeats 1000000 in
theorem above1_any (a : Option Addr) (l c : Nat) (cs : List Int) (K : Int) (xb : Nat) (xa : Option Addr) (xl xc : Nat) (xs : List Int) (w : World) (h : Ints w a l cs) (hx : Ints w xa xl xs) (hbx : w.cell? ⟨xb, 0, none⟩ = some (.slice xa xl xc)) (hl : l = xl) (h4 : l ≤ 4)
    (hK : -1048576 ≤ K ∧ K ≤ 1048576) (hc : ∀ c ∈ cs, -1048576 ≤ c ∧ c ≤ 1048576) (hb : ∀ x ∈ xs, 0 ≤ x ∧ x ≤ 4096) :
    Calls Try.prog 112 #[.agg #[.slice a l c, .int .i64 K], .pointer (some ⟨xb, 0, none⟩)] w fun e w' => e = .returned (.bool (decide (worthV (cs, K) xs < 0))) ∧ Below w.heap.size w w' := by
  subst hl
  have zb := lt_of_cell hbx
  simp only at zb
  have B1 : Below w.heap.size w (w.alloc (.cells #[.slice a l c, .int .i64 K] 66)) := bl_new _
  have H := hide (worth_any a l c cs K xa l xc xs (w.alloc (.cells #[.slice a l c, .int .i64 K] 66)) (h.below B1) (hx.below B1) rfl h4 hK hc hb)
  have HB := hide B1
  clear B1
  clear h hx hc hb
  go_enter Try.func112, Try.ntmps112
  go_wp2_with (go_at_call 47; refine H.out.mono ?_; rintro e w' ⟨rfl, hb⟩; have HB2 := hide (bl_on HB.out hb); clear hb)
  go_ret
  exact ⟨rfl, HB2.out⟩

/-- What is asked of rows and a list of numbers, so that nothing wraps round. -/
structure Fits (rs : List (List Int × Int)) (xs : List Int) : Prop where
  rank : xs.length ≤ 4
  nums : ∀ x ∈ xs, 0 ≤ x ∧ x ≤ 4096
  rows : ∀ r ∈ rs, r.1.length = xs.length ∧ (-1048576 ≤ r.2 ∧ r.2 ≤ 1048576) ∧ ∀ c ∈ r.1, -1048576 ≤ c ∧ c ≤ 1048576
def lowB (xs : List Int) (r : List Int × Int) : Bool := decide (worthV r xs < 0)
theorem take_succR (rs : List (List Int × Int)) (k : Nat) (h : k < rs.length) : rs.take (k + 1) = rs.take k ++ [rs[k]?.getD ([], 0)] := by
  rw [List.take_succ_eq_append_getElem h]; simp [h]
theorem not_any_succR {p : List Int × Int → Bool} (rs : List (List Int × Int)) (k : Nat) (h : k < rs.length) (hn : (rs.take k).any p = false) (hk : p (rs[k]?.getD ([], 0)) = false) : (rs.take (k + 1)).any p = false := by
  rw [take_succR rs k h, List.any_append, hn]; simp [hk]
theorem any_of_getR {p : List Int × Int → Bool} (rs : List (List Int × Int)) (k : Nat) (h : k < rs.length) (hk : p (rs[k]?.getD ([], 0)) = true) : rs.any p = true := by
  rw [List.any_eq_true]; exact ⟨_, mem_getR rs k h, hk⟩

set_option maxHeartbeats 1000000 in
theorem indexRow_any (ra : Option Addr) (rl rc : Nat) (rs : List (List Int × Int)) (xb : Nat) (xa : Option Addr) (xl xc : Nat) (xs : List Int) (w : World) (h : Rws w ra rl rs) (hx : Ints w xa xl xs) (hbx : w.cell? ⟨xb, 0, none⟩ = some (.slice xa xl xc)) (hf : Fits rs xs) :
    Calls Try.prog 117 #[.slice ra rl rc, .func (.func 112) #[] #[.pointer (some ⟨xb, 0, none⟩)]] w fun e w' => (∃ r : Int, e = .returned (.int .i64 r) ∧ decide (0 ≤ r) = rs.any (lowB xs)) ∧ Below w.heap.size w w' := by
  have HL := hide h.1
  have hm := h.2.1
  have H := hide h
  have HX := hide hx
  have HF := hide hf
  have HBX := hide hbx
  have HXL := hide hx.1
  clear h hx hf hbx
  go_enter Try.func117, Try.ntmps117
  go_wp2
  go_loopw [8] (fun i wr => ∃ k : Nat, k ≤ rl ∧ i = .int .i64 k ∧ (rs.take k).any (lowB xs) = false ∧ Below w.heap.size w wr) (fun i _ => rl - (intOf i).toNat)
  case atStart => exact ⟨0, Nat.zero_le _, rfl, by simp, Below.refl _ _⟩
  case round =>
    obtain ⟨k, hk, rfl, hn, hB⟩ := hrel
    have HN := hide hn
    have HB := hide hB
    clear hn hB
    by_cases hlt : k < rl
    · have hkl : k < rs.length := by rw [HL.out]; exact hlt
      obtain ⟨b, off, rfl, hat⟩ := (H.out.below HB.out).at (by omega)
      obtain ⟨a, l, c, c1, c2, c3, c4, c5⟩ := hat k hlt
      have z1 := lt_of_cell c1
      have z2 := lt_of_cell c2
      simp only at z1 z2
      have hr := HF.out.rows _ (mem_getR rs k hkl)
      obtain ⟨q, hq⟩ : ∃ q, q = rs[k]?.getD ([], 0) := ⟨_, rfl⟩
      rw [← hq] at c2 c3 hr
      have HQ := hide hq
      obtain ⟨cs, K⟩ := q
      simp only at c2 c3 hr
      have HC := hide (fun W (hb : Below wr.heap.size wr W) => above1_any a l c cs K xb xa xl xc xs W (c3.below hb) ((HX.out.below HB.out).below hb) ((hb.cell (p := ⟨xb, 0, none⟩) (Nat.lt_of_lt_of_le (lt_of_cell HBX.out) HB.out.size)).trans ((HB.out.cell (p := ⟨xb, 0, none⟩) (lt_of_cell HBX.out)).trans HBX.out)) (by have := c3.1; have := HXL.out; omega) (by have := c3.1; have := HF.out.rank; omega) hr.2.1 hr.2.2 HF.out.nums)
      have HKL := hide hkl
      clear hat c3 c4 c5 hr hq hkl
      go_wp2_with (go_at_call 112; refine (HC.out _ (Below.refl _ _)).mono ?_; rintro e w2 ⟨rfl, hb⟩; have HB2 := hide (bl_on HB.out hb); clear hb)
      · have hx : decide (worthV (cs, K) xs < 0) = true := by simpa using (by assumption : worthV (cs, K) xs < 0)
        go_ret
        refine ⟨⟨_, rfl, ?_⟩, HB2.out⟩
        rw [any_of_getR rs k HKL.out (by rw [← HQ.out]; exact hx)]; simp
      · have hx : decide (worthV (cs, K) xs < 0) = false := by simpa using (by assumption : 0 ≤ worthV (cs, K) xs)
        go_roundw
        case rel => exact ⟨k + 1, by omega, by go_num, not_any_succR rs k HKL.out HN.out (by rw [← HQ.out]; exact hx), HB2.out⟩
        case measure => simp [intOf]; omega
    · go_wp2
      go_ret
      refine ⟨⟨_, rfl, ?_⟩, HB.out⟩
      have := HN.out
      rw [List.take_of_length_le (by rw [HL.out]; omega)] at this
      rw [this]; decide

theorem containsRow_any (ra : Option Addr) (rl rc : Nat) (rs : List (List Int × Int)) (xb : Nat) (xa : Option Addr) (xl xc : Nat) (xs : List Int) (w : World) (h : Rws w ra rl rs) (hx : Ints w xa xl xs) (hbx : w.cell? ⟨xb, 0, none⟩ = some (.slice xa xl xc)) (hf : Fits rs xs) :
    Calls Try.prog 111 #[.slice ra rl rc, .func (.func 112) #[] #[.pointer (some ⟨xb, 0, none⟩)]] w fun e w' => e = .returned (.bool (rs.any (lowB xs))) ∧ Below w.heap.size w w' := by
  have H := hide (indexRow_any ra rl rc rs xb xa xl xc xs w h hx hbx hf)
  clear h hx hbx hf
  go_enter Try.func111, Try.ntmps111
  go_wp2_with (go_at_call 117; refine H.out.mono ?_; rintro e w' ⟨⟨r, rfl, hr⟩, hb⟩; have HR := hide hr; have HB := hide hb; clear hr hb)
  go_ret
  exact ⟨by rw [← HR.out]; rfl, HB.out⟩
theorem above_low (rs : List (List Int × Int)) (xs : List Int) : aboveB rs xs = !rs.any (lowB xs) := by
  unfold aboveB lowB
  induction rs with
  | nil => rfl
  | cons r rs ih =>
    simp only [List.all_cons, List.any_cons, ih, Bool.not_or]
    congr 1
    by_cases h : worthV r xs < 0
    · simp [h]
    · simp [h]; omega

theorem above_any (ra : Option Addr) (rl rc : Nat) (rs : List (List Int × Int)) (xa : Option Addr) (xl xc : Nat) (xs : List Int) (w : World) (h : Rws w ra rl rs) (hx : Ints w xa xl xs) (hf : Fits rs xs) :
    Calls Try.prog 94 #[.slice ra rl rc, .slice xa xl xc] w fun e w' => e = .returned (.bool (aboveB rs xs)) ∧ Below w.heap.size w w' := by
  have B1 : Below w.heap.size w (w.alloc (.cells #[.slice xa xl xc] 22)) := bl_new _
  have H := hide (containsRow_any ra rl rc rs w.heap.size xa xl xc xs (w.alloc (.cells #[.slice xa xl xc] 22)) (h.below B1) (hx.below B1) (Boxed.new w 22 (.slice xa xl xc)).cell hf)
  have HB := hide B1
  clear h hx hf B1
  rw [above_low]
  go_enter Try.func94, Try.ntmps94
  go_wp2_with (go_at_call 111; refine H.out.mono ?_; rintro e w' ⟨rfl, hb⟩; have HB2 := hide (bl_on HB.out hb); clear hb)
  go_ret
  exact ⟨rfl, HB2.out⟩

set_option maxHeartbeats 400000 in
theorem indexBox_any (a : Option Addr) (len cap : Nat) (xs : List Int) (w : World) (h : Ints w a len xs) :
    Calls Try.prog 87 #[.slice a len cap, .func (.func 107) #[] #[]] w fun e w' => (∃ r : Int, e = .returned (.int .i64 r) ∧ decide (0 ≤ r) = xs.any badDim) ∧ w' = w := by
  have hl := h.1
  have hm := h.2.1
  have HL : Hid (xs.length = len) := hl
  go_enter Try.func87, Try.ntmps87
  go_wp2
  go_loop [8] (fun i => ∃ k : Nat, k ≤ len ∧ i = .int .i64 k ∧ (xs.take k).any badDim = false) (fun i => len - (intOf i).toNat)
  case atStart => exact ⟨0, Nat.zero_le _, rfl, by simp⟩
  case round =>
    obtain ⟨k, hk, rfl, hn⟩ := hrel
    have HN : Hid ((xs.take k).any badDim = false) := hn
    clear hn hl
    by_cases hlt : k < len
    · obtain ⟨b, off, rfl, hb, hc⟩ := h.at (by omega)
      have hck := hc k hlt
      clear hc h
      by_cases h1 : xs[k]?.getD 0 < 0
      · go_wp2
        go_ret
        exact ⟨⟨_, rfl, by rw [any_of_getD xs k (by rw [HL.out]; exact hlt) (by simp [badDim, h1])]; simp⟩, rfl⟩
      · by_cases h2 : 4096 < xs[k]?.getD 0
        · go_wp2
          go_ret
          exact ⟨⟨_, rfl, by rw [any_of_getD xs k (by rw [HL.out]; exact hlt) (by simp [badDim, h2])]; simp⟩, rfl⟩
        · go_wp2
          go_round
          case rel => exact ⟨k + 1, by omega, by go_num, not_mem_take_succ xs k (by rw [HL.out]; exact hlt) HN.out (by simp [badDim]; omega)⟩
          case measure => simp [intOf]; omega
    · go_wp2
      go_ret
      refine ⟨⟨_, rfl, ?_⟩, rfl⟩
      have := HN.out
      rw [take_all HL.out hlt] at this
      rw [this]; decide
theorem containsBox_any (a : Option Addr) (len cap : Nat) (xs : List Int) (w : World) (h : Ints w a len xs) :
    Calls Try.prog 63 #[.slice a len cap, .func (.func 107) #[] #[]] w fun e w' => e = .returned (.bool (xs.any badDim)) ∧ w' = w := by
  have H : Hid (Ints w a len xs) := h
  clear h
  go_enter Try.func63, Try.ntmps63
  go_wp2_with (go_at_call 87; refine (indexBox_any _ _ _ _ _ H.out).mono ?_; rintro e w' ⟨⟨r, rfl, hr⟩, rfl⟩; have HR := hide hr; clear hr)
  go_ret
  exact ⟨by rw [← HR.out]; rfl, rfl⟩
set_option maxHeartbeats 400000 in
theorem ptIndexFar_any (a : Option Addr) (len cap : Nat) (xs : List Int) (w : World) (h : Ints w a len xs) :
    Calls Try.prog 87 #[.slice a len cap, .func (.func 100) #[] #[]] w fun e w' => (∃ r : Int, e = .returned (.int .i64 r) ∧ decide (0 ≤ r) = xs.any ptFar) ∧ w' = w := by
  have hl := h.1
  have hm := h.2.1
  have HL : Hid (xs.length = len) := hl
  go_enter Try.func87, Try.ntmps87
  go_wp2
  go_loop [8] (fun i => ∃ k : Nat, k ≤ len ∧ i = .int .i64 k ∧ (xs.take k).any ptFar = false) (fun i => len - (intOf i).toNat)
  case atStart => exact ⟨0, Nat.zero_le _, rfl, by simp⟩
  case round =>
    obtain ⟨k, hk, rfl, hn⟩ := hrel
    have HN : Hid ((xs.take k).any ptFar = false) := hn
    clear hn hl
    by_cases hlt : k < len
    · obtain ⟨b, off, rfl, hb, hc⟩ := h.at (by omega)
      have hck := hc k hlt
      clear hc h
      by_cases h1 : xs[k]?.getD 0 < -1048576
      · go_wp2
        go_ret
        exact ⟨⟨_, rfl, by rw [any_of_getD xs k (by rw [HL.out]; exact hlt) (by simp [ptFar, h1])]; simp⟩, rfl⟩
      · by_cases h2 : 1048576 < xs[k]?.getD 0
        · go_wp2
          go_ret
          exact ⟨⟨_, rfl, by rw [any_of_getD xs k (by rw [HL.out]; exact hlt) (by simp [ptFar, h2])]; simp⟩, rfl⟩
        · go_wp2
          go_round
          case rel => exact ⟨k + 1, by omega, by go_num, not_mem_take_succ xs k (by rw [HL.out]; exact hlt) HN.out (by simp [ptFar]; omega)⟩
          case measure => simp [intOf]; omega
    · go_wp2
      go_ret
      refine ⟨⟨_, rfl, ?_⟩, rfl⟩
      have := HN.out
      rw [take_all HL.out hlt] at this
      rw [this]; decide
theorem ptContainsFar_any (a : Option Addr) (len cap : Nat) (xs : List Int) (w : World) (h : Ints w a len xs) :
    Calls Try.prog 63 #[.slice a len cap, .func (.func 100) #[] #[]] w fun e w' => e = .returned (.bool (xs.any ptFar)) ∧ w' = w := by
  have H : Hid (Ints w a len xs) := h
  clear h
  go_enter Try.func63, Try.ntmps63
  go_wp2_with (go_at_call 87; refine (ptIndexFar_any _ _ _ _ _ H.out).mono ?_; rintro e w' ⟨⟨r, rfl, hr⟩, rfl⟩; have HR := hide hr; clear hr)
  go_ret
  exact ⟨by rw [← HR.out]; rfl, rfl⟩

theorem prod_take_bd (xs : List Int) (h : ∀ x ∈ xs, 0 ≤ x ∧ x ≤ 4096) : ∀ k, 0 ≤ prod (xs.take k) ∧ prod (xs.take k) ≤ 4096 ^ k
  | 0 => by simp [prod]
  | k + 1 => by
    have ih := prod_take_bd xs h k
    have hk4 : (1 : Int) ≤ 4096 ^ k := by
      have : (0 : Int) < 4096 ^ k := Int.pow_pos (by omega)
      omega
    by_cases hk : k < xs.length
    · rw [prod_take_succ xs k hk]
      have hx := h _ (mem_getD xs k hk)
      refine ⟨Int.mul_nonneg ih.1 hx.1, ?_⟩
      rw [Int.pow_succ]
      exact Int.mul_le_mul ih.2 hx.2 hx.1 (by omega)
    · rw [List.take_of_length_le (by omega)]
      rw [List.take_of_length_le (by omega)] at ih
      refine ⟨ih.1, ?_⟩
      rw [Int.pow_succ]
      omega

set_option maxHeartbeats 1000000 in
theorem wrongBox_any (a : Option Addr) (len cap : Nat) (xs : List Int) (w : World) (h : Ints w a len xs) :
    Calls Try.prog 90 #[.slice a len cap] w fun e w' => e = .returned (.int .i64 (boxE xs)) ∧ w' = w := by
  have hm := h.2.1
  have H := hide h
  have HL := hide h.1
  by_cases c1 : 4 < len
  · have e1 : boxE xs = 3 := by unfold boxE; rw [if_pos (by rw [h.1]; exact c1)]
    rw [e1]
    clear h e1
    go_enter Try.func90, Try.ntmps90
    go_wp2
    go_ret
    exact ⟨rfl, rfl⟩
  have c1' : len ≤ 4 := by omega
  cases c2 : xs.any badDim with
  | true =>
    have e1 : boxE xs = 4 := by unfold boxE; rw [if_neg (by rw [h.1]; exact c1), if_pos c2]
    rw [e1]
    have C2 := hide c2
    clear h e1 c2
    go_enter Try.func90, Try.ntmps90
    go_wp2_with (go_at_call 63; refine (containsBox_any _ _ _ _ _ H.out).mono ?_; rintro e w' ⟨rfl, rfl⟩; rw [C2.out])
    go_ret
    exact ⟨rfl, rfl⟩
  | false =>
    have e1 : boxE xs = if 4096 < prod xs then 5 else 0 := by unfold boxE; rw [if_neg (by rw [h.1]; exact c1), if_neg (by simp [c2])]
    have hd : ∀ x ∈ xs, 0 ≤ x ∧ x ≤ 4096 := by
      intro x hx
      have := List.any_eq_false.1 c2 x hx
      simp [badDim] at this
      omega
    have E1 := hide e1
    have C2 := hide c2
    have HD := hide hd
    clear h e1 c2 hd c1
    go_enter Try.func90, Try.ntmps90
    go_wp2_with (go_at_call 63; refine (containsBox_any _ _ _ _ _ H.out).mono ?_; rintro e w' ⟨rfl, rfl⟩; rw [C2.out])
    go_loop [3, 13] (fun s i => ∃ k : Nat, k ≤ len ∧ i = .int .i64 k ∧ s = .int .i64 (prod (xs.take k))) (fun _ i => len - (intOf i).toNat)
    case atStart => exact ⟨0, Nat.zero_le _, rfl, by simp [prod]⟩
    case round =>
      obtain ⟨k, hk, rfl, rfl⟩ := hrel
      by_cases hlt : k < len
      · obtain ⟨b, off, rfl, hb, hc⟩ := H.out.at (by omega)
        have hck := hc k hlt
        have hkl : k < xs.length := by rw [HL.out]; exact hlt
        have HP := hide (prod_take_succ xs k hkl)
        have q := prod_take_bd xs HD.out (k + 1)
        rw [HP.out] at q
        have q3 : (4096 : Int) ^ (k + 1) ≤ 281474976710656 := by
          have : k + 1 = 1 ∨ k + 1 = 2 ∨ k + 1 = 3 ∨ k + 1 = 4 := by omega
          rcases this with e | e | e | e <;> rw [e] <;> decide
        have q4 : prod (xs.take k) * xs[k]?.getD 0 ≤ 281474976710656 := Int.le_trans q.2 q3
        have q5 := q.1
        clear hc hkl q q3
        go_wp2
        go_round
        case rel => exact ⟨k + 1, by omega, by go_num, by rw [HP.out]⟩
        case measure => simp [intOf]; omega
      · have e := take_all HL.out hlt
        rw [e]
        have q := prod_take_bd xs HD.out len
        clear e
        by_cases c3 : 4096 < prod xs
        · go_wp2
          go_ret
          exact ⟨by rw [E1.out, if_pos (by omega)]; rfl, rfl⟩
        · go_wp2
          go_ret
          exact ⟨by rw [E1.out, if_neg (by omega)]; rfl, rfl⟩

theorem ptFar_any (K : Int) (w : World) : Calls Try.prog 100 #[.int .i64 K] w fun e w' => e = .returned (.bool (ptFar K)) ∧ w' = w := by
  by_cases h1 : K < -1048576
  · have e : ptFar K = true := by simp [ptFar, h1]
    rw [e]
    go_enter Try.func100, Try.ntmps100
    go_wp2
    go_ret
    exact ⟨rfl, rfl⟩
  · have e : ptFar K = decide (1048576 < K) := by simp [ptFar, h1]
    rw [e]
    clear e
    go_enter Try.func100, Try.ntmps100
    go_wp2
    go_ret
    exact ⟨rfl, rfl⟩
set_option maxHeartbeats 1000000 in
theorem wrongRow_any (a : Option Addr) (l c : Nat) (cs : List Int) (K : Int) (many : Nat) (w : World) (h : Ints w a l cs) (hK : -9223372036854775808 ≤ K ∧ K ≤ 9223372036854775807) (h4 : many ≤ 4) :
    Calls Try.prog 77 #[.agg #[.slice a l c, .int .i64 K], .int .i64 many] w fun e w' => e = .returned (.int .i64 (rowE (cs, K) many)) ∧ Below w.heap.size w w' := by
  have hm := h.2.1
  have B1 : Below w.heap.size w (w.alloc (.cells #[.slice a l c, .int .i64 K] 66)) := bl_new _
  have H := hide (ptContainsFar_any a l c cs (w.alloc (.cells #[.slice a l c, .int .i64 K] 66)) (h.below B1))
  have HB := hide B1
  clear B1
  by_cases c1 : l = many
  · subst c1
    have e1 : rowE (cs, K) l = if (ptFar K || cs.any ptFar) = true then 4 else 0 := by unfold rowE; rw [if_neg (by simp [h.1])]
    rw [e1]
    clear e1 h
    cases k1 : ptFar K
    · cases c2 : cs.any ptFar
      all_goals
        have C1 := hide k1
        have C2 := hide c2
        clear c2 k1
        go_enter Try.func77, Try.ntmps77
        go_wp2_with (first | (go_at_call 100; refine (ptFar_any _ _).mono ?_; rintro e w' ⟨rfl, rfl⟩; rw [C1.out]) | (go_at_call 63; refine H.out.mono ?_; rintro e w' ⟨rfl, rfl⟩; rw [C2.out]))
        go_ret
        exact ⟨rfl, HB.out⟩
    · have C1 := hide k1
      clear k1
      go_enter Try.func77, Try.ntmps77
      go_wp2_with (go_at_call 100; refine (ptFar_any _ _).mono ?_; rintro e w' ⟨rfl, rfl⟩; rw [C1.out])
      go_ret
      exact ⟨rfl, HB.out⟩
  · have e1 : rowE (cs, K) many = 6 := by unfold rowE; rw [if_pos (by rw [h.1]; exact c1)]
    rw [e1]
    have c2 : ((l : Int) != (many : Int)) = true := by simp; omega
    clear e1 h c1
    go_enter Try.func77, Try.ntmps77
    go_wp2
    go_ret
    exact ⟨rfl, HB.out⟩

/-- A description of points in memory: two cells. -/
def PtAt (w : World) (b : Nat) (ba : Option Addr) (bl bc : Nat) (ra : Option Addr) (rl rc : Nat) : Prop := w.heap[b]? = some (.cells #[.slice ba bl bc, .slice ra rl rc] 64 (0, 0))
theorem PtAt.lt {w : World} {b : Nat} {ba : Option Addr} {bl bc : Nat} {ra : Option Addr} {rl rc : Nat} (h : PtAt w b ba bl bc ra rl rc) : b < w.heap.size := (Array.getElem?_eq_some_iff.1 h).1
theorem PtAt.below {w w' : World} {b : Nat} {ba : Option Addr} {bl bc : Nat} {ra : Option Addr} {rl rc : Nat} (h : PtAt w b ba bl bc ra rl rc) (hb : Below w.heap.size w w') : PtAt w' b ba bl bc ra rl rc := (hb.block b h.lt).trans h
theorem PtAt.new (w : World) (ba : Option Addr) (bl bc : Nat) (ra : Option Addr) (rl rc : Nat) : PtAt (w.alloc (.cells #[.slice ba bl bc, .slice ra rl rc] 64)) w.heap.size ba bl bc ra rl rc := World.alloc_heap_new w _
theorem PtAt.cells {w : World} {b : Nat} {ba : Option Addr} {bl bc : Nat} {ra : Option Addr} {rl rc : Nat} (h : PtAt w b ba bl bc ra rl rc) : w.cell? ⟨b, 0, none⟩ = some (.slice ba bl bc) ∧ w.cell? ⟨b, 1, none⟩ = some (.slice ra rl rc) := by
  unfold PtAt at h
  refine ⟨?_, ?_⟩ <;> simp [World.cell?, h]
theorem rowsE_take (rs : List (List Int × Int)) (many : Nat) : ∀ k, k < rs.length → rowsE (rs.take k) many = 0 → rowE (rs[k]?.getD ([], 0)) many = 0 → rowsE (rs.take (k + 1)) many = 0 := by
  induction rs with
  | nil => intro k h; simp at h
  | cons r rs ih =>
    intro k h1 h2 h3
    cases k with
    | zero => simp only [List.getElem?_cons_zero, Option.getD_some] at h3; simp [rowsE, h3]
    | succ k =>
      simp only [List.take_succ_cons, rowsE] at h2 ⊢
      by_cases hr : rowE r many ≠ 0
      · rw [if_pos hr] at h2; exact absurd h2 hr
      · rw [if_neg hr] at h2 ⊢
        exact ih k (by simpa using h1) h2 (by simpa using h3)
theorem rowsE_here (rs : List (List Int × Int)) (many : Nat) : ∀ k, k < rs.length → rowsE (rs.take k) many = 0 → rowE (rs[k]?.getD ([], 0)) many ≠ 0 → rowsE rs many = rowE (rs[k]?.getD ([], 0)) many := by
  induction rs with
  | nil => intro k h; simp at h
  | cons r rs ih =>
    intro k h1 h2 h3
    cases k with
    | zero => simp only [List.getElem?_cons_zero, Option.getD_some] at h3 ⊢; simp [rowsE, h3]
    | succ k =>
      simp only [List.take_succ_cons, rowsE] at h2 ⊢
      by_cases hr : rowE r many ≠ 0
      · rw [if_pos hr] at h2; exact absurd h2 hr
      · rw [if_neg hr] at h2 ⊢
        simpa using ih k (by simpa using h1) h2 (by simpa using h3)

set_option maxHeartbeats 2000000 in
theorem ptWrong_any (ba : Option Addr) (bl bc : Nat) (box : List Int) (ra : Option Addr) (rl rc : Nat) (rs : List (List Int × Int)) (w : World) (h : Ints w ba bl box) (hr : Rws w ra rl rs) :
    Calls Try.prog 66 #[.agg #[.slice ba bl bc, .slice ra rl rc]] w fun e w' => e = .returned (.int .i64 (ptE box rs)) ∧ Below w.heap.size w w' := by
  have hm := h.2.1
  have hm2 := hr.2.1
  have B1 : Below w.heap.size w (w.alloc (.cells #[.slice ba bl bc, .slice ra rl rc] 64)) := bl_new _
  have HWB := hide (wrongBox_any ba bl bc box _ (h.below B1))
  have HR := hide hr
  have HB := hide B1
  have HL1 := hide h.1
  have HL2 := hide hr.1
  have HP0 := hide (PtAt.new w ba bl bc ra rl rc)
  by_cases c1 : boxE box ≠ 0
  · have e1 : ptE box rs = boxE box := by unfold ptE; rw [if_pos c1]
    have c2 : (boxE box != 0) = true := by simpa using c1
    rw [e1]
    clear h hr e1 c1 B1
    go_enter Try.func66, Try.ntmps66
    go_wp2_with (go_at_call 90; refine HWB.out.mono ?_; rintro e w' ⟨rfl, rfl⟩)
    go_ret
    exact ⟨rfl, HB.out⟩
  have c1' : boxE box = 0 := by simpa using c1
  have hb4 := (boxE_ok c1').1
  have hbl : bl ≤ 4 := by have := h.1; omega
  have C1 := hide c1'
  by_cases c3 : 8 < rl
  · have e1 : ptE box rs = 2 := by unfold ptE; rw [if_neg c1, if_pos (by rw [hr.1]; exact c3)]
    rw [e1]
    clear h hr e1 c1 c1' B1 hb4
    go_enter Try.func66, Try.ntmps66
    go_wp2_with (go_at_call 90; refine HWB.out.mono ?_; rintro e w' ⟨rfl, rfl⟩; rw [C1.out])
    go_ret
    exact ⟨rfl, HB.out⟩
  have e1 : ptE box rs = rowsE rs bl := by unfold ptE; rw [if_neg c1, if_neg (by rw [hr.1]; exact c3), h.1]
  rw [e1]
  clear h hr e1 c1 c1' B1 hb4
  go_enter Try.func66, Try.ntmps66
  go_wp2_with (go_at_call 90; refine HWB.out.mono ?_; rintro e w' ⟨rfl, rfl⟩; rw [C1.out])
  go_loopw [20] (fun i wr => ∃ k : Nat, k ≤ rl ∧ i = .int .i64 k ∧ rowsE (rs.take k) bl = 0 ∧ Below w.heap.size w wr ∧ PtAt wr w.heap.size ba bl bc ra rl rc) (fun i _ => rl - (intOf i).toNat)
  case atStart => exact ⟨0, Nat.zero_le _, rfl, by simp [rowsE], HB.out, HP0.out⟩
  case round =>
    obtain ⟨k, hk, rfl, hn, hB, hP⟩ := hrel
    have HN := hide hn
    have HBr := hide hB
    have HP := hide hP
    clear hn hB
    by_cases hlt : k < rl
    · have hkl : k < rs.length := by rw [HL2.out]; exact hlt
      obtain ⟨b, off, rfl, hat⟩ := (HR.out.below HBr.out).at (by omega)
      obtain ⟨a, l, c, k1, k2, k3, k4, k5⟩ := hat k hlt
      have z1 := lt_of_cell k1
      have z2 := lt_of_cell k2
      simp only at z1 z2
      obtain ⟨q, hq⟩ : ∃ q, q = rs[k]?.getD ([], 0) := ⟨_, rfl⟩
      rw [← hq] at k2 k3 k5
      have HQ := hide hq
      obtain ⟨cs, K⟩ := q
      simp only at k2 k3 k5
      have B2 : Below wr.heap.size wr (wr.alloc (.cells #[.slice a l c, .int .i64 K] 66)) := bl_new _
      obtain ⟨p0, p1⟩ := (hP.below B2).cells
      obtain ⟨p2, p3⟩ := hP.cells
      have pz := hP.lt
      have HC := hide (wrongRow_any a l c cs K bl (wr.alloc (.cells #[.slice a l c, .int .i64 K] 66)) (k3.below B2) k5 hbl)
      have HKL := hide hkl
      have HB2 := hide B2
      clear hat k3 k4 k5 hq hkl B2 hP
      go_wp2_with (go_at_call 77; refine HC.out.mono ?_; rintro e w2 ⟨rfl, hb⟩; have HB3 := hide (bl_on HB2.out hb); clear hb)
      · have hx : rowE (cs, K) bl ≠ 0 := by simpa using (by assumption : (rowE (cs, K) bl != 0) = true)
        go_ret
        refine ⟨?_, bl_on HBr.out HB3.out⟩
        rw [rowsE_here rs bl k HKL.out HN.out (by rw [← HQ.out]; exact hx), ← HQ.out]; rfl
      · have hx : rowE (cs, K) bl = 0 := by simpa using (by assumption : (rowE (cs, K) bl != 0) = false)
        go_roundw
        case rel => exact ⟨k + 1, by omega, by go_num, rowsE_take rs bl k HKL.out HN.out (by rw [← HQ.out]; exact hx), bl_on HBr.out HB3.out, HP.out.below HB3.out⟩
        case measure => simp [intOf]; omega
    · go_wp2
      go_ret
      have := HN.out
      rw [List.take_of_length_le (by rw [HL2.out]; omega)] at this
      exact ⟨by rw [this]; rfl, HBr.out⟩
end Go.Proofs.Ytoidgdbgpbcebaa.V
namespace Go.Proofs.Ytoidgdbgpbcebaa.V
open Go.RowKit



set_option maxHeartbeats 1000000 in
theorem fresh_any (a : Option Addr) (len cap : Nat) (xs : List Int) (w : World) (h : Ints w a len xs) (h6 : len ≤ 6) :
    Calls Try.prog 38 #[.slice a len cap] w fun e w' => (∃ g : Nat, e = .returned (.slice (some ⟨g, 0, none⟩) len len) ∧ RowI w' g len xs ∧ w.heap.size ≤ g) ∧ Below w.heap.size w w' := by
  have H := hide h
  have HL := hide h.1
  have hmk := run_make_row' (P := Try.prog) 22 3 (.int .i64 0) 8 Try.underlying22 info_int rfl .i64 .i64 len (by omega) (by omega)
  clear h
  obtain ⟨cs, hcs⟩ : ∃ cs : List Value, cs = xs.map (Value.int .i64) := ⟨_, rfl⟩
  have HCS := hide hcs
  have hlen : cs.length = len := by rw [hcs]; simp [HL.out]
  have HLEN := hide hlen
  clear hcs hlen
  go_enter Try.func38, Try.ntmps38
  go_wp2_with (refine wpList_copy_splice rfl (.tmp 7) (.tmp 8) 22 22 rfl 3 Try.underlying22 size_int (some ⟨w.heap.size, 0, none⟩) a len len len cap rfl rfl w.heap.size 0 (List.replicate len (.int .i64 0)) 3 ?hg cs ?hn ?hpos ?hfit ?h1 w.heap.size w ?hb (Nat.le_refl _) ?_)
  case hg =>
    have := World.alloc_heap_new w (.cells (madeCells #[.int .i64 0] len) 3)
    rw [this]
    rw [← toList_madeCells_one]
  case hn => rw [HLEN.out]; simp
  case hpos =>
    intro h0
    rw [HLEN.out] at h0
    obtain ⟨b, off, rfl, hb, hc⟩ := H.out.at h0
    refine ⟨_, rfl, fun j v hj => ?_⟩
    have hjl : j < len := by rw [← HLEN.out]; exact (List.getElem?_eq_some_iff.1 hj).1
    have h2 := hc j hjl
    have h3 : v = .int .i64 (xs[j]?.getD 0) := by
      rw [HCS.out] at hj
      simp [HL.out, hjl] at hj ⊢
      exact hj.symm
    rw [h3]
    have hb' : Below w.heap.size w (w.alloc (.cells (madeCells #[.int .i64 0] len) 3)) := (Below.refl _ _).alloc (Nat.le_refl _) _
    rw [Go.WideShapes.add_plain]
    exact (hb'.cell (p := ⟨b, off + j, none⟩) hb).trans h2
  case hfit => simp [HLEN.out]
  case h1 => intro v hv; rw [HCS.out] at hv; simp at hv; obtain ⟨x, _, rfl⟩ := hv; rfl
  case hb => exact (Below.refl _ _).alloc (Nat.le_refl _) _
  intro w' hrow hbel
  have HB := hide hbel
  clear hbel hmk
  go_wp2
  go_ret
  refine ⟨⟨_, rfl, ?_, Nat.le_refl _⟩, HB.out⟩
  refine ⟨_, hrow.out, by simp [splice, HLEN.out], fun i hi => ?_⟩
  have hs : splice (List.replicate len (Value.int .i64 0)) 0 cs = cs := by simp [splice, HLEN.out]
  rw [hs, HCS.out]
  simp [HL.out, hi]

/-- A View's block that has been laid lies on. -/
theorem cells3 {w W w1 : World} {c0 c1 c2 : Value} {t : TypeId} (hW : W.heap[w.heap.size]? = some (.cells #[c0, c1, c2] t (0, 0))) (hb : Below W.heap.size W w1) :
    w1.cell? ⟨w.heap.size, 0, none⟩ = some c0 ∧ w1.cell? ⟨w.heap.size, 1, none⟩ = some c1 ∧ w1.cell? ⟨w.heap.size, 2, none⟩ = some c2 ∧ w1.frozen? ⟨w.heap.size, 0, none⟩ = false ∧ w1.frozen? ⟨w.heap.size, 1, none⟩ = false ∧ w1.frozen? ⟨w.heap.size, 2, none⟩ = false ∧ w.heap.size < w1.heap.size := by
  have hl := (Array.getElem?_eq_some_iff.1 hW).1
  have h1 : w1.heap[w.heap.size]? = some (.cells #[c0, c1, c2] t (0, 0)) := (hb.block _ hl).trans hW
  have hl1 := (Array.getElem?_eq_some_iff.1 h1).1
  refine ⟨?_, ?_, ?_, ?_, ?_, ?_, hl1⟩ <;> simp [World.cell?, World.frozen?, h1]

end Go.Proofs.Ytoidgdbgpbcebaa.V
namespace Go.Proofs.Ytoidgdbgpbcebaa.V
open Go.RowKit
set_option linter.unusedVariables false

/-- All lists of a box. -/
def BL (xs : List Int) : List (List Int) := (List.range (prod xs).toNat).map fun p : Nat => indexV xs p
theorem BL_filter (box : List Int) (rs : List (List Int × Int)) : pts box rs = (BL box).filter (aboveB rs) := rfl
theorem indexV_snoc (ds : List Int) (d p : Int) (hd : 0 ≤ d) : indexV (ds ++ [d]) p = indexV ds (p / d) ++ [p % d] := by
  unfold indexV
  rw [List.length_append, List.length_singleton, List.range_succ, List.map_append]
  congr 1
  · apply List.map_congr_left
    intro k hk
    have hk' : k < ds.length := by simpa using hk
    unfold idxV beh
    rw [List.drop_append_of_le_length (by omega), prod_append, List.getElem?_append_left hk']
    have e : prod [d] = d := by simp [prod]
    rw [e, Int.mul_comm, Int.ediv_ediv_of_nonneg hd]
  · simp only [List.map_cons, List.map_nil]
    unfold idxV beh
    rw [List.drop_eq_nil_of_le (by simp), List.getElem?_append_right (Nat.le_refl _)]
    simp [prod]
theorem range_mul {α : Type} (f : Nat → α) (n d : Nat) : (List.range (n * d)).map f = (List.range n).flatMap (fun q => (List.range d).map (fun r => f (q * d + r))) := by
  induction n with
  | zero => simp
  | succ n ih =>
    rw [Nat.succ_mul, List.range_add, List.map_append, ih, List.range_succ, List.flatMap_append]
    simp
/-- One number more. -/
def more (x : List Int) (d : Nat) : List (List Int) := (List.range d).map fun r : Nat => x ++ [(r : Int)]
theorem more_len (x : List Int) (d : Nat) : (more x d).length = d := by simp [more]
theorem more_succ (x : List Int) (d : Nat) : more x (d + 1) = more x d ++ [x ++ [(d : Int)]] := by simp [more, List.range_succ]
theorem flat_congr {α β : Type} {l : List α} {f g : α → List β} (h : ∀ x ∈ l, f x = g x) : l.flatMap f = l.flatMap g := by
  induction l with
  | nil => rfl
  | cons x l ih => simp only [List.flatMap_cons]; rw [h x (by simp), ih (fun y hy => h y (by simp [hy]))]
theorem BL_snoc (ds : List Int) (d : Int) (hd : 0 ≤ d) (hp : 0 ≤ prod ds) : BL (ds ++ [d]) = (BL ds).flatMap (fun x => more x d.toNat) := by
  have e : (prod (ds ++ [d])).toNat = (prod ds).toNat * d.toNat := by
    rw [prod_append]
    have : prod [d] = d := by simp [prod]
    rw [this, Int.toNat_mul hp hd]
  unfold BL
  rw [e, range_mul, List.flatMap_map]
  apply flat_congr
  intro q _
  unfold more
  apply List.map_congr_left
  intro r hr
  have hr' : r < d.toNat := by simpa using hr
  have hdd : (d.toNat : Int) = d := by omega
  have e2 : ((q * d.toNat + r : Nat) : Int) = (q : Int) * d + r := by rw [Int.natCast_add, Int.natCast_mul, hdd]
  rw [indexV_snoc ds d _ hd, e2]
  have h1 : ((q : Int) * d + r) / d = q := by
    rw [Int.add_comm, Int.add_mul_ediv_right _ _ (by omega), Int.ediv_eq_zero_of_lt (by omega) (by omega)]; omega
  have h2 : ((q : Int) * d + r) % d = r := by
    rw [Int.add_comm, Int.add_mul_emod_self_right, Int.emod_eq_of_lt (by omega) (by omega)]
  rw [h1, h2]
theorem box_flat_len {l : List (List Int)} {d : Nat} : (l.flatMap (fun x => more x d)).length = l.length * d := by
  induction l with
  | nil => simp
  | cons x l ih => rw [List.flatMap_cons, List.length_append, ih, more_len, List.length_cons, Nat.succ_mul, Nat.add_comm]
theorem take_succL (L : List (List Int)) (k : Nat) (h : k < L.length) : L.take (k + 1) = L.take k ++ [L[k]?.getD []] := by
  rw [List.take_succ_eq_append_getElem h]; simp [h]
theorem BL_len (xs : List Int) : (BL xs).length = (prod xs).toNat := by simp [BL]
theorem BL_mem {xs : List Int} (h : ∀ x ∈ xs, 0 ≤ x ∧ x ≤ 4096) {y : List Int} (hy : y ∈ BL xs) : y.length = xs.length ∧ ∀ z ∈ y, 0 ≤ z ∧ z ≤ 4096 := by
  simp only [BL, List.mem_map, List.mem_range] at hy
  obtain ⟨p, hp, rfl⟩ := hy
  refine ⟨by simp [indexV], fun z hz => ?_⟩
  simp only [indexV, List.mem_map, List.mem_range] at hz
  obtain ⟨k, hk, rfl⟩ := hz
  have hx := h _ (mem_getD xs k hk)
  have hne : xs[k]?.getD 0 ≠ 0 := by
    intro e
    have : (0 : Int) ∈ xs := e ▸ mem_getD xs k hk
    rw [pt_prod_zero this] at hp
    simp at hp
  unfold idxV
  have h1 := Int.emod_nonneg ((p : Int) / beh xs k) hne
  have h2 := Int.emod_lt_of_pos ((p : Int) / beh xs k) (show 0 < xs[k]?.getD 0 by omega)
  omega
end Go.Proofs.Ytoidgdbgpbcebaa.V
