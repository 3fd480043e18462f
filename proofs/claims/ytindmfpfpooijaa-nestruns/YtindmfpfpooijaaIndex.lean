/-
  Contract: view.Index.
-/
import Derived.Test.YtindmfpfpooijaaOwn
import Derived.Test.YtindmfpfpooijaaPlace
import Derived.Test.YtindmfpfpooijaaReads
import Derived.Deep.OwnRows
namespace Go.Proofs.Ytindmfpfpooijaa.V
open Go.RowKit Go.Shelf
attribute [local go_sem] Oper.semAt_some


def idxV (xs : List Int) (p : Int) (k : Nat) : Int := p / beh xs k % xs[k]?.getD 0
def indexV (xs : List Int) (p : Int) : List Int := (List.range xs.length).map (idxV xs p)
def indexE (xs : List Int) (p : Int) : Int := if sizeE xs ≠ 0 then sizeE xs else if p < 0 ∨ sizeN xs ≤ p then 4 else 0
def indexL (xs : List Int) (p : Int) : List Int := if sizeE xs ≠ 0 then [] else if p < 0 ∨ sizeN xs ≤ p then [] else indexV xs p

/-- The row of an index on its way: those that have come hold their number, the others 0. -/
def rowF (xs : List Int) (p : Int) {n : Nat} (pre : List (Fin n)) (j : Nat) : Value := .int .i64 (if pre.any (fun k => k.1 == j) = true then idxV xs p j else 0)
theorem rowF_snoc (xs : List Int) (p : Int) {n : Nat} (pre : List (Fin n)) (k : Fin n) (j : Nat) : (if j = k.1 then .int .i64 (idxV xs p k.1) else rowF xs p pre j) = rowF xs p (pre ++ [k]) j := by
  unfold rowF
  rw [List.any_append]
  by_cases e : j = k.1
  · subst e; simp
  · have : (k.1 == j) = false := by simp; omega
    simp [e, this]
theorem down_any (n j : Nat) (hj : j < n) : (down n 0).any (fun k => k.1 == j) = true := by
  rw [List.any_eq_true]
  exact ⟨⟨j, hj⟩, by simp [down], by simp⟩
theorem rowF_all (xs : List Int) (p : Int) (n j : Nat) (hj : j < n) : rowF xs p (down n 0) j = .int .i64 (idxV xs p j) := by
  unfold rowF; rw [down_any n j hj]; simp

theorem row_own {β : Type} (R : Nat) (t : TypeId) (n : Nat) (f : β → Nat → Value) : Own (fun s W => W.rowIs R t n (f s)) := fun s X Y row hs hg hrow =>
  hs.of_block (hg.block R hs.lt (fun e' => by obtain ⟨o, ho, hc⟩ := hrow R e'.symm; obtain ⟨c, hb, _⟩ := hs; rw [hb] at ho; cases ho; cases hc))
theorem row_setBox {w : World} {b : Nat} {t : TypeId} {n : Nat} {f : Nat → Value} (h : w.rowIs b t n f) {b' : Nat} (hne : b ≠ b') (v : Value) : (w.setCell ⟨b', 0, none⟩ v).rowIs b t n f := h.setOther (a := ⟨b', 0, none⟩) hne v
theorem boxed_setRow {W : World} {B : Nat} {t : TypeId} {v : Value} (h : Boxed W B t v) {b : Nat} (hne : B ≠ b) (i : Nat) (u : Value) : Boxed (W.setCell ⟨b, i, none⟩ u) B t v := (Below.heap_setCell W ⟨b, i, none⟩ u B hne).trans h

theorem wrap_in (n : Int) (h1 : -9223372036854775808 ≤ n) (h2 : n ≤ 9223372036854775807) : IntKind.i64.wrap n = n := by
  simp only [IntKind.wrap, IntKind.bits, IntKind.signed]
  simp
  split <;> omega

theorem idxV_bd {xs : List Int} {p : Int} (hg : ∀ x ∈ xs, 1 ≤ x) {k : Nat} (hk : k < xs.length) : 0 ≤ idxV xs p k ∧ idxV xs p k < xs[k]?.getD 0 := by
  have := hg _ (mem_getD xs k hk)
  unfold idxV
  exact ⟨Int.emod_nonneg _ (by omega), Int.emod_lt_of_pos _ (by omega)⟩

theorem index_good {xs : List Int} {p : Int} (hE : sizeE xs = 0) (h0 : 0 ≤ p) (h1 : p < sizeN xs) : (∀ x ∈ xs, 1 ≤ x ∧ x ≤ 4096) ∧ prod xs ≤ 65536 ∧ sizeN xs = prod xs ∧ xs.length ≤ 6 := by
  obtain ⟨z1, z2, z3, z4⟩ := sizeE_ok hE
  have hpos : ∀ x ∈ xs, 1 ≤ x := fun x hx => by
    have := z2 x hx
    by_cases e : x = 0
    · subst e; have := z4 hx; omega
    · omega
  exact ⟨fun x hx => ⟨hpos x hx, (z2 x hx).2⟩, (z3 hpos).1, (z3 hpos).2, z1⟩

set_option maxRecDepth 100000 in
set_option maxHeartbeats 4000000 in
theorem index_row (a : Option Addr) (len cap : Nat) (xs : List Int) (p : Int) (w : World) (h : Ints w a len xs) (hE : sizeE xs = 0) (h0 : 0 ≤ p) (h1 : p < sizeN xs) :
    CallsIn FW 8 Try.prog 40 #[.slice a len cap, .int .i64 p] w fun e w' => (∃ g : Nat, e = .returned (.tuple #[.slice (some ⟨g, 0, none⟩) len len, .int .i64 0]) ∧ Ints w' (some ⟨g, 0, none⟩) len (indexV xs p) ∧ w.heap.size ≤ g ∧ w'.rowIs g 3 len (fun j => .int .i64 (idxV xs p j))) ∧ Below w.heap.size w w' := by
  obtain ⟨hg, hp, hn, hl6⟩ := index_good hE h0 h1
  have hl := h.1
  have hlen : len ≤ 6 := by omega
  have h1' : p ≤ 65536 := by omega
  have hpos : ∀ x ∈ xs, 1 ≤ x := fun x hx => (hg x hx).1
  have H := hide h
  have HE := hide hE
  have HL := hide hl
  have HP := hide hp
  have HPOS := hide hpos
  have HG := hide hg
  have HN := hide hn
  clear h hE hl hp hpos hg hl6 hn
  have hro : FW.round = none := rfl
  have hmk := run_make_row' (P := Try.prog) 22 3 (.int .i64 0) 8 Try.underlying22 info_int rfl .i64 .i64 len (by omega) (by omega)
  refine callsIn_of_wp_marks Try.func40 rfl trivial ?_ hro
  simp only [Try.ntmps40, List.size_toArray, List.length_cons, List.length_nil, Nat.reduceAdd, Nat.reduceSub, Array.replicate_succ, Array.replicate_zero, List.push_toArray, List.append_toArray, List.nil_append, List.cons_append]
  gi_wp2_with (first | (refine ⟨trivial, ?_⟩; gi_at_call 39; refine (callsIn_wide.2 (size_any _ _ _ xs _ (H.out.below (((Below.refl _ w).alloc (Nat.le_refl _) _).alloc (by simp) _)))).mono ?_; rintro e w' ⟨rfl, rfl⟩; rw [HE.out]) | (refine ⟨trivial, ?_⟩; gi_at_call 53; refine (lastFirst_in FW _ trivial rfl _ _ _ _).mono ?_; rintro e w' ⟨rfl, rfl⟩))
  have bD := Boxed.new w 22 (.slice a len cap)
  have bP := Boxed.new (w.alloc (.cells #[.slice a len cap] 22)) 3 (.int .i64 p)
  have bR := World.rowIs_made ((w.alloc (.cells #[.slice a len cap] 22)).alloc (.cells #[.int .i64 p] 3)) (.int .i64 0) len 3
  simp only [World.size_alloc] at bP bR
  have bA := Boxed.new (((w.alloc (.cells #[.slice a len cap] 22)).alloc (.cells #[.int .i64 p] 3)).alloc (.cells (madeCells #[.int .i64 0] len) 3)) 22 (.slice (some ⟨w.heap.size + 1 + 1, 0, none⟩) len len)
  simp only [World.size_alloc] at bA
  have bN := Boxed.new ((((w.alloc (.cells #[.slice a len cap] 22)).alloc (.cells #[.int .i64 p] 3)).alloc (.cells (madeCells #[.int .i64 0] len) 3)).alloc (.cells #[.slice (some ⟨w.heap.size + 1 + 1, 0, none⟩) len len] 22)) 22 (.slice a len cap)
  simp only [World.size_alloc] at bN
  have hB0 : Below w.heap.size w (((((w.alloc (.cells #[.slice a len cap] 22)).alloc (.cells #[.int .i64 p] 3)).alloc (.cells (madeCells #[.int .i64 0] len) 3)).alloc (.cells #[.slice (some ⟨w.heap.size + 1 + 1, 0, none⟩) len len] 22)).alloc (.cells #[.slice a len cap] 22)) :=
    (((((Below.refl _ w).alloc (Nat.le_refl _) _).alloc (by simp) _).alloc (by simp; omega) _).alloc (by simp; omega) _).alloc (by simp; omega) _
  replace bD := (((bD.alloc (.cells #[.int .i64 p] 3)).alloc (.cells (madeCells #[.int .i64 0] len) 3)).alloc (.cells #[.slice (some ⟨w.heap.size + 1 + 1, 0, none⟩) len len] 22)).alloc (.cells #[.slice a len cap] 22)
  replace bP := ((bP.alloc (.cells (madeCells #[.int .i64 0] len) 3)).alloc (.cells #[.slice (some ⟨w.heap.size + 1 + 1, 0, none⟩) len len] 22)).alloc (.cells #[.slice a len cap] 22)
  replace bR := (bR.alloc (.cells #[.slice (some ⟨w.heap.size + 1 + 1, 0, none⟩) len len] 22)).alloc (.cells #[.slice a len cap] 22)
  replace bA := bA.alloc (.cells #[.slice a len cap] 22)
  obtain ⟨W0, hW0⟩ : ∃ W0, (((((w.alloc (.cells #[.slice a len cap] 22)).alloc (.cells #[.int .i64 p] 3)).alloc (.cells (madeCells #[.int .i64 0] len) 3)).alloc (.cells #[.slice (some ⟨w.heap.size + 1 + 1, 0, none⟩) len len] 22)).alloc (.cells #[.slice a len cap] 22)) = W0 := ⟨_, rfl⟩
  have hsz : W0.heap.size = w.heap.size + 5 := by rw [← hW0]; simp
  rw [hW0] at bD bP bR bA bN hB0 ⊢
  clear hW0 hmk
  refine wpIn_rangeFunc_ownG (F := FW) (n := 8) hro (by omega) (gf := 57) (lb := #[.pointer (some ⟨w.heap.size + 1 + 1 + 1 + 1, 0, none⟩)]) rfl trivial (enters_of Try.func57 (by kernel_rfl) rfl)
    (lastFirst_stops FW 7 trivial rfl (by omega) (w.heap.size + 1 + 1 + 1 + 1) w.heap.size len cap a xs HL.out hlen HPOS.out HP.out W0 (by omega) bN ?hints) Keep.trans (keep_b (by omega) (by omega)) (Below.refl _ _) (fun _ => rfl)
    (fun pre W => ((Boxed W w.heap.size 22 (.slice a len cap) ∧ Boxed W (w.heap.size + 1) 3 (.int .i64 p)) ∧ (W.rowIs (w.heap.size + 1 + 1) 3 len (rowF xs p pre) ∧ Boxed W (w.heap.size + 1 + 1 + 1) 22 (.slice (some ⟨w.heap.size + 1 + 1, 0, none⟩) len len))) ∧ Below w.heap.size w W)
    (fun _ _ _ => False)
    ?own (fun _ _ _ _ _ hs _ _ => hs)
    ⟨⟨⟨bD, bP⟩, ⟨bR.congr (fun i _ => by simp [rowF]), bA⟩⟩, hB0⟩
    ?a1 ?assign ?body ?done ?stop
  case assign =>
    intro l x W K hK
    simp only [enc2]
    gi_wp2
    exact hK
  case hints =>
    by_cases h0 : len = 0
    · exact .inl h0
    · obtain ⟨b, off, ha, hb, hc⟩ := H.out.at (by omega)
      exact .inr ⟨b, off, ha, hb, fun j hj => (hB0.cell (p := ⟨b, off + j, none⟩) hb).trans (hc j hj)⟩
  case own =>
    exact OwnFrom.and (OwnFrom.and (OwnFrom.and (Own.from (boxed_own _ _ _) _) (Own.from (boxed_own _ _ _) _)) (OwnFrom.and (Own.from (row_own _ _ _ _) _) (Own.from (boxed_own _ _ _) _))) (ownFrom_below (Nat.le_refl _) (by omega))
  case body =>
    rintro l pre x W ⟨⟨⟨hbD, hbP⟩, ⟨hbR, hbA⟩⟩, hB⟩ hpre
    have hx := x.2
    obtain ⟨b, off, rfl, hb, hc⟩ := H.out.at (by omega)
    have hkl : x.1 < xs.length := by rw [HL.out]; exact hx
    have hcD := hbD.cell
    have hcP := hbP.cell
    have hcA := hbA.cell
    have hcR := hbR.cell hx
    have hfR := hbR.frozen x.1
    have hcx : W.cell? ⟨b, off + x.1, none⟩ = some (.int .i64 (xs[x.1]?.getD 0)) := (hB.cell (p := ⟨b, off + x.1, none⟩) hb).trans (hc x.1 hx)
    have hd := HG.out _ (mem_getD xs x.1 hkl)
    obtain ⟨hd1, hd2⟩ := hd
    have hbh := prod_drop_le xs HPOS.out (x.1 + 1)
    have hb1 : 1 ≤ beh xs x.1 := hbh.1
    have hb2 : beh xs x.1 ≤ 65536 := Int.le_trans hbh.2 HP.out
    have hq1 : 0 ≤ p / beh xs x.1 := Int.ediv_nonneg h0 (by omega)
    have hq2 : p / beh xs x.1 ≤ 65536 := Int.le_trans (Int.ediv_le_self _ h0) h1'
    have hz1 : ¬ beh xs x.1 = 0 := by omega
    have hz2 : ¬ xs[x.1]?.getD 0 = 0 := by omega
    have ht1 : IntKind.i64.wrap (p.tdiv (beh xs x.1)) = p / beh xs x.1 := by
      rw [Int.tdiv_eq_ediv_of_nonneg h0]; exact wrap_in _ (by omega) (by omega)
    have ht2 : IntKind.i64.wrap ((p / beh xs x.1).tmod (xs[x.1]?.getD 0)) = idxV xs p x.1 := by
      rw [Int.tmod_eq_emod_of_nonneg hq1]
      have := idxV_bd (p := p) HPOS.out hkl
      unfold idxV at this ⊢
      exact wrap_in _ (by omega) (by omega)
    have HID : Hid (p / beh xs x.1 % xs[x.1]?.getD 0 = idxV xs p x.1) := rfl
    have HD := hide hbD
    have HP' := hide hbP
    have HR := hide hbR
    have HA := hide hbA
    have HB := hide hB
    clear hbD hbP hbR hbA hB hc hkl hbh bD bP bR bA bN hB0
    gi_wp2
    refine region_reads 11 (by kernel_rfl) (by kernel_rfl) rfl ?_
    simp only [List.take]
    iterate 11
      apply Reads.step
      · go_simp
        try rfl
      · rfl
      simp only [Act.put, List.setIfInBounds_toArray, List.set_cons_succ, List.set_cons_zero]
    refine Reads.nil ?_
    gi_wp2
    refine ⟨((KeepsOthers.setCell _ _ _).trans (KeepsOthers.drew _)).from _, ?_, ⟨⟨⟨?_, ?_⟩, ⟨?_, ?_⟩⟩, ?_⟩⟩
    · exact ((Keep.refl _ _ W).setCell (p := ⟨w.heap.size + 1 + 1, x.1, none⟩) (by simp; omega) (by simp; omega) _).drewN
    · exact boxed_setRow HD.out (by omega) _ _
    · exact boxed_setRow HP'.out (by omega) _ _
    · exact (HR.out.set x.1 _).congr (fun j _ => rowF_snoc xs p pre x j)
    · exact boxed_setRow HA.out (by omega) _ _
    · exact (HB.out.setCell (p := ⟨w.heap.size + 1 + 1, x.1, none⟩) (by simp; omega) _).drew
  case done =>
    rintro D zs W hD rfl ⟨⟨⟨hbD, hbP⟩, ⟨hbR, hbA⟩⟩, hB⟩ hK
    have hcA := hbA.cell
    gi_wp2
    refine ⟨by simp, .inl ⟨_, _, rfl, run_takeDeferred hK, ?_⟩⟩
    refine ⟨_, results_tmp2 rfl _ _ _, ⟨_, rfl, ?_, by omega, (hbR.of_block (World.putObj_heap_other (by omega))).congr fun j hj => rowF_all xs p len j hj⟩, hB.trans (belowK_b (w := w) (Nat.le_refl _) W D _ _ (by omega) hK rfl rfl)⟩
    have hrow : (W.putObj D (.deferred none)).rowIs (w.heap.size + 1 + 1) 3 len (rowF xs p (down len 0)) := hbR.of_block (World.putObj_heap_other (by omega))
    refine ⟨by simp [indexV, HL.out], by omega, fun y hy => ?_, ?_⟩
    · simp only [indexV, List.mem_map, List.mem_range] at hy
      obtain ⟨k, hk, rfl⟩ := hy
      have h1 := idxV_bd (p := p) HPOS.out hk
      have h2 := HG.out _ (mem_getD xs k hk)
      omega
    · refine .inr ⟨_, _, rfl, fun j hj => ?_⟩
      have := hrow.cell hj
      rw [rowF_all xs p len j hj] at this
      simpa [indexV, HL.out, hj] using this
  case stop =>
    rintro D c pre W _ _ h _
    exact h.elim
theorem index_ok (a : Option Addr) (len cap : Nat) (xs : List Int) (p : Int) (w : World) (h : Ints w a len xs) (hE : sizeE xs = 0) (h0 : 0 ≤ p) (h1 : p < sizeN xs) :
    CallsIn FW 8 Try.prog 40 #[.slice a len cap, .int .i64 p] w fun e w' => (∃ g : Nat, e = .returned (.tuple #[.slice (some ⟨g, 0, none⟩) len len, .int .i64 0]) ∧ Ints w' (some ⟨g, 0, none⟩) len (indexV xs p)) ∧ Below w.heap.size w w' := by
  refine (index_row a len cap xs p w h hE h0 h1).mono ?_
  rintro e w' ⟨⟨g, e1, e2, _⟩, hb⟩
  exact ⟨⟨g, e1, e2⟩, hb⟩
end Go.Proofs.Ytindmfpfpooijaa.V
