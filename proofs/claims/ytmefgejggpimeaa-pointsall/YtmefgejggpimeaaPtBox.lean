/-
  Contract: the document's Box.
-/
import Derived.Test.YtmefgejggpimeaaPtRef
import Derived.Test.YtmefgejggpimeaaPtBoxMath
namespace Go.Proofs.Ytmefgejggpimeaa.V
open Go.RowKit
set_option linter.unusedVariables false

set_option maxHeartbeats 1000000 in
theorem rbox_nil (a : Option Addr) (cap : Nat) (w : World) :
    Calls Try.prog 34 #[.slice a 0 cap] w fun e w' => (∃ A c, e = .returned (.slice A (BL []).length c) ∧ LL w' A (BL []).length (BL [])) ∧ Below w.heap.size w w' := by
  have e0 : BL [] = [[]] := by simp [BL, prod, indexV]
  have HE := hide e0
  clear e0
  go_enter Try.func34, Try.ntmps34
  go_wp2
  go_ret
  rw [HE.out]
  refine ⟨⟨some ⟨w.heap.size + 1, 0, none⟩, 1, rfl, rfl, .inr ⟨w.heap.size + 1, 0, rfl, fun i hi => ?_⟩⟩, bl_on (bl_new _) (bl_new _)⟩
  obtain rfl : i = 0 := by simp at hi; exact hi
  refine ⟨some ⟨w.heap.size, 0, none⟩, 0, 0, ?_, ⟨⟨rfl, by omega, by simp, .inl rfl⟩, Nat.le_refl _, fun e => by cases e⟩, fun b o e => by cases e; rfl⟩
  have := (Boxed.new (w.alloc (.cells #[] 3)) 22 (.slice (some ⟨w.heap.size, 0, none⟩) 0 0)).cell
  rw [World.size_alloc] at this
  exact this

set_option maxRecDepth 100000 in
set_option maxHeartbeats 4000000 in
theorem rbox_snoc (a : Option Addr) (len cap : Nat) (ds : List Int) (d : Int) (w : World) (h : Lst w a (len + 1) cap (ds ++ [d])) (h4 : len ≤ 3) (hd : 0 ≤ d ∧ d ≤ 4096) (hds : ∀ x ∈ ds, 0 ≤ x ∧ x ≤ 4096) (hp0 : 0 ≤ prod ds) (hp1 : prod ds ≤ 68719476736) (hp : prod (ds ++ [d]) ≤ 68719476736)
    (ih : ∀ w1 : World, Lst w1 a len cap ds → Calls Try.prog 34 #[.slice a len cap] w1 fun e w' => (∃ A c, e = .returned (.slice A (BL ds).length c) ∧ LL w' A (BL ds).length (BL ds)) ∧ Below w1.heap.size w1 w') :
    Calls Try.prog 34 #[.slice a (len + 1) cap] w fun e w' => (∃ A c, e = .returned (.slice A (BL (ds ++ [d])).length c) ∧ LL w' A (BL (ds ++ [d])).length (BL (ds ++ [d]))) ∧ Below w.heap.size w w' := by
  have hl : ds.length = len := by have := h.1.1; simpa using this
  have hcap := h.2.1
  have hpre : Lst w a len cap ds := by
    obtain ⟨⟨h1, h2, h3, h4⟩, h5, h6⟩ := h
    refine ⟨⟨hl, by omega, fun x hx => h3 x (by simp [hx]), ?_⟩, by omega, h6⟩
    rcases h4 with h4 | ⟨b, off, e, hc⟩
    · omega
    · refine .inr ⟨b, off, e, fun j hj => ?_⟩
      have := hc j (by omega)
      rwa [List.getElem?_append_left (by omega)] at this
  obtain ⟨b, off, rfl, hb, hc⟩ := h.1.at (by omega)
  have hlast : w.cell? ⟨b, off + len, none⟩ = some (.int .i64 d) := by
    have := hc len (by omega)
    rw [List.getElem?_append_right (by omega), hl, Nat.sub_self] at this
    simpa using this
  obtain ⟨D, hD⟩ : ∃ D : Nat, d = (D : Int) := ⟨d.toNat, by omega⟩
  subst hD
  have eB : BL (ds ++ [(D : Int)]) = (BL ds).flatMap (fun x => more x D) := by
    have := BL_snoc ds (D : Int) hd.1 hp0
    simpa using this
  have hprod : (prod ds).toNat * D ≤ 68719476736 := by
    have : (prod (ds ++ [(D : Int)])).toNat = (prod ds).toNat * D := by
      rw [← BL_len, eB, box_flat_len, BL_len]
    omega
  have hn : (BL ds).length ≤ 68719476736 := by rw [BL_len]; omega
  have HPR : Hid ((BL ds).length * D ≤ 68719476736) := by rw [Hid, BL_len]; exact hprod
  have HEB := hide eB
  have HIH := hide (ih w hpre)
  have HDS := hide hds
  have hlt := lt_of_cell hlast
  simp only at hlt
  have HLAST := hide hlast
  have hD4 : D ≤ 4096 := by omega
  have HLL := hide hl
  clear h ih hds hp0 hp1 hp hd hpre hc eB hprod hl
  go_enter Try.func34, Try.ntmps34
  go_wp2_with fail
  refine HIH.out.mono ?_
  rintro e w1 ⟨⟨A, c, rfl, hLL⟩, hb1⟩
  obtain ⟨N, hN⟩ : ∃ N, N = (BL ds).length := ⟨_, rfl⟩
  rw [← hN] at hLL hn HPR
  rw [← hN]
  have HN := hide hN
  have HLS := hide hLL
  have HB1 := hide hb1
  have hl1 : w1.cell? ⟨b, off + len, none⟩ = some (.int .i64 (D : Int)) := (hb1.cell (p := ⟨b, off + len, none⟩) hb).trans hlast
  have hb' : b < w1.heap.size := Nat.lt_of_lt_of_le hb hb1.size
  have HL1 := hide hl1
  clear hLL hb1 hN hlast hlt HLAST hl1
  go_wp2_with fail
  go_loopw [3, 19] (fun out i wr => ∃ k : Nat, k ≤ N ∧ i = .int .i64 k ∧ OutL wr w1.heap.size out (((BL ds).take k).flatMap (fun x => more x D)) ∧ Below w1.heap.size w1 wr) (fun _ i _ => N - (intOf i).toNat)
  case atStart => exact ⟨0, Nat.zero_le _, rfl, by simpa using OutL.nil _ _, Below.refl _ _⟩
  case round =>
    obtain ⟨k, hk, rfl, hout, hB⟩ := hrel
    have HOUT := hide hout
    have HB := hide hB
    clear hout hB
    by_cases hlt : k < N
    · have hkl : k < (BL ds).length := by rw [← HN.out]; exact hlt
      obtain ⟨xb, xo, rfl, hat⟩ := HLS.out.at (by omega)
      obtain ⟨xa, xl, xc, x0, x2, x3⟩ := hat k hlt
      have x1 := (HB.out.cell (p := ⟨xb, xo + k, none⟩) (lt_of_cell x0)).trans x0
      clear x0
      have hmem : (BL ds)[k]?.getD [] ∈ BL ds := by simp [hkl]
      obtain ⟨x, hx⟩ : ∃ x, x = (BL ds)[k]?.getD [] := ⟨_, rfl⟩
      rw [← hx] at x2 hmem
      have hxl := BL_mem HDS.out hmem
      have hx4 : xl ≤ 3 := by have := x2.1.1; have := HLL.out; omega
      have HT := hide (take_succL (BL ds) k hkl)
      rw [← hx] at HT
      have z1 := lt_of_cell x1
      simp only at z1
      have HX := hide x2
      have HXF := hide x3
      have HXL := hide hxl
      obtain ⟨F, hF⟩ : ∃ F, F = ((BL ds).take k).flatMap (fun x => more x D) := ⟨_, rfl⟩
      rw [← hF] at HOUT
      have hFl : F.length = k * D := by rw [hF, box_flat_len, List.length_take]; congr 1; omega
      have hFl2 : F.length + D ≤ 68719476736 := by
        have h1 : (k + 1) * D ≤ N * D := Nat.mul_le_mul_right D hlt
        have h2 := HPR.out
        rw [Nat.succ_mul] at h1
        omega
      have HF := hide hF
      clear hat x2 x3 hmem hx hxl hkl hF hFl
      go_wp2_with fail
      go_loopw [3, 6] (fun out i wr' => ∃ r : Nat, r ≤ D ∧ i = .int .i64 r ∧ OutL wr' w1.heap.size out (F ++ more x r) ∧ Below w1.heap.size w1 wr') (fun _ i _ => D - (intOf i).toNat)
      case atStart => exact ⟨0, Nat.zero_le _, rfl, by simpa [more] using HOUT.out, HB.out⟩
      case round =>
        clear HOUT HB x1 z1
        obtain ⟨r, hr, rfl, hout, hB⟩ := hrel
        have hX := HX.out.below hB
        have hlr : wr.cell? ⟨b, off + len, none⟩ = some (.int .i64 (D : Int)) := (hB.cell (p := ⟨b, off + len, none⟩) hb').trans HL1.out
        have hbr : b < wr.heap.size := Nat.lt_of_lt_of_le hb' hB.size
        have hwz := hB.size
        by_cases hlt2 : r < D
        · have B1 : Below wr.heap.size wr (wr.alloc (.cells #[] 3)) := bl_new _
          have HO1 := hide (own_empty wr wr.heap.size 3 (Nat.le_refl _))
          have HXr := hide (hX.below B1)
          have HB1' := hide B1
          have HOUT := hide hout
          have HB := hide hB
          have HBND : Hid (∀ z ∈ x ++ [(r : Int)], -9223372036854775808 ≤ z ∧ z ≤ 9223372036854775807) := fun z hz => by
            rcases List.mem_append.1 hz with hz | hz
            · have := HXL.out.2 z hz; omega
            · have : z = r := by simpa using hz
              omega
          have HXN := hide hX.1.1
          have HMS := hide (more_succ x r)
          clear hout hB hX B1
          go_wp2_with (first
            | (at_builtin; refine append_lists rfl _ _ rfl w1.heap.size _ (F ++ more x r) rfl X3 (xl + 1) c3 (x ++ [(r : Int)]) (HOUT.out.below HB3.out) HX3.out HF3.out rfl (by rw [List.length_append, more_len]; omega) (by have := HB3.out.size; omega) ?_; intro v4 w4 hout4 hb4; have HO4 := hide hout4; have HB4 := hide hb4; clear hout4 hb4)
            | (at_builtin; refine append_list rfl _ _ rfl wr.heap.size _ (0 + xl) (x.map (Value.int .i64)) rfl (HO2.out.alloc _) _ 1 1 [(r : Int)] rfl (lst_one w2 (r : Int) (by omega) _) (by omega) (by have := HB2.out.size; simp; omega) ?_; intro v3 w3 hown hgrow; rw [← List.map_append] at hown; obtain ⟨X3, c3, rfl, hL3, hf3⟩ := lst_of_own hown (by rw [List.length_append, HXN.out]; simp) (by omega) HBND.out; rw [show 0 + xl + 1 = xl + 1 by omega] at hL3; have HX3 := hide hL3; have HF3 := hide hf3; have HB3 := hide ((HB2.out.alloc HB2.out.size _).grown hgrow (by have := HB2.out.size; simp; omega) (fun j e => (HO2.out.lt j e).1)); clear hown hgrow hL3 hf3)
            | (at_builtin; refine append_list rfl _ _ rfl wr.heap.size _ 0 [] rfl HO1.out xa xl xc x rfl HXr.out (by omega) (by simp) ?_; intro v2 w2 hown hgrow; rw [List.nil_append] at hown; have HO2 := hide hown; have HB2 := hide (HB1'.out.grown hgrow (by simp) (fun j e => (HO1.out.lt j e).1)); clear hown hgrow))
          go_roundw
          case rel =>
            refine ⟨r + 1, by omega, by go_num, ?_, HB.out.trans ((HB3.out.mono hwz).trans HB4.out)⟩
            rw [HMS.out, ← List.append_assoc]; exact HO4.out
          case measure => simp [intOf]; omega
        · obtain rfl : r = D := by omega
          have HOUT := hide hout
          have HB := hide hB
          clear hout hB hX
          go_wp2_with fail
          go_roundw
          case rel =>
            refine ⟨k + 1, by omega, by go_num, ?_, HB.out⟩
            rw [HT.out, List.flatMap_append, ← HF.out]
            simpa using HOUT.out
          case measure => simp [intOf]; omega
    · obtain rfl : k = N := by omega
      go_wp2_with fail
      go_ret
      have := HOUT.out
      rw [HN.out, List.take_length, ← HEB.out] at this
      obtain ⟨A', c', e, hl, _⟩ := this.ll
      subst e
      exact ⟨⟨A', c', rfl, hl⟩, bl_on HB1.out HB.out⟩

theorem rbox_any : ∀ (len : Nat) (a : Option Addr) (cap : Nat) (xs : List Int) (w : World), Lst w a len cap xs → len ≤ 4 → (∀ x ∈ xs, 0 ≤ x ∧ x ≤ 4096) → (∀ k, prod (xs.take k) ≤ 68719476736) →
    Calls Try.prog 34 #[.slice a len cap] w fun e w' => (∃ A c, e = .returned (.slice A (BL xs).length c) ∧ LL w' A (BL xs).length (BL xs)) ∧ Below w.heap.size w w'
  | 0, a, cap, xs, w, h, _, _, _ => by
    obtain rfl : xs = [] := by rw [← List.length_eq_zero_iff]; exact h.1.1
    exact rbox_nil a cap w
  | len + 1, a, cap, xs, w, h, h4, hd, hp => by
    have hne : xs ≠ [] := by intro e; have := h.1.1; rw [e] at this; simp at this
    obtain ⟨ds, d, rfl⟩ : ∃ ds d, xs = ds ++ [d] := ⟨xs.dropLast, xs.getLast hne, (List.dropLast_concat_getLast hne).symm⟩
    have hl : ds.length = len := by have := h.1.1; simpa using this
    have hds : ∀ x ∈ ds, 0 ≤ x ∧ x ≤ 4096 := fun x hx => hd x (by simp [hx])
    have hpd : ∀ k, prod (ds.take k) ≤ 68719476736 := fun k => by
      by_cases hk : k ≤ ds.length
      · have := hp k
        rwa [List.take_append_of_le_length hk] at this
      · rw [List.take_of_length_le (by omega)]
        have := hp ds.length
        rwa [List.take_left'] at this
        rfl
    have h0 := (prod_take_bd ds hds ds.length).1
    rw [List.take_length] at h0
    have h1 := hpd ds.length
    rw [List.take_length] at h1
    have h2 := hp (ds ++ [d]).length
    rw [List.take_length] at h2
    exact rbox_snoc a len cap ds d w h (by omega) (hd d (by simp)) hds h0 h1 h2 (fun w1 hw1 => rbox_any len a cap ds w1 hw1 (by omega) hds hpd)
theorem box_small {box : List Int} {rs : List (List Int × Int)} (ho : PtOk box rs) : ∀ k, prod (box.take k) ≤ 68719476736 := by
  intro k
  by_cases hk : k ≤ 3
  · have h1 := (prod_take_bd box ho.dims k).2
    have h2 : (4096 : Int) ^ k ≤ 68719476736 := by
      have : k = 0 ∨ k = 1 ∨ k = 2 ∨ k = 3 := by omega
      rcases this with e | e | e | e <;> rw [e] <;> decide
    omega
  · have h1 := ho.rank
    rw [List.take_of_length_le (by omega)]
    have := ho.size.1
    omega
end Go.Proofs.Ytmefgejggpimeaa.V
