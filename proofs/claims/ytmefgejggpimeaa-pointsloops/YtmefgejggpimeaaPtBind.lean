/-
  Contract: points.bind (a row bounds the loop of the last number on which it hangs).
-/
import Derived.Test.YtmefgejggpimeaaPtSide
namespace Go.Proofs.Ytmefgejggpimeaa.V
open Go.RowKit
set_option linter.unusedVariables false

/-- What a row makes of the rows of bounds. -/
def bindT (r : List Int × Int) (T : Nat → List LpB) (s : Nat) : List LpB :=
  if hang r.1 = s / 2 + 1 ∧ (0 < r.1[s / 2]?.getD 0 ↔ s % 2 = 0) then T s ++ [if s % 2 = 0 then lpLow r (s / 2) else lpHigh r (s / 2)] else T s
theorem bindT_none {r : List Int × Int} {T : Nat → List LpB} (h : hang r.1 = 0) : bindT r T = T := by
  funext s
  rw [bindT, if_neg (by omega)]
theorem bindT_low {r : List Int × Int} {T : Nat → List LpB} {k : Nat} (h : hang r.1 = k + 1) (hc : 0 < r.1[k]?.getD 0) : bindT r T = fun t => if t = k * 2 then T (k * 2) ++ [lpLow r k] else T t := by
  funext s
  unfold bindT
  by_cases e : s = k * 2
  · subst e
    have e1 : k * 2 / 2 = k := by omega
    have e2 : k * 2 % 2 = 0 := by omega
    rw [e1, e2, if_pos ⟨h, by simp [hc]⟩, if_pos rfl, if_pos rfl]
  · rw [if_neg e, if_neg]
    rintro ⟨h1, h2⟩
    have e1 : s / 2 = k := by omega
    rw [e1] at h2
    have := h2.1 hc
    omega
theorem bindT_high {r : List Int × Int} {T : Nat → List LpB} {k : Nat} (h : hang r.1 = k + 1) (hc : ¬ 0 < r.1[k]?.getD 0) : bindT r T = fun t => if t = k * 2 + 1 then T (k * 2 + 1) ++ [lpHigh r k] else T t := by
  funext s
  unfold bindT
  by_cases e : s = k * 2 + 1
  · subst e
    have e1 : (k * 2 + 1) / 2 = k := by omega
    have e2 : (k * 2 + 1) % 2 = 1 := by omega
    rw [e1, e2, if_pos ⟨h, by simp; omega⟩, if_pos rfl, if_neg (by decide)]
  · rw [if_neg e, if_neg]
    rintro ⟨h1, h2⟩
    have e1 : s / 2 = k := by omega
    rw [e1] at h2
    have := mt h2.2 hc
    omega
def fFirst (row : Option Nat) (k : Nat) (cs : List Int) (K : Int) : Fact := ⟨fun u W => ∃ g, u = .agg #[.slice (some ⟨g, 0, none⟩) k k, .int .i64 K] ∧ RowI W g k cs ∧ some g ≠ row, false⟩
theorem RowI.grown {w w' : World} {g k : Nat} {xs : List Int} {row : Option Nat} (h : RowI w g k xs) (hg : w.grownBy w' row) (hne : some g ≠ row) : RowI w' g k xs := h.of_block (hg.block g h.lt hne)
theorem fFirst_good (row : Option Nat) (k : Nat) (cs : List Int) (K : Int) : (fFirst row k cs K).GoodR (fun a b => a.grownBy b row) false := ⟨fun _ _ _ ⟨g, h1, h2, h3⟩ hb => ⟨g, h1, h2.below hb, h3⟩, fun _ _ _ _ ⟨g, h1, h2, h3⟩ hg => ⟨g, h1, h2.grown hg h3, h3⟩, fun h => by cases h⟩
def fBd (row : Option Nat) (k : Nat) (cs : List Int) (K D : Int) : Fact := ⟨fun u W => ∃ g, u = .agg #[.slice (some ⟨g, 0, none⟩) k k, .int .i64 K, .int .i64 D] ∧ RowI W g k cs ∧ some g ≠ row, false⟩
theorem fBd_good (row : Option Nat) (k : Nat) (cs : List Int) (K D : Int) : (fBd row k cs K D).GoodR (fun a b => a.grownBy b row) false := ⟨fun _ _ _ ⟨g, h1, h2, h3⟩ hb => ⟨g, h1, h2.below hb, h3⟩, fun _ _ _ _ ⟨g, h1, h2, h3⟩ hg => ⟨g, h1, h2.grown hg h3, h3⟩, fun h => by cases h⟩
def fBs (row : Option Nat) (k : Nat) (cs : List Int) (K D : Int) : Fact := ⟨fun u W => ∃ Bk g, u = .slice (some ⟨Bk, 0, none⟩) 1 1 ∧ W.heap[Bk]? = some (.cells #[.slice (some ⟨g, 0, none⟩) k k, .int .i64 K, .int .i64 D] 65 (0, 0)) ∧ some Bk ≠ row ∧ RowI W g k cs ∧ some g ≠ row, false⟩
theorem fBs_good (row : Option Nat) (k : Nat) (cs : List Int) (K D : Int) : (fBs row k cs K D).GoodR (fun a b => a.grownBy b row) false := ⟨fun _ _ _ ⟨B, g, h1, h2, h3, h4, h5⟩ hb => ⟨B, g, h1, (hb.block B (Array.getElem?_eq_some_iff.1 h2).1).trans h2, h3, h4.below hb, h5⟩, fun _ _ _ _ ⟨B, g, h1, h2, h3, h4, h5⟩ hg => ⟨B, g, h1, (hg.block B (Array.getElem?_eq_some_iff.1 h2).1 h3).trans h2, h3, h4.grown hg h5, h5⟩, fun h => by cases h⟩
def fSide (B N0 : Nat) (row : Option Nat) (bs : List LpB) : Fact := ⟨fun u W => Side W B u bs ∧ (u.ownBlock = row ∨ ∀ i, u.ownBlock = some i → N0 ≤ i), false⟩
theorem fSide_good (B N0 : Nat) (row : Option Nat) (bs : List LpB) (R : World → World → Prop) : (fSide B N0 row bs).GoodR R true := ⟨fun _ _ _ h hb => ⟨h.1.below hb, h.2⟩, (fun h => by cases h), (fun h => by cases h)⟩
theorem pt_is_good (c : Value) (R : World → World → Prop) (b : Bool) : (fIs c).GoodR R b := ⟨fun _ _ _ h _ => h, fun _ _ _ _ h _ => h, fun h => by cases h⟩
theorem pt_ints_grown {w w' : World} {b off n : Nat} {xs : List Int} {row : Option Nat} (h : Ints w (some ⟨b, off, none⟩) n xs) (hg : w.grownBy w' row) (hne : some b ≠ row) : Ints w' (some ⟨b, off, none⟩) n xs := by
  obtain ⟨h1, h2, h3, h4⟩ := h
  refine ⟨h1, h2, h3, ?_⟩
  rcases h4 with h4 | ⟨b', off', e, hc⟩
  · exact .inl h4
  · refine .inr ⟨b', off', e, fun j hj => ?_⟩
    cases e
    have c := hc j hj
    exact (World.cell?_of_block (hg.block b (lt_of_cell c) hne)).trans c
theorem firstV_len (cs : List Int) (k : Nat) (m : Int) (h : k ≤ cs.length) : (firstV cs k m).length = k := by simp [firstV]; omega
theorem firstV_bd (cs : List Int) (k : Nat) (m : Int) (hm : m = 1 ∨ m = -1) (hc : ∀ c ∈ cs, -1048576 ≤ c ∧ c ≤ 1048576) : ∀ x ∈ firstV cs k m, -9223372036854775808 ≤ x ∧ x ≤ 9223372036854775807 := by
  intro x hx
  obtain ⟨y, hy, rfl⟩ := List.mem_map.1 hx
  have := hc y (List.mem_of_mem_take hy)
  rcases hm with rfl | rfl <;> omega
set_option maxHeartbeats 8000000 in
theorem bind_any (a : Option Addr) (l c : Nat) (cs : List Int) (K : Int) (L B : Nat) (g : Nat → Value) (T : Nat → List LpB) (w : World) (h : Ints w a l cs) (hl4 : l ≤ 4) (hab : ∀ b off, a = some ⟨b, off, none⟩ → 0 < l → b < B)
    (hK : -1048576 ≤ K ∧ K ≤ 1048576) (hc : ∀ c ∈ cs, -1048576 ≤ c ∧ c ≤ 1048576) (hT : Table w B L (l * 2) g T) (hB : B ≤ w.heap.size) (hsz : ∀ s, (T s).length ≤ 100) :
    Calls Try.prog 37 #[.slice (some ⟨L, 0, none⟩) l l, .agg #[.slice a l c, .int .i64 K]] w fun e w' => (e = .returned (.tuple #[]) ∧ ∃ g', Table w' B L (l * 2) g' (bindT (cs, K) T)) ∧ Below B w w' := by
  have B1 : Below w.heap.size w (w.alloc (.cells #[.slice a l c, .int .i64 K] 56)) := bl_new _
  have H := hide (h.below B1)
  have HT := hide (hT.below B1)
  have HB := hide (B1.mono hB)
  have HL := hide h.1
  have HC := hide hc
  have HK := hide hK
  have HSZ := hide hsz
  have HAB := hide hab
  have HB0 := hide hB
  have b1 : (w.alloc (.cells #[.slice a l c, .int .i64 K] 56)).heap[w.heap.size]? = some (.cells #[.slice a l c, .int .i64 K] 56 (0, 0)) := World.alloc_heap_new _ _
  obtain ⟨W1, hW1⟩ : ∃ W1, W1 = w.alloc (.cells #[.slice a l c, .int .i64 K] 56) := ⟨_, rfl⟩
  rw [← hW1] at H HT HB b1
  have hz : W1.heap.size = w.heap.size + 1 := by rw [hW1]; simp
  have HW1 := hide hW1
  have k1 : W1.cell? ⟨w.heap.size, 0, none⟩ = some (.slice a l c) := by simp [World.cell?, b1]
  have k2 : W1.cell? ⟨w.heap.size, 1, none⟩ = some (.int .i64 K) := by simp [World.cell?, b1]
  have zN : w.heap.size < W1.heap.size := by omega
  have HBL := hide b1
  clear h B1 b1 hW1 hc hK hT hsz hab hB
  go_enter Try.func37, Try.ntmps37
  go_wp2_with fail
  rw [← HW1.out]
  go_loop [4] (fun v => ∃ j : Nat, j ≤ l ∧ v = .int .i64 ((j : Int) - 1) ∧ hang cs ≤ j) (fun v => ((intOf v) + 1).toNat)
  case atStart => exact ⟨l, Nat.le_refl _, by go_num, by have := hang_le cs; rw [HL.out] at this; exact this⟩
  case round =>
    obtain ⟨j, hj, rfl, hh⟩ := hrel
    have HH := hide hh
    clear hh
    by_cases hj0 : j = 0
    · subst hj0
      go_wp2_with fail
      refine bodyPost_ret (v := .tuple #[]) (by simp [results, Try.results37, go_sem]) rfl ⟨⟨rfl, g, ?_⟩, HB.out⟩
      rw [bindT_none (Nat.le_zero.1 HH.out)]
      exact HT.out
    · obtain ⟨k, rfl⟩ : ∃ k, j = k + 1 := ⟨j - 1, by omega⟩
      obtain ⟨b, off, rfl, hb, hcc⟩ := H.out.at (by omega)
      have hck := hcc k (by omega)
      have ek : ((k + 1 : Nat) : Int) - 1 = (k : Int) := by omega
      have hkl : k < cs.length := by rw [HL.out]; omega
      have zb := lt_of_cell hck
      simp only at zb
      have hcb := HC.out _ (mem_getD cs k hkl)
      rw [ek]
      by_cases h0 : cs[k]?.getD 0 = 0
      · have HN : Hid (hang cs ≤ k) := by
          have h1 := HH.out
          by_cases h2 : hang cs = k + 1
          · exact absurd h0 (hang_at cs k h2)
          · show hang cs ≤ k; omega
        rw [h0] at hck
        clear hcc ek hkl hcb h0
        go_wp2_with fail
        go_round
        case rel => exact ⟨k, by omega, rfl, HN.out⟩
        case measure => simp [intOf]
      · have HN : Hid (hang cs = k + 1) := by
          have h1 := HH.out
          by_cases h2 : hang cs ≤ k
          · exact absurd (hang_far cs k h2) h0
          · show hang cs = k + 1; omega
        have HV : Hid (cs[k]?.getD 0 = cs[k]?.getD 0) := rfl
        obtain ⟨D, hD⟩ : ∃ D, D = cs[k]?.getD 0 := ⟨_, rfl⟩
        rw [← hD] at hck h0 hcb HV
        have HD := hide hD
        have hkl2 : k < l := by omega
        clear hcc ek hkl hD
        by_cases hp : 0 < D
        · have HP := hide hp
          obtain ⟨K', hK'⟩ : ∃ K', K' = (-1) * K := ⟨_, rfl⟩
          have HK' := hide hK'
          clear hK'
          go_wp2_with fail
          go_region
          all_goals go_wp2_with fail
          have HT2 := hide (HT.out.below (Below.refl W1.heap.size W1).drew)
          have HI2 := hide (H.out.below (Below.refl W1.heap.size W1).drew)
          have HB2 := hide HB.out.drew
          have hbl : W1.drew.heap[w.heap.size]? = some (.cells #[.slice (some ⟨b, off, none⟩) l c, .int .i64 K] 56 (0, 0)) := HBL.out
          have hz2 : W1.drew.heap.size = w.heap.size + 1 := hz
          obtain ⟨W2, hW2⟩ : ∃ W2, W2 = W1.drew := ⟨_, rfl⟩
          rw [← hW2] at HT2 HI2 HB2 hbl hz2 ⊢
          have hs : k * 2 < l * 2 := by omega
          obtain ⟨g0, c0, cur, eg, hc0, hgB, hgl, eo, hgt, hgX⟩ := (HT2.out.side _ hs).own
          have hLne : L ≠ g0 := fun e => (HT2.out.side _ hs).ne HT2.out.row (by rw [eo, e])
          have hNne : w.heap.size ≠ g0 := fun e => by rw [← e, hbl] at hgt; simp at hgt
          have hbne : b ≠ g0 := by have := HAB.out b off rfl (by omega); omega
          have KEEP : Hid (∀ wz, W2.grownBy wz (some g0) → wz.rowIs L 48 (l * 2) g ∧ wz.heap[w.heap.size]? = some (.cells #[.slice (some ⟨b, off, none⟩) l c, .int .i64 K] 56 (0, 0)) ∧ Ints wz (some ⟨b, off, none⟩) l cs) := fun wz hg => ⟨HT2.out.row.of_block (hg.block L HT2.out.row.lt (fun e => hLne (Option.some.inj e))), (hg.block _ (by omega) (fun e => hNne (Option.some.inj e))).trans hbl, pt_ints_grown HI2.out hg (fun e => hbne (Option.some.inj e))⟩
          clear hck k1 k2 hgX hbl
          refine region_madeR (fun a b => a.grownBy b (some g0)) (fun _ _ _ h k => pt_grown_trans _ _ _ h k) (fun _ _ h => pt_grown_of _ _ h) 11 12 18 [fIs (.pointer (some ⟨L, k * 2, none⟩)), fIs (.pointer (some ⟨L, k * 2, none⟩)), fIs (.pointer (some ⟨L, k * 2, none⟩)), fIs (.pointer (some ⟨L, k * 2, none⟩)), fIs (.slice (some ⟨g0, 0, none⟩) (T (k * 2)).length c0), fIs (.agg #[.slice (some ⟨b, off, none⟩) l c, .int .i64 K]), fIs (.int .i64 (k : Int)), fFirst (some g0) k (firstV cs k (-1)) K', fIs (.int .i64 D), fBd (some g0) k (firstV cs k (-1)) K' D, fBs (some g0) k (firstV cs k (-1)) K' D, fSide B W2.heap.size (some g0) (T (k * 2) ++ [lpLow (cs, K) k])] (by kernel_rfl) (by kernel_rfl) (by kernel_rfl) (fun _ ⟨_, _⟩ ⟨_, _⟩ _ e h => by cases e; exact h) ⟨pt_is_good _ _ _, pt_is_good _ _ _, pt_is_good _ _ _, pt_is_good _ _ _, pt_is_good _ _ _, pt_is_good _ _ _, pt_is_good _ _ _, fFirst_good _ _ _ _, pt_is_good _ _ _, fBd_good _ _ _ _ _, fBs_good _ _ _ _ _, fSide_good _ _ _ _ _, trivial⟩ ?mk ?rest
          case mk =>
            refine ⟨fun u wz hb hs hd => ?_, fun u wz hb hs hd => ?_, fun u wz hb hs hd => ?_, fun u wz hb hs hd => ?_, fun u wz hb hs hd => ?_, fun u wz hb hs hd => ?_, fun u wz hb hs hd => ?_, fun u wz hb hs hd => ?_, fun u wz hb hs hd => ?_, fun u wz hb hs hd => ?_, fun u wz hb hs hd => ?_, fun u wz hb hs hd => ?_, trivial⟩
            all_goals simp only [Act.put, List.setIfInBounds_toArray, List.set_cons_zero, List.set_cons_succ]
            · go_simp
              exact ⟨rfl, St.of (Below.refl _ _) (by decide), fun h => by cases h⟩
            · go_simp
              exact ⟨rfl, St.of (Below.refl _ _) (by decide), fun h => by cases h⟩
            · have e1 : u 1 = .pointer (some ⟨L, k * 2, none⟩) := hd 1 (by omega) (by kernel_rfl)
              rw [e1]
              go_simp
              exact ⟨rfl, St.of (Below.refl _ _) (by decide), fun h => by cases h⟩
            · have e2 : u 2 = .pointer (some ⟨L, k * 2, none⟩) := hd 2 (by omega) (by kernel_rfl)
              rw [e2]
              go_simp
              exact ⟨rfl, St.of (Below.refl _ _) (by decide), fun h => by cases h⟩
            · have e3 : u 3 = .pointer (some ⟨L, k * 2, none⟩) := hd 3 (by omega) (by kernel_rfl)
              rw [e3]
              have r1 := (KEEP.out wz hb).1
              have c1 := r1.cell (i := k * 2) (by omega)
              rw [eg] at c1
              have z1 := r1.lt
              go_simp
              exact ⟨rfl, St.of (Below.refl _ _) (by decide), fun h => by cases h⟩
            · have r2 := (KEEP.out wz hb).2.1
              have c1 : wz.cell? ⟨w.heap.size, 0, none⟩ = some (.slice (some ⟨b, off, none⟩) l c) := by simp [World.cell?, r2]
              have c2 : wz.cell? ⟨w.heap.size, 1, none⟩ = some (.int .i64 K) := by simp [World.cell?, r2]
              have z1 := (Array.getElem?_eq_some_iff.1 r2).1
              go_simp
              exact ⟨rfl, St.of (Below.refl _ _) (by decide), fun h => by cases h⟩
            · go_simp
              exact ⟨rfl, St.of (Below.refl _ _) (by decide), fun h => by cases h⟩
            · have e5 : u 5 = .agg #[.slice (some ⟨b, off, none⟩) l c, .int .i64 K] := hd 5 (by omega) (by kernel_rfl)
              have e6 : u 6 = .int .i64 (k : Int) := hd 6 (by omega) (by kernel_rfl)
              rw [e5, e6]
              go_simp
              refine (first_any (some ⟨b, off, none⟩) l c cs K k (-1) wz (KEEP.out wz hb).2.2 hl4 hkl2 (by decide) HK.out HC.out).mono ?_
              rintro e w3 ⟨⟨g3, rfl, r3, hg3⟩, hb3⟩
              refine ⟨⟨g3, by rw [HK'.out], r3, ?_⟩, St.of hb3 (by decide), fun h => by cases h⟩
              have := hb.size
              intro e
              have := Option.some.inj e
              omega
            · go_simp
              exact ⟨rfl, St.of (Below.refl _ _) (by decide), fun h => by cases h⟩
            · obtain ⟨g3, e7, r3, n3⟩ := hd 7 (by omega) (by kernel_rfl)
              have e8 : u 8 = .int .i64 D := hd 8 (by omega) (by kernel_rfl)
              rw [e7, e8]
              go_simp
              exact ⟨⟨g3, rfl, r3, n3⟩, St.of (Below.refl _ _) (by decide), fun h => by cases h⟩
            · obtain ⟨g3, e7, r3, n3⟩ := hd 9 (by omega) (by kernel_rfl)
              rw [e7]
              go_simp
              refine ⟨⟨wz.heap.size, g3, rfl, World.alloc_heap_new _ _, ?_, World.rowIs.alloc r3 _, n3⟩, St.of (bl_new _) (by decide), fun h => by cases h⟩
              have := hb.size
              intro e
              have := Option.some.inj e
              omega
            · have e4 : u 4 = .slice (some ⟨g0, 0, none⟩) (T (k * 2)).length c0 := hd 4 (by omega) (by kernel_rfl)
              obtain ⟨B7, g3, e7, h7, _, r3, _⟩ := hd 10 (by omega) (by kernel_rfl)
              rw [e4, e7]
              have hbb := hs rfl
              have sd := (HT2.out.side _ ‹k * 2 < l * 2›).below hbb
              rw [eg] at sd
              have hsz := hbb.size
              have hw2 := HB2.out.size
              refine wp_append_side (.tmp 39) (.tmp 45) rfl B _ (T (k * 2)) rfl sd B7 g3 k k (firstV cs k (-1)) K' D rfl h7 ⟨ints_of_rowI r3 (firstV_len cs k (-1) (by rw [HL.out]; omega)) (by omega) (firstV_bd cs k (-1) (by decide) HC.out), Nat.le_refl _, fun e => by cases e⟩ (by have := HSZ.out (k * 2); omega) (by have := HB0.out; omega) (fun v' w3 hS hg ho => ?_)
              refine ⟨v', rfl, ⟨?_, ?_⟩, St.at hg, fun h => by cases h⟩
              · rw [HD.out, HK'.out] at hS
                exact hS
              · rcases ho with ho | ho
                · exact .inl ho
                · exact .inr (fun i hi => by rw [ho] at hi; cases hi; exact hsz)
          case rest =>
            intro u wz hb hf hp
            have f0 : u 0 = .pointer (some ⟨L, k * 2, none⟩) := hf 0 (by omega)
            obtain ⟨sd, ho⟩ := hf 11 (by omega)
            obtain ⟨v8, f8⟩ : ∃ v8, u 11 = v8 := ⟨_, rfl⟩
            rw [f8] at sd ho
            refine UptoW.rest 3 12 (by rfl) (by kernel_rfl) ?_
            simp only [List.take, List.drop, putOps, Act.put, List.setIfInBounds_toArray, List.set_cons_zero, List.set_cons_succ, Nat.reduceAdd, f0, f8]
            clear f0 hf hp
            obtain ⟨g8, c8, cur8, e8, _⟩ := sd.own
            subst e8
            have r1 := (KEEP.out wz hb).1
            have c1 := r1.cell (i := k * 2) (by omega)
            have fz := r1.frozen (k * 2)
            have z1 := r1.lt
            rw [eg] at c1
            have FIN := hide (HT2.out.put (n0 := 0) ‹k * 2 < l * 2› (by rw [eo]; exact hb) sd (by rw [eo]; exact ho))
            have HBF := hide ((HB2.out.grown hb (by have := HB2.out.size; have := HB0.out; omega) (fun j e => by cases e; exact hgB)).setCell (p := ⟨L, k * 2, none⟩) HT2.out.base (.slice (some ⟨g8, 0, none⟩) (T (k * 2) ++ [lpLow (cs, K) k]).length c8))
            have eL : (T (k * 2) ++ [lpLow (cs, K) k]).length = (T (k * 2)).length + 1 := by simp
            rw [eL] at FIN HBF
            have FIN2 : Hid (∃ g', Table (wz.setCell ⟨L, k * 2, none⟩ (.slice (some ⟨g8, 0, none⟩) ((T (k * 2)).length + 1) c8)) B L (l * 2) g' (bindT (cs, K) T)) := ⟨_, by rw [bindT_low (k := k) HN.out (by rw [← HD.out]; first | exact HP.out | exact Int.not_lt.2 HP.out)]; exact FIN.out⟩
            clear sd ho f8
            refine wpList_plain rfl (fun K hK => ?_)
            go_simp
            refine hK _ _ ?_
            clear hK K
            refine wpList_plain rfl (fun K hK => ?_)
            go_simp
            refine hK _ _ ?_
            clear hK K
            refine wpList_plain rfl (fun K hK => ?_)
            go_simp
            refine hK _ _ (wpList_nil ?_)
            clear hK K
            go_wp2_with fail
            exact bodyPost_end (v := .tuple #[]) (by simp [results, Try.results37, go_sem]) rfl ⟨⟨rfl, FIN2.out⟩, HBF.out⟩
        · have HP := hide hp
          obtain ⟨K', hK'⟩ : ∃ K', K' = 1 * K := ⟨_, rfl⟩
          have HK' := hide hK'
          clear hK'
          go_wp2_with fail
          go_region
          all_goals go_wp2_with fail
          have HT2 := hide (HT.out.below (Below.refl W1.heap.size W1).drew)
          have HI2 := hide (H.out.below (Below.refl W1.heap.size W1).drew)
          have HB2 := hide HB.out.drew
          have hbl : W1.drew.heap[w.heap.size]? = some (.cells #[.slice (some ⟨b, off, none⟩) l c, .int .i64 K] 56 (0, 0)) := HBL.out
          have hz2 : W1.drew.heap.size = w.heap.size + 1 := hz
          obtain ⟨W2, hW2⟩ : ∃ W2, W2 = W1.drew := ⟨_, rfl⟩
          rw [← hW2] at HT2 HI2 HB2 hbl hz2 ⊢
          have hs : k * 2 + 1 < l * 2 := by omega
          obtain ⟨g0, c0, cur, eg, hc0, hgB, hgl, eo, hgt, hgX⟩ := (HT2.out.side _ hs).own
          have hLne : L ≠ g0 := fun e => (HT2.out.side _ hs).ne HT2.out.row (by rw [eo, e])
          have hNne : w.heap.size ≠ g0 := fun e => by rw [← e, hbl] at hgt; simp at hgt
          have hbne : b ≠ g0 := by have := HAB.out b off rfl (by omega); omega
          have KEEP : Hid (∀ wz, W2.grownBy wz (some g0) → wz.rowIs L 48 (l * 2) g ∧ wz.heap[w.heap.size]? = some (.cells #[.slice (some ⟨b, off, none⟩) l c, .int .i64 K] 56 (0, 0)) ∧ Ints wz (some ⟨b, off, none⟩) l cs) := fun wz hg => ⟨HT2.out.row.of_block (hg.block L HT2.out.row.lt (fun e => hLne (Option.some.inj e))), (hg.block _ (by omega) (fun e => hNne (Option.some.inj e))).trans hbl, pt_ints_grown HI2.out hg (fun e => hbne (Option.some.inj e))⟩
          clear hck k1 k2 hgX hbl
          refine region_madeR (fun a b => a.grownBy b (some g0)) (fun _ _ _ h k => pt_grown_trans _ _ _ h k) (fun _ _ h => pt_grown_of _ _ h) 12 13 18 [fIs (.pointer (some ⟨L, k * 2, none⟩)), fIs (.pointer (some ⟨L, k * 2, none⟩)), fIs (.pointer (some ⟨L, k * 2, none⟩)), fIs (.pointer (some ⟨L, k * 2 + 1, none⟩)), fIs (.slice (some ⟨g0, 0, none⟩) (T (k * 2 + 1)).length c0), fIs (.agg #[.slice (some ⟨b, off, none⟩) l c, .int .i64 K]), fIs (.int .i64 (k : Int)), fFirst (some g0) k (firstV cs k 1) K', fIs (.int .i64 D), fIs (.int .i64 (-D)), fBd (some g0) k (firstV cs k 1) K' (-D), fBs (some g0) k (firstV cs k 1) K' (-D), fSide B W2.heap.size (some g0) (T (k * 2 + 1) ++ [lpHigh (cs, K) k])] (by kernel_rfl) (by kernel_rfl) (by kernel_rfl) (fun _ ⟨_, _⟩ ⟨_, _⟩ _ e h => by cases e; exact h) ⟨pt_is_good _ _ _, pt_is_good _ _ _, pt_is_good _ _ _, pt_is_good _ _ _, pt_is_good _ _ _, pt_is_good _ _ _, pt_is_good _ _ _, fFirst_good _ _ _ _, pt_is_good _ _ _, pt_is_good _ _ _, fBd_good _ _ _ _ _, fBs_good _ _ _ _ _, fSide_good _ _ _ _ _, trivial⟩ ?mk ?rest
          case mk =>
            refine ⟨fun u wz hb hs hd => ?_, fun u wz hb hs hd => ?_, fun u wz hb hs hd => ?_, fun u wz hb hs hd => ?_, fun u wz hb hs hd => ?_, fun u wz hb hs hd => ?_, fun u wz hb hs hd => ?_, fun u wz hb hs hd => ?_, fun u wz hb hs hd => ?_, fun u wz hb hs hd => ?_, fun u wz hb hs hd => ?_, fun u wz hb hs hd => ?_, fun u wz hb hs hd => ?_, trivial⟩
            all_goals simp only [Act.put, List.setIfInBounds_toArray, List.set_cons_zero, List.set_cons_succ]
            · go_simp
              exact ⟨rfl, St.of (Below.refl _ _) (by decide), fun h => by cases h⟩
            · go_simp
              exact ⟨rfl, St.of (Below.refl _ _) (by decide), fun h => by cases h⟩
            · have e1 : u 1 = .pointer (some ⟨L, k * 2, none⟩) := hd 1 (by omega) (by kernel_rfl)
              rw [e1]
              go_simp
              exact ⟨rfl, St.of (Below.refl _ _) (by decide), fun h => by cases h⟩
            · have e2 : u 2 = .pointer (some ⟨L, k * 2, none⟩) := hd 2 (by omega) (by kernel_rfl)
              rw [e2]
              go_simp
              exact ⟨rfl, St.of (Below.refl _ _) (by decide), fun h => by cases h⟩
            · have e3 : u 3 = .pointer (some ⟨L, k * 2 + 1, none⟩) := hd 3 (by omega) (by kernel_rfl)
              rw [e3]
              have r1 := (KEEP.out wz hb).1
              have c1 := r1.cell (i := k * 2 + 1) (by omega)
              rw [eg] at c1
              have z1 := r1.lt
              go_simp
              exact ⟨rfl, St.of (Below.refl _ _) (by decide), fun h => by cases h⟩
            · have r2 := (KEEP.out wz hb).2.1
              have c1 : wz.cell? ⟨w.heap.size, 0, none⟩ = some (.slice (some ⟨b, off, none⟩) l c) := by simp [World.cell?, r2]
              have c2 : wz.cell? ⟨w.heap.size, 1, none⟩ = some (.int .i64 K) := by simp [World.cell?, r2]
              have z1 := (Array.getElem?_eq_some_iff.1 r2).1
              go_simp
              exact ⟨rfl, St.of (Below.refl _ _) (by decide), fun h => by cases h⟩
            · go_simp
              exact ⟨rfl, St.of (Below.refl _ _) (by decide), fun h => by cases h⟩
            · have e5 : u 5 = .agg #[.slice (some ⟨b, off, none⟩) l c, .int .i64 K] := hd 5 (by omega) (by kernel_rfl)
              have e6 : u 6 = .int .i64 (k : Int) := hd 6 (by omega) (by kernel_rfl)
              rw [e5, e6]
              go_simp
              refine (first_any (some ⟨b, off, none⟩) l c cs K k 1 wz (KEEP.out wz hb).2.2 hl4 hkl2 (by decide) HK.out HC.out).mono ?_
              rintro e w3 ⟨⟨g3, rfl, r3, hg3⟩, hb3⟩
              refine ⟨⟨g3, by rw [HK'.out], r3, ?_⟩, St.of hb3 (by decide), fun h => by cases h⟩
              have := hb.size
              intro e
              have := Option.some.inj e
              omega
            · go_simp
              exact ⟨rfl, St.of (Below.refl _ _) (by decide), fun h => by cases h⟩
            · have e8 : u 8 = .int .i64 D := hd 8 (by omega) (by kernel_rfl)
              rw [e8]
              have wD : IntKind.i64.wrap (-D) = -D := wrap_in _ (by omega) (by omega)
              go_simp
              exact ⟨rfl, St.of (Below.refl _ _) (by decide), fun h => by cases h⟩
            · obtain ⟨g3, e7, r3, n3⟩ := hd 7 (by omega) (by kernel_rfl)
              have e8 : u 9 = .int .i64 (-D) := hd 9 (by omega) (by kernel_rfl)
              rw [e7, e8]
              go_simp
              exact ⟨⟨g3, rfl, r3, n3⟩, St.of (Below.refl _ _) (by decide), fun h => by cases h⟩
            · obtain ⟨g3, e7, r3, n3⟩ := hd 10 (by omega) (by kernel_rfl)
              rw [e7]
              go_simp
              refine ⟨⟨wz.heap.size, g3, rfl, World.alloc_heap_new _ _, ?_, World.rowIs.alloc r3 _, n3⟩, St.of (bl_new _) (by decide), fun h => by cases h⟩
              have := hb.size
              intro e
              have := Option.some.inj e
              omega
            · have e4 : u 4 = .slice (some ⟨g0, 0, none⟩) (T (k * 2 + 1)).length c0 := hd 4 (by omega) (by kernel_rfl)
              obtain ⟨B7, g3, e7, h7, _, r3, _⟩ := hd 11 (by omega) (by kernel_rfl)
              rw [e4, e7]
              have hbb := hs rfl
              have sd := (HT2.out.side _ ‹k * 2 + 1 < l * 2›).below hbb
              rw [eg] at sd
              have hsz := hbb.size
              have hw2 := HB2.out.size
              refine wp_append_side (.tmp 53) (.tmp 60) rfl B _ (T (k * 2 + 1)) rfl sd B7 g3 k k (firstV cs k 1) K' (-D) rfl h7 ⟨ints_of_rowI r3 (firstV_len cs k 1 (by rw [HL.out]; omega)) (by omega) (firstV_bd cs k 1 (by decide) HC.out), Nat.le_refl _, fun e => by cases e⟩ (by have := HSZ.out (k * 2 + 1); omega) (by have := HB0.out; omega) (fun v' w3 hS hg ho => ?_)
              refine ⟨v', rfl, ⟨?_, ?_⟩, St.at hg, fun h => by cases h⟩
              · rw [HD.out, HK'.out] at hS
                exact hS
              · rcases ho with ho | ho
                · exact .inl ho
                · exact .inr (fun i hi => by rw [ho] at hi; cases hi; exact hsz)
          case rest =>
            intro u wz hb hf hp
            have f0 : u 0 = .pointer (some ⟨L, k * 2, none⟩) := hf 0 (by omega)
            obtain ⟨sd, ho⟩ := hf 12 (by omega)
            obtain ⟨v8, f8⟩ : ∃ v8, u 12 = v8 := ⟨_, rfl⟩
            rw [f8] at sd ho
            refine UptoW.rest 3 13 (by rfl) (by kernel_rfl) ?_
            simp only [List.take, List.drop, putOps, Act.put, List.setIfInBounds_toArray, List.set_cons_zero, List.set_cons_succ, Nat.reduceAdd, f0, f8]
            clear f0 hf hp
            obtain ⟨g8, c8, cur8, e8, _⟩ := sd.own
            subst e8
            have r1 := (KEEP.out wz hb).1
            have c1 := r1.cell (i := k * 2 + 1) (by omega)
            have fz := r1.frozen (k * 2 + 1)
            have z1 := r1.lt
            rw [eg] at c1
            have FIN := hide (HT2.out.put (n0 := 0) ‹k * 2 + 1 < l * 2› (by rw [eo]; exact hb) sd (by rw [eo]; exact ho))
            have HBF := hide ((HB2.out.grown hb (by have := HB2.out.size; have := HB0.out; omega) (fun j e => by cases e; exact hgB)).setCell (p := ⟨L, k * 2 + 1, none⟩) HT2.out.base (.slice (some ⟨g8, 0, none⟩) (T (k * 2 + 1) ++ [lpHigh (cs, K) k]).length c8))
            have eL : (T (k * 2 + 1) ++ [lpHigh (cs, K) k]).length = (T (k * 2 + 1)).length + 1 := by simp
            rw [eL] at FIN HBF
            have FIN2 : Hid (∃ g', Table (wz.setCell ⟨L, k * 2 + 1, none⟩ (.slice (some ⟨g8, 0, none⟩) ((T (k * 2 + 1)).length + 1) c8)) B L (l * 2) g' (bindT (cs, K) T)) := ⟨_, by rw [bindT_high (k := k) HN.out (by rw [← HD.out]; first | exact HP.out | exact Int.not_lt.2 HP.out)]; exact FIN.out⟩
            clear sd ho f8
            refine wpList_plain rfl (fun K hK => ?_)
            go_simp
            refine hK _ _ ?_
            clear hK K
            refine wpList_plain rfl (fun K hK => ?_)
            go_simp
            refine hK _ _ ?_
            clear hK K
            refine wpList_plain rfl (fun K hK => ?_)
            go_simp
            refine hK _ _ (wpList_nil ?_)
            clear hK K
            go_wp2_with fail
            exact bodyPost_end (v := .tuple #[]) (by simp [results, Try.results37, go_sem]) rfl ⟨⟨rfl, FIN2.out⟩, HBF.out⟩
end Go.Proofs.Ytmefgejggpimeaa.V
