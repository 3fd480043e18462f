/-
  Contract: shelf.put.
-/
import Derived.Test.YtnncalhpbfmgoaaRmDel
import Derived.Deep.RegionHeld3
namespace Go.Proofs.Ytnncalhpbfmgoaa.V
open Go Go.Shelf Go.RowKit Go.Lib Go.Sort Go.Proofs
set_option linter.unusedVariables false

theorem append_d0 {w : World} {ops : Array Oper} {rest : List Oper} {op : Oper} {a : Act} {Q : Exit → Act → World → Prop} (hgd : op.guard = none) (s x : Operand)
    (ho : op.op = .call { callee := .builtin .append, args := #[s, x], argTypes := #[47, 47] }) (B : Nat) (v : Value) (hs : a.eval s = v) (L : List Ld) (hout : OutD w B v L)
    (hx : a.eval x = .slice (some ⟨w.heap.size, 0, none⟩) 1 1) (hbytes : (L.length + 1) * 32 ≤ 140737488355328) (hB : B ≤ w.heap.size)
    (h : ∀ v' w', OutD w' B v' (L ++ [ldD]) → ShK w.heap.size B w w' → (∀ b, b < B → w'.heap[b]? = w.heap[b]?) → (∀ b, b < w.heap.size → v.ownBlock ≠ some b → w'.heap[b]? = w.heap[b]?) → wpList Try.prog ops Q rest (a.put op.dst v') w') :
    wpList Try.prog ops Q (op :: rest) a (w.alloc (.cells #[.int .i64 0, .int .i64 0, .int .i64 0, .int .i64 0] 73)) := by
  obtain ⟨i0, hi, hz0, hz1, hz2⟩ := info_parts info_D
  have hlt := hout.lt
  have h2' := World.ownsRow.alloc (o := .cells #[.int .i64 0, .int .i64 0, .int .i64 0, .int .i64 0] 73) hout
  have hb := bl_new (w := w) (.cells #[.int .i64 0, .int .i64 0, .int .i64 0, .int .i64 0] 73)
  refine wpList_append_own _ hgd s x 47 ho B 73 i0 (.agg #[.int .i64 0, .int .i64 0, .int .i64 0, .int .i64 0]) 4 32 Try.underlying47 hi hz0 hz1 hz2 rfl (by decide) v L.length (L.flatMap l4) hs h2' ⟨w.heap.size, 0, none⟩ 1 1 (l4 ldD) hx rfl ?_ (l4_one ldD) (by unfold maxLen; omega) hbytes (by simp; omega) (fun v' w' k1 k2 k3 => ?_)
  · intro j y hj
    rw [Go.WideShapes.add_plain]
    unfold World.cell?
    rw [World.alloc_heap_new w (.cells #[.int .i64 0, .int .i64 0, .int .i64 0, .int .i64 0] 73)]
    rw [Nat.zero_add, ← hj]
    simp [l4, ldD, lfD]
  · have hblk : ∀ b, b < w.heap.size → v.ownBlock ≠ some b → w'.heap[b]? = w.heap[b]? := fun b hb1 hb2 => (k2.block b (by simp; omega) (fun e => hb2 e.symm)).trans (hb.block b hb1)
    have hlow : ∀ b, b < B → w'.heap[b]? = w.heap[b]? := fun b hb1 => hblk b (by omega) (fun e => by have := (hlt b e).1; omega)
    refine h v' w' ?_ ⟨k2.os.trans hb.os, k2.tape.trans hb.tape, k2.output.trans hb.output, Nat.le_trans hb.size k2.size, fun b h1 _ => hlow b h1⟩ hlow hblk
    unfold OutD
    rw [List.length_append, List.flatMap_append]
    simpa using k1
theorem shk_drew {sb B : Nat} (W : World) : ShK sb B W W.drew := ⟨rfl, rfl, rfl, Nat.le_refl _, fun _ _ _ => rfl⟩
/-- A thing is put among others. -/
def insL (L : List Ld) (k : Nat) (x : Ld) : List Ld := L.take k ++ x :: L.drop k
theorem insL_len (L : List Ld) (k : Nat) (x : Ld) (h : k ≤ L.length) : (insL L k x).length = L.length + 1 := by simp [insL]; omega
theorem insL_get (L : List Ld) (k : Nat) (x : Ld) (h : k ≤ L.length) (j : Nat) : (insL L k x)[j]? = if j < k then L[j]? else if j = k then some x else L[j - 1]? := by
  unfold insL
  by_cases c1 : j < k
  · rw [if_pos c1, List.getElem?_append_left (by rw [List.length_take]; omega), List.getElem?_take_of_lt c1]
  · rw [if_neg c1, List.getElem?_append_right (by rw [List.length_take]; omega), List.length_take]
    by_cases c2 : j = k
    · subst c2
      rw [if_pos rfl, show j - min j L.length = 0 by omega]
      rfl
    · rw [if_neg c2, show j - min k L.length = (j - k - 1) + 1 by omega, List.getElem?_cons_succ, List.getElem?_drop]
      congr 1
      omega
theorem put_mid {W : World} {g c2 k D : Nat} {L : List Ld} (h : RowL W g c2 (fun j => (L ++ [ldD])[j]?)) (hk : k ≤ L.length) (hl : L.length + 1 ≤ c2) (hD : D = (k + 1) * 4 ∨ L.length = k) :
    RowL (W.drew.setCells g D ((L.drop k).flatMap l4)) g c2 (fun j => if k + 1 ≤ j ∧ j < L.length + 1 then L[j - 1]? else (L ++ [ldD])[j]?) := by
  have h0 : RowL W.drew g c2 (fun j => (L ++ [ldD])[j]?) := h.of_block rfl
  rcases hD with rfl | hD
  · refine (h0.set (k + 1) (L.drop k) (by rw [List.length_drop]; omega)).congr (fun j x hj hx => ?_)
    simp only [List.length_drop]
    by_cases c : k + 1 ≤ j ∧ j < L.length + 1
    · rw [if_pos c] at hx
      rw [if_pos (by omega), List.getElem?_drop, show k + (j - (k + 1)) = j - 1 by omega]
      exact hx
    · rw [if_neg c] at hx
      rw [if_neg (by omega)]
      exact hx
  · have e : L.drop k = [] := List.drop_of_length_le (by omega)
    rw [e]
    refine h0.congr (fun j x hj hx => ?_)
    rw [if_neg (by omega)] at hx
    exact hx
/-- The thing itself is put. -/
theorem put_fin {W : World} {g c2 k : Nat} {L : List Ld} {q : Lf} {p : Int} {B : Nat} (h : RowL W g c2 (fun j => if k + 1 ≤ j ∧ j < L.length + 1 then L[j - 1]? else (L ++ [ldD])[j]?)) (hk : k ≤ L.length) (hl : L.length + 1 ≤ c2) (hc : c2 ≤ 9223372036854775807) (hB : B ≤ g) :
    OutD (W.setCells g (k * 4) ([(⟨q, p⟩ : Ld)].flatMap l4)).drew B (.slice (some ⟨g, 0, none⟩) (L.length + 1) c2) (insL L k ⟨q, p⟩) := by
  have h0 := RowL.of_block (V := (W.setCells g (k * 4) ([(⟨q, p⟩ : Ld)].flatMap l4)).drew) (RowL.set h k [(⟨q, p⟩ : Ld)] (by simp; omega)) rfl
  have := OutD.of_row (B := B) (L := insL L k ⟨q, p⟩) h0 (fun j x hx => ?_) hB (by rw [insL_len L k _ hk]; omega) hc
  · rw [insL_len L k _ hk] at this
    exact this
  · have hj : j < L.length + 1 := by rw [← insL_len L k ⟨q, p⟩ hk]; exact (List.getElem?_eq_some_iff.1 hx).1
    rw [insL_get L k _ hk] at hx
    simp only [List.length_singleton]
    by_cases c1 : j < k
    · rw [if_pos c1] at hx
      rw [if_neg (by omega), if_neg (by omega), List.getElem?_append_left (by omega)]
      exact hx
    · rw [if_neg c1] at hx
      by_cases c2 : j = k
      · subst c2
        rw [if_pos rfl] at hx
        rw [if_pos (by omega)]
        simpa using hx
      · rw [if_neg c2] at hx
        rw [if_neg (by omega), if_pos (by omega)]
        exact hx
set_option maxHeartbeats 4000000 in
set_option maxRecDepth 100000 in
theorem put_any (sb B : Nat) (L : List Ld) (q : Lf) (w : World) (h : ShelfAt w sb B L) (hsb : sb < B) (hB : B ≤ w.heap.size) (hok : ∀ x ∈ L, LdOk x) (hq : LfOk q) (hl : L.length ≤ 4096) (hk : (gapV q.wd L 0).1 ≤ L.length) :
    Calls Try.prog 29 #[.pointer (some ⟨sb, 0, none⟩), .agg #[.int .i64 q.fr, .int .i64 q.to, .int .i64 q.wd]] w fun e w' => e = .returned (.int .i64 (gapV q.wd L 0).2) ∧ ShelfAt w' sb B (insL L (gapV q.wd L 0).1 ⟨q, (gapV q.wd L 0).2⟩) ∧ ShK sb B w w' := by
  obtain ⟨v, h1, h2⟩ := h
  obtain ⟨A, c, rfl, hc1, hc2⟩ := h2.slice
  have hb := bl_new (w := w) (.cells #[.int .i64 q.fr, .int .i64 q.to, .int .i64 q.wd] 37)
  have HGP := hide (gap_any sb B (.slice A L.length c) L q.wd (w.alloc (.cells #[.int .i64 q.fr, .int .i64 q.to, .int .i64 q.wd] 37)) ((hb.block sb (by omega)).trans h1) (h2.below hb) hok ⟨hq.w0, hq.w1⟩)
  have HB := hide hb
  have H1 := hide h1
  have H2 := hide h2
  obtain ⟨k, hkk⟩ : ∃ k, k = (gapV q.wd L 0).1 := ⟨_, rfl⟩
  obtain ⟨p, hpp⟩ : ∃ p, p = (gapV q.wd L 0).2 := ⟨_, rfl⟩
  rw [← hkk, ← hpp] at HGP
  rw [← hkk] at hk
  rw [← hkk, ← hpp]
  clear h1 h2 hb hkk hpp hok
  go_enter Try.func29, Try.ntmps29
  go_wp2_with (first
    | (go_at_call 45; refine HGP.out.mono ?_; rintro e w1 ⟨rfl, hb1⟩; have HB1 := hide (bl_on HB.out hb1); have hs1 : w1.heap[sb]? = some (.cells #[.slice A L.length c] 49 (0, 0)) := (HB1.out.block sb (by omega)).trans H1.out; have c1 : w1.cell? ⟨sb, 0, none⟩ = some (.slice A L.length c) := (by simp only [World.cell?, hs1]; rfl); have zs1 := (Array.getElem?_eq_some_iff.1 hs1).1; have n0 := (hb1.cell (p := ⟨w.heap.size, 0, none⟩) (by simp)); have n1 := (hb1.cell (p := ⟨w.heap.size, 1, none⟩) (by simp)); have n2 := (hb1.cell (p := ⟨w.heap.size, 2, none⟩) (by simp)); simp at n0 n1 n2; have nblk := (hb1.block w.heap.size (by simp)).trans (World.alloc_heap_new w _); have NB := hide nblk; clear nblk; have zn : w.heap.size < w1.heap.size := (by have := hb1.size; simp at this; omega); have HS1 := hide hs1; clear hb1 hs1)
    | (at_builtin; refine append_d0 rfl (.tmp 18) (.tmp 20) rfl B _ rfl L (H2.out.below HB1.out) (by simp [go_sem]) (by omega) (by have := HB1.out.size; omega) ?_; intro v' w2 ho hk1 hlow hblk; obtain ⟨A2, c2, rfl, hc3, hc4⟩ := ho.slice; rw [List.length_append] at hc3; have hs2 : w2.heap[sb]? = some (.cells #[.slice A L.length c] 49 (0, 0)) := (hlow sb hsb).trans HS1.out; have c3 : w2.cell? ⟨sb, 0, none⟩ = some (.slice A L.length c) := (by simp only [World.cell?, hs2]; rfl); have f3 : w2.frozen? ⟨sb, 0, none⟩ = false := (by simp [World.frozen?, hs2]); have zs2 := (Array.getElem?_eq_some_iff.1 hs2).1; have HS2 := hide hs2; have HO2 := hide ho; have HK2 := hide (⟨hk1, hlow, hblk⟩ : ShK w1.heap.size B w1 w2 ∧ (∀ b, b < B → w2.heap[b]? = w1.heap[b]?) ∧ (∀ b, b < w1.heap.size → (Value.slice A L.length c).ownBlock ≠ some b → w2.heap[b]? = w1.heap[b]?)); clear hs2 ho hk1 hlow hblk))
  obtain ⟨g, c', hA, hBg, hlc, hcc, hrow⟩ : ∃ g c', (Value.slice A2 (L ++ [ldD]).length c2) = .slice (some ⟨g, 0, none⟩) (L ++ [ldD]).length c' ∧ B ≤ g ∧ (L ++ [ldD]).length ≤ c' ∧ c' ≤ 9223372036854775807 ∧ RowL w2 g c' (fun j => (L ++ [ldD])[j]?) := by
    rcases HO2.out.row with ⟨_, e⟩ | ⟨g, c', e, h0, h1, h2, hrow⟩
    · simp at e
    · exact ⟨g, c', e, h0, h1, h2, hrow⟩
  cases hA
  have hn1 : (L ++ [ldD]).length = L.length + 1 := by simp
  rw [hn1] at HO2 hlc
  clear hc3
  try simp only [hn1]
  obtain ⟨W3, hW3⟩ : ∃ W3, W3 = w2.setCell ⟨sb, 0, none⟩ (.slice (some ⟨g, 0, none⟩) (L.length + 1) c2) := ⟨_, rfl⟩
  have hne : g ≠ sb := by omega
  have HR3 : Hid (RowL W3 g c2 (fun j => (L ++ [ldD])[j]?)) := by rw [Hid, hW3]; exact hrow.of_block (Below.heap_setCell _ ⟨sb, 0, none⟩ _ g hne)
  have hs3 : W3.heap[sb]? = some (.cells #[.slice (some ⟨g, 0, none⟩) (L.length + 1) c2] 49 (0, 0)) := by rw [hW3]; simp [World.setCell, Array.getElem?_modify, HS2.out]
  have c5 : W3.cell? ⟨sb, 0, none⟩ = some (.slice (some ⟨g, 0, none⟩) (L.length + 1) c2) := by simp only [World.cell?, hs3]; rfl
  have zs3 := (Array.getElem?_eq_some_iff.1 hs3).1
  have hbb : ∀ b, b < w1.heap.size → b ≠ sb → (Value.slice A L.length c).ownBlock ≠ some b → W3.heap[b]? = w1.heap[b]? := fun b h1 h2 h3 => by
    rw [hW3]
    exact (Below.heap_setCell _ ⟨sb, 0, none⟩ _ b h2).trans (HK2.out.2.2 b h1 h3)
  have hnb : W3.heap[w.heap.size]? = w1.heap[w.heap.size]? := hbb _ zn (by omega) (fun e => by have := (H2.out.lt _ e).2; omega)
  have m0 : W3.cell? ⟨w.heap.size, 0, none⟩ = some (.int .i64 q.fr) := (World.cell?_of_block (w := w1) (w' := W3) (a := ⟨w.heap.size, 0, none⟩) hnb).trans n0
  have m1 : W3.cell? ⟨w.heap.size, 1, none⟩ = some (.int .i64 q.to) := (World.cell?_of_block (w := w1) (w' := W3) (a := ⟨w.heap.size, 1, none⟩) hnb).trans n1
  have m2 : W3.cell? ⟨w.heap.size, 2, none⟩ = some (.int .i64 q.wd) := (World.cell?_of_block (w := w1) (w' := W3) (a := ⟨w.heap.size, 2, none⟩) hnb).trans n2
  have HK3 : Hid (ShK sb B w W3) := by
    rw [Hid, hW3]
    refine (ShK.of_below HB1.out hB).trans (ShK.trans (V := w2) ?_ (ShK.of_set w2 _))
    have := HK2.out.1
    exact ⟨this.os, this.tape, this.output, this.size, fun b h1 _ => HK2.out.2.1 b h1⟩
  have HS3 := hide hs3
  have hg3 := HR3.out.lt
  have hgw : g ≠ w.heap.size := fun e => by
    obtain ⟨cur, e1, _⟩ := HR3.out.blk
    have e2 := hnb.trans NB.out
    rw [← e, e1] at e2
    cases e2
  rw [← hW3]
  have hsrc : ∀ k, k ≤ L.length → ∀ j v, ((L.drop k).flatMap l4)[j]? = some v → W3.drew.cell? ((⟨g, k * 4, none⟩ : Addr).add j) = some v := fun k hk j v hv => by
    have hj : j < (L.drop k).length * 4 := by rw [← flat4_len]; exact (List.getElem?_eq_some_iff.1 hv).1
    rw [List.length_drop] at hj
    rw [Go.WideShapes.add_plain]
    have e1 := flat4_get (L.drop k) (j / 4) (j % 4) (by rw [List.length_drop]; omega) (by omega)
    rw [show j / 4 * 4 + j % 4 = j by omega, hv] at e1
    have e2 := HR3.out.at_ (k + j / 4) ((L.drop k)[j / 4]?.getD ldD) (by omega) (by
      rw [List.getElem?_append_left (by omega), List.getElem?_drop]
      simp [show k + j / 4 < L.length by omega]) (j % 4) (by omega)
    rw [show (k + j / 4) * 4 + j % 4 = k * 4 + j by omega] at e2
    show W3.cell? _ = _
    rw [e2, e1]
  have hdst : ∀ D, (D = (k + 1) * 4 ∨ L.length = k) → ∀ j, j < ((L.drop k).flatMap l4).length → (W3.drew.cell? ⟨g, D + j, none⟩).isSome = true := fun D hD j hj => by
    rw [flat4_len, List.length_drop] at hj
    rcases hD with rfl | hD
    · exact HR3.out.some_ (by omega)
    · omega
  clear hW3 hrow hbb hnb HS1 HO2 HS2 HK2 c1 c3 f3 n0 n1 n2 HGP H1 H2 HB HB1 zs1 zs2 hs3
  have hck0 : ¬ c2 = k := by omega
  have hw1 : IntKind.i64.wrap ((k : Int) + 1) = (k : Int) + 1 := by rw [IntKind.wrap_i64]; omega
  have i1 : ((k : Int) + 1).toNat = k + 1 := by omega
  have i2 : (0 : Int) ≤ (k : Int) + 1 := by omega
  have i3 : (k : Int) + 1 ≤ (L.length : Int) + 1 := by omega
  have i4 : (k : Int) ≤ (L.length : Int) + 1 := by omega
  by_cases hck : c2 = k + 1
  · have HDD : (0 = (k + 1) * 4 ∨ L.length = k) := .inr (by omega)
    have hcp := copy4_run W3.drew 3 g 0 (L.length - k) 0 ⟨g, k * 4, none⟩ (L.length + 1 - k) 1 (((L.drop k)).flatMap l4) (by rw [flat4_len, List.length_drop]; congr 1; show _ = min _ _; omega) (hsrc k hk) (hdst 0 HDD) (fun j _ => HR3.out.free _) (l4s_one _)
    have HDD2 := HDD
    go_region
    have hR4 := put_mid HR3.out hk hlc HDD
    have hRw := Rw.set W3.drew (0) ((L.drop k).flatMap l4) hg3
    have e4 : (W3.drew.setCells g (0) ((L.drop k).flatMap l4)).heap[sb]? = W3.heap[sb]? := hRw.grown.block sb zs3 (fun e => hne (Option.some.inj e).symm)
    have e5 : (W3.drew.setCells g (0) ((L.drop k).flatMap l4)).heap[w.heap.size]? = W3.heap[w.heap.size]? := hRw.grown.block _ (lt_of_cell m0) (fun e => hgw (Option.some.inj e).symm)
    have HK4 : Hid (ShK sb B w (W3.drew.setCells g (0) ((L.drop k).flatMap l4))) := (HK3.out.trans (shk_drew W3)).trans (ShK.of_grown (W := W3.drew) hRw.grown (by have := HK3.out.size; show B ≤ W3.heap.size; omega) (fun x e => by cases e; exact hBg))
    have zW4 := hRw.grown.size
    generalize W3.drew.setCells g (0) ((L.drop k).flatMap l4) = W4 at hR4 e4 e5 HK4 zW4 ⊢
    have c6 := (World.cell?_of_block (w := W3) (w' := W4) (a := ⟨sb, 0, none⟩) e4).trans c5
    have r0 := (World.cell?_of_block (w := W3) (w' := W4) (a := ⟨w.heap.size, 0, none⟩) e5).trans m0
    have r1 := (World.cell?_of_block (w := W3) (w' := W4) (a := ⟨w.heap.size, 1, none⟩) e5).trans m1
    have r2 := (World.cell?_of_block (w := W3) (w' := W4) (a := ⟨w.heap.size, 2, none⟩) e5).trans m2
    obtain ⟨a0, s0⟩ := Option.isSome_iff_exists.1 (hR4.some_ (t := k * 4) (by omega))
    obtain ⟨a1, s1⟩ := Option.isSome_iff_exists.1 (hR4.some_ (t := k * 4 + 1) (by omega))
    obtain ⟨a2, s2⟩ := Option.isSome_iff_exists.1 (hR4.some_ (t := k * 4 + 2) (by omega))
    obtain ⟨a3, s3⟩ := Option.isSome_iff_exists.1 (hR4.some_ (t := k * 4 + 3) (by omega))
    have f0 := hR4.free (k * 4)
    have f1 := hR4.free (k * 4 + 1)
    have f2 := hR4.free (k * 4 + 2)
    have f3 := hR4.free (k * 4 + 3)
    have HR4 := hide hR4
    have zg4 := hR4.lt
    have zs4 := lt_of_cell c6
    have zw4 := lt_of_cell r0
    simp only at zs4 zw4
    have HE4 := hide (e4.trans HS3.out)
    clear hR4 e4 e5 c5 m0 m1 m2 hRw HDD HDD2 hcp hsrc hdst HR3 HK3 HS3 NB
    go_wp2_with fail
    go_region
    go_wp2
    go_ret
    have e7 := set4 W4 g k ⟨q, p⟩
    simp only at e7
    have hRw5 := Rw.set W4 (k * 4) ([(⟨q, p⟩ : Ld)].flatMap l4) zg4
    rw [e7]
    refine ⟨rfl, ⟨.slice (some ⟨g, 0, none⟩) (L.length + 1) c2, (hRw5.grown.block sb zs4 (fun e => hne (Option.some.inj e).symm)).trans HE4.out, put_fin HR4.out hk hlc hcc hBg⟩, (HK4.out.trans (ShK.of_grown hRw5.grown (by have := HK4.out.size; omega) (fun x e => by cases e; exact hBg))).trans (shk_drew _)⟩
  · have HDD : ((k + 1) * 4 = (k + 1) * 4 ∨ L.length = k) := .inl rfl
    have hcp := copy4_run W3.drew 3 g ((k + 1) * 4) (L.length - k) (c2 - (k + 1)) ⟨g, k * 4, none⟩ (L.length + 1 - k) (c2 - k) (((L.drop k)).flatMap l4) (by rw [flat4_len, List.length_drop]; congr 1; show _ = min _ _; omega) (hsrc k hk) (hdst ((k + 1) * 4) HDD) (fun j _ => HR3.out.free _) (l4s_one _)
    have HDD2 := HDD
    go_region
    have hR4 := put_mid HR3.out hk hlc HDD
    have hRw := Rw.set W3.drew ((k + 1) * 4) ((L.drop k).flatMap l4) hg3
    have e4 : (W3.drew.setCells g ((k + 1) * 4) ((L.drop k).flatMap l4)).heap[sb]? = W3.heap[sb]? := hRw.grown.block sb zs3 (fun e => hne (Option.some.inj e).symm)
    have e5 : (W3.drew.setCells g ((k + 1) * 4) ((L.drop k).flatMap l4)).heap[w.heap.size]? = W3.heap[w.heap.size]? := hRw.grown.block _ (lt_of_cell m0) (fun e => hgw (Option.some.inj e).symm)
    have HK4 : Hid (ShK sb B w (W3.drew.setCells g ((k + 1) * 4) ((L.drop k).flatMap l4))) := (HK3.out.trans (shk_drew W3)).trans (ShK.of_grown (W := W3.drew) hRw.grown (by have := HK3.out.size; show B ≤ W3.heap.size; omega) (fun x e => by cases e; exact hBg))
    have zW4 := hRw.grown.size
    generalize W3.drew.setCells g ((k + 1) * 4) ((L.drop k).flatMap l4) = W4 at hR4 e4 e5 HK4 zW4 ⊢
    have c6 := (World.cell?_of_block (w := W3) (w' := W4) (a := ⟨sb, 0, none⟩) e4).trans c5
    have r0 := (World.cell?_of_block (w := W3) (w' := W4) (a := ⟨w.heap.size, 0, none⟩) e5).trans m0
    have r1 := (World.cell?_of_block (w := W3) (w' := W4) (a := ⟨w.heap.size, 1, none⟩) e5).trans m1
    have r2 := (World.cell?_of_block (w := W3) (w' := W4) (a := ⟨w.heap.size, 2, none⟩) e5).trans m2
    obtain ⟨a0, s0⟩ := Option.isSome_iff_exists.1 (hR4.some_ (t := k * 4) (by omega))
    obtain ⟨a1, s1⟩ := Option.isSome_iff_exists.1 (hR4.some_ (t := k * 4 + 1) (by omega))
    obtain ⟨a2, s2⟩ := Option.isSome_iff_exists.1 (hR4.some_ (t := k * 4 + 2) (by omega))
    obtain ⟨a3, s3⟩ := Option.isSome_iff_exists.1 (hR4.some_ (t := k * 4 + 3) (by omega))
    have f0 := hR4.free (k * 4)
    have f1 := hR4.free (k * 4 + 1)
    have f2 := hR4.free (k * 4 + 2)
    have f3 := hR4.free (k * 4 + 3)
    have HR4 := hide hR4
    have zg4 := hR4.lt
    have zs4 := lt_of_cell c6
    have zw4 := lt_of_cell r0
    simp only at zs4 zw4
    have HE4 := hide (e4.trans HS3.out)
    clear hR4 e4 e5 c5 m0 m1 m2 hRw HDD HDD2 hcp hsrc hdst HR3 HK3 HS3 NB
    go_wp2_with fail
    go_region
    go_wp2
    go_ret
    have e7 := set4 W4 g k ⟨q, p⟩
    simp only at e7
    have hRw5 := Rw.set W4 (k * 4) ([(⟨q, p⟩ : Ld)].flatMap l4) zg4
    rw [e7]
    refine ⟨rfl, ⟨.slice (some ⟨g, 0, none⟩) (L.length + 1) c2, (hRw5.grown.block sb zs4 (fun e => hne (Option.some.inj e).symm)).trans HE4.out, put_fin HR4.out hk hlc hcc hBg⟩, (HK4.out.trans (ShK.of_grown hRw5.grown (by have := HK4.out.size; omega) (fun x e => by cases e; exact hBg))).trans (shk_drew _)⟩
end Go.Proofs.Ytnncalhpbfmgoaa.V
