/-
  What the law ArrayLinear needs besides: append onto one array, one0, linear.
-/
import Derived.Test.YtdhkglafpjcdhaaGLinMath
import Derived.ArgAppend
import Derived.Laws.AppendOwnNone
import Derived.Test.YtdhkglafpjcdhaaGArrWork
namespace Go.Proofs.Ytdhkglafpjcdhaa.V
open Go Go.RowKit

theorem info_arr : (Try.prog.info? 25).map (fun i => (i.zero, i.size, i.bytes)) = some (some (.agg #[.slice none 0 0, .slice none 0 0]), 2, 48) := by kernel_rfl
/-- More arrays lie behind the first one. -/
def MoreAt (W : World) (B q : Nat) (vm : Nat → ArrV) : Prop := ∀ j, j < q → W.cell? ⟨B, 2 + j * 2, none⟩ = some (vm j).d ∧ W.cell? ⟨B, 2 + j * 2 + 1, none⟩ = some (vm j).x
theorem MoreAt.below {W W' : World} {B q : Nat} {vm : Nat → ArrV} (h : MoreAt W B q vm) (hb : Below W.heap.size W W') : MoreAt W' B q vm := fun j hj => ⟨(hb.cell (p := ⟨B, 2 + j * 2, none⟩) (lt_of_cell (h j hj).1)).trans (h j hj).1, (hb.cell (p := ⟨B, 2 + j * 2 + 1, none⟩) (lt_of_cell (h j hj).2)).trans (h j hj).2⟩
/-- The cells of arrays. -/
def cellsV (vm : Nat → ArrV) : Nat → List Value
  | 0 => []
  | q + 1 => cellsV vm q ++ [(vm q).d, (vm q).x]
theorem cellsV_length (vm : Nat → ArrV) : ∀ q, (cellsV vm q).length = q * 2
  | 0 => rfl
  | q + 1 => by rw [cellsV, List.length_append, cellsV_length vm q]; simp; omega
theorem cellsV_one (vm : Nat → ArrV) : ∀ q, ∀ v ∈ cellsV vm q, v.oneCell' = true
  | 0, v, hv => by cases hv
  | q + 1, v, hv => by
    rw [cellsV, List.mem_append] at hv
    rcases hv with hv | hv
    · exact cellsV_one vm q v hv
    · simp only [List.mem_cons, List.not_mem_nil, or_false] at hv
      rcases hv with rfl | rfl <;> rfl
theorem cellsV_at (vm : Nat → ArrV) : ∀ (q j : Nat), j < q → (cellsV vm q)[j * 2]? = some (vm j).d ∧ (cellsV vm q)[j * 2 + 1]? = some (vm j).x
  | 0, j, h => by omega
  | q + 1, j, h => by
    rw [cellsV]
    by_cases e : j = q
    · subst e
      rw [List.getElem?_append_right (by rw [cellsV_length]; omega), List.getElem?_append_right (by rw [cellsV_length]; omega), cellsV_length]
      simp
    · have ih := cellsV_at vm q j (by omega)
      have hl := cellsV_length vm q
      rw [List.getElem?_append_left (by omega), List.getElem?_append_left (by omega)]
      exact ih
/-- The arguments: one array, and more. -/
def ArgsAt (N : Nat) (c0 c1 : Value) (q : Nat) (vm : Nat → ArrV) (v : Value) (W : World) : Prop := ∃ B cap, v = .slice (some ⟨B, 0, none⟩) (1 + q) cap ∧ (W.cell? ⟨B, 0, none⟩ = some c0 ∧ W.cell? ⟨B, 1, none⟩ = some c1 ∧ MoreAt W B q vm) ∧ N ≤ B
def fRow2 (N : Nat) (c0 c1 : Value) : Fact := ⟨fun v W => ∃ B, v = .slice (some ⟨B, 0, none⟩) 1 1 ∧ ArrAt W B c0 c1 ∧ N ≤ B, false⟩
theorem fRow2_good (N : Nat) (c0 c1 : Value) : (fRow2 N c0 c1).Good := ⟨fun _ _ _ ⟨B, h1, h2, h3⟩ hb => ⟨B, h1, h2.below hb, h3⟩, fun h => by cases h⟩
def fArgs (N : Nat) (c0 c1 : Value) (q : Nat) (vm : Nat → ArrV) : Fact := ⟨ArgsAt N c0 c1 q vm, false⟩
theorem fArgs_good (N : Nat) (c0 c1 : Value) (q : Nat) (vm : Nat → ArrV) : (fArgs N c0 c1 q vm).Good := ⟨fun _ _ _ ⟨B, cap, h1, ⟨h2, h3, h4⟩, h5⟩ hb => ⟨B, cap, h1, ⟨(hb.cell (p := ⟨B, 0, none⟩) (lt_of_cell h2)).trans h2, (hb.cell (p := ⟨B, 1, none⟩) (lt_of_cell h3)).trans h3, h4.below hb⟩, h5⟩, fun h => by cases h⟩
def fAgg (L f : List Int) (n : Nat) : Fact := ⟨fun v W => ∃ Z nz cz G, v = .agg #[.slice Z nz cz, .slice (some ⟨G, 0, none⟩) n n] ∧ (Ints W Z nz L ∧ nz ≤ cz) ∧ Ints W (some ⟨G, 0, none⟩) n f, false⟩
theorem fAgg_good (L f : List Int) (n : Nat) : (fAgg L f n).Good := ⟨fun _ _ _ ⟨Z, nz, cz, G, h1, ⟨h2, h3⟩, h4⟩ hb => ⟨Z, nz, cz, G, h1, ⟨h2.below hb, h3⟩, h4.below hb⟩, fun h => by cases h⟩
def fDo (L f : List Int) (n : Nat) : Fact := ⟨fun v W => ∃ Z nz cz G, v = .tuple #[.agg #[.slice Z nz cz, .slice (some ⟨G, 0, none⟩) n n], .int .i64 0] ∧ (Ints W Z nz L ∧ nz ≤ cz) ∧ Ints W (some ⟨G, 0, none⟩) n f, false⟩
theorem fDo_good (L f : List Int) (n : Nat) : (fDo L f n).Good := ⟨fun _ _ _ ⟨Z, nz, cz, G, h1, ⟨h2, h3⟩, h4⟩ hb => ⟨Z, nz, cz, G, h1, ⟨h2.below hb, h3⟩, h4.below hb⟩, fun h => by cases h⟩
def fArr (N : Nat) : Fact := ⟨fun v W => ∃ C, v = .pointer (some ⟨C, 0, none⟩) ∧ ArrAt W C (.slice none 0 0) (.slice none 0 0) ∧ N ≤ C, true⟩
theorem fArr_good (N : Nat) : (fArr N).Good := ⟨fun _ _ _ ⟨C, h1, h2, h3⟩ hb => ⟨C, h1, h2.below hb, h3⟩, fun _ v w b ⟨C, h1, h2, h3⟩ hb => by
  rw [h1] at hb
  simp only [blk, Option.some.injEq] at hb
  rw [← hb]
  exact h2.lt⟩

/-- append of more arrays onto a list of one. -/
theorem wp_append_more {P : Program} {w : World} {o : Oper} {a : Act} {K : Act → World → Prop} {Q : Exit → Act → World → Prop} (s x : Operand) (t e : TypeId) (ho : o.op = .call { callee := .builtin .append, args := #[s, x], argTypes := #[t, t] })
    (ht : P.underlying t = some (.slice e)) (hi : (P.info? e).map (fun i => (i.zero, i.size, i.bytes)) = some (some (.agg #[.slice none 0 0, .slice none 0 0]), 2, 48))
    (N B q mc : Nat) (c0 c1 : Value) (A : Option Addr) (vm : Nat → ArrV) (hs : a.eval s = .slice (some ⟨B, 0, none⟩) 1 1) (hx : a.eval x = .slice A q mc) (hB : w.heap[B]? = some (.cells #[c0, c1] e (0, 0))) (hN : N ≤ B) (hw : N ≤ w.heap.size)
    (hA : q = 0 ∨ ∃ b off, A = some ⟨b, off, none⟩ ∧ ∀ j, j < q → w.cell? ⟨b, off + j * 2, none⟩ = some (vm j).d ∧ w.cell? ⟨b, off + j * 2 + 1, none⟩ = some (vm j).x) (h0 : A = none → q = 0 ∧ mc = 0) (hq : q ≤ 1048576)
    (h : ∀ v w', ArgsAt N c0 c1 q vm v w' → Below w.heap.size w w' → K (a.put o.dst v) w') : o.wp P a w K Q := by
  obtain ⟨i, hi1, hz, hsz, hby⟩ : ∃ i, P.info? e = some i ∧ i.zero = some (.agg #[.slice none 0 0, .slice none 0 0]) ∧ i.size = 2 ∧ i.bytes = 48 := by
    cases hh : P.info? e with
    | none => rw [hh] at hi; cases hi
    | some i =>
      rw [hh] at hi
      simp only [Option.map_some, Option.some.injEq, Prod.mk.injEq] at hi
      exact ⟨i, rfl, hi.1, hi.2.1, hi.2.2⟩
  have d0 : w.cell? ⟨B, 0, none⟩ = some c0 := by simp [World.cell?, hB]
  have d1 : w.cell? ⟨B, 1, none⟩ = some c1 := by simp [World.cell?, hB]
  by_cases hq0 : q = 0
  · subst hq0
    have key : ∃ w', (Builtin.append_ #[t, t] o.type #[.slice (some ⟨B, 0, none⟩) 1 1, .slice A 0 mc]).run P w = .ok (.slice (some ⟨B, 0, none⟩) 1 1) w' ∧ Below w.heap.size w w' := by
      cases A with
      | none =>
        obtain ⟨_, rfl⟩ := h0 rfl
        have hr := run_append_owned_none (P := P) (w := w) 0 t o.type e i 2 ht hi1 (.slice (some ⟨B, 0, none⟩) 1 1) 1 [c0, c1] ⟨rfl, .inr ⟨B, 1, #[c0, c1], rfl, Nat.zero_le _, hB, Nat.le_refl _, by unfold maxLen; omega, by simp, by simp⟩⟩
        exact ⟨w, hr, Below.refl _ _⟩
      | some ad =>
        have hr := run_append_room_cells (P := P) w t o.type e i ht hi1 B 0 1 1 ad 0 mc [] (by simp) (by simp) (by simp) (Nat.le_refl _) (by simp) (by simp)
        exact ⟨_, hr, by simpa [World.setCells] using Below.refl _ w⟩
    obtain ⟨w', hr, hb⟩ := key
    unfold Oper.wp
    simp [execOp, ho, resolve, invoke, builtin, hs, hx, hr, Result.andThen]
    exact h _ _ ⟨B, 1, rfl, ⟨(hb.cell (p := ⟨B, 0, none⟩) (lt_of_cell d0)).trans d0, (hb.cell (p := ⟨B, 1, none⟩) (lt_of_cell d1)).trans d1, fun j hj => by omega⟩, hN⟩ hb
  · obtain ⟨b, off, rfl, hc⟩ := hA.resolve_left hq0
    obtain ⟨v', w', hr, r1, r2⟩ := run_append_arg_grows (P := P) w t o.type e i (.agg #[.slice none 0 0, .slice none 0 0]) 2 48 ht hi1 hz hsz hby rfl (by omega) ⟨B, 0, none⟩ 1 1 [c0, c1] rfl (fun j u hj => by
        rw [Addr.add_lit]
        match j, hj with
        | 0, hj => cases hj; simpa using d0
        | 1, hj => cases hj; simpa using d1) ⟨b, off, none⟩ q mc (cellsV vm q) (cellsV_length _ _) (fun j u hj => by
        rw [Addr.add_lit]
        have hjl : j < q * 2 := by
          have := (List.getElem?_eq_some_iff.1 hj).1
          rw [cellsV_length] at this; exact this
        have hm : j % 2 = 0 ∨ j % 2 = 1 := by omega
        have hcv := cellsV_at vm q (j / 2) (by omega)
        have hcc := hc (j / 2) (by omega)
        rcases hm with hm | hm
        · have e1 : j = j / 2 * 2 := by omega
          rw [e1] at hj ⊢
          rw [hcv.1] at hj; cases hj
          exact hcc.1
        · have e1 : j = j / 2 * 2 + 1 := by omega
          rw [e1] at hj ⊢
          rw [hcv.2] at hj; cases hj
          exact hcc.2) (by omega) (by unfold maxLen; omega) (by omega)
    have hb : Below w.heap.size w w' := (Below.refl _ w).grown r2 (Nat.le_refl _) (fun k hk => by cases hk)
    obtain ⟨g, cap, rfl, hg1, hg2⟩ := r1.form (by omega)
    rcases r1.2 with ⟨hv, _⟩ | ⟨g', cap', cur, hv, _, hgc, _, _, hcs, htk⟩
    · cases hv
    · cases hv
      unfold Oper.wp
      simp [execOp, ho, resolve, invoke, builtin, hs, hx, hr, Result.andThen]
      have hcell : ∀ j, j < (1 + q) * 2 → w'.cell? ⟨g, j, none⟩ = ([c0, c1] ++ cellsV vm q)[j]? := fun j hj => by
        rw [← htk, List.getElem?_take_of_lt (by omega), Array.getElem?_toList]
        simp [World.cell?, hgc]
      refine h _ _ ⟨g, cap, rfl, ⟨?_, ?_, fun j hj => ⟨?_, ?_⟩⟩, by omega⟩ hb
      · rw [hcell 0 (by omega)]; rfl
      · rw [hcell 1 (by omega)]; rfl
      · rw [hcell _ (by omega), List.getElem?_append_right (by simp only [List.length_cons, List.length_nil]; omega)]
        rw [show 2 + j * 2 - [c0, c1].length = j * 2 by simp only [List.length_cons, List.length_nil]; omega]
        exact (cellsV_at vm q j hj).1
      · rw [hcell _ (by omega), List.getElem?_append_right (by simp only [List.length_cons, List.length_nil]; omega)]
        rw [show 2 + j * 2 + 1 - [c0, c1].length = j * 2 + 1 by simp only [List.length_cons, List.length_nil]; omega]
        exact (cellsV_at vm q j hj).2

set_option maxRecDepth 100000 in
set_option maxHeartbeats 2000000 in
theorem one0_fill (x : Int) (ea : Option Addr) (el ec : Nat) (es : List Int) (n : Nat) (w : World) (he : Ints w ea el es) (hE : arrE es n = 0) (hx : -9223372036854775808 ≤ x ∧ x ≤ 9223372036854775807) :
    Calls Try.prog 12 #[.agg #[.int .i64 2, .slice ea el ec, .slice none 0 0, .slice none 0 0, .slice none 0 0, .slice none 0 0, .int .i64 x]] w fun e w' =>
      (∃ (Z : Option Addr) (nz cz G : Nat), e = .returned (.tuple #[.agg #[.slice Z nz cz, .slice (some ⟨G, 0, none⟩) n n], .bool true]) ∧ (Ints w' Z nz es ∧ nz ≤ cz) ∧ Ints w' (some ⟨G, 0, none⟩) n (List.replicate n x)) ∧ Below w.heap.size w w' := by
  have HB1 := (Below.refl w.heap.size w).alloc (Nat.le_refl _) (.cells #[.int .i64 2, .slice ea el ec, .slice none 0 0, .slice none 0 0, .slice none 0 0, .slice none 0 0, .int .i64 x] 33)
  have HB := hide (HB1.alloc HB1.size (.cells #[.slice none 0 0, .slice none 0 0] 25))
  have b1 := (OpAt.new w 2 (.slice ea el ec) (.slice none 0 0) (.slice none 0 0) (.slice none 0 0) (.slice none 0 0) x).alloc (.cells #[.slice none 0 0, .slice none 0 0] 25)
  have a3 := ArrAt.new (w.alloc (.cells #[.int .i64 2, .slice ea el ec, .slice none 0 0, .slice none 0 0, .slice none 0 0, .slice none 0 0, .int .i64 x] 33)) (.slice none 0 0) (.slice none 0 0)
  simp only [World.size_alloc] at a3
  obtain ⟨o0, o1, o2, o3, o4, o5, o6⟩ := b1.cells
  have HA3 := hide a3
  have HS := hide (Do_fill x ea el ec es n _ (he.below HB.out) hE hx)
  clear b1 a3 HB1 he
  go_enter Try.func12, Try.ntmps12
  go_wp2_with (go_at_call 11; refine HS.out.mono ?_; rintro e w1 ⟨⟨Z, nz, cz, G, rfl, ⟨hi1, hnc⟩, hi2, hg⟩, hb⟩; have HI1 := hide hi1; have HI2 := hide hi2; have HB7 := hide (Below.on HB.out hb); have HA7 := hide (HA3.out.below hb); have HA8 := hide (HA7.out.alloc (.cells #[.slice Z nz cz, .slice (some ⟨G, 0, none⟩) n n] 25)); have HB8 := hide (HB7.out.alloc HB7.out.size (.cells #[.slice Z nz cz, .slice (some ⟨G, 0, none⟩) n n] 25)); obtain ⟨⟨a0, a1⟩, fa0, fa1⟩ := HA8.out.cells; clear hi1 hi2 hb o0 o1 o2 o3 o4 o5 o6 hg)
  obtain ⟨⟨u0, u1⟩, _⟩ := (HA8.out.put (.slice Z nz cz) (.slice (some ⟨G, 0, none⟩) n n)).cells
  have hl := HA7.out.lt
  have HBF := hide ((HB8.out.setCell (p := ⟨w.heap.size + 1, 0, none⟩) (by simp) (.slice Z nz cz)).setCell (p := ⟨w.heap.size + 1, 1, none⟩) (by simp) (.slice (some ⟨G, 0, none⟩) n n))
  refine bodyPost_ret (v := .tuple #[.agg #[.slice Z nz cz, .slice (some ⟨G, 0, none⟩) n n], .bool true]) (by simp [results, Try.results12, go_sem, u0, u1]) rfl ⟨⟨Z, nz, cz, G, rfl, ⟨?_, hnc⟩, ?_⟩, HBF.out⟩
  · exact ints_put_arr (HI1.out.below ((Below.refl _ _).alloc (Nat.le_refl _) _)) HA8.out (fun _ _ e => by cases e) (fun _ _ e => by cases e) _ _
  · exact ints_put_arr (HI2.out.below ((Below.refl _ _).alloc (Nat.le_refl _) _)) HA8.out (fun _ _ e => by cases e) (fun _ _ e => by cases e) _ _

def linK (k : Int) : Prop := k = 9 ∨ k = 10 ∨ k = 11 ∨ k = 12 ∨ k = 13 ∨ k = 14 ∨ k = 15 ∨ k = 16 ∨ k = 18 ∨ k = 19
set_option maxRecDepth 100000 in
set_option maxHeartbeats 2000000 in
theorem linear_yes (k : Int) (w : World) (h : linK k) : Calls Try.prog 10 #[.int .i64 k] w fun e w' => e = .returned (.bool true) ∧ w' = w := by
  rcases h with rfl | rfl | rfl | rfl | rfl | rfl | rfl | rfl | rfl | rfl
  all_goals go_enter Try.func10, Try.ntmps10
  all_goals go_wp2
  all_goals go_ret
  all_goals exact ⟨rfl, rfl⟩
set_option maxRecDepth 100000 in
set_option maxHeartbeats 2000000 in
theorem linear_no (k : Int) (w : World) (h : ¬ linK k) : Calls Try.prog 10 #[.int .i64 k] w fun e w' => e = .returned (.bool false) ∧ w' = w := by
  unfold linK at h
  have q9 : (k == 9) = false := by simp; omega
  have q10 : (k == 10) = false := by simp; omega
  have q11 : (k == 11) = false := by simp; omega
  have q12 : (k == 12) = false := by simp; omega
  have q13 : (k == 13) = false := by simp; omega
  have q14 : (k == 14) = false := by simp; omega
  have q15 : (k == 15) = false := by simp; omega
  have q16 : (k == 16) = false := by simp; omega
  have q18 : (k == 18) = false := by simp; omega
  have q19 : (k == 19) = false := by simp; omega
  clear h
  go_enter Try.func10, Try.ntmps10
  go_wp2
  go_ret
  exact ⟨rfl, rfl⟩

/-- Of one array, and of more that are as they are, Do makes what goes with sums. -/
def LinQ (w : World) (op : Value) (ds : List Int) (n q : Nat) (vm : Nat → ArrV) : Prop :=
  ∃ (L : List Int) (N : Nat) (f : List Int → List Int), IsLin f n N ∧ arrE L N = 0 ∧ ∀ (W : World) (b cap : Nat) (da : Option Addr) (dl dc : Nat) (xa : Option Addr) (xc : Nat) (xs : List Int),
    Below w.heap.size w W → W.cell? ⟨b, 0, none⟩ = some (.slice da dl dc) → W.cell? ⟨b, 1, none⟩ = some (.slice xa n xc) → MoreAt W b q vm → Lst W da dl dc ds → Ints W xa n xs → n ≤ xc →
    Calls Try.prog 11 #[op, .slice (some ⟨b, 0, none⟩) (1 + q) cap] W fun e W' => DoesTo W L (f xs) N e W' ∧ Below W.heap.size W W'
theorem linQ_one {w : World} {op : Value} {ds : List Int} {n : Nat} {vm : Nat → ArrV} (h : Lin1 w op ds n) : LinQ w op ds n 0 vm := by
  obtain ⟨L, N, f, h1, h2, h3⟩ := h
  exact ⟨L, N, f, h1, h2, fun W b cap da dl dc xa xc xs hW c0 c1 _ hd hx hxc => h3 W b 0 cap da dl dc xa xc xs hW c0 c1 hd hx hxc⟩
theorem linQ_two {w : World} {op : Value} {ds : List Int} {n : Nat} {vm : Nat → ArrV} (h : Lin2 w op ds n (vm 0).da (vm 0).dl (vm 0).dc (vm 0).xa (vm 0).xl (vm 0).xc) : LinQ w op ds n 1 vm := by
  obtain ⟨L, N, f, h1, h2, h3⟩ := h
  exact ⟨L, N, f, h1, h2, fun W b cap da dl dc xa xc xs hW c0 c1 hm hd hx hxc => h3 W b 0 cap da dl dc xa xc xs hW c0 c1 (hm 0 (by omega)).1 (hm 0 (by omega)).2 hd hx hxc⟩
/-- The arguments' dimensions. -/
def argsV (ds : List Int) (n : Nat) (vm : Nat → ArrV) (j : Nat) : ArrV := if j = 0 then ⟨none, 0, 0, ds, none, n, 0⟩ else vm (j - 1)
theorem linQ_any (k : Int) (hk : linK k) (x : Int) (ea : Option Addr) (el ec : Nat) (es : List Int) (pa : Option Addr) (pl pc : Nat) (ps : List Int) (la : Option Addr) (ll lc : Nat) (lo : List Int) (ha : Option Addr) (hl hc : Nat) (hi : List Int) (ta : Option Addr) (tl tc : Nat) (st : List Int) (ds : List Int) (n q : Nat) (vm : Nat → ArrV) (ys : List Int) (w : World)
    (he : Lst w ea el ec es) (hp : Lst w pa pl pc ps) (hlo : Lst w la ll lc lo) (hhi : Lst w ha hl hc hi) (hst : Lst w ta tl tc st) (b0 : el ≤ 1048576) (b1 : pl ≤ 1048576) (b2 : ll ≤ 1048576) (b3 : hl ≤ 1048576) (b4 : tl ≤ 1048576) (hq : 1 ≤ q → Lst w (vm 0).da (vm 0).dl (vm 0).dc (vm 0).ds ∧ Ints w (vm 0).xa (vm 0).xl ys) (hE : doE k es ps lo hi st (1 + q) (argsV ds n vm) = 0) : LinQ w (.agg #[.int .i64 k, .slice ea el ec, .slice pa pl pc, .slice la ll lc, .slice ha hl hc, .slice ta tl tc, .int .i64 x]) ds n q vm := by
  have ht := (doE_ok hE).1
  have e1 : q = 0 → doE k es ps lo hi st 1 (oneV ds n) = 0 := fun h => by
    subst h
    exact (doE_congr (fun j hj => by obtain rfl : j = 0 := by { omega }; exact ⟨rfl, rfl⟩)).trans hE
  have e2 : q = 1 → doE k es ps lo hi st 2 (pairV ds n (vm 0).ds (vm 0).xl) = 0 := fun h => by
    subst h
    refine (doE_congr (fun j hj => ?_)).trans hE
    have : j = 0 ∨ j = 1 := by omega
    rcases this with rfl | rfl
    · exact ⟨rfl, rfl⟩
    · exact ⟨rfl, rfl⟩
  have t1 : 9 ≤ k → k ≤ 15 → q = 0 := fun h1 h2 => by
    unfold takesE at ht
    rw [if_neg (by omega), if_pos ⟨h1, h2⟩] at ht
    by_cases h : 1 + q = 1
    · omega
    · rw [if_neg h] at ht; omega
  have t2 : k = 16 ∨ k = 18 ∨ k = 19 → q = 1 := fun h => by
    unfold takesE at ht
    rw [if_neg (by omega), if_neg (by omega), if_pos (by omega)] at ht
    by_cases h : 1 + q = 2
    · omega
    · rw [if_neg h] at ht; omega
  rcases hk with rfl | rfl | rfl | rfl | rfl | rfl | rfl | rfl | rfl | rfl
  · obtain rfl := t1 (by omega) (by omega)
    exact linQ_one (lin_spread x ea el ec es pa pl pc ps la ll lc lo ha hl hc hi ta tl tc st ds n w he hp hlo hhi hst b0 b1 b2 b3 b4 (e1 rfl))
  · obtain rfl := t1 (by omega) (by omega)
    exact linQ_one (lin_sum x ea el ec es pa pl pc ps la ll lc lo ha hl hc hi ta tl tc st ds n w he hp hlo hhi hst b0 b1 b2 b3 b4 (e1 rfl))
  · obtain rfl := t1 (by omega) (by omega)
    exact linQ_one (lin_turn x ea el ec es pa pl pc ps la ll lc lo ha hl hc hi ta tl tc st ds n w he hp hlo hhi hst b0 b1 b2 b3 b4 (e1 rfl))
  · obtain rfl := t1 (by omega) (by omega)
    exact linQ_one (lin_reform x ea el ec es pa pl pc ps la ll lc lo ha hl hc hi ta tl tc st ds n w he hp hlo hhi hst b0 b1 b2 b3 b4 (e1 rfl))
  · obtain rfl := t1 (by omega) (by omega)
    exact linQ_one (lin_cut x ea el ec es pa pl pc ps la ll lc lo ha hl hc hi ta tl tc st ds n w he hp hlo hhi hst b0 b1 b2 b3 b4 (e1 rfl))
  · obtain rfl := t1 (by omega) (by omega)
    exact linQ_one (lin_pad x ea el ec es pa pl pc ps la ll lc lo ha hl hc hi ta tl tc st ds n w he hp hlo hhi hst b0 b1 b2 b3 b4 (e1 rfl))
  · obtain rfl := t1 (by omega) (by omega)
    exact linQ_one (lin_flip x ea el ec es pa pl pc ps la ll lc lo ha hl hc hi ta tl tc st ds n w he hp hlo hhi hst b0 b1 b2 b3 b4 (e1 rfl))
  · obtain rfl := t2 (by omega)
    obtain ⟨hf, hy⟩ := hq (by omega)
    exact linQ_two (lin_dot2 x ea el ec es pa pl pc ps la ll lc lo ha hl hc hi ta tl tc st ds n (vm 0).da (vm 0).dl (vm 0).dc (vm 0).ds (vm 0).xa (vm 0).xl (vm 0).xc ys w he hp hlo hhi hst b0 b1 b2 b3 b4 hf hy (e2 rfl))
  · obtain rfl := t2 (by omega)
    obtain ⟨hf, hy⟩ := hq (by omega)
    exact linQ_two (lin_take2 x ea el ec es pa pl pc ps la ll lc lo ha hl hc hi ta tl tc st ds n (vm 0).da (vm 0).dl (vm 0).dc (vm 0).ds (vm 0).xa (vm 0).xl (vm 0).xc ys w he hp hlo hhi hst b0 b1 b2 b3 b4 hf hy (e2 rfl))
  · obtain rfl := t2 (by omega)
    obtain ⟨hf, hy⟩ := hq (by omega)
    exact linQ_two (lin_put2 x ea el ec es pa pl pc ps la ll lc lo ha hl hc hi ta tl tc st ds n (vm 0).da (vm 0).dl (vm 0).dc (vm 0).ds (vm 0).xa (vm 0).xl (vm 0).xc ys w he hp hlo hhi hst b0 b1 b2 b3 b4 hf hy (e2 rfl))
end Go.Proofs.Ytdhkglafpjcdhaa.V

/-
  ArrayLinear: the walk of the law.
-/
namespace Go.Proofs.Ytdhkglafpjcdhaa.V
open Go.RowKit

set_option maxRecDepth 100000 in
set_option maxHeartbeats 4000000 in
theorem linear_not (k by' : Int) (vd va vl vh vs : Value) (x : Int) (da : Option Addr) (dl dc : Nat) (xa : Option Addr) (n xc : Nat) (fa : Option Addr) (fl fc : Nat) (ya : Option Addr) (m yc : Nat) (mv : Value) (w : World) (hk : ¬ linK k) :
    Calls Try.prog 4 #[.agg #[.int .i64 k, vd, va, vl, vh, vs, .int .i64 x], .agg #[.slice da dl dc, .slice xa n xc], .agg #[.slice fa fl fc, .slice ya m yc], mv, .int .i64 by'] w fun e w' => e = .returned (.bool true) ∧ Below w.heap.size w w' := by
  have HNL := hide hk
  clear hk
  have HB1 := (Below.refl w.heap.size w).alloc (Nat.le_refl _) (.cells #[.int .i64 k, vd, va, vl, vh, vs, .int .i64 x] 33)
  have HB2 := HB1.alloc HB1.size (.cells #[.slice da dl dc, .slice xa n xc] 25)
  have HBW := hide (HB2.alloc HB2.size (.cells #[.slice fa fl fc, .slice ya m yc] 25))
  have r0 := ((OpAt.new w k vd va vl vh vs x).alloc (.cells #[.slice da dl dc, .slice xa n xc] 25)).alloc (.cells #[.slice fa fl fc, .slice ya m yc] 25)
  have r1 := (ArrAt.new (w.alloc (.cells #[.int .i64 k, vd, va, vl, vh, vs, .int .i64 x] 33)) (.slice da dl dc) (.slice xa n xc)).alloc (.cells #[.slice fa fl fc, .slice ya m yc] 25)
  have r2 := ArrAt.new ((w.alloc (.cells #[.int .i64 k, vd, va, vl, vh, vs, .int .i64 x] 33)).alloc (.cells #[.slice da dl dc, .slice xa n xc] 25)) (.slice fa fl fc) (.slice ya m yc)
  simp only [World.size_alloc] at r1 r2
  have HO0 := hide r0
  have HA0 := hide r1
  have HA1 := hide r2
  clear r0 r1 r2 HB1 HB2
  go_enter Try.func4, Try.ntmps4
  go_wp2_with (first
    | (go_at_call 10; refine (linear_no _ _ HNL.out).mono ?_; rintro e w' ⟨rfl, hw'⟩; obtain rfl := hw'.symm)
    | (go_at_call 9; refine (alive2_any _).mono ?_; rintro e w1 ⟨rfl, hb⟩; have HBa := hide (Below.on HBW.out hb); have HO1 := hide (HO0.out.below hb); have HAa := hide (HA0.out.below hb); have HAb := hide (HA1.out.below hb); clear hb; obtain ⟨o0, o1, o2, o3, o4, o5, o6⟩ := HO1.out.cells; obtain ⟨⟨a0, a1⟩, _⟩ := HAa.out.cells; obtain ⟨⟨b0', b1'⟩, _⟩ := HAb.out.cells))
  go_ret
  exact ⟨rfl, HBa.out⟩

set_option maxRecDepth 100000 in
set_option maxHeartbeats 4000000 in
theorem linear_unlike (k by' : Int) (vd va vl vh vs : Value) (x : Int) (da : Option Addr) (dl dc : Nat) (ds : List Int) (xa : Option Addr) (n xc : Nat) (fa : Option Addr) (fl fc : Nat) (gs : List Int) (ya : Option Addr) (m yc : Nat) (mv : Value) (w : World)
    (hk : linK k) (hda : Lst w da dl dc ds) (hdb : Lst w fa fl fc gs) (hng : ¬ Alikes 2 (twoV2 da dl dc ds xa n xc fa fl fc gs ya m yc)) :
    Calls Try.prog 4 #[.agg #[.int .i64 k, vd, va, vl, vh, vs, .int .i64 x], .agg #[.slice da dl dc, .slice xa n xc], .agg #[.slice fa fl fc, .slice ya m yc], mv, .int .i64 by'] w fun e w' => e = .returned (.bool true) ∧ Below w.heap.size w w' := by
  have HYL := hide hk
  have HNG := hide hng
  have h4 := fun (W : World) => FourAt.new (w := W) (B := W.heap.size) (.slice da dl dc) (.slice xa n xc) (.slice fa fl fc) (.slice ya m yc) rfl
  have HAL : Hid (∀ W, Below w.heap.size w W → Calls Try.prog 6 #[.slice (some ⟨W.heap.size, 0, none⟩) 2 2] (W.alloc (.cells #[.slice da dl dc, .slice xa n xc, .slice fa fl fc, .slice ya m yc] 25)) fun e w' => AlikePost 2 (twoV2 da dl dc ds xa n xc fa fl fc gs ya m yc) e ∧ Below (W.alloc (.cells #[.slice da dl dc, .slice xa n xc, .slice fa fl fc, .slice ya m yc] 25)).heap.size (W.alloc (.cells #[.slice da dl dc, .slice xa n xc, .slice fa fl fc, .slice ya m yc] 25)) w') := fun W hW => by
    obtain ⟨k0, k1, k2, k3⟩ := (h4 W).cells
    have hB4 := hW.alloc hW.size (.cells #[.slice da dl dc, .slice xa n xc, .slice fa fl fc, .slice ya m yc] 25)
    exact alike_any W.heap.size 2 2 (twoV2 da dl dc ds xa n xc fa fl fc gs ya m yc) _ (by omega) (by omega) (fun j hj => by
      have : j = 0 ∨ j = 1 := by omega
      rcases this with rfl | rfl
      · exact ⟨k0, k1, hda.1.below hB4⟩
      · exact ⟨k2, k3, hdb.1.below hB4⟩)
  clear h4
  clear hk hng hda hdb
  have HB1 := (Below.refl w.heap.size w).alloc (Nat.le_refl _) (.cells #[.int .i64 k, vd, va, vl, vh, vs, .int .i64 x] 33)
  have HB2 := HB1.alloc HB1.size (.cells #[.slice da dl dc, .slice xa n xc] 25)
  have HBW := hide (HB2.alloc HB2.size (.cells #[.slice fa fl fc, .slice ya m yc] 25))
  have r0 := ((OpAt.new w k vd va vl vh vs x).alloc (.cells #[.slice da dl dc, .slice xa n xc] 25)).alloc (.cells #[.slice fa fl fc, .slice ya m yc] 25)
  have r1 := (ArrAt.new (w.alloc (.cells #[.int .i64 k, vd, va, vl, vh, vs, .int .i64 x] 33)) (.slice da dl dc) (.slice xa n xc)).alloc (.cells #[.slice fa fl fc, .slice ya m yc] 25)
  have r2 := ArrAt.new ((w.alloc (.cells #[.int .i64 k, vd, va, vl, vh, vs, .int .i64 x] 33)).alloc (.cells #[.slice da dl dc, .slice xa n xc] 25)) (.slice fa fl fc) (.slice ya m yc)
  simp only [World.size_alloc] at r1 r2
  have HO0 := hide r0
  have HA0 := hide r1
  have HA1 := hide r2
  clear r0 r1 r2 HB1 HB2
  go_enter Try.func4, Try.ntmps4
  go_wp2_with (first
    | (go_at_call 6; refine (HAL.out _ HBa.out).mono ?_; rintro e w2 ⟨hp, hb⟩; obtain ⟨rfl, _⟩ := hp.resolve_left (fun h => HNG.out h.2); have HB4 := hide ((HBa.out.alloc HBa.out.size (.cells #[.slice da dl dc, .slice xa n xc, .slice fa fl fc, .slice ya m yc] 25))); have HBb := hide (Below.on HB4.out hb); have HO2 := hide ((HO1.out.alloc (.cells #[.slice da dl dc, .slice xa n xc, .slice fa fl fc, .slice ya m yc] 25)).below hb); have HA2 := hide ((HAa.out.alloc (.cells #[.slice da dl dc, .slice xa n xc, .slice fa fl fc, .slice ya m yc] 25)).below hb); have HA3 := hide ((HAb.out.alloc (.cells #[.slice da dl dc, .slice xa n xc, .slice fa fl fc, .slice ya m yc] 25)).below hb); clear hp hb o0 o1 o2 o3 o4 o5 o6 a0 a1 b0' b1'; obtain ⟨o0, o1, o2, o3, o4, o5, o6⟩ := HO2.out.cells; obtain ⟨⟨a0, a1⟩, _⟩ := HA2.out.cells; obtain ⟨⟨b0', b1'⟩, _⟩ := HA3.out.cells)
    | (go_at_call 10; refine (linear_yes _ _ HYL.out).mono ?_; rintro e w' ⟨rfl, hw'⟩; obtain rfl := hw'.symm)
    | (go_at_call 9; refine (alive2_any _).mono ?_; rintro e w1 ⟨rfl, hb⟩; have HBa := hide (Below.on HBW.out hb); have HO1 := hide (HO0.out.below hb); have HAa := hide (HA0.out.below hb); have HAb := hide (HA1.out.below hb); clear hb; obtain ⟨o0, o1, o2, o3, o4, o5, o6⟩ := HO1.out.cells; obtain ⟨⟨a0, a1⟩, _⟩ := HAa.out.cells; obtain ⟨⟨b0', b1'⟩, _⟩ := HAb.out.cells))
  go_ret
  exact ⟨rfl, HBb.out⟩

end Go.Proofs.Ytdhkglafpjcdhaa.V

/-
  ArrayLinear: the walk of the law.
-/
namespace Go.Proofs.Ytdhkglafpjcdhaa.V
open Go.RowKit

/-- One array, and more. -/
def withV (v0 : ArrV) (vm : Nat → ArrV) : Nat → ArrV
  | 0 => v0
  | j + 1 => vm j

set_option maxRecDepth 100000 in
set_option maxHeartbeats 4000000 in
theorem linear_err (k by' : Int) (x : Int) (ea : Option Addr) (el ec : Nat) (es : List Int) (pa : Option Addr) (pl pc : Nat) (ps : List Int) (la : Option Addr) (ll lc : Nat) (lo : List Int) (ha : Option Addr) (hl hc : Nat) (hi : List Int) (ta : Option Addr) (tl tc : Nat) (st : List Int) (da : Option Addr) (dl dc : Nat) (ds : List Int) (xa : Option Addr) (n xc : Nat) (fa : Option Addr) (fl fc : Nat) (gs : List Int) (ya : Option Addr) (m yc : Nat) (ma : Option Addr) (q mc : Nat) (vm : Nat → ArrV) (w : World)
    (he : Lst w ea el ec es) (hp : Lst w pa pl pc ps) (hlo : Lst w la ll lc lo) (hhi : Lst w ha hl hc hi) (hst : Lst w ta tl tc st) (b0 : el ≤ 1048576) (b1 : pl ≤ 1048576) (b2 : ll ≤ 1048576) (b3 : hl ≤ 1048576) (b4 : tl ≤ 1048576) (hda : Lst w da dl dc ds) (hdb : Lst w fa fl fc gs) (hma : q = 0 ∨ ∃ b off, ma = some ⟨b, off, none⟩ ∧ ∀ j, j < q → (w.cell? ⟨b, off + j * 2, none⟩ = some (vm j).d ∧ w.cell? ⟨b, off + j * 2 + 1, none⟩ = some (vm j).x) ∧ Lst w (vm j).da (vm j).dl (vm j).dc (vm j).ds) (hmn : ma = none → q = 0 ∧ mc = 0) (hq : q ≤ 1048575) (hk : linK k) (hgd : Alikes 2 (twoV2 da dl dc ds xa n xc fa fl fc gs ya m yc)) (hE : doE k es ps lo hi st (1 + q) (argsV ds n vm) ≠ 0) :
    Calls Try.prog 4 #[.agg #[.int .i64 k, .slice ea el ec, .slice pa pl pc, .slice la ll lc, .slice ha hl hc, .slice ta tl tc, .int .i64 x], .agg #[.slice da dl dc, .slice xa n xc], .agg #[.slice fa fl fc, .slice ya m yc], .slice ma q mc, .int .i64 by'] w fun e w' => e = .returned (.bool true) ∧ Below w.heap.size w w' := by
  have HYL := hide hk
  have HGD := hide hgd
  have h4 := fun (W : World) => FourAt.new (w := W) (B := W.heap.size) (.slice da dl dc) (.slice xa n xc) (.slice fa fl fc) (.slice ya m yc) rfl
  have HAL : Hid (∀ W, Below w.heap.size w W → Calls Try.prog 6 #[.slice (some ⟨W.heap.size, 0, none⟩) 2 2] (W.alloc (.cells #[.slice da dl dc, .slice xa n xc, .slice fa fl fc, .slice ya m yc] 25)) fun e w' => AlikePost 2 (twoV2 da dl dc ds xa n xc fa fl fc gs ya m yc) e ∧ Below (W.alloc (.cells #[.slice da dl dc, .slice xa n xc, .slice fa fl fc, .slice ya m yc] 25)).heap.size (W.alloc (.cells #[.slice da dl dc, .slice xa n xc, .slice fa fl fc, .slice ya m yc] 25)) w') := fun W hW => by
    obtain ⟨k0, k1, k2, k3⟩ := (h4 W).cells
    have hB4 := hW.alloc hW.size (.cells #[.slice da dl dc, .slice xa n xc, .slice fa fl fc, .slice ya m yc] 25)
    exact alike_any W.heap.size 2 2 (twoV2 da dl dc ds xa n xc fa fl fc gs ya m yc) _ (by omega) (by omega) (fun j hj => by
      have : j = 0 ∨ j = 1 := by omega
      rcases this with rfl | rfl
      · exact ⟨k0, k1, hda.1.below hB4⟩
      · exact ⟨k2, k3, hdb.1.below hB4⟩)
  clear h4
  have HMA : Hid (∀ W, Below w.heap.size w W → (q = 0 ∨ ∃ b off, ma = some ⟨b, off, none⟩ ∧ ∀ j, j < q → W.cell? ⟨b, off + j * 2, none⟩ = some (vm j).d ∧ W.cell? ⟨b, off + j * 2 + 1, none⟩ = some (vm j).x)) := fun W hW => by
    rcases hma with h | ⟨b, off, e, h⟩
    · exact .inl h
    · exact .inr ⟨b, off, e, fun j hj => ⟨(hW.cell (p := ⟨b, off + j * 2, none⟩) (lt_of_cell (h j hj).1.1)).trans (h j hj).1.1, (hW.cell (p := ⟨b, off + j * 2 + 1, none⟩) (lt_of_cell (h j hj).1.2)).trans (h j hj).1.2⟩⟩
  have HMN := hide hmn
  have HDB : Hid (∀ W B4 cap4, Below w.heap.size w W → W.cell? ⟨B4, 0, none⟩ = some (.slice da dl dc) → W.cell? ⟨B4, 1, none⟩ = some (.slice xa n xc) → MoreAt W B4 q vm → Calls Try.prog 11 #[.agg #[.int .i64 k, .slice ea el ec, .slice pa pl pc, .slice la ll lc, .slice ha hl hc, .slice ta tl tc, .int .i64 x], .slice (some ⟨B4, 0, none⟩) (1 + q) cap4] W fun e w' => e = .returned (.tuple #[.agg #[.slice none 0 0, .slice none 0 0], .int .i64 (doE k es ps lo hi st (1 + q) (argsV ds n vm))]) ∧ Below W.heap.size W w') := fun W B4 cap4 hW k0 k1 km => by
    have hcg : doE k es ps lo hi st (1 + q) (withV ⟨da, dl, dc, ds, xa, n, xc⟩ vm) = doE k es ps lo hi st (1 + q) (argsV ds n vm) := doE_congr (fun j hj => by
      match j with
      | 0 => exact ⟨rfl, rfl⟩
      | j + 1 => exact ⟨rfl, rfl⟩)
    have := Do_bad k x ea el ec es pa pl pc ps la ll lc lo ha hl hc hi ta tl tc st (some ⟨B4, 0, none⟩) (1 + q) cap4 (withV ⟨da, dl, dc, ds, xa, n, xc⟩ vm) W (he.below hW) (hp.below hW) (hlo.below hW) (hhi.below hW) (hst.below hW) b0 b1 b2 b3 b4 (.inr ⟨B4, 0, rfl, fun j hj => by
      match j, hj with
      | 0, _ => exact ⟨k0, k1, hda.below hW⟩
      | j + 1, hj =>
        have hm := km j (by omega)
        rw [show 2 + j * 2 = 0 + (j + 1) * 2 by omega] at hm
        rcases hma with h | ⟨b, off, e', h⟩
        · omega
        · exact ⟨hm.1, hm.2, (h j (by omega)).2.below hW⟩⟩) (by omega) (by rw [hcg]; exact hE)
    rw [hcg] at this
    exact this
  obtain ⟨E, hEE⟩ : ∃ E, doE k es ps lo hi st (1 + q) (argsV ds n vm) = E := ⟨_, rfl⟩
  rw [hEE] at HDB hE
  have hEb : (E != 0) = true := by simp [hE]
  have hEb' : (E == 0) = false := by simp [hE]
  clear hk hgd hda hdb hma hmn hE hEE he hp hlo hhi hst
  have HB1 := (Below.refl w.heap.size w).alloc (Nat.le_refl _) (.cells #[.int .i64 k, .slice ea el ec, .slice pa pl pc, .slice la ll lc, .slice ha hl hc, .slice ta tl tc, .int .i64 x] 33)
  have HB2 := HB1.alloc HB1.size (.cells #[.slice da dl dc, .slice xa n xc] 25)
  have HBW := hide (HB2.alloc HB2.size (.cells #[.slice fa fl fc, .slice ya m yc] 25))
  have r0 := ((OpAt.new w k (.slice ea el ec) (.slice pa pl pc) (.slice la ll lc) (.slice ha hl hc) (.slice ta tl tc) x).alloc (.cells #[.slice da dl dc, .slice xa n xc] 25)).alloc (.cells #[.slice fa fl fc, .slice ya m yc] 25)
  have r1 := (ArrAt.new (w.alloc (.cells #[.int .i64 k, .slice ea el ec, .slice pa pl pc, .slice la ll lc, .slice ha hl hc, .slice ta tl tc, .int .i64 x] 33)) (.slice da dl dc) (.slice xa n xc)).alloc (.cells #[.slice fa fl fc, .slice ya m yc] 25)
  have r2 := ArrAt.new ((w.alloc (.cells #[.int .i64 k, .slice ea el ec, .slice pa pl pc, .slice la ll lc, .slice ha hl hc, .slice ta tl tc, .int .i64 x] 33)).alloc (.cells #[.slice da dl dc, .slice xa n xc] 25)) (.slice fa fl fc) (.slice ya m yc)
  simp only [World.size_alloc] at r1 r2
  have HO0 := hide r0
  have HA0 := hide r1
  have HA1 := hide r2
  clear r0 r1 r2 HB1 HB2
  go_enter Try.func4, Try.ntmps4
  go_wp2_with (first
    | (go_at_call 6; refine (HAL.out _ HBa.out).mono ?_; rintro e w2 ⟨hp, hb⟩; obtain ⟨rfl, _⟩ := hp.resolve_right (fun h => h.2 HGD.out); have HB4 := hide ((HBa.out.alloc HBa.out.size (.cells #[.slice da dl dc, .slice xa n xc, .slice fa fl fc, .slice ya m yc] 25))); have HBb := hide (Below.on HB4.out hb); have HO2 := hide ((HO1.out.alloc (.cells #[.slice da dl dc, .slice xa n xc, .slice fa fl fc, .slice ya m yc] 25)).below hb); have HA2 := hide ((HAa.out.alloc (.cells #[.slice da dl dc, .slice xa n xc, .slice fa fl fc, .slice ya m yc] 25)).below hb); have HA3 := hide ((HAb.out.alloc (.cells #[.slice da dl dc, .slice xa n xc, .slice fa fl fc, .slice ya m yc] 25)).below hb); clear hp hb o0 o1 o2 o3 o4 o5 o6 a0 a1 b0' b1'; obtain ⟨o0, o1, o2, o3, o4, o5, o6⟩ := HO2.out.cells; obtain ⟨⟨a0, a1⟩, _⟩ := HA2.out.cells; obtain ⟨⟨b0', b1'⟩, _⟩ := HA3.out.cells)
    | (go_at_call 10; refine (linear_yes _ _ HYL.out).mono ?_; rintro e w' ⟨rfl, hw'⟩; obtain rfl := hw'.symm)
    | (go_at_call 9; refine (alive2_any _).mono ?_; rintro e w1 ⟨rfl, hb⟩; have HBa := hide (Below.on HBW.out hb); have HO1 := hide (HO0.out.below hb); have HAa := hide (HA0.out.below hb); have HAb := hide (HA1.out.below hb); clear hb; obtain ⟨o0, o1, o2, o3, o4, o5, o6⟩ := HO1.out.cells; obtain ⟨⟨a0, a1⟩, _⟩ := HAa.out.cells; obtain ⟨⟨b0', b1'⟩, _⟩ := HAb.out.cells))
  refine region_made1 10 12 8 [fIs (.agg #[.int .i64 k, .slice ea el ec, .slice pa pl pc, .slice la ll lc, .slice ha hl hc, .slice ta tl tc, .int .i64 x]), fIs (.agg #[.slice da dl dc, .slice xa n xc]), fRow2 w2.heap.size (.slice da dl dc) (.slice xa n xc), fIs (.slice ma q mc), fArgs w2.heap.size (.slice da dl dc) (.slice xa n xc) q vm, fIs (.tuple #[.agg #[.slice none 0 0, .slice none 0 0], .int .i64 E]), fIs (.tuple #[.agg #[.slice none 0 0, .slice none 0 0], .int .i64 E]), fIs (.agg #[.slice none 0 0, .slice none 0 0]), fIs (.int .i64 E), fArr w2.heap.size] (by kernel_rfl) (by kernel_rfl) (by kernel_rfl) (fun _ ⟨_, _⟩ ⟨_, _⟩ _ e h => by cases e; exact h) ⟨fIs_good _, fIs_good _, fRow2_good _ _ _, fIs_good _, fArgs_good _ _ _ _ _, fIs_good _, fIs_good _, fIs_good _, fIs_good _, fArr_good _, trivial⟩ ?pure ?mk ?rest
  case pure =>
    intro o ho u wz hb hd
    cases ho
    have e5 : u 6 = .tuple #[.agg #[.slice none 0 0, .slice none 0 0], .int .i64 E] := hd 6 (by omega) (by kernel_rfl)
    refine ⟨.int .i64 E, fun w3 => ?_⟩
    simp only [List.take, putOps, Act.put, List.setIfInBounds_toArray, List.set_cons_zero, List.set_cons_succ, Nat.reduceAdd, e5]
    go_simp
  case mk =>
    refine ⟨fun u wz hb hd => ?_, fun u wz hb hd => ?_, fun u wz hb hd => ?_, fun u wz hb hd => ?_, fun u wz hb hd => ?_, fun u wz hb hd => ?_, fun u wz hb hd => ?_, fun u wz hb hd => ?_, fun u wz hb hd => ?_, fun u wz hb hd => ?_, trivial⟩
    all_goals simp only [Act.put, List.setIfInBounds_toArray, List.set_cons_zero, List.set_cons_succ]
    · have o0' := (hb.cell (p := ⟨w.heap.size, 0, none⟩) (lt_of_cell o0)).trans o0
      have o1' := (hb.cell (p := ⟨w.heap.size, 1, none⟩) (lt_of_cell o1)).trans o1
      have o2' := (hb.cell (p := ⟨w.heap.size, 2, none⟩) (lt_of_cell o2)).trans o2
      have o3' := (hb.cell (p := ⟨w.heap.size, 3, none⟩) (lt_of_cell o3)).trans o3
      have o4' := (hb.cell (p := ⟨w.heap.size, 4, none⟩) (lt_of_cell o4)).trans o4
      have o5' := (hb.cell (p := ⟨w.heap.size, 5, none⟩) (lt_of_cell o5)).trans o5
      have o6' := (hb.cell (p := ⟨w.heap.size, 6, none⟩) (lt_of_cell o6)).trans o6
      go_simp
      exact ⟨rfl, Below.refl _ _, fun h => by cases h⟩
    · have a0' := (hb.cell (p := ⟨w.heap.size + 1, 0, none⟩) (lt_of_cell a0)).trans a0
      have a1' := (hb.cell (p := ⟨w.heap.size + 1, 1, none⟩) (lt_of_cell a1)).trans a1
      go_simp
      exact ⟨rfl, Below.refl _ _, fun h => by cases h⟩
    · have e1 : u 1 = .agg #[.slice da dl dc, .slice xa n xc] := hd 1 (by omega) (by kernel_rfl)
      rw [e1]
      go_simp
      exact ⟨⟨_, rfl, ArrAt.new _ _ _, hb.size⟩, (Below.refl _ _).alloc (Nat.le_refl _) _, fun h => by cases h⟩
    · go_simp
      exact ⟨rfl, Below.refl _ _, fun h => by cases h⟩
    · obtain ⟨B2, e2, hB2, hN2⟩ := hd 2 (by omega) (by kernel_rfl)
      have e3 : u 3 = .slice ma q mc := hd 3 (by omega) (by kernel_rfl)
      rw [e2, e3]
      refine wp_append_more (.tmp 36) (.tmp 37) 27 25 rfl Try.underlying27 info_arr w2.heap.size B2 q mc (.slice da dl dc) (.slice xa n xc) ma vm rfl rfl hB2 hN2 hb.size (HMA.out _ (Below.on HBb.out hb)) HMN.out (by omega) (fun v w3 hv hbb => ?_)
      exact ⟨v, rfl, hv, hbb, fun h => by cases h⟩
    · have e0 : u 0 = .agg #[.int .i64 k, .slice ea el ec, .slice pa pl pc, .slice la ll lc, .slice ha hl hc, .slice ta tl tc, .int .i64 x] := hd 0 (by omega) (by kernel_rfl)
      obtain ⟨B4, cap4, e4, ⟨k0, k1, km⟩, hN4⟩ := hd 4 (by omega) (by kernel_rfl)
      rw [e0, e4]
      go_simp
      refine (HDB.out wz B4 cap4 (Below.on HBb.out hb) k0 k1 km).mono ?_
      rintro e w3 ⟨rfl, hb2⟩
      exact ⟨rfl, hb2, fun h => by cases h⟩
    · have e5 : u 5 = .tuple #[.agg #[.slice none 0 0, .slice none 0 0], .int .i64 E] := hd 5 (by omega) (by kernel_rfl)
      rw [e5]
      go_simp
      exact ⟨rfl, Below.refl _ _, fun h => by cases h⟩
    · have e5 : u 6 = .tuple #[.agg #[.slice none 0 0, .slice none 0 0], .int .i64 E] := hd 6 (by omega) (by kernel_rfl)
      rw [e5]
      go_simp
      exact ⟨rfl, Below.refl _ _, fun h => by cases h⟩
    · have e5 : u 6 = .tuple #[.agg #[.slice none 0 0, .slice none 0 0], .int .i64 E] := hd 6 (by omega) (by kernel_rfl)
      rw [e5]
      go_simp
      exact ⟨rfl, Below.refl _ _, fun h => by cases h⟩
    · go_simp
      exact ⟨⟨_, rfl, ArrAt.new _ _ _, hb.size⟩, (Below.refl _ _).alloc (Nat.le_refl _) _, fun _ b hb => by simp [blk] at hb; omega⟩
  case rest =>
    intro u wz hb hf hp
    have f0 : u 0 = .agg #[.int .i64 k, .slice ea el ec, .slice pa pl pc, .slice la ll lc, .slice ha hl hc, .slice ta tl tc, .int .i64 x] := hf 0 (by omega)
    have f1 : u 1 = .agg #[.slice da dl dc, .slice xa n xc] := hf 1 (by omega)
    obtain ⟨_, f2, _, _⟩ := hf 2 (by omega)
    have f3 : u 3 = .slice ma q mc := hf 3 (by omega)
    obtain ⟨_, _, f4, _, _⟩ := hf 4 (by omega)
    have f5 : u 5 = .tuple #[.agg #[.slice none 0 0, .slice none 0 0], .int .i64 E] := hf 5 (by omega)
    have f6 : u 6 = .tuple #[.agg #[.slice none 0 0, .slice none 0 0], .int .i64 E] := hf 6 (by omega)
    have f7 : u 7 = .agg #[.slice none 0 0, .slice none 0 0] := hf 7 (by omega)
    have f8 : u 8 = .int .i64 E := hf 8 (by omega)
    obtain ⟨Cx, f9, i9, n9⟩ := hf 9 (by omega)
    refine UptoW.rest 2 10 (by rfl) (by kernel_rfl) ?_
    simp only [List.take, List.drop, putOps, Act.put, List.setIfInBounds_toArray, List.set_cons_zero, List.set_cons_succ, Nat.reduceAdd, f0, f1, f2, f3, f4, f5, f6, f7, f8, f9]
    clear f0 f1 f2 f3 f4 f5 f6 f7 f8 f9 hf hp o0 o1 o2 o3 o4 o5 o6 a0 a1 b0' b1'
    obtain ⟨⟨c0, c1⟩, z0, z1⟩ := i9.cells
    refine wpList_plain rfl (fun K hK => ?_)
    go_simp
    refine hK _ _ ?_
    clear hK K c0 c1 z0 z1
    refine wpList_plain rfl (fun K hK => ?_)
    go_simp
    refine hK _ _ (wpList_nil ?_)
    clear hK K
    have Ax := i9.put (.slice none 0 0) (.slice none 0 0)
    have Bx := (hb.setCell (p := ⟨Cx, 0, none⟩) n9 (.slice none 0 0)).setCell (p := ⟨Cx, 1, none⟩) n9 (.slice none 0 0)
    have hlC := i9.lt
    clear i9
    have hsC : ((wz.setCell ⟨Cx, 0, none⟩ (.slice none 0 0)).setCell ⟨Cx, 1, none⟩ (.slice none 0 0)).heap.size = wz.heap.size := by simp
    generalize (wz.setCell ⟨Cx, 0, none⟩ (.slice none 0 0)).setCell ⟨Cx, 1, none⟩ (.slice none 0 0) = Wx at *
    have HAx := hide Ax
    have HBx := hide Bx
    have HCx := hide n9
    clear Ax Bx hb hlC hsC n9
    go_wp2
    go_ret
    exact ⟨rfl, Below.on HBb.out HBx.out⟩

end Go.Proofs.Ytdhkglafpjcdhaa.V

/-
  ArrayLinear: the walk of the law.
-/
namespace Go.Proofs.Ytdhkglafpjcdhaa.V
open Go.RowKit

theorem lst_of_some {w : World} {b n c : Nat} {xs : List Int} (h : Ints w (some ⟨b, 0, none⟩) n xs) (hc : n ≤ c) : Lst w (some ⟨b, 0, none⟩) n c xs := ⟨h, hc, fun e => by cases e⟩

set_option maxRecDepth 100000 in
set_option maxHeartbeats 4000000 in
theorem linear_all (k by' : Int) (x : Int) (ea : Option Addr) (el ec : Nat) (pa : Option Addr) (pl pc : Nat) (la : Option Addr) (ll lc : Nat) (ha : Option Addr) (hl hc : Nat) (ta : Option Addr) (tl tc : Nat) (da : Option Addr) (dl dc : Nat) (ds : List Int) (xa : Option Addr) (n xc : Nat) (xs : List Int) (fa : Option Addr) (fl fc : Nat) (ya : Option Addr) (yc : Nat) (ys : List Int) (ma : Option Addr) (q mc : Nat) (vm : Nat → ArrV) (w : World) (L : List Int) (N : Nat) (f : List Int → List Int)
    (hda : Lst w da dl dc ds) (hxa : Ints w xa n xs) (hxc : n ≤ xc) (hdb : Lst w fa fl fc ds) (hxb : Ints w ya n ys) (hyc : n ≤ yc) (hma : q = 0 ∨ ∃ b off, ma = some ⟨b, off, none⟩ ∧ ∀ j, j < q → (w.cell? ⟨b, off + j * 2, none⟩ = some (vm j).d ∧ w.cell? ⟨b, off + j * 2 + 1, none⟩ = some (vm j).x) ∧ Lst w (vm j).da (vm j).dl (vm j).dc (vm j).ds) (hmn : ma = none → q = 0 ∧ mc = 0) (hq : q ≤ 1048575) (hk : linK k) (hby : -9223372036854775808 ≤ by' ∧ by' ≤ 9223372036854775807) (hae : arrE ds n = 0) (hlin : IsLin f n N) (haL : arrE L N = 0)
    (hdo : ∀ (W : World) (b cap : Nat) (da : Option Addr) (dl dc : Nat) (xa : Option Addr) (xc : Nat) (xs : List Int), Below w.heap.size w W → W.cell? ⟨b, 0, none⟩ = some (.slice da dl dc) → W.cell? ⟨b, 1, none⟩ = some (.slice xa n xc) → MoreAt W b q vm → Lst W da dl dc ds → Ints W xa n xs → n ≤ xc →
      Calls Try.prog 11 #[.agg #[.int .i64 k, .slice ea el ec, .slice pa pl pc, .slice la ll lc, .slice ha hl hc, .slice ta tl tc, .int .i64 x], .slice (some ⟨b, 0, none⟩) (1 + q) cap] W fun e W' => DoesTo W L (f xs) N e W' ∧ Below W.heap.size W W') :
    Calls Try.prog 4 #[.agg #[.int .i64 k, .slice ea el ec, .slice pa pl pc, .slice la ll lc, .slice ha hl hc, .slice ta tl tc, .int .i64 x], .agg #[.slice da dl dc, .slice xa n xc], .agg #[.slice fa fl fc, .slice ya n yc], .slice ma q mc, .int .i64 by'] w fun e w' => e = .returned (.bool true) ∧ Below w.heap.size w w' := by
  have HYL := hide hk
  have HGD : Hid (Alikes 2 (twoV2 da dl dc ds xa n xc fa fl fc ds ya n yc)) := fun j hj => by
    have : j = 0 ∨ j = 1 := by omega
    rcases this with rfl | rfl
    · exact ⟨hae, rfl⟩
    · exact ⟨hae, rfl⟩
  have h4 := fun (W : World) => FourAt.new (w := W) (B := W.heap.size) (.slice da dl dc) (.slice xa n xc) (.slice fa fl fc) (.slice ya n yc) rfl
  have HAL : Hid (∀ W, Below w.heap.size w W → Calls Try.prog 6 #[.slice (some ⟨W.heap.size, 0, none⟩) 2 2] (W.alloc (.cells #[.slice da dl dc, .slice xa n xc, .slice fa fl fc, .slice ya n yc] 25)) fun e w' => AlikePost 2 (twoV2 da dl dc ds xa n xc fa fl fc ds ya n yc) e ∧ Below (W.alloc (.cells #[.slice da dl dc, .slice xa n xc, .slice fa fl fc, .slice ya n yc] 25)).heap.size (W.alloc (.cells #[.slice da dl dc, .slice xa n xc, .slice fa fl fc, .slice ya n yc] 25)) w') := fun W hW => by
    obtain ⟨k0, k1, k2, k3⟩ := (h4 W).cells
    have hB4 := hW.alloc hW.size (.cells #[.slice da dl dc, .slice xa n xc, .slice fa fl fc, .slice ya n yc] 25)
    exact alike_any W.heap.size 2 2 (twoV2 da dl dc ds xa n xc fa fl fc ds ya n yc) _ (by omega) (by omega) (fun j hj => by
      have : j = 0 ∨ j = 1 := by omega
      rcases this with rfl | rfl
      · exact ⟨k0, k1, hda.1.below hB4⟩
      · exact ⟨k2, k3, hdb.1.below hB4⟩)
  clear h4
  have HMA : Hid (∀ W, Below w.heap.size w W → (q = 0 ∨ ∃ b off, ma = some ⟨b, off, none⟩ ∧ ∀ j, j < q → W.cell? ⟨b, off + j * 2, none⟩ = some (vm j).d ∧ W.cell? ⟨b, off + j * 2 + 1, none⟩ = some (vm j).x)) := fun W hW => by
    rcases hma with h | ⟨b, off, e, h⟩
    · exact .inl h
    · exact .inr ⟨b, off, e, fun j hj => ⟨(hW.cell (p := ⟨b, off + j * 2, none⟩) (lt_of_cell (h j hj).1.1)).trans (h j hj).1.1, (hW.cell (p := ⟨b, off + j * 2 + 1, none⟩) (lt_of_cell (h j hj).1.2)).trans (h j hj).1.2⟩⟩
  have HMN := hide hmn
  have HDO := hide hdo
  have HAE := hide hae
  have HAN := hide haL
  have HBY := hide hby
  have HLW := hide (lin_law hlin by' xs ys hxa.1 hxb.1 hxa.2.2.1 hxb.2.2.1)
  have HDA := hide hda
  have HDB := hide hdb
  have HXA := hide hxa
  have HXB := hide hxb
  clear hk hda hdb hma hmn hxa hxb hdo hae haL hlin hby
  have HB1 := (Below.refl w.heap.size w).alloc (Nat.le_refl _) (.cells #[.int .i64 k, .slice ea el ec, .slice pa pl pc, .slice la ll lc, .slice ha hl hc, .slice ta tl tc, .int .i64 x] 33)
  have HB2 := HB1.alloc HB1.size (.cells #[.slice da dl dc, .slice xa n xc] 25)
  have HBW := hide (HB2.alloc HB2.size (.cells #[.slice fa fl fc, .slice ya n yc] 25))
  have r0 := ((OpAt.new w k (.slice ea el ec) (.slice pa pl pc) (.slice la ll lc) (.slice ha hl hc) (.slice ta tl tc) x).alloc (.cells #[.slice da dl dc, .slice xa n xc] 25)).alloc (.cells #[.slice fa fl fc, .slice ya n yc] 25)
  have r1 := (ArrAt.new (w.alloc (.cells #[.int .i64 k, .slice ea el ec, .slice pa pl pc, .slice la ll lc, .slice ha hl hc, .slice ta tl tc, .int .i64 x] 33)) (.slice da dl dc) (.slice xa n xc)).alloc (.cells #[.slice fa fl fc, .slice ya n yc] 25)
  have r2 := ArrAt.new ((w.alloc (.cells #[.int .i64 k, .slice ea el ec, .slice pa pl pc, .slice la ll lc, .slice ha hl hc, .slice ta tl tc, .int .i64 x] 33)).alloc (.cells #[.slice da dl dc, .slice xa n xc] 25)) (.slice fa fl fc) (.slice ya n yc)
  simp only [World.size_alloc] at r1 r2
  have HO0 := hide r0
  have HA0 := hide r1
  have HA1 := hide r2
  clear r0 r1 r2 HB1 HB2
  go_enter Try.func4, Try.ntmps4
  go_wp2_with (first
    | (go_at_call 6; refine (HAL.out _ HBa.out).mono ?_; rintro e w2 ⟨hp, hb⟩; obtain ⟨rfl, _⟩ := hp.resolve_right (fun h => h.2 HGD.out); have HB4 := hide ((HBa.out.alloc HBa.out.size (.cells #[.slice da dl dc, .slice xa n xc, .slice fa fl fc, .slice ya n yc] 25))); have HBb := hide (Below.on HB4.out hb); have HO2 := hide ((HO1.out.alloc (.cells #[.slice da dl dc, .slice xa n xc, .slice fa fl fc, .slice ya n yc] 25)).below hb); have HA2 := hide ((HAa.out.alloc (.cells #[.slice da dl dc, .slice xa n xc, .slice fa fl fc, .slice ya n yc] 25)).below hb); have HA3 := hide ((HAb.out.alloc (.cells #[.slice da dl dc, .slice xa n xc, .slice fa fl fc, .slice ya n yc] 25)).below hb); clear hp hb o0 o1 o2 o3 o4 o5 o6 a0 a1 b0' b1'; obtain ⟨o0, o1, o2, o3, o4, o5, o6⟩ := HO2.out.cells; obtain ⟨⟨a0, a1⟩, _⟩ := HA2.out.cells; obtain ⟨⟨b0', b1'⟩, _⟩ := HA3.out.cells)
    | (go_at_call 10; refine (linear_yes _ _ HYL.out).mono ?_; rintro e w' ⟨rfl, hw'⟩; obtain rfl := hw'.symm)
    | (go_at_call 9; refine (alive2_any _).mono ?_; rintro e w1 ⟨rfl, hb⟩; have HBa := hide (Below.on HBW.out hb); have HO1 := hide (HO0.out.below hb); have HAa := hide (HA0.out.below hb); have HAb := hide (HA1.out.below hb); clear hb; obtain ⟨o0, o1, o2, o3, o4, o5, o6⟩ := HO1.out.cells; obtain ⟨⟨a0, a1⟩, _⟩ := HAa.out.cells; obtain ⟨⟨b0', b1'⟩, _⟩ := HAb.out.cells))
  refine region_made1 10 12 8 [fIs (.agg #[.int .i64 k, .slice ea el ec, .slice pa pl pc, .slice la ll lc, .slice ha hl hc, .slice ta tl tc, .int .i64 x]), fIs (.agg #[.slice da dl dc, .slice xa n xc]), fRow2 w2.heap.size (.slice da dl dc) (.slice xa n xc), fIs (.slice ma q mc), fArgs w2.heap.size (.slice da dl dc) (.slice xa n xc) q vm, fDo L (f xs) N, fDo L (f xs) N, fAgg L (f xs) N, fIs (.int .i64 0), fArr w2.heap.size] (by kernel_rfl) (by kernel_rfl) (by kernel_rfl) (fun _ ⟨_, _⟩ ⟨_, _⟩ _ e h => by cases e; exact h) ⟨fIs_good _, fIs_good _, fRow2_good _ _ _, fIs_good _, fArgs_good _ _ _ _ _, fDo_good _ _ _, fDo_good _ _ _, fAgg_good _ _ _, fIs_good _, fArr_good _, trivial⟩ ?pure ?mk ?rest
  case pure =>
    intro o ho u wz hb hd
    cases ho
    obtain ⟨Z, nz, cz, G, e5, h1, h2⟩ := hd 6 (by omega) (by kernel_rfl)
    refine ⟨.int .i64 0, fun w3 => ?_⟩
    simp only [List.take, putOps, Act.put, List.setIfInBounds_toArray, List.set_cons_zero, List.set_cons_succ, Nat.reduceAdd, e5]
    go_simp
  case mk =>
    refine ⟨fun u wz hb hd => ?_, fun u wz hb hd => ?_, fun u wz hb hd => ?_, fun u wz hb hd => ?_, fun u wz hb hd => ?_, fun u wz hb hd => ?_, fun u wz hb hd => ?_, fun u wz hb hd => ?_, fun u wz hb hd => ?_, fun u wz hb hd => ?_, trivial⟩
    all_goals simp only [Act.put, List.setIfInBounds_toArray, List.set_cons_zero, List.set_cons_succ]
    · have o0' := (hb.cell (p := ⟨w.heap.size, 0, none⟩) (lt_of_cell o0)).trans o0
      have o1' := (hb.cell (p := ⟨w.heap.size, 1, none⟩) (lt_of_cell o1)).trans o1
      have o2' := (hb.cell (p := ⟨w.heap.size, 2, none⟩) (lt_of_cell o2)).trans o2
      have o3' := (hb.cell (p := ⟨w.heap.size, 3, none⟩) (lt_of_cell o3)).trans o3
      have o4' := (hb.cell (p := ⟨w.heap.size, 4, none⟩) (lt_of_cell o4)).trans o4
      have o5' := (hb.cell (p := ⟨w.heap.size, 5, none⟩) (lt_of_cell o5)).trans o5
      have o6' := (hb.cell (p := ⟨w.heap.size, 6, none⟩) (lt_of_cell o6)).trans o6
      go_simp
      exact ⟨rfl, Below.refl _ _, fun h => by cases h⟩
    · have a0' := (hb.cell (p := ⟨w.heap.size + 1, 0, none⟩) (lt_of_cell a0)).trans a0
      have a1' := (hb.cell (p := ⟨w.heap.size + 1, 1, none⟩) (lt_of_cell a1)).trans a1
      go_simp
      exact ⟨rfl, Below.refl _ _, fun h => by cases h⟩
    · have e1 : u 1 = .agg #[.slice da dl dc, .slice xa n xc] := hd 1 (by omega) (by kernel_rfl)
      rw [e1]
      go_simp
      exact ⟨⟨_, rfl, ArrAt.new _ _ _, hb.size⟩, (Below.refl _ _).alloc (Nat.le_refl _) _, fun h => by cases h⟩
    · go_simp
      exact ⟨rfl, Below.refl _ _, fun h => by cases h⟩
    · obtain ⟨B2, e2, hB2, hN2⟩ := hd 2 (by omega) (by kernel_rfl)
      have e3 : u 3 = .slice ma q mc := hd 3 (by omega) (by kernel_rfl)
      rw [e2, e3]
      refine wp_append_more (.tmp 36) (.tmp 37) 27 25 rfl Try.underlying27 info_arr w2.heap.size B2 q mc (.slice da dl dc) (.slice xa n xc) ma vm rfl rfl hB2 hN2 hb.size (HMA.out _ (Below.on HBb.out hb)) HMN.out (by omega) (fun v w3 hv hbb => ?_)
      exact ⟨v, rfl, hv, hbb, fun h => by cases h⟩
    · have e0 : u 0 = .agg #[.int .i64 k, .slice ea el ec, .slice pa pl pc, .slice la ll lc, .slice ha hl hc, .slice ta tl tc, .int .i64 x] := hd 0 (by omega) (by kernel_rfl)
      obtain ⟨B4, cap4, e4, ⟨k0, k1, km⟩, hN4⟩ := hd 4 (by omega) (by kernel_rfl)
      rw [e0, e4]
      go_simp
      refine (HDO.out wz B4 cap4 da dl dc xa xc (xs) (Below.on HBb.out hb) k0 k1 km (HDA.out.below (Below.on HBb.out hb)) (HXA.out.below (Below.on HBb.out hb)) hxc).mono ?_
      rintro e w3 ⟨⟨Z, nz, cz, G, rfl, h1, h2, _⟩, hb2⟩
      exact ⟨⟨Z, nz, cz, G, rfl, h1, h2⟩, hb2, fun h => by cases h⟩
    · obtain ⟨Z, nz, cz, G, e5, h1, h2⟩ := hd 5 (by omega) (by kernel_rfl)
      rw [e5]
      go_simp
      exact ⟨⟨Z, nz, cz, G, rfl, h1, h2⟩, Below.refl _ _, fun h => by cases h⟩
    · obtain ⟨Z, nz, cz, G, e5, h1, h2⟩ := hd 6 (by omega) (by kernel_rfl)
      rw [e5]
      go_simp
      exact ⟨⟨Z, nz, cz, G, rfl, h1, h2⟩, Below.refl _ _, fun h => by cases h⟩
    · obtain ⟨Z, nz, cz, G, e5, h1, h2⟩ := hd 6 (by omega) (by kernel_rfl)
      rw [e5]
      go_simp
      exact ⟨rfl, Below.refl _ _, fun h => by cases h⟩
    · go_simp
      exact ⟨⟨_, rfl, ArrAt.new _ _ _, hb.size⟩, (Below.refl _ _).alloc (Nat.le_refl _) _, fun _ b hb => by simp [blk] at hb; omega⟩
  case rest =>
    intro u wz hb hf hp
    have f0 : u 0 = .agg #[.int .i64 k, .slice ea el ec, .slice pa pl pc, .slice la ll lc, .slice ha hl hc, .slice ta tl tc, .int .i64 x] := hf 0 (by omega)
    have f1 : u 1 = .agg #[.slice da dl dc, .slice xa n xc] := hf 1 (by omega)
    obtain ⟨_, f2, _, _⟩ := hf 2 (by omega)
    have f3 : u 3 = .slice ma q mc := hf 3 (by omega)
    obtain ⟨_, _, f4, _, _⟩ := hf 4 (by omega)
    obtain ⟨_, _, _, _, f5, _, _⟩ := hf 5 (by omega)
    obtain ⟨_, _, _, _, f6, _, _⟩ := hf 6 (by omega)
    obtain ⟨Zp, nzp, czp, Gp, f7, ⟨pp, pcp⟩, rp⟩ := hf 7 (by omega)
    have f8 : u 8 = .int .i64 0 := hf 8 (by omega)
    obtain ⟨Cp, f9, i9, n9⟩ := hf 9 (by omega)
    refine UptoW.rest 2 10 (by rfl) (by kernel_rfl) ?_
    simp only [List.take, List.drop, putOps, Act.put, List.setIfInBounds_toArray, List.set_cons_zero, List.set_cons_succ, Nat.reduceAdd, f0, f1, f2, f3, f4, f5, f6, f7, f8, f9]
    clear f0 f1 f2 f3 f4 f5 f6 f7 f8 f9 hf hp o0 o1 o2 o3 o4 o5 o6 a0 a1 b0' b1'
    obtain ⟨⟨c0, c1⟩, z0, z1⟩ := i9.cells
    refine wpList_plain rfl (fun K hK => ?_)
    go_simp
    refine hK _ _ ?_
    clear hK K c0 c1 z0 z1
    refine wpList_plain rfl (fun K hK => ?_)
    go_simp
    refine hK _ _ (wpList_nil ?_)
    clear hK K
    have Pp := ints_put_arr pp i9 (fun _ _ e => by cases e) (fun _ _ e => by cases e) (.slice Zp nzp czp) (.slice (some ⟨Gp, 0, none⟩) N N)
    have Rp := ints_put_arr rp i9 (fun _ _ e => by cases e) (fun _ _ e => by cases e) (.slice Zp nzp czp) (.slice (some ⟨Gp, 0, none⟩) N N)
    have Ap := i9.put (.slice Zp nzp czp) (.slice (some ⟨Gp, 0, none⟩) N N)
    have Bp := (hb.setCell (p := ⟨Cp, 0, none⟩) n9 (.slice Zp nzp czp)).setCell (p := ⟨Cp, 1, none⟩) n9 (.slice (some ⟨Gp, 0, none⟩) N N)
    have hlC := i9.lt
    clear i9 pp rp
    have hsC : ((wz.setCell ⟨Cp, 0, none⟩ (.slice Zp nzp czp)).setCell ⟨Cp, 1, none⟩ (.slice (some ⟨Gp, 0, none⟩) N N)).heap.size = wz.heap.size := by simp
    generalize (wz.setCell ⟨Cp, 0, none⟩ (.slice Zp nzp czp)).setCell ⟨Cp, 1, none⟩ (.slice (some ⟨Gp, 0, none⟩) N N) = Wp at *
    have HPp := hide Pp
    have HRp := hide Rp
    clear Pp Rp
    have HAp := hide Ap
    have HBp := hide Bp
    have HCp := hide n9
    clear Ap Bp hb hlC hsC n9
    have HBP := hide (Below.on HBb.out HBp.out)
    have HO3 := hide (HO2.out.below HBp.out)
    have HA4 := hide (HA2.out.below HBp.out)
    have HA5 := hide (HA3.out.below HBp.out)
    go_wp2_with fail
    obtain ⟨o0, o1, o2, o3, o4, o5, o6⟩ := HO3.out.cells
    obtain ⟨⟨b0', b1'⟩, _⟩ := HA5.out.cells
    refine region_made1 10 12 8 [fIs (.agg #[.int .i64 k, .slice ea el ec, .slice pa pl pc, .slice la ll lc, .slice ha hl hc, .slice ta tl tc, .int .i64 x]), fIs (.agg #[.slice fa fl fc, .slice ya n yc]), fRow2 Wp.heap.size (.slice fa fl fc) (.slice ya n yc), fIs (.slice ma q mc), fArgs Wp.heap.size (.slice fa fl fc) (.slice ya n yc) q vm, fDo L (f ys) N, fDo L (f ys) N, fAgg L (f ys) N, fIs (.int .i64 0), fArr Wp.heap.size] (by kernel_rfl) (by kernel_rfl) (by kernel_rfl) (fun _ ⟨_, _⟩ ⟨_, _⟩ _ e h => by cases e; exact h) ⟨fIs_good _, fIs_good _, fRow2_good _ _ _, fIs_good _, fArgs_good _ _ _ _ _, fDo_good _ _ _, fDo_good _ _ _, fAgg_good _ _ _, fIs_good _, fArr_good _, trivial⟩ ?pure ?mk ?rest
    case pure =>
      intro o ho u wz hb hd
      cases ho
      obtain ⟨Z, nz, cz, G, e5, h1, h2⟩ := hd 6 (by omega) (by kernel_rfl)
      refine ⟨.int .i64 0, fun w3 => ?_⟩
      simp only [List.take, putOps, Act.put, List.setIfInBounds_toArray, List.set_cons_zero, List.set_cons_succ, Nat.reduceAdd, e5]
      go_simp
    case mk =>
      refine ⟨fun u wz hb hd => ?_, fun u wz hb hd => ?_, fun u wz hb hd => ?_, fun u wz hb hd => ?_, fun u wz hb hd => ?_, fun u wz hb hd => ?_, fun u wz hb hd => ?_, fun u wz hb hd => ?_, fun u wz hb hd => ?_, fun u wz hb hd => ?_, trivial⟩
      all_goals simp only [Act.put, List.setIfInBounds_toArray, List.set_cons_zero, List.set_cons_succ]
      · have o0' := (hb.cell (p := ⟨w.heap.size, 0, none⟩) (lt_of_cell o0)).trans o0
        have o1' := (hb.cell (p := ⟨w.heap.size, 1, none⟩) (lt_of_cell o1)).trans o1
        have o2' := (hb.cell (p := ⟨w.heap.size, 2, none⟩) (lt_of_cell o2)).trans o2
        have o3' := (hb.cell (p := ⟨w.heap.size, 3, none⟩) (lt_of_cell o3)).trans o3
        have o4' := (hb.cell (p := ⟨w.heap.size, 4, none⟩) (lt_of_cell o4)).trans o4
        have o5' := (hb.cell (p := ⟨w.heap.size, 5, none⟩) (lt_of_cell o5)).trans o5
        have o6' := (hb.cell (p := ⟨w.heap.size, 6, none⟩) (lt_of_cell o6)).trans o6
        go_simp
        exact ⟨rfl, Below.refl _ _, fun h => by cases h⟩
      · have b0'' := (hb.cell (p := ⟨w.heap.size + 1 + 1, 0, none⟩) (lt_of_cell b0')).trans b0'
        have b1'' := (hb.cell (p := ⟨w.heap.size + 1 + 1, 1, none⟩) (lt_of_cell b1')).trans b1'
        go_simp
        exact ⟨rfl, Below.refl _ _, fun h => by cases h⟩
      · have e1 : u 1 = .agg #[.slice fa fl fc, .slice ya n yc] := hd 1 (by omega) (by kernel_rfl)
        rw [e1]
        go_simp
        exact ⟨⟨_, rfl, ArrAt.new _ _ _, hb.size⟩, (Below.refl _ _).alloc (Nat.le_refl _) _, fun h => by cases h⟩
      · go_simp
        exact ⟨rfl, Below.refl _ _, fun h => by cases h⟩
      · obtain ⟨B2, e2, hB2, hN2⟩ := hd 2 (by omega) (by kernel_rfl)
        have e3 : u 3 = .slice ma q mc := hd 3 (by omega) (by kernel_rfl)
        rw [e2, e3]
        refine wp_append_more (.tmp 47) (.tmp 48) 27 25 rfl Try.underlying27 info_arr Wp.heap.size B2 q mc (.slice fa fl fc) (.slice ya n yc) ma vm rfl rfl hB2 hN2 hb.size (HMA.out _ (Below.on HBP.out hb)) HMN.out (by omega) (fun v w3 hv hbb => ?_)
        exact ⟨v, rfl, hv, hbb, fun h => by cases h⟩
      · have e0 : u 0 = .agg #[.int .i64 k, .slice ea el ec, .slice pa pl pc, .slice la ll lc, .slice ha hl hc, .slice ta tl tc, .int .i64 x] := hd 0 (by omega) (by kernel_rfl)
        obtain ⟨B4, cap4, e4, ⟨k0, k1, km⟩, hN4⟩ := hd 4 (by omega) (by kernel_rfl)
        rw [e0, e4]
        go_simp
        refine (HDO.out wz B4 cap4 fa fl fc ya yc (ys) (Below.on HBP.out hb) k0 k1 km (HDB.out.below (Below.on HBP.out hb)) (HXB.out.below (Below.on HBP.out hb)) hyc).mono ?_
        rintro e w3 ⟨⟨Z, nz, cz, G, rfl, h1, h2, _⟩, hb2⟩
        exact ⟨⟨Z, nz, cz, G, rfl, h1, h2⟩, hb2, fun h => by cases h⟩
      · obtain ⟨Z, nz, cz, G, e5, h1, h2⟩ := hd 5 (by omega) (by kernel_rfl)
        rw [e5]
        go_simp
        exact ⟨⟨Z, nz, cz, G, rfl, h1, h2⟩, Below.refl _ _, fun h => by cases h⟩
      · obtain ⟨Z, nz, cz, G, e5, h1, h2⟩ := hd 6 (by omega) (by kernel_rfl)
        rw [e5]
        go_simp
        exact ⟨⟨Z, nz, cz, G, rfl, h1, h2⟩, Below.refl _ _, fun h => by cases h⟩
      · obtain ⟨Z, nz, cz, G, e5, h1, h2⟩ := hd 6 (by omega) (by kernel_rfl)
        rw [e5]
        go_simp
        exact ⟨rfl, Below.refl _ _, fun h => by cases h⟩
      · go_simp
        exact ⟨⟨_, rfl, ArrAt.new _ _ _, hb.size⟩, (Below.refl _ _).alloc (Nat.le_refl _) _, fun _ b hb => by simp [blk] at hb; omega⟩
    case rest =>
      intro u wz hb hf hp
      have f0 : u 0 = .agg #[.int .i64 k, .slice ea el ec, .slice pa pl pc, .slice la ll lc, .slice ha hl hc, .slice ta tl tc, .int .i64 x] := hf 0 (by omega)
      have f1 : u 1 = .agg #[.slice fa fl fc, .slice ya n yc] := hf 1 (by omega)
      obtain ⟨_, f2, _, _⟩ := hf 2 (by omega)
      have f3 : u 3 = .slice ma q mc := hf 3 (by omega)
      obtain ⟨_, _, f4, _, _⟩ := hf 4 (by omega)
      obtain ⟨_, _, _, _, f5, _, _⟩ := hf 5 (by omega)
      obtain ⟨_, _, _, _, f6, _, _⟩ := hf 6 (by omega)
      obtain ⟨Zq, nzq, czq, Gq, f7, ⟨pq, pcq⟩, rq⟩ := hf 7 (by omega)
      have f8 : u 8 = .int .i64 0 := hf 8 (by omega)
      obtain ⟨Cq, f9, i9, n9⟩ := hf 9 (by omega)
      refine UptoW.rest 2 10 (by rfl) (by kernel_rfl) ?_
      simp only [List.take, List.drop, putOps, Act.put, List.setIfInBounds_toArray, List.set_cons_zero, List.set_cons_succ, Nat.reduceAdd, f0, f1, f2, f3, f4, f5, f6, f7, f8, f9]
      clear f0 f1 f2 f3 f4 f5 f6 f7 f8 f9 hf hp o0 o1 o2 o3 o4 o5 o6 b0' b1'
      obtain ⟨⟨c0, c1⟩, z0, z1⟩ := i9.cells
      refine wpList_plain rfl (fun K hK => ?_)
      go_simp
      refine hK _ _ ?_
      clear hK K c0 c1 z0 z1
      refine wpList_plain rfl (fun K hK => ?_)
      go_simp
      refine hK _ _ (wpList_nil ?_)
      clear hK K
      have Pq := ints_put_arr pq i9 (fun _ _ e => by cases e) (fun _ _ e => by cases e) (.slice Zq nzq czq) (.slice (some ⟨Gq, 0, none⟩) N N)
      have Rq := ints_put_arr rq i9 (fun _ _ e => by cases e) (fun _ _ e => by cases e) (.slice Zq nzq czq) (.slice (some ⟨Gq, 0, none⟩) N N)
      have Aq := i9.put (.slice Zq nzq czq) (.slice (some ⟨Gq, 0, none⟩) N N)
      have Bq := (hb.setCell (p := ⟨Cq, 0, none⟩) n9 (.slice Zq nzq czq)).setCell (p := ⟨Cq, 1, none⟩) n9 (.slice (some ⟨Gq, 0, none⟩) N N)
      have hlC := i9.lt
      clear i9 pq rq
      have hsC : ((wz.setCell ⟨Cq, 0, none⟩ (.slice Zq nzq czq)).setCell ⟨Cq, 1, none⟩ (.slice (some ⟨Gq, 0, none⟩) N N)).heap.size = wz.heap.size := by simp
      generalize (wz.setCell ⟨Cq, 0, none⟩ (.slice Zq nzq czq)).setCell ⟨Cq, 1, none⟩ (.slice (some ⟨Gq, 0, none⟩) N N) = Wq at *
      have HPq := hide Pq
      have HRq := hide Rq
      clear Pq Rq
      have HAq := hide Aq
      have HBq := hide Bq
      have HCq := hide n9
      clear Aq Bq hb hlC hsC n9
      have HBQ := hide (Below.on HBP.out HBq.out)
      have HO6 := hide (HO3.out.below HBq.out)
      have HA6 := hide (HA4.out.below HBq.out)
      have HA7 := hide (HA5.out.below HBq.out)
      have HAp2 := hide (HAp.out.below HBq.out)
      have hCp := HAp.out.lt
      have hCq := HAq.out.lt
      have hszq := HBq.out.size
      have hwq : w.heap.size ≤ Wq.heap.size := HBQ.out.size
      have hszb := HCp.out
      have hszc := HCq.out
      obtain ⟨⟨a0, a1⟩, _⟩ := HA6.out.cells
      go_wp2_with (first
        | (go_at_call 7; refine (law_two 3 (.inl rfl) da dl dc (some ⟨g5, 0, none⟩) nzk nzk ds n xa xc xs (some ⟨G5, 0, none⟩) n (twoL 5 (List.replicate n by') ys n) _ (HDA.out.1.below HC5w.out) HIg5.out (HXA.out.below HC5w.out) HIx5.out HAE.out).mono ?_; rintro e w6 ⟨⟨g6, G6, rfl, hi1, hi2⟩, hb⟩; have HIg6 := hide hi1; have HIx6 := hide hi2; have HC6w := hide (Below.on HC5w.out hb); have HC6p := hide (Below.on HC5p.out hb); have HC6q := hide (Below.on HC5q.out hb); have HC6o := hide (HC5o.out.below hb); have HC6k := hide (HC5k.out.below hb); have HC6b := hide (HC5kb.out.below hb); have hz6 := hb.size; simp only [World.size_alloc] at hz6; clear hi1 hi2 hb c5a0 c5a1 c5b0 c5b1 c5k0 c5k1 c5kb0 c5kb1; obtain ⟨⟨c6a0, c6a1⟩, _⟩ := (HC5a.out.below (Below.refl _ _)).cells; obtain ⟨⟨c6b0, c6b1⟩, _⟩ := (HC5b.out.below (Below.refl _ _)).cells; obtain ⟨⟨c6k0, c6k1⟩, _⟩ := HC6k.out.cells; obtain ⟨⟨c6kb0, c6kb1⟩, _⟩ := HC6b.out.cells)
        | (go_at_call 7; refine (law_two 5 (.inr (.inr rfl)) Zk nzk czk fa fl fc ds n (some ⟨Gk, 0, none⟩) n (List.replicate n by') ya yc ys _ HIkd.out (HDB.out.1.below HC4w.out) HIkx.out (HXB.out.below HC4w.out) HAE.out).mono ?_; rintro e w5 ⟨⟨g5, G5, rfl, hi1, hi2⟩, hb⟩; have HIg5 := hide (hi1.below ((Below.refl _ _).alloc (Nat.le_refl _) (.cells #[.slice (some ⟨g5, 0, none⟩) nzk nzk, .slice (some ⟨G5, 0, none⟩) n n] 25))); have HIx5 := hide (hi2.below ((Below.refl _ _).alloc (Nat.le_refl _) (.cells #[.slice (some ⟨g5, 0, none⟩) nzk nzk, .slice (some ⟨G5, 0, none⟩) n n] 25))); have HC5w := hide ((Below.on HC4w.out hb).alloc (Below.on HC4w.out hb).size (.cells #[.slice (some ⟨g5, 0, none⟩) nzk nzk, .slice (some ⟨G5, 0, none⟩) n n] 25)); have HC5p := hide ((Below.on HC4p.out hb).alloc (Below.on HC4p.out hb).size (.cells #[.slice (some ⟨g5, 0, none⟩) nzk nzk, .slice (some ⟨G5, 0, none⟩) n n] 25)); have HC5q := hide ((Below.on HC4q.out hb).alloc (Below.on HC4q.out hb).size (.cells #[.slice (some ⟨g5, 0, none⟩) nzk nzk, .slice (some ⟨G5, 0, none⟩) n n] 25)); have HC5o := hide ((HC4o.out.below hb).alloc (.cells #[.slice (some ⟨g5, 0, none⟩) nzk nzk, .slice (some ⟨G5, 0, none⟩) n n] 25)); have HC5a := hide ((HC4a.out.below hb).alloc (.cells #[.slice (some ⟨g5, 0, none⟩) nzk nzk, .slice (some ⟨G5, 0, none⟩) n n] 25)); have HC5b := hide ((HC4b.out.below hb).alloc (.cells #[.slice (some ⟨g5, 0, none⟩) nzk nzk, .slice (some ⟨G5, 0, none⟩) n n] 25)); have HC5k := hide ((HC4k.out.below hb).alloc (.cells #[.slice (some ⟨g5, 0, none⟩) nzk nzk, .slice (some ⟨G5, 0, none⟩) n n] 25)); have HC5kb := hide (ArrAt.new w5 (.slice (some ⟨g5, 0, none⟩) nzk nzk) (.slice (some ⟨G5, 0, none⟩) n n)); have hz5 := hb.size; simp only [World.size_alloc] at hz5; clear hi1 hi2 hb c4a0 c4a1 c4b0 c4b1 c4k0 c4k1; obtain ⟨⟨c5a0, c5a1⟩, _⟩ := HC5a.out.cells; obtain ⟨⟨c5b0, c5b1⟩, _⟩ := HC5b.out.cells; obtain ⟨⟨c5k0, c5k1⟩, _⟩ := HC5k.out.cells; obtain ⟨⟨c5kb0, c5kb1⟩, _⟩ := HC5kb.out.cells)
        | (go_at_call 12; refine (one0_fill by' da dl dc ds n _ (HDA.out.1.below HBQ.out) HAE.out HBY.out).mono ?_; rintro e w4 ⟨⟨Zk, nzk, czk, Gk, rfl, ⟨hi1, _⟩, hi2⟩, hb⟩; have HIkd := hide (hi1.below ((Below.refl _ _).alloc (Nat.le_refl _) (.cells #[.slice Zk nzk czk, .slice (some ⟨Gk, 0, none⟩) n n] 25))); have HIkx := hide (hi2.below ((Below.refl _ _).alloc (Nat.le_refl _) (.cells #[.slice Zk nzk czk, .slice (some ⟨Gk, 0, none⟩) n n] 25))); have HC4w := hide ((Below.on HBQ.out hb).alloc (Below.on HBQ.out hb).size (.cells #[.slice Zk nzk czk, .slice (some ⟨Gk, 0, none⟩) n n] 25)); have HC4p := hide ((Below.on HBq.out hb).alloc (Below.on HBq.out hb).size (.cells #[.slice Zk nzk czk, .slice (some ⟨Gk, 0, none⟩) n n] 25)); have HC4q := hide (((Below.refl Wq.heap.size Wq).trans hb).alloc (((Below.refl Wq.heap.size Wq).trans hb)).size (.cells #[.slice Zk nzk czk, .slice (some ⟨Gk, 0, none⟩) n n] 25)); have HC4o := hide ((HO6.out.below hb).alloc (.cells #[.slice Zk nzk czk, .slice (some ⟨Gk, 0, none⟩) n n] 25)); have HC4a := hide ((HA6.out.below hb).alloc (.cells #[.slice Zk nzk czk, .slice (some ⟨Gk, 0, none⟩) n n] 25)); have HC4b := hide ((HA7.out.below hb).alloc (.cells #[.slice Zk nzk czk, .slice (some ⟨Gk, 0, none⟩) n n] 25)); have HC4k := hide (ArrAt.new w4 (.slice Zk nzk czk) (.slice (some ⟨Gk, 0, none⟩) n n)); have hz4 := hb.size; clear hi1 hi2 hb a0 a1; obtain ⟨⟨c4a0, c4a1⟩, _⟩ := HC4a.out.cells; obtain ⟨⟨c4b0, c4b1⟩, _⟩ := HC4b.out.cells; obtain ⟨⟨c4k0, c4k1⟩, _⟩ := HC4k.out.cells))
      have HSLx := hide (lst_of_some HIg6.out (Nat.le_refl _))
      have hB17 := ArrAt.new w6 (.slice (some ⟨g6, 0, none⟩) dl dl) (.slice (some ⟨G6, 0, none⟩) n n)
      have HSL := hide (HSLx.out.below ((Below.refl _ _).alloc (Nat.le_refl _) (.cells #[.slice (some ⟨g6, 0, none⟩) dl dl, .slice (some ⟨G6, 0, none⟩) n n] 25)))
      have HSX := hide (HIx6.out.below ((Below.refl _ _).alloc (Nat.le_refl _) (.cells #[.slice (some ⟨g6, 0, none⟩) dl dl, .slice (some ⟨G6, 0, none⟩) n n] 25)))
      have HT0 := hide (HC6w.out.alloc HC6w.out.size (.cells #[.slice (some ⟨g6, 0, none⟩) dl dl, .slice (some ⟨G6, 0, none⟩) n n] 25))
      have HTo := hide (HC6o.out.alloc (.cells #[.slice (some ⟨g6, 0, none⟩) dl dl, .slice (some ⟨G6, 0, none⟩) n n] 25))
      have HTp := hide (HC6p.out.alloc HC6p.out.size (.cells #[.slice (some ⟨g6, 0, none⟩) dl dl, .slice (some ⟨G6, 0, none⟩) n n] 25))
      have HTq := hide (HC6q.out.alloc HC6q.out.size (.cells #[.slice (some ⟨g6, 0, none⟩) dl dl, .slice (some ⟨G6, 0, none⟩) n n] 25))
      have HT14 := hide (HC6k.out.alloc (.cells #[.slice (some ⟨g6, 0, none⟩) dl dl, .slice (some ⟨G6, 0, none⟩) n n] 25))
      have HT16 := hide (HC6b.out.alloc (.cells #[.slice (some ⟨g6, 0, none⟩) dl dl, .slice (some ⟨G6, 0, none⟩) n n] 25))
      have hs17 : w6.heap.size < (w6.alloc (.cells #[.slice (some ⟨g6, 0, none⟩) dl dl, .slice (some ⟨G6, 0, none⟩) n n] 25)).heap.size := by simp
      clear c6a0 c6a1 c6b0 c6b1 c6k0 c6k1 c6kb0 c6kb1
      generalize w6.alloc (.cells #[.slice (some ⟨g6, 0, none⟩) dl dl, .slice (some ⟨G6, 0, none⟩) n n] 25) = Wt at *
      obtain ⟨⟨s0, s1⟩, _⟩ := hB17.cells
      obtain ⟨o0, o1, o2, o3, o4, o5, o6⟩ := HTo.out.cells
      clear hB17
      refine region_made1 10 12 8 [fIs (.agg #[.int .i64 k, .slice ea el ec, .slice pa pl pc, .slice la ll lc, .slice ha hl hc, .slice ta tl tc, .int .i64 x]), fIs (.agg #[.slice (some ⟨g6, 0, none⟩) dl dl, .slice (some ⟨G6, 0, none⟩) n n]), fRow2 Wt.heap.size (.slice (some ⟨g6, 0, none⟩) dl dl) (.slice (some ⟨G6, 0, none⟩) n n), fIs (.slice ma q mc), fArgs Wt.heap.size (.slice (some ⟨g6, 0, none⟩) dl dl) (.slice (some ⟨G6, 0, none⟩) n n) q vm, fDo L (f (twoL 3 xs (twoL 5 (List.replicate n by') ys n) n)) N, fDo L (f (twoL 3 xs (twoL 5 (List.replicate n by') ys n) n)) N, fAgg L (f (twoL 3 xs (twoL 5 (List.replicate n by') ys n) n)) N, fIs (.int .i64 0), fArr Wt.heap.size] (by kernel_rfl) (by kernel_rfl) (by kernel_rfl) (fun _ ⟨_, _⟩ ⟨_, _⟩ _ e h => by cases e; exact h) ⟨fIs_good _, fIs_good _, fRow2_good _ _ _, fIs_good _, fArgs_good _ _ _ _ _, fDo_good _ _ _, fDo_good _ _ _, fAgg_good _ _ _, fIs_good _, fArr_good _, trivial⟩ ?pure ?mk ?rest
      case pure =>
        intro o ho u wz hb hd
        cases ho
        obtain ⟨Z, nz, cz, G, e5, h1, h2⟩ := hd 6 (by omega) (by kernel_rfl)
        refine ⟨.int .i64 0, fun w3 => ?_⟩
        simp only [List.take, putOps, Act.put, List.setIfInBounds_toArray, List.set_cons_zero, List.set_cons_succ, Nat.reduceAdd, e5]
        go_simp
      case mk =>
        refine ⟨fun u wz hb hd => ?_, fun u wz hb hd => ?_, fun u wz hb hd => ?_, fun u wz hb hd => ?_, fun u wz hb hd => ?_, fun u wz hb hd => ?_, fun u wz hb hd => ?_, fun u wz hb hd => ?_, fun u wz hb hd => ?_, fun u wz hb hd => ?_, trivial⟩
        all_goals simp only [Act.put, List.setIfInBounds_toArray, List.set_cons_zero, List.set_cons_succ]
        · have o0' := (hb.cell (p := ⟨w.heap.size, 0, none⟩) (lt_of_cell o0)).trans o0
          have o1' := (hb.cell (p := ⟨w.heap.size, 1, none⟩) (lt_of_cell o1)).trans o1
          have o2' := (hb.cell (p := ⟨w.heap.size, 2, none⟩) (lt_of_cell o2)).trans o2
          have o3' := (hb.cell (p := ⟨w.heap.size, 3, none⟩) (lt_of_cell o3)).trans o3
          have o4' := (hb.cell (p := ⟨w.heap.size, 4, none⟩) (lt_of_cell o4)).trans o4
          have o5' := (hb.cell (p := ⟨w.heap.size, 5, none⟩) (lt_of_cell o5)).trans o5
          have o6' := (hb.cell (p := ⟨w.heap.size, 6, none⟩) (lt_of_cell o6)).trans o6
          go_simp
          exact ⟨rfl, Below.refl _ _, fun h => by cases h⟩
        · have s0' := (hb.cell (p := ⟨w6.heap.size, 0, none⟩) (lt_of_cell s0)).trans s0
          have s1' := (hb.cell (p := ⟨w6.heap.size, 1, none⟩) (lt_of_cell s1)).trans s1
          go_simp
          exact ⟨rfl, Below.refl _ _, fun h => by cases h⟩
        · have e1 : u 1 = .agg #[.slice (some ⟨g6, 0, none⟩) dl dl, .slice (some ⟨G6, 0, none⟩) n n] := hd 1 (by omega) (by kernel_rfl)
          rw [e1]
          go_simp
          exact ⟨⟨_, rfl, ArrAt.new _ _ _, hb.size⟩, (Below.refl _ _).alloc (Nat.le_refl _) _, fun h => by cases h⟩
        · go_simp
          exact ⟨rfl, Below.refl _ _, fun h => by cases h⟩
        · obtain ⟨B2, e2, hB2, hN2⟩ := hd 2 (by omega) (by kernel_rfl)
          have e3 : u 3 = .slice ma q mc := hd 3 (by omega) (by kernel_rfl)
          rw [e2, e3]
          refine wp_append_more (.tmp 84) (.tmp 85) 27 25 rfl Try.underlying27 info_arr Wt.heap.size B2 q mc (.slice (some ⟨g6, 0, none⟩) dl dl) (.slice (some ⟨G6, 0, none⟩) n n) ma vm rfl rfl hB2 hN2 hb.size (HMA.out _ (Below.on HT0.out hb)) HMN.out (by omega) (fun v w3 hv hbb => ?_)
          exact ⟨v, rfl, hv, hbb, fun h => by cases h⟩
        · have e0 : u 0 = .agg #[.int .i64 k, .slice ea el ec, .slice pa pl pc, .slice la ll lc, .slice ha hl hc, .slice ta tl tc, .int .i64 x] := hd 0 (by omega) (by kernel_rfl)
          obtain ⟨B4, cap4, e4, ⟨k0, k1, km⟩, hN4⟩ := hd 4 (by omega) (by kernel_rfl)
          rw [e0, e4]
          go_simp
          refine (HDO.out wz B4 cap4 (some ⟨g6, 0, none⟩) dl dl (some ⟨G6, 0, none⟩) n ((twoL 3 xs (twoL 5 (List.replicate n by') ys n) n)) (Below.on HT0.out hb) k0 k1 km (HSL.out.below hb) (HSX.out.below hb) (Nat.le_refl _)).mono ?_
          rintro e w3 ⟨⟨Z, nz, cz, G, rfl, h1, h2, _⟩, hb2⟩
          exact ⟨⟨Z, nz, cz, G, rfl, h1, h2⟩, hb2, fun h => by cases h⟩
        · obtain ⟨Z, nz, cz, G, e5, h1, h2⟩ := hd 5 (by omega) (by kernel_rfl)
          rw [e5]
          go_simp
          exact ⟨⟨Z, nz, cz, G, rfl, h1, h2⟩, Below.refl _ _, fun h => by cases h⟩
        · obtain ⟨Z, nz, cz, G, e5, h1, h2⟩ := hd 6 (by omega) (by kernel_rfl)
          rw [e5]
          go_simp
          exact ⟨⟨Z, nz, cz, G, rfl, h1, h2⟩, Below.refl _ _, fun h => by cases h⟩
        · obtain ⟨Z, nz, cz, G, e5, h1, h2⟩ := hd 6 (by omega) (by kernel_rfl)
          rw [e5]
          go_simp
          exact ⟨rfl, Below.refl _ _, fun h => by cases h⟩
        · go_simp
          exact ⟨⟨_, rfl, ArrAt.new _ _ _, hb.size⟩, (Below.refl _ _).alloc (Nat.le_refl _) _, fun _ b hb => by simp [blk] at hb; omega⟩
      case rest =>
        intro u wz hb hf hp
        have f0 : u 0 = .agg #[.int .i64 k, .slice ea el ec, .slice pa pl pc, .slice la ll lc, .slice ha hl hc, .slice ta tl tc, .int .i64 x] := hf 0 (by omega)
        have f1 : u 1 = .agg #[.slice (some ⟨g6, 0, none⟩) dl dl, .slice (some ⟨G6, 0, none⟩) n n] := hf 1 (by omega)
        obtain ⟨_, f2, _, _⟩ := hf 2 (by omega)
        have f3 : u 3 = .slice ma q mc := hf 3 (by omega)
        obtain ⟨_, _, f4, _, _⟩ := hf 4 (by omega)
        obtain ⟨_, _, _, _, f5, _, _⟩ := hf 5 (by omega)
        obtain ⟨_, _, _, _, f6, _, _⟩ := hf 6 (by omega)
        obtain ⟨Zs, nzs, czs, Gs, f7, ⟨ps, pcs⟩, rs⟩ := hf 7 (by omega)
        have f8 : u 8 = .int .i64 0 := hf 8 (by omega)
        obtain ⟨Cs, f9, i9, n9⟩ := hf 9 (by omega)
        refine UptoW.rest 2 10 (by rfl) (by kernel_rfl) ?_
        simp only [List.take, List.drop, putOps, Act.put, List.setIfInBounds_toArray, List.set_cons_zero, List.set_cons_succ, Nat.reduceAdd, f0, f1, f2, f3, f4, f5, f6, f7, f8, f9]
        clear f0 f1 f2 f3 f4 f5 f6 f7 f8 f9 hf hp o0 o1 o2 o3 o4 o5 o6 s0 s1
        obtain ⟨⟨c0, c1⟩, z0, z1⟩ := i9.cells
        refine wpList_plain rfl (fun K hK => ?_)
        go_simp
        refine hK _ _ ?_
        clear hK K c0 c1 z0 z1
        refine wpList_plain rfl (fun K hK => ?_)
        go_simp
        refine hK _ _ (wpList_nil ?_)
        clear hK K
        have Ps := ints_put_arr ps i9 (fun _ _ e => by cases e) (fun _ _ e => by cases e) (.slice Zs nzs czs) (.slice (some ⟨Gs, 0, none⟩) N N)
        have Rs := ints_put_arr rs i9 (fun _ _ e => by cases e) (fun _ _ e => by cases e) (.slice Zs nzs czs) (.slice (some ⟨Gs, 0, none⟩) N N)
        have As := i9.put (.slice Zs nzs czs) (.slice (some ⟨Gs, 0, none⟩) N N)
        have Bs := (hb.setCell (p := ⟨Cs, 0, none⟩) n9 (.slice Zs nzs czs)).setCell (p := ⟨Cs, 1, none⟩) n9 (.slice (some ⟨Gs, 0, none⟩) N N)
        have hlC := i9.lt
        clear i9 ps rs
        have hsC : ((wz.setCell ⟨Cs, 0, none⟩ (.slice Zs nzs czs)).setCell ⟨Cs, 1, none⟩ (.slice (some ⟨Gs, 0, none⟩) N N)).heap.size = wz.heap.size := by simp
        generalize (wz.setCell ⟨Cs, 0, none⟩ (.slice Zs nzs czs)).setCell ⟨Cs, 1, none⟩ (.slice (some ⟨Gs, 0, none⟩) N N) = Ws at *
        have HPs := hide Ps
        have HRs := hide Rs
        clear Ps Rs
        have HAs := hide As
        have HBs := hide Bs
        have HCs := hide n9
        clear As Bs hb hlC hsC n9
        have HUw := hide (Below.on HT0.out HBs.out)
        have HUp := hide (HAp.out.below (Below.on HTp.out HBs.out))
        have HUq := hide (HAq.out.below (Below.on HTq.out HBs.out))
        have HU14 := hide (HT14.out.below HBs.out)
        have HU16 := hide (HT16.out.below HBs.out)
        have HPp2 := hide (HPp.out.below (Below.on HTp.out HBs.out))
        have HRp2 := hide (HRp.out.below (Below.on HTp.out HBs.out))
        have HPq2 := hide (HPq.out.below (Below.on HTq.out HBs.out))
        have HRq2 := hide (HRq.out.below (Below.on HTq.out HBs.out))
        have hCs := HCs.out
        have hszw := HUw.out.size
        clear HSL HSX HSLx HTo HTp HTq HT14 HT16
        obtain ⟨⟨p0, p1⟩, _⟩ := HUp.out.cells
        go_wp2_with (first
          | (go_at_call 8; refine (sameArr_true Zs nzs czs (some ⟨g10, 0, none⟩) nzp nzp L N (some ⟨Gs, 0, none⟩) N (some ⟨G10, 0, none⟩) N (f (twoL 3 xs (twoL 5 (List.replicate n by') ys n) n)) _ HPs5.out HDt.out HRs5.out (Eq.subst (motive := fun l => Ints _ _ _ l) HLW.out.symm HXt.out)).mono ?_; rintro e w11 ⟨rfl, hb⟩; have HBF := hide (Below.on HW10.out hb); clear hb)
          | (go_at_call 7; refine (law_two 3 (.inl rfl) Zp nzp czp (some ⟨g9, 0, none⟩) nz8 nz8 L N (some ⟨Gp, 0, none⟩) N (f xs) (some ⟨G9, 0, none⟩) N (twoL 5 (List.replicate N by') (f ys) N) _ HPp4.out HD9.out HRp4.out HX9.out HAN.out).mono ?_; rintro e w10 ⟨⟨g10, G10, rfl, hi1, hi2⟩, hb⟩; have HDt := hide (hi1.below ((Below.refl _ _).alloc (Nat.le_refl _) (.cells #[.slice (some ⟨g10, 0, none⟩) nzp nzp, .slice (some ⟨G10, 0, none⟩) N N] 25))); have HXt := hide (hi2.below ((Below.refl _ _).alloc (Nat.le_refl _) (.cells #[.slice (some ⟨g10, 0, none⟩) nzp nzp, .slice (some ⟨G10, 0, none⟩) N N] 25))); have HPs5 := hide ((HPs4.out.below hb).below ((Below.refl _ _).alloc (Nat.le_refl _) (.cells #[.slice (some ⟨g10, 0, none⟩) nzp nzp, .slice (some ⟨G10, 0, none⟩) N N] 25))); have HRs5 := hide ((HRs4.out.below hb).below ((Below.refl _ _).alloc (Nat.le_refl _) (.cells #[.slice (some ⟨g10, 0, none⟩) nzp nzp, .slice (some ⟨G10, 0, none⟩) N N] 25))); have HUs5 := hide ((HUs4.out.below hb).alloc (.cells #[.slice (some ⟨g10, 0, none⟩) nzp nzp, .slice (some ⟨G10, 0, none⟩) N N] 25)); have HU19 := hide (ArrAt.new w10 (.slice (some ⟨g10, 0, none⟩) nzp nzp) (.slice (some ⟨G10, 0, none⟩) N N)); have HW10 := hide ((Below.on HW9.out hb).alloc (Below.on HW9.out hb).size (.cells #[.slice (some ⟨g10, 0, none⟩) nzp nzp, .slice (some ⟨G10, 0, none⟩) N N] 25)); clear hi1 hi2 hb v160 v161 f160 f161 x160 x161 xp0 xp1; obtain ⟨⟨xs0, xs1⟩, _⟩ := HUs5.out.cells; obtain ⟨⟨xt0, xt1⟩, _⟩ := HU19.out.cells)
          | (go_at_call 7; refine (law_two 5 (.inr (.inr rfl)) Z8 nz8 cz8 Zq nzq czq L N (some ⟨G8, 0, none⟩) N (List.replicate N by') (some ⟨Gq, 0, none⟩) N (f ys) _ HD8.out HPq3.out HX8.out HRq3.out HAN.out).mono ?_; rintro e w9 ⟨⟨g9, G9, rfl, hi1, hi2⟩, hb⟩; have hsz9 := hb.size; simp only [World.size_setCell] at hsz9; have HX16 := hide (HU163.out.below hb); have HD9 := hide (ints_put_arr hi1 HX16.out (fun _ _ e => by cases e) (fun _ _ e => by cases e) (.slice (some ⟨g9, 0, none⟩) nz8 nz8) (.slice (some ⟨G9, 0, none⟩) N N)); have HX9 := hide (ints_put_arr hi2 HX16.out (fun _ _ e => by cases e) (fun _ _ e => by cases e) (.slice (some ⟨g9, 0, none⟩) nz8 nz8) (.slice (some ⟨G9, 0, none⟩) N N)); have HPp4 := hide (ints_put_arr (HPp3.out.below hb) HX16.out (fun _ _ e => by cases e) (fun _ _ e => by cases e) (.slice (some ⟨g9, 0, none⟩) nz8 nz8) (.slice (some ⟨G9, 0, none⟩) N N)); have HRp4 := hide (ints_put_arr (HRp3.out.below hb) HX16.out (fun _ _ e => by cases e) (fun _ _ e => by cases e) (.slice (some ⟨g9, 0, none⟩) nz8 nz8) (.slice (some ⟨G9, 0, none⟩) N N)); have HPs4 := hide (ints_put_arr (HPs3.out.below hb) HX16.out (fun _ _ e => by cases e) (fun _ _ e => by cases e) (.slice (some ⟨g9, 0, none⟩) nz8 nz8) (.slice (some ⟨G9, 0, none⟩) N N)); have HRs4 := hide (ints_put_arr (HRs3.out.below hb) HX16.out (fun _ _ e => by cases e) (fun _ _ e => by cases e) (.slice (some ⟨g9, 0, none⟩) nz8 nz8) (.slice (some ⟨G9, 0, none⟩) N N)); have HUp4 := hide (((HUp3.out.below hb).set (p := ⟨w5.heap.size, 0, none⟩) (by simp; omega) (.slice (some ⟨g9, 0, none⟩) nz8 nz8)).set (p := ⟨w5.heap.size, 1, none⟩) (by simp; omega) (.slice (some ⟨G9, 0, none⟩) N N)); have HUs4 := hide (((HUs3.out.below hb).set (p := ⟨w5.heap.size, 0, none⟩) (by simp; omega) (.slice (some ⟨g9, 0, none⟩) nz8 nz8)).set (p := ⟨w5.heap.size, 1, none⟩) (by simp; omega) (.slice (some ⟨G9, 0, none⟩) N N)); have HU164 := hide (HX16.out.put (.slice (some ⟨g9, 0, none⟩) nz8 nz8) (.slice (some ⟨G9, 0, none⟩) N N)); have HW9 := hide (((Below.on HW8.out hb).setCell (p := ⟨w5.heap.size, 0, none⟩) (by simp; omega) (.slice (some ⟨g9, 0, none⟩) nz8 nz8)).setCell (p := ⟨w5.heap.size, 1, none⟩) (by simp; omega) (.slice (some ⟨G9, 0, none⟩) N N)); obtain ⟨⟨v160, v161⟩, f160, f161⟩ := HX16.out.cells; clear hi1 hi2 hb v140 v141 f140 f141 x140 x141 xq0 xq1; obtain ⟨⟨x160, x161⟩, _⟩ := HU164.out.cells; obtain ⟨⟨xp0, xp1⟩, _⟩ := HUp4.out.cells)
          | (go_at_call 12; refine (one0_fill by' Zp nzp czp L N _ HPp2.out HAN.out HBY.out).mono ?_; rintro e w8 ⟨⟨Z8, nz8, cz8, G8, rfl, ⟨hi1, _⟩, hi2⟩, hb⟩; have hsz8 := hb.size; have HV14 := hide (HU14.out.below hb); have HV16 := hide (HU16.out.below hb); have h14 := HU14.out.lt; have h16 := HU16.out.lt; have HD8 := hide (ints_put_arr hi1 HV14.out (fun _ _ e => by cases e) (fun _ _ e => by cases e) (.slice Z8 nz8 cz8) (.slice (some ⟨G8, 0, none⟩) N N)); have HX8 := hide (ints_put_arr hi2 HV14.out (fun _ _ e => by cases e) (fun _ _ e => by cases e) (.slice Z8 nz8 cz8) (.slice (some ⟨G8, 0, none⟩) N N)); have HPp3 := hide (ints_put_arr (HPp2.out.below hb) HV14.out (fun _ _ e => by cases e) (fun _ _ e => by cases e) (.slice Z8 nz8 cz8) (.slice (some ⟨G8, 0, none⟩) N N)); have HRp3 := hide (ints_put_arr (HRp2.out.below hb) HV14.out (fun _ _ e => by cases e) (fun _ _ e => by cases e) (.slice Z8 nz8 cz8) (.slice (some ⟨G8, 0, none⟩) N N)); have HPq3 := hide (ints_put_arr (HPq2.out.below hb) HV14.out (fun _ _ e => by cases e) (fun _ _ e => by cases e) (.slice Z8 nz8 cz8) (.slice (some ⟨G8, 0, none⟩) N N)); have HRq3 := hide (ints_put_arr (HRq2.out.below hb) HV14.out (fun _ _ e => by cases e) (fun _ _ e => by cases e) (.slice Z8 nz8 cz8) (.slice (some ⟨G8, 0, none⟩) N N)); have HPs3 := hide (ints_put_arr (HPs.out.below hb) HV14.out (fun _ _ e => by cases e) (fun _ _ e => by cases e) (.slice Z8 nz8 cz8) (.slice (some ⟨G8, 0, none⟩) N N)); have HRs3 := hide (ints_put_arr (HRs.out.below hb) HV14.out (fun _ _ e => by cases e) (fun _ _ e => by cases e) (.slice Z8 nz8 cz8) (.slice (some ⟨G8, 0, none⟩) N N)); have HUp3 := hide (((HUp.out.below hb).set (p := ⟨w4.heap.size, 0, none⟩) (by simp; omega) (.slice Z8 nz8 cz8)).set (p := ⟨w4.heap.size, 1, none⟩) (by simp; omega) (.slice (some ⟨G8, 0, none⟩) N N)); have HUq3 := hide (((HUq.out.below hb).set (p := ⟨w4.heap.size, 0, none⟩) (by simp; omega) (.slice Z8 nz8 cz8)).set (p := ⟨w4.heap.size, 1, none⟩) (by simp; omega) (.slice (some ⟨G8, 0, none⟩) N N)); have HU163 := hide (((HU16.out.below hb).set (p := ⟨w4.heap.size, 0, none⟩) (by simp; omega) (.slice Z8 nz8 cz8)).set (p := ⟨w4.heap.size, 1, none⟩) (by simp; omega) (.slice (some ⟨G8, 0, none⟩) N N)); have HUs3 := hide (((HAs.out.below hb).set (p := ⟨w4.heap.size, 0, none⟩) (by simp; omega) (.slice Z8 nz8 cz8)).set (p := ⟨w4.heap.size, 1, none⟩) (by simp; omega) (.slice (some ⟨G8, 0, none⟩) N N)); have HU143 := hide (HV14.out.put (.slice Z8 nz8 cz8) (.slice (some ⟨G8, 0, none⟩) N N)); have HW8 := hide (((Below.on HUw.out hb).setCell (p := ⟨w4.heap.size, 0, none⟩) (by simp; omega) (.slice Z8 nz8 cz8)).setCell (p := ⟨w4.heap.size, 1, none⟩) (by simp; omega) (.slice (some ⟨G8, 0, none⟩) N N)); obtain ⟨⟨v140, v141⟩, f140, f141⟩ := HV14.out.cells; clear hi1 hi2 hb p0 p1; obtain ⟨⟨x140, x141⟩, _⟩ := HU143.out.cells; obtain ⟨⟨xq0, xq1⟩, _⟩ := HUq3.out.cells))
        go_ret
        exact ⟨rfl, HBF.out⟩

end Go.Proofs.Ytdhkglafpjcdhaa.V

/-
  ArrayLinear: the walk of the law, of whatever it is asked.
-/
namespace Go.Proofs.Ytdhkglafpjcdhaa.V
open Go.RowKit

theorem arrayLinear_walk (k by' : Int) (x : Int) (ea : Option Addr) (el ec : Nat) (es : List Int) (pa : Option Addr) (pl pc : Nat) (ps : List Int) (la : Option Addr) (ll lc : Nat) (lo : List Int) (ha : Option Addr) (hl hc : Nat) (hi : List Int) (ta : Option Addr) (tl tc : Nat) (st : List Int) (da : Option Addr) (dl dc : Nat) (ds : List Int) (xa : Option Addr) (n xc : Nat) (xs : List Int) (fa : Option Addr) (fl fc : Nat) (gs : List Int) (ya : Option Addr) (m yc : Nat) (ys : List Int) (ma : Option Addr) (q mc : Nat) (vm : Nat → ArrV) (w : World) (zs : List Int)
    (he : Lst w ea el ec es) (hp : Lst w pa pl pc ps) (hlo : Lst w la ll lc lo) (hhi : Lst w ha hl hc hi) (hst : Lst w ta tl tc st) (b0 : el ≤ 1048576) (b1 : pl ≤ 1048576) (b2 : ll ≤ 1048576) (b3 : hl ≤ 1048576) (b4 : tl ≤ 1048576) (hda : Lst w da dl dc ds) (hxa : Ints w xa n xs) (hxc : n ≤ xc) (hdb : Lst w fa fl fc gs) (hxb : Ints w ya m ys) (hyc : m ≤ yc) (hma : q = 0 ∨ ∃ b off, ma = some ⟨b, off, none⟩ ∧ ∀ j, j < q → (w.cell? ⟨b, off + j * 2, none⟩ = some (vm j).d ∧ w.cell? ⟨b, off + j * 2 + 1, none⟩ = some (vm j).x) ∧ Lst w (vm j).da (vm j).dl (vm j).dc (vm j).ds) (hmn : ma = none → q = 0 ∧ mc = 0) (hq : q ≤ 1048575) (hz : 1 ≤ q → Ints w (vm 0).xa (vm 0).xl zs) (hby : -9223372036854775808 ≤ by' ∧ by' ≤ 9223372036854775807) :
    Calls Try.prog 4 #[.agg #[.int .i64 k, .slice ea el ec, .slice pa pl pc, .slice la ll lc, .slice ha hl hc, .slice ta tl tc, .int .i64 x], .agg #[.slice da dl dc, .slice xa n xc], .agg #[.slice fa fl fc, .slice ya m yc], .slice ma q mc, .int .i64 by'] w fun e w' => e = .returned (.bool true) ∧ Below w.heap.size w w' := by
  by_cases hk : linK k
  case neg => exact linear_not k by' (.slice ea el ec) (.slice pa pl pc) (.slice la ll lc) (.slice ha hl hc) (.slice ta tl tc) x da dl dc xa n xc fa fl fc ya m yc (.slice ma q mc) w hk
  by_cases hg : Alikes 2 (twoV2 da dl dc ds xa n xc fa fl fc gs ya m yc)
  case neg => exact linear_unlike k by' (.slice ea el ec) (.slice pa pl pc) (.slice la ll lc) (.slice ha hl hc) (.slice ta tl tc) x da dl dc ds xa n xc fa fl fc gs ya m yc (.slice ma q mc) w hk hda hdb hg
  by_cases hE : doE k es ps lo hi st (1 + q) (argsV ds n vm) = 0
  case neg => exact linear_err k by' x ea el ec es pa pl pc ps la ll lc lo ha hl hc hi ta tl tc st da dl dc ds xa n xc fa fl fc gs ya m yc ma q mc vm w he hp hlo hhi hst b0 b1 b2 b3 b4 hda hdb hma hmn hq hk hg hE
  have h0 : arrE ds n = 0 := (hg 0 (by omega)).1
  have h1 : arrE gs m = 0 := (hg 1 (by omega)).1
  have h2 : gs = ds := (hg 1 (by omega)).2
  subst h2
  have n0 := (arrE_ok h0).2.1
  have n1 := (arrE_ok h1).2.1
  obtain rfl : m = n := by omega
  obtain ⟨L, N, f, l1, l2, l3⟩ := linQ_any k hk x ea el ec es pa pl pc ps la ll lc lo ha hl hc hi ta tl tc st gs m q vm zs w he hp hlo hhi hst b0 b1 b2 b3 b4 (fun h => ⟨by
    rcases hma with h' | ⟨b, off, e, h'⟩
    · omega
    · exact (h' 0 (by omega)).2, hz h⟩) hE
  exact linear_all k by' x ea el ec pa pl pc la ll lc ha hl hc ta tl tc da dl dc gs xa m xc xs fa fl fc ya yc ys ma q mc vm w L N f hda hxa hxc hdb hxb hyc hma hmn hq hk hby h0 l1 l2 l3
end Go.Proofs.Ytdhkglafpjcdhaa.V
