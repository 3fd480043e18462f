/-
  Contract: the document's Spots.
-/
import Derived.Test.YtindmfpfpooijaaNl
import Derived.Test.YtindmfpfpooijaaNeAt
import Derived.Test.YtindmfpfpooijaaNeFits
namespace Go.Proofs.Ytindmfpfpooijaa.V
open Go.RowKit
set_option linter.unusedVariables false

theorem ne_pts_len {box : List Int} {rs : List (List Int × Int)} (ho : PtOk box rs) : (pts box rs).length ≤ 4096 := by
  unfold pts upto
  have h1 := List.length_filter_le (aboveB rs) ((List.range (prod box).toNat).map fun p : Nat => indexV box p)
  have h2 : ((List.range (prod box).toNat).map fun p : Nat => indexV box p).length = (prod box).toNat := by simp
  have := ho.size.1
  omega
/-- The spots of a statement; of the first k statements. -/
def spS (i : Nat) (s : Stm) : List (Nat × List Int) := (pts s.box s.rows).map fun x => (i, x)
def spK (ss : List Stm) (k : Nat) : List (Nat × List Int) := (List.range k).flatMap fun i => spS i (ss[i]?.getD stmD)
theorem spK_succ (ss : List Stm) (k : Nat) : spK ss (k + 1) = spK ss k ++ spS k (ss[k]?.getD stmD) := by
  unfold spK; rw [List.range_succ, List.flatMap_append]; simp
theorem spK_len (ss : List Stm) (h : ∀ s ∈ ss, (pts s.box s.rows).length ≤ 4096) : ∀ k, k ≤ ss.length → (spK ss k).length ≤ 4096 * k
  | 0, _ => by simp [spK]
  | k + 1, hk => by
    have ih := spK_len ss h k (by omega)
    rw [spK_succ, List.length_append]
    have h1 : (spS k (ss[k]?.getD stmD)).length ≤ 4096 := by
      unfold spS
      rw [List.length_map]
      exact h _ (mem_getS ss k (by omega))
    omega
def spD : Nat × List Int := (0, [])
theorem info_spot : (Try.prog.info? 56).map (fun i => (i.zero, i.size, i.bytes)) = some (some (.agg #[.int .i64 0, .slice none 0 0]), 2, 32) := by kernel_rfl
/-- The values of a row of spots. -/
def VS (w : World) (vs : List Value) (S : List (Nat × List Int)) : Prop := vs.length = S.length * 2 ∧ ∀ i, i < S.length → ∃ a l c, vs[i * 2]? = some (.int .i64 ((S[i]?.getD spD).1 : Int)) ∧ vs[i * 2 + 1]? = some (.slice a l c) ∧ Lst w a l c (S[i]?.getD spD).2 ∧ FlushT w a
theorem VS.below {w w' : World} {vs : List Value} {S : List (Nat × List Int)} (h : VS w vs S) (hb : Below w.heap.size w w') : VS w' vs S := ⟨h.1, fun i hi => by obtain ⟨a, l, c, h1, h2, h3, h4⟩ := h.2 i hi; exact ⟨a, l, c, h1, h2, h3.below hb, h4.below hb⟩⟩
def OutS (w : World) (B : Nat) (v : Value) (S : List (Nat × List Int)) : Prop := ∃ vs, w.ownsRow B 56 2 v S.length vs ∧ VS w vs S
theorem OutS.nil (w : World) (B : Nat) : OutS w B (.slice none 0 0) [] := ⟨[], World.ownsRow_nil _ _ _ _, ⟨rfl, fun i hi => by simp at hi⟩⟩
theorem ownsRow2_below {W W' : World} {B n : Nat} {t : TypeId} {v : Value} {xs : List Value} (h : W.ownsRow B t 2 v n xs) (hb : Below W.heap.size W W') : W'.ownsRow B t 2 v n xs := by
  refine ⟨h.1, ?_⟩
  rcases h.2 with e | ⟨g, cap, cur, e1, e2, e3, e4⟩
  · exact .inl e
  · exact .inr ⟨g, cap, cur, e1, e2, (hb.block g (Array.getElem?_eq_some_iff.1 e3).1).trans e3, e4⟩
theorem OutS.below {w w' : World} {B : Nat} {v : Value} {S : List (Nat × List Int)} (h : OutS w B v S) (hb : Below w.heap.size w w') : OutS w' B v S := by
  obtain ⟨vs, h1, h2⟩ := h
  exact ⟨vs, ownsRow2_below h1 hb, h2.below hb⟩
/-- append(out, spot). -/
theorem append_spot {w : World} {ops : Array Oper} {rest : List Oper} {op : Oper} {a : Act} {Q : Exit → Act → World → Prop} (hgd : op.guard = none) (s x : Operand)
    (ho : op.op = .call { callee := .builtin .append, args := #[s, x], argTypes := #[53, 53] }) (B : Nat)
    (v : Value) (hs : a.eval s = v) (S : List (Nat × List Int)) (i : Nat) (X : Option Addr) (l c : Nat) (xs : List Int) (hout : OutS w B v S) (hX : Lst w X l c xs) (hF : FlushT w X)
    (hx : a.eval x = .slice (some ⟨w.heap.size, 0, none⟩) 1 1) (hbytes : (S.length + 1) * 32 ≤ 140737488355328) (hB : B ≤ w.heap.size)
    (h : ∀ v' w', OutS w' B v' (S ++ [(i, xs)]) → Below B w w' → (∀ (t : TypeId) (b : Nat) cur, t ≠ 56 → w.heap[b]? = some (Obj.cells cur t (0, 0)) → w'.heap[b]? = w.heap[b]?) → wpList Try.prog ops Q rest (a.put op.dst v') w') :
    wpList Try.prog ops Q (op :: rest) a (w.alloc (.cells #[.int .i64 (i : Int), .slice X l c] 56)) := by
  obtain ⟨i0, hi, hz0, hz1, hz2⟩ := info_parts info_spot
  obtain ⟨vs, h1, h2⟩ := hout
  refine wpList_append_own _ hgd s x 53 ho B 56 i0 (.agg #[.int .i64 0, .slice none 0 0]) 2 32 Try.underlying53 hi hz0 hz1 hz2 rfl (by decide) v S.length vs hs (h1.alloc _) ⟨w.heap.size, 0, none⟩ 1 1 [.int .i64 (i : Int), .slice X l c] hx rfl ?_ ?_ (by unfold maxLen; omega) hbytes (by simp; omega) (fun v' w' k1 k2 _ => h v' w' ⟨vs ++ [.int .i64 (i : Int), .slice X l c], ?_, ?_⟩ (((Below.refl B w).alloc hB _).grown k2 (by simp; omega) (fun j e => (h1.lt j e).1)) (fun t b cur ht hb => ints_left (t := 56) (fun e => ht e.symm) h1 k2 b cur hb))
  · intro j u hj
    have hjl : j = 0 ∨ j = 1 := by have := (List.getElem?_eq_some_iff.1 hj).1; simp at this; omega
    rw [Go.WideShapes.add_plain]
    show (w.alloc (.cells #[.int .i64 (i : Int), .slice X l c] 56)).cell? ⟨w.heap.size, 0 + j, none⟩ = _
    unfold World.cell?
    rw [World.alloc_heap_new w (.cells #[.int .i64 (i : Int), .slice X l c] 56)]
    rcases hjl with rfl | rfl <;> simpa using hj
  · intro u hu; simp at hu; rcases hu with rfl | rfl <;> rfl
  · rw [List.length_append]; exact k1
  · have hb := ints_left (t := 56) (t' := 3) (by decide) h1 k2
    refine ⟨by simp [h2.1]; omega, fun j hj => ?_⟩
    by_cases e : j < S.length
    · obtain ⟨a', l', c', g1, g2, g3, g4⟩ := h2.2 j e
      refine ⟨a', l', c', ?_, ?_, ?_, g4.cells hb⟩
      · rw [List.getElem?_append_left (by rw [h2.1]; omega), List.getElem?_append_left e]; exact g1
      · rw [List.getElem?_append_left (by rw [h2.1]; omega)]; exact g2
      · rw [List.getElem?_append_left e]; exact lst_cells g3 g4 hb
    · have e2 : j = S.length := by simp at hj; omega
      subst e2
      refine ⟨X, l, c, ?_, ?_, ?_, hF.cells hb⟩
      · rw [List.getElem?_append_right (by rw [h2.1]; omega), List.getElem?_append_right (Nat.le_refl _), h2.1]; simp
      · rw [List.getElem?_append_right (by rw [h2.1]; omega), h2.1]; simp [show S.length * 2 + 1 - S.length * 2 = 1 by omega]
      · rw [List.getElem?_append_right (Nat.le_refl _)]; simpa using lst_cells hX hF hb
/-- What a caller reads of it. -/
def SP (w : World) (A : Option Addr) (n : Nat) (S : List (Nat × List Int)) : Prop := S.length = n ∧ (n = 0 ∨ ∃ b off, A = some ⟨b, off, none⟩ ∧ (∃ cur, w.heap[b]? = some (Obj.cells cur 56 (0, 0))) ∧ ∀ i, i < n → ∃ a l c, w.cell? ⟨b, off + i * 2, none⟩ = some (.int .i64 ((S[i]?.getD spD).1 : Int)) ∧ w.cell? ⟨b, off + i * 2 + 1, none⟩ = some (.slice a l c) ∧ Lst w a l c (S[i]?.getD spD).2 ∧ FlushT w a)
theorem SP.cells {w w' : World} {A : Option Addr} {n : Nat} {S : List (Nat × List Int)} (h : SP w A n S) (h1 : ∀ (b : Nat) cur, w.heap[b]? = some (Obj.cells cur 3 (0, 0)) → w'.heap[b]? = w.heap[b]?) (h2 : ∀ (b : Nat) cur, w.heap[b]? = some (Obj.cells cur 56 (0, 0)) → w'.heap[b]? = w.heap[b]?) : SP w' A n S := by
  obtain ⟨g1, g2⟩ := h
  refine ⟨g1, ?_⟩
  rcases g2 with g2 | ⟨b, off, e, ⟨cur, ht⟩, h⟩
  · exact .inl g2
  · refine .inr ⟨b, off, e, ⟨cur, (h2 b cur ht).trans ht⟩, fun i hi => ?_⟩
    obtain ⟨a, l, c, k1, k2, k3, k4⟩ := h i hi
    exact ⟨a, l, c, (World.cell?_of_block (w := w) (h2 b cur ht)).trans k1, (World.cell?_of_block (w := w) (h2 b cur ht)).trans k2, lst_cells k3 k4 h1, k4.cells h1⟩
theorem SP.below {w w' : World} {A : Option Addr} {n : Nat} {S : List (Nat × List Int)} (h : SP w A n S) (hb : Below w.heap.size w w') : SP w' A n S :=
  h.cells (fun b cur e => hb.block b (Array.getElem?_eq_some_iff.1 e).1) (fun b cur e => hb.block b (Array.getElem?_eq_some_iff.1 e).1)
theorem SP.at {w : World} {A : Option Addr} {n : Nat} {S : List (Nat × List Int)} (h : SP w A n S) (h0 : 0 < n) : ∃ b off, A = some ⟨b, off, none⟩ ∧ ∀ i, i < n → ∃ a l c, w.cell? ⟨b, off + i * 2, none⟩ = some (.int .i64 ((S[i]?.getD spD).1 : Int)) ∧ w.cell? ⟨b, off + i * 2 + 1, none⟩ = some (.slice a l c) ∧ Lst w a l c (S[i]?.getD spD).2 := by
  rcases h.2 with h2 | ⟨b, off, e, _, h2⟩
  · omega
  · exact ⟨b, off, e, fun i hi => by obtain ⟨a, l, c, k1, k2, k3, _⟩ := h2 i hi; exact ⟨a, l, c, k1, k2, k3⟩⟩
theorem OutS.spc {w : World} {B : Nat} {v : Value} {S : List (Nat × List Int)} (h : OutS w B v S) : ∃ A c, v = .slice A S.length c ∧ S.length ≤ c ∧ SP w A S.length S := by
  obtain ⟨vs, h1, h2⟩ := h
  have h1' := h1
  rcases h1.2 with ⟨e1, e2⟩ | ⟨g, cap, cur, rfl, _, hbk, hcap, _, hsz, ht⟩
  · exact ⟨none, 0, by rw [e1, e2], by omega, rfl, .inl e2⟩
  · refine ⟨_, cap, rfl, hcap, rfl, .inr ⟨g, 0, rfl, ⟨cur, hbk⟩, fun i hi => ?_⟩⟩
    obtain ⟨a, l, c, k1, k2, k3, k4⟩ := h2.2 i hi
    have hc : ∀ j, j < S.length * 2 → cur[j]? = vs[j]? := fun j hj => by
      have := congrArg (fun l => l[j]?) ht
      simp only [List.getElem?_take, if_pos hj] at this
      simpa using this
    refine ⟨a, l, c, ?_, ?_, k3, k4⟩
    · simp only [World.cell?, hbk, Nat.zero_add]
      rw [hc (i * 2) (by omega)]; exact k1
    · simp only [World.cell?, hbk, Nat.zero_add]
      rw [hc (i * 2 + 1) (by omega)]; exact k2
theorem OutS.sp {w : World} {B : Nat} {v : Value} {S : List (Nat × List Int)} (h : OutS w B v S) : ∃ A c, v = .slice A S.length c ∧ SP w A S.length S := by
  obtain ⟨A, c, e, _, h2⟩ := h.spc
  exact ⟨A, c, e, h2⟩
/-- What is done spot by spot. -/
def spM (ss : List Stm) (M : Mem) (sp : Nat × List Int) : Mem := doM (ss[sp.1]?.getD stmD) M sp.2
theorem spM_run (ss : List Stm) (L : Mem) : ∀ k, k ≤ ss.length → (spK ss k).foldl (spM ss) L = runM (ss.take k) L
  | 0, _ => by simp [spK, runM]
  | k + 1, hk => by
    rw [spK_succ, List.foldl_append, spM_run ss L k (by omega), runM_take ss L k (by omega)]
    unfold spS stmM
    rw [List.foldl_map]
    rfl
theorem spM_arr_len (ss : List Stm) (S : List (Nat × List Int)) : ∀ (L : Mem), (∀ i, (arrM (S.foldl (spM ss) L) i).length = (arrM L i).length) ∧ (S.foldl (spM ss) L).length = L.length := by
  induction S with
  | nil => exact fun L => ⟨fun _ => rfl, rfl⟩
  | cons sp S ih =>
    intro L
    rw [List.foldl_cons]
    obtain ⟨h1, h2⟩ := ih (spM ss L sp)
    exact ⟨fun i => by rw [h1 i]; exact doM_arr_len _ _ _ _, by rw [h2]; exact doM_len _ _ _⟩
theorem sp_mem {ss : List Stm} {k : Nat} {sp : Nat × List Int} (h : sp ∈ spK ss k) : sp.1 < k ∧ sp.2 ∈ pts (ss[sp.1]?.getD stmD).box (ss[sp.1]?.getD stmD).rows := by
  unfold spK at h
  obtain ⟨i, hi, h2⟩ := List.mem_flatMap.1 h
  unfold spS at h2
  obtain ⟨x, hx, rfl⟩ := List.mem_map.1 h2
  exact ⟨List.mem_range.1 hi, hx⟩
theorem ne_pts_mem {box : List Int} {rs : List (List Int × Int)} (ho : PtOk box rs) {x : List Int} (h : x ∈ pts box rs) : (∀ y ∈ x, 0 ≤ y ∧ y ≤ 4096) ∧ x.length = box.length := by
  unfold pts upto at h
  obtain ⟨h1, _⟩ := List.mem_filter.1 h
  obtain ⟨p, hp, rfl⟩ := List.mem_map.1 h1
  exact index_bd ho (List.mem_range.1 hp)

set_option maxRecDepth 100000 in
set_option maxHeartbeats 4000000 in
theorem rSpots_cap (vz : Value) (ta : Option Addr) (tl tc : Nat) (ss : List Stm) (w : World) (hs : Stms w ta tl ss) (h256 : tl ≤ 256) (hok : ∀ s ∈ ss, PtOk s.box s.rows) :
    Calls Try.prog 15 #[.agg #[vz, .slice ta tl tc]] w fun e w' => (∃ A c, e = .returned (.slice A (spK ss tl).length c) ∧ (spK ss tl).length ≤ c ∧ SP w' A (spK ss tl).length (spK ss tl)) ∧ Below w.heap.size w w' := by
  have B1 : Below w.heap.size w (w.alloc (.cells #[vz, .slice ta tl tc] 25)) := bl_new _
  have N0 : (w.alloc (.cells #[vz, .slice ta tl tc] 25)).heap[w.heap.size]? = _ := World.alloc_heap_new w _
  have p1 : (w.alloc (.cells #[vz, .slice ta tl tc] 25)).cell? ⟨w.heap.size, 1, none⟩ = some (.slice ta tl tc) := by
    unfold World.cell?; rw [N0]; rfl
  have HS := hide hs
  have HSL := hide hs.1
  have HOK := hide hok
  have HB := hide B1
  have HKL := hide (spK_len ss (fun s h => ne_pts_len (hok s h)))
  clear hs hok B1 N0
  go_enter Try.func15, Try.ntmps15
  go_wp2_with fail
  clear p1
  go_loopw [3, 11] (fun v i wr => ∃ k : Nat, k ≤ tl ∧ i = .int .i64 k ∧ OutS wr w.heap.size v (spK ss k) ∧ Below w.heap.size w wr) (fun _ i _ => tl - (intOf i).toNat)
  case atStart => exact ⟨0, Nat.zero_le _, rfl, by simpa [spK] using OutS.nil _ _, HB.out⟩
  case round =>
    obtain ⟨k, hk, rfl, hout, hB⟩ := hrel
    have HOUT := hide hout
    have HBr := hide hB
    clear hout hB
    by_cases hlt : k < tl
    · have hkl : k < ss.length := by rw [HSL.out]; exact hlt
      obtain ⟨b, off, rfl, hat⟩ := (HS.out.below HBr.out).at (by omega)
      obtain ⟨q, hq, k0, k1, k2, k3, k4, k5, k6, k7⟩ := hat k hlt
      have z1 := lt_of_cell k0
      simp only at z1
      have B3 : Below wr.heap.size wr (wr.alloc (.cells q.cs 46)) := bl_new _
      obtain ⟨y0, y1, y2, y3, y4, y5, y6, y7⟩ := (SW.new q wr).cells
      have hptk := HOK.out _ (mem_getS ss k hkl)
      have HKS := hide (spK_succ ss k)
      have hkb := HKL.out k (by omega)
      obtain ⟨s, hs⟩ : ∃ s, s = ss[k]?.getD stmD := ⟨_, rfl⟩
      rw [← hs] at hq hptk HKS
      have h1 := hq.below B3
      have HALL := hide (rAll_okT q.ba q.bl q.bc s.box q.ra q.rl q.rc s.rows _ h1.box h1.rows hptk)
      have hn4 := ne_pts_len hptk
      have HB3 := hide B3
      obtain ⟨ba, bl, bc, ra, rl, rc, kd, va, ⟨parr, pca, pcl, pcc, pcon⟩, ga, gl, gc⟩ := q
      simp only [SW.cs] at *
      clear hat hq B3 hkl hs h1 hptk
      go_wp2_with fail
      refine HALL.out.mono ?_
      rintro e w2 ⟨⟨A, c, rfl, hLL⟩, hb⟩
      obtain ⟨n, hn⟩ : ∃ n, n = (pts s.box s.rows).length := ⟨_, rfl⟩
      rw [← hn] at hLL hn4
      rw [← hn]
      have HN := hide hn
      have HLL := hide hLL
      have HB2 := hide (bl_on HB3.out hb)
      have HO2 := hide (HOUT.out.below HB2.out)
      have hsz := HBr.out.size
      have hsz2 := HB2.out.size
      clear hb hLL hn k0 k1 k2 k3 k4 k5 k6 k7 y0 y1 y2 y3 y4 y5 y6 y7
      go_wp2_with fail
      go_loopw [3, 20] (fun v i wr2 => ∃ j : Nat, j ≤ n ∧ i = .int .i64 j ∧ OutS wr2 w.heap.size v (spK ss k ++ ((pts s.box s.rows).take j).map (fun x => (k, x))) ∧ Below w.heap.size w wr2 ∧ LLT wr2 A n (pts s.box s.rows)) (fun _ i _ => n - (intOf i).toNat)
      case atStart => exact ⟨0, Nat.zero_le _, rfl, by simpa using HO2.out, bl_on HBr.out HB2.out, HLL.out⟩
      case round =>
        obtain ⟨j, hj, rfl, hout, hB, hL⟩ := hrel
        have HOUT2 := hide hout
        have HBr2 := hide hB
        have HL2 := hide hL
        clear hout hB hL
        by_cases hlt2 : j < n
        · obtain ⟨xb, xo, rfl, hat⟩ := HL2.out.at (by omega)
          obtain ⟨xa, xl, xc, x1, x2, x3⟩ := hat j hlt2
          have z1 := lt_of_cell x1
          simp only at z1
          have hjl : j < (pts s.box s.rows).length := by rw [← HN.out]; exact hlt2
          have HT : Hid (((pts s.box s.rows).take (j + 1)).map (fun x => (k, x)) = ((pts s.box s.rows).take j).map (fun x => (k, x)) ++ [(k, (pts s.box s.rows)[j]?.getD [])]) := by
            rw [Hid, List.take_succ_eq_append_getElem hjl, List.map_append]; simp [hjl]
          have HLen : Hid ((spK ss k ++ ((pts s.box s.rows).take j).map (fun x => (k, x))).length ≤ 2097152) := by
            rw [Hid, List.length_append, List.length_map, List.length_take]
            omega
          obtain ⟨x, hx⟩ : ∃ x, x = (pts s.box s.rows)[j]?.getD [] := ⟨_, rfl⟩
          rw [← hx] at x2 HT
          have HX2 := hide x2
          have HX3 := hide x3
          have hsz3 := HBr2.out.size
          clear hat hx hjl x2 x3
          go_wp2_with (at_builtin; refine append_spot rfl (.tmp 24) (.tmp 28) rfl w.heap.size _ rfl (spK ss k ++ ((pts s.box s.rows).take j).map (fun x => (k, x))) k xa xl xc x HOUT2.out HX2.out HX3.out rfl (by have := HLen.out; omega) hsz3 ?_; intro v4 w4 hout4 hb4 hty4; have HO4 := hide hout4; have HB4 := hide hb4; have HTY4 := hide hty4; clear hout4 hb4 hty4)
          go_roundw
          case rel =>
            refine ⟨j + 1, by omega, by go_num, ?_, HBr2.out.trans HB4.out, ?_⟩
            · rw [HT.out, ← List.append_assoc]; exact HO4.out
            · exact HL2.out.cells (fun b cur h => HTY4.out _ b cur (by decide) h) (fun b cur h => HTY4.out _ b cur (by decide) h)
          case measure => simp [intOf]; omega
        · obtain rfl : n = j := by omega
          have hO := HOUT2.out
          rw [List.take_of_length_le (by rw [← HN.out]; exact Nat.le_refl _)] at hO
          have HO5 := hide hO
          clear hO
          go_wp2_with fail
          go_roundw
          case rel =>
            refine ⟨k + 1, by omega, by go_num, ?_, HBr2.out⟩
            rw [HKS.out]; exact HO5.out
          case measure => simp [intOf]; omega
    · obtain rfl : tl = k := by omega
      obtain ⟨A, c, hv, hc, hS⟩ := HOUT.out.spc
      subst hv
      have HSP := hide hS
      have HCP := hide hc
      clear hS hc
      go_wp2_with fail
      go_ret
      exact ⟨⟨A, c, rfl, HCP.out, HSP.out⟩, HBr.out⟩
theorem rSpots_any (vz : Value) (ta : Option Addr) (tl tc : Nat) (ss : List Stm) (w : World) (hs : Stms w ta tl ss) (h256 : tl ≤ 256) (hok : ∀ s ∈ ss, PtOk s.box s.rows) :
    Calls Try.prog 15 #[.agg #[vz, .slice ta tl tc]] w fun e w' => (∃ A c, e = .returned (.slice A (spK ss tl).length c) ∧ SP w' A (spK ss tl).length (spK ss tl)) ∧ Below w.heap.size w w' :=
  (rSpots_cap vz ta tl tc ss w hs h256 hok).mono (by rintro e w' ⟨⟨A, c, h1, _, h3⟩, h4⟩; exact ⟨⟨A, c, h1, h3⟩, h4⟩)
end Go.Proofs.Ytindmfpfpooijaa.V
