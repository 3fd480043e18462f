/-
  Contracts: what a member has at first. Contract: a member is made. Contract: a member is made. Contract: a member is made.
-/
import Derived.Test.YticcoacoepajpaaPK14
import Derived.Test.YticcoacoepajpaaPK5
import Derived.Deep.DeepCutAuto
import Derived.Test.YticcoacoepajpaaPK4
import Derived.Test.YticcoacoepajpaaPK6
namespace Go.Proofs.Yticcoacoepajpaa.V
open Go Go.RowKit
set_option linter.unusedVariables false
set_option linter.unusedSimpArgs false

theorem pc_num {W : World} {b len n p : Nat} {xs : List Int} (h : Num W ⟨some ⟨b, 0, none⟩, len, len⟩ xs) (hn : 1 ≤ n) (hp : p < n) : Num W (pcS b len n p) (pieceL xs p n) := by
  have hl : xs.length = len := h.len
  have h1 := pcB_le (len := len) (n := n) (p := p) (by omega) (by omega)
  have h2 := pcB_le (len := len) (n := n) (p := p + 1) (by omega) (by omega)
  have h3 := pcB_mono (len := len) (n := n) (p := p) (q := p + 1) (by omega)
  have e : pieceL xs p n = (xs.take (pcB len n (p + 1))).drop (pcB len n p) := by unfold pieceL pcB; rw [hl]
  rw [e]
  have hlen : ((xs.take (pcB len n (p + 1))).drop (pcB len n p)).length = pcB len n (p + 1) - pcB len n p := by simp; omega
  refine ⟨⟨hlen, ?_, fun x hx => h.ints.2.2.1 x (List.mem_of_mem_take (List.mem_of_mem_drop hx)), ?_⟩, ?_, fun b' hO => ?_⟩
  · have := h.ints.2.1
    show pcB len n (p + 1) - pcB len n p ≤ _
    simp only at this
    omega
  · by_cases h0 : pcB len n (p + 1) - pcB len n p = 0
    · exact .inl h0
    · have hne : ¬ len = pcB len n p := by omega
      obtain ⟨b', off, e1, _, hc⟩ := h.at (show 0 < len by omega)
      simp only [Option.some.injEq, Addr.mk.injEq] at e1
      obtain ⟨rfl, rfl, _⟩ := e1
      refine .inr ⟨b, pcB len n p, by simp only [pcS, if_neg hne], fun j hj => ?_⟩
      have hj' : j < pcB len n (p + 1) - pcB len n p := hj
      have := hc (pcB len n p + j) (show _ < len by omega)
      rw [Nat.zero_add] at this
      rw [this]
      congr 2
      rw [List.getElem?_drop, List.getElem?_take_of_lt (by omega)]
  · show pcB len n (p + 1) - pcB len n p ≤ len - pcB len n p
    omega
  · obtain ⟨h0, off, e1⟩ := hO
    have h0' : 0 < pcB len n (p + 1) - pcB len n p := h0
    refine h.blk b' ⟨show 0 < len by omega, ?_⟩
    simp only [pcS] at e1
    split at e1
    · exact ⟨_, e1⟩
    · simp only [Option.some.injEq, Addr.mk.injEq] at e1
      exact ⟨0, by simp [e1.1]⟩
theorem pc_on {b len n p b' : Nat} (h : (pcS b len n p).On b') : b' = b := by
  obtain ⟨_, off, e⟩ := h
  simp only [pcS] at e
  split at e <;> (simp only [Option.some.injEq, Addr.mk.injEq] at e; exact e.1.symm)
theorem pc_apt {b len n j k : Nat} (hn : 1 ≤ n) (hj : j < n) (hk : k < n) (hne : j ≠ k) : Ap (pcS b len n j) (pcS b len n k) := by
  have key : ∀ {j k : Nat}, j < k → k < n → Ap (pcS b len n j) (pcS b len n k) := fun {j k} hjk hkn b' o p h1 h2 e1 e2 => by
    have h1' : 0 < pcB len n (j + 1) - pcB len n j := h1
    have h2' : 0 < pcB len n (k + 1) - pcB len n k := h2
    have a1 := pcB_le (len := len) (n := n) (p := j + 1) (by omega) (by omega)
    have a2 := pcB_le (len := len) (n := n) (p := k + 1) (by omega) (by omega)
    have a3 := pcB_mono (len := len) (n := n) (p := j + 1) (q := k) (by omega)
    have n1 : ¬ len = pcB len n j := by omega
    have n2 : ¬ len = pcB len n k := by omega
    simp only [pcS, if_neg n1, Option.some.injEq, Addr.mk.injEq] at e1
    simp only [pcS, if_neg n2, Option.some.injEq, Addr.mk.injEq] at e2
    left
    show o + (pcB len n (j + 1) - pcB len n j) ≤ p
    omega
  by_cases h : j < k
  · exact key h hk
  · exact (key (show k < j by omega) hj).symm
theorem size_stock : (Try.prog.info? 80).map (·.size) = some 2 := by kernel_rfl
theorem set2_heap {w : World} {C : Nat} {cur : Array Value} {ty : TypeId} {f : Nat × Nat} {a b : Value} (h : w.heap[C]? = some (.cells cur ty f)) (hs : cur.size = 2) : ((w.setCell ⟨C, 0, none⟩ a).setCell ⟨C, 1, none⟩ b).heap[C]? = some (.cells #[a, b] ty f) := by
  obtain ⟨l⟩ := cur
  match l, hs with
  | [x0, x1], _ => simp [World.setCell, Array.getElem?_modify, h]
theorem set2_other {w : World} {C : Nat} {a b : Value} {B : Nat} (hB : B ≠ C) : ((w.setCell ⟨C, 0, none⟩ a).setCell ⟨C, 1, none⟩ b).heap[B]? = w.heap[B]? := by
  rw [Below.heap_setCell _ _ _ _ hB, Below.heap_setCell _ _ _ _ hB]
theorem set2_below {N : Nat} {W w : World} {C : Nat} {a b : Value} (h : Below N W w) (hC : N ≤ C) : Below N W ((w.setCell ⟨C, 0, none⟩ a).setCell ⟨C, 1, none⟩ b) :=
  ⟨h.os, h.tape, h.output, by simp [World.setCell]; exact h.size, fun B hB => (set2_other (by omega)).trans (h.block B hB)⟩
theorem ls_made0 (w : World) (n : Nat) : LsAt (w.alloc (.cells (madeCells #[.slice none 0 0] n) 24)) w.heap.size n (fun _ => slZ) :=
  ⟨_, World.alloc_heap_new _ _, by simp [madeCells], fun k hk => by
    rw [← Array.getElem?_toList, toList_madeCells_one, List.getElem?_replicate, if_pos hk]
    rfl⟩
def hv (h n : Nat) : Value := .slice (some ⟨h, 0, none⟩) n n
set_option maxHeartbeats 1000000 in
theorem cut_any (b len n me : Nat) (w : World) (hn : 1 ≤ n) (h16 : n ≤ 16) (h6 : len ≤ 65536) :
    Calls Try.prog 55 #[.slice (some ⟨b, 0, none⟩) len len, .int .i64 (n : Int), .int .i64 (me : Int)] w fun e w' => (∃ h, e = .returned (.agg #[hv h n, hv h n]) ∧ LsAt w' h n (pcS b len n) ∧ w.heap.size ≤ h) ∧ Below w.heap.size w w' := by
  unfold hv
  go_enter Try.func55, Try.ntmps55
  go_upto_region 2 with (go_at_call 61; refine (pieces_any b len n _ hn h16 h6).mono ?_; rintro e w1 ⟨⟨rfl, hl⟩, hb⟩; have HL := hide hl; have HB := hide hb; clear hl hb)
  have hz : w.heap.size < (w.alloc (.cells #[.slice none 0 0, .slice none 0 0] 80)).heap.size := by simp
  have hr := (HB.out.block _ hz).trans (World.alloc_heap_new _ _)
  have c0 : w1.cell? ⟨w.heap.size, 0, none⟩ = some (.slice none 0 0) := by simp only [World.cell?, hr]; rfl
  have c1 : w1.cell? ⟨w.heap.size, 1, none⟩ = some (.slice none 0 0) := by simp only [World.cell?, hr]; rfl
  have cf : ∀ k, w1.frozen? ⟨w.heap.size, k, none⟩ = false := fun k => by simp [World.frozen?, hr]
  have z1 := (Array.getElem?_eq_some_iff.1 hr).1
  have HR := hide hr
  clear hr hz
  go_wp2
  refine bodyPost_ret (results_cell_row Try.results55 _ _ w.heap.size 80 _ (0, 0) _ rfl (set2_heap HR.out rfl) Try.underlying80 rfl size_stock) rfl ⟨⟨_, rfl, ?_, by simp⟩, set2_below (bl_on (bl_new _) HB.out) (Nat.le_refl _)⟩
  have hls : LsAt w1 (w.heap.size + 1) n (pcS b len n) := by
    have h5 := HL.out
    have e : (w.alloc (.cells #[.slice none 0 0, .slice none 0 0] 80)).heap.size = w.heap.size + 1 := by simp
    rw [e] at h5
    exact h5
  exact hls.keep (set2_other (by omega))
set_option maxHeartbeats 1000000 in
theorem whole_any (x : Sl) (n me : Nat) (w : World) (hn : 1 ≤ n) (h16 : n ≤ 16) (hme : me < n) :
    Calls Try.prog 56 #[.slice x.a x.n x.c, .int .i64 (n : Int), .int .i64 (me : Int)] w fun e w' => (∃ h, e = .returned (.agg #[hv h n, hv h n]) ∧ LsAt w' h n (fun k => if k = me then x else slZ) ∧ w.heap.size ≤ h) ∧ Below w.heap.size w w' := by
  unfold hv
  have hmk := run_make_row' (P := Try.prog) 22 24 (.slice none 0 0) 24 Try.underlying22 info_arrs rfl .i64 .i64 n (by omega) (by omega)
  have hmz : (me : Int) < (n : Int) := by omega
  go_enter Try.func56, Try.ntmps56
  go_upto_region 2 with fail
  obtain ⟨V, hV⟩ : ∃ V, V = (w.alloc (.cells #[.slice none 0 0, .slice none 0 0] 80)).alloc (.cells (madeCells #[.slice none 0 0] n) 24) := ⟨_, rfl⟩
  rw [← hV]
  have hls : LsAt V (w.heap.size + 1) n (fun _ => slZ) := by
    rw [hV]
    have h5 := ls_made0 (w.alloc (.cells #[.slice none 0 0, .slice none 0 0] 80)) n
    have e : (w.alloc (.cells #[.slice none 0 0, .slice none 0 0] 80)).heap.size = w.heap.size + 1 := by simp
    rw [e] at h5
    exact h5
  have hb : Below w.heap.size w V := by rw [hV]; exact (bl_new _).alloc (by simp) _
  have hr : V.heap[w.heap.size]? = some (.cells #[.slice none 0 0, .slice none 0 0] 80 (0, 0)) := by
    rw [hV]
    exact ((bl_new (w := w.alloc _) _).block _ (by simp)).trans (World.alloc_heap_new _ _)
  have d0 := hls.cell hme
  have df := hls.frozen me
  have dz := hls.lt
  unfold slZ at d0
  simp only at d0
  have HLS := hide hls
  have HB := hide hb
  have HR := hide hr
  clear hV hls hb hr hmk
  go_upto_region 3 with fail
  obtain ⟨V2, hV2⟩ : ∃ U, U = V.setCell ⟨w.heap.size + 1, me, none⟩ (.slice x.a x.n x.c) := ⟨_, rfl⟩
  rw [← hV2]
  have hls2 : LsAt V2 (w.heap.size + 1) n (fun k => if k = me then x else slZ) := by rw [hV2]; exact HLS.out.set hme x
  have hb2 : Below w.heap.size w V2 := by rw [hV2]; exact HB.out.setCell (by simp) _
  have hr2 : V2.heap[w.heap.size]? = some (.cells #[.slice none 0 0, .slice none 0 0] 80 (0, 0)) := by rw [hV2, Below.heap_setCell _ _ _ _ (by simp)]; exact HR.out
  have c0 : V2.cell? ⟨w.heap.size, 0, none⟩ = some (.slice none 0 0) := by simp only [World.cell?, hr2]; rfl
  have c1 : V2.cell? ⟨w.heap.size, 1, none⟩ = some (.slice none 0 0) := by simp only [World.cell?, hr2]; rfl
  have cf : ∀ k, V2.frozen? ⟨w.heap.size, k, none⟩ = false := fun k => by simp [World.frozen?, hr2]
  have z1 := (Array.getElem?_eq_some_iff.1 hr2).1
  have HLS2 := hide hls2
  have HB2 := hide hb2
  have HR2 := hide hr2
  clear hV2 hls2 hb2 hr2
  go_wp2
  refine bodyPost_ret (results_cell_row Try.results56 _ _ w.heap.size 80 _ (0, 0) _ rfl (set2_heap HR2.out rfl) Try.underlying80 rfl size_stock) rfl ⟨⟨_, rfl, HLS2.out.keep (set2_other (by omega)), by omega⟩, set2_below HB2.out (Nat.le_refl _)⟩
set_option maxHeartbeats 2000000 in
theorem apart_any (b len n me : Nat) (w : World) (hn : 1 ≤ n) (h16 : n ≤ 16) (h6 : len ≤ 65536) (hme : me < n) :
    Calls Try.prog 57 #[.slice (some ⟨b, 0, none⟩) len len, .int .i64 (n : Int), .int .i64 (me : Int)] w fun e w' => (∃ h h', e = .returned (.agg #[hv h n, hv h' n]) ∧ LsAt w' h n (pcS b len n) ∧ LsAt w' h' n (fun k => if k = me then pcS b len n me else slZ) ∧ w.heap.size ≤ h ∧ w.heap.size ≤ h' ∧ h ≠ h') ∧ Below w.heap.size w w' := by
  unfold hv
  have hmk := run_make_row' (P := Try.prog) 22 24 (.slice none 0 0) 24 Try.underlying22 info_arrs rfl .i64 .i64 n (by omega) (by omega)
  have hmz : (me : Int) < (n : Int) := by omega
  go_enter Try.func57, Try.ntmps57
  go_upto_region 1 with fail
  obtain ⟨V, hV⟩ : ∃ V, V = w.alloc (.cells #[.slice none 0 0, .slice none 0 0] 80) := ⟨_, rfl⟩
  rw [← hV]
  have hb : Below w.heap.size w V := by rw [hV]; exact bl_new _
  have hr : V.heap[w.heap.size]? = some (.cells #[.slice none 0 0, .slice none 0 0] 80 (0, 0)) := by rw [hV]; exact World.alloc_heap_new _ _
  have hs : w.heap.size < V.heap.size := (Array.getElem?_eq_some_iff.1 hr).1
  have HB := hide hb
  have HR := hide hr
  clear hV hb hr
  go_cut [7, 8] (fun s7 s8 wc => ∃ h h', s7 = .slice (some ⟨h, 0, none⟩) n n ∧ s8 = .slice (some ⟨h', 0, none⟩) n n ∧ LsAt wc h n (pcS b len n) ∧ LsAt wc h' n (fun _ => slZ) ∧ V.heap.size ≤ h ∧ V.heap.size ≤ h' ∧ h ≠ h' ∧ Below V.heap.size V wc)
  case first =>
    go_region_with (first | (go_at_call 61; refine (pieces_any b len n _ hn h16 h6).mono ?_; rintro e w1 ⟨⟨rfl, hl⟩, hb⟩; have HL := hide hl; have HB1 := hide hb; clear hl hb))
    all_goals go_wp2
    all_goals go_meet
    · have hb1 : Below V.heap.size V w1 := ⟨HB1.out.os, HB1.out.tape, HB1.out.output, HB1.out.size, HB1.out.block⟩
      have hl1 : LsAt w1 V.heap.size n (pcS b len n) := HL.out
      exact ⟨V.heap.size, w1.heap.size, rfl, rfl, hl1.keep ((bl_new (w := w1) _).block _ hl1.lt), ls_made0 w1 n, Nat.le_refl _, hb1.size, by have := hl1.lt; omega, hb1.alloc hb1.size _⟩
    · have e : (V.alloc (.cells (madeCells #[.slice none 0 0] n) 24)).drew.heap.size = V.heap.size + 1 := by simp
      have hb1 : Below (V.heap.size + 1) (V.alloc (.cells (madeCells #[.slice none 0 0] n) 24)).drew w1 := by
        have h5 := HB1.out
        rw [e] at h5
        exact h5
      have hl1 : LsAt w1 (V.heap.size + 1) n (pcS b len n) := by
        have h5 := HL.out
        rw [e] at h5
        exact h5
      have hl2 : LsAt (V.alloc (.cells (madeCells #[.slice none 0 0] n) 24)).drew V.heap.size n (fun _ => slZ) := (ls_made0 V n).keep rfl
      have hb2 : Below V.heap.size V (V.alloc (.cells (madeCells #[.slice none 0 0] n) 24)).drew := (bl_new _).drew
      exact ⟨V.heap.size + 1, V.heap.size, rfl, rfl, hl1, hl2.keep (hb1.block _ (by omega)), by omega, Nat.le_refl _, by omega, hb2.trans (hb1.mono (by omega))⟩
  case rest =>
    obtain ⟨h, h', rfl, rfl, hl, hl', z, z', hne, hb⟩ := hcut
    have d1 := hl.cell hme
    have e1 := hl'.cell hme
    have ef := hl'.frozen me
    have dz := hl.lt
    have ez := hl'.lt
    unfold slZ at e1
    simp only at e1
    have hr2 := (hb.block _ hs).trans HR.out
    have HL := hide hl
    have HL' := hide hl'
    have HBB := hide (bl_on HB.out hb)
    have HRR := hide hr2
    clear hl hl' hb hr2 hmk
    go_upto_region 3 with fail
    obtain ⟨V2, hV2⟩ : ∃ U, U = wc.setCell ⟨h', me, none⟩ (.slice (pcS b len n me).a (pcS b len n me).n (pcS b len n me).c) := ⟨_, rfl⟩
    rw [← hV2]
    have hls2 : LsAt V2 h' n (fun k => if k = me then pcS b len n me else slZ) := by rw [hV2]; exact HL'.out.set hme (pcS b len n me)
    have hls1 : LsAt V2 h n (pcS b len n) := by rw [hV2]; exact HL.out.keep (Below.heap_setCell _ _ _ _ hne)
    have hb2 : Below w.heap.size w V2 := by rw [hV2]; exact HBB.out.setCell (by simp only; omega) _
    have hr2 : V2.heap[w.heap.size]? = some (.cells #[.slice none 0 0, .slice none 0 0] 80 (0, 0)) := by rw [hV2, Below.heap_setCell _ _ _ _ (by simp only; omega)]; exact HRR.out
    have c0 : V2.cell? ⟨w.heap.size, 0, none⟩ = some (.slice none 0 0) := by simp only [World.cell?, hr2]; rfl
    have c1 : V2.cell? ⟨w.heap.size, 1, none⟩ = some (.slice none 0 0) := by simp only [World.cell?, hr2]; rfl
    have cf : ∀ k, V2.frozen? ⟨w.heap.size, k, none⟩ = false := fun k => by simp [World.frozen?, hr2]
    have z1 := (Array.getElem?_eq_some_iff.1 hr2).1
    have HLS2 := hide hls2
    have HLS1 := hide hls1
    have HB2 := hide hb2
    have HR2 := hide hr2
    clear hV2 hls2 hls1 hb2 hr2
    go_wp2
    exact bodyPost_ret (results_cell_row Try.results57 _ _ w.heap.size 80 _ (0, 0) _ rfl (set2_heap HR2.out rfl) Try.underlying80 rfl size_stock) rfl ⟨⟨h, h', rfl, HLS1.out.keep (set2_other (by omega)), HLS2.out.keep (set2_other (by omega)), by omega, by omega, hne⟩, set2_below HB2.out (Nat.le_refl _)⟩
end Go.Proofs.Yticcoacoepajpaa.V
namespace Go.Proofs.Yticcoacoepajpaa.V
open Go Go.RowKit
set_option linter.unusedVariables false
set_option linter.unusedSimpArgs false

theorem prt_beg {d n me : Nat} {xs : List Int} {k : Nat} (hk : k < n) : prt (begM d n me xs).parts k = (if d = 3 then (if k = me then xs else []) else pieceL xs k n) ∧ prt (begM d n me xs).own k = (if d = 3 then (if k = me then xs else []) else pieceL xs k n) := by
  unfold begM prt
  simp [hk]
theorem prt_beg_out {d n me : Nat} {xs : List Int} {k : Nat} (hk : ¬ k < n) : prt (begM d n me xs).parts k = [] ∧ prt (begM d n me xs).own k = [] := by
  unfold begM prt
  simp [hk]
theorem pieceL_len (xs : List Int) (p n : Nat) (hn : 1 ≤ n) (hp : p < n) : (pieceL xs p n).length = pcB xs.length n (p + 1) - pcB xs.length n p := by
  have h1 := pcB_le (len := xs.length) (n := n) (p := p + 1) (by omega) (by omega)
  unfold pieceL
  unfold pcB at h1 ⊢
  simp
  omega
theorem beg_small {d n me : Nat} {xs : List Int} (hn : 1 ≤ n) (h6 : xs.length ≤ 65536) (k : Nat) : (prt (begM d n me xs).parts k).length ≤ 65536 ∧ (prt (begM d n me xs).own k).length ≤ 65536 := by
  by_cases hk : k < n
  · rw [(prt_beg hk).1, (prt_beg hk).2]
    have : (if d = 3 then (if k = me then xs else []) else pieceL xs k n).length ≤ 65536 := by
      split
      · split
        · exact h6
        · simp
      · rw [pieceL_len xs k n hn hk]
        have := pcB_le (len := xs.length) (n := n) (p := k + 1) (by omega) (by omega)
        omega
    exact ⟨this, this⟩
  · rw [(prt_beg_out hk).1, (prt_beg_out hk).2]
    simp
theorem even_piece {xs : List Int} {n k : Nat} (hn : 1 ≤ n) (hk : k < n) (h : xs.length % n = 0) : (pieceL xs k n).length = xs.length / n := by
  rw [pieceL_len xs k n hn hk]
  obtain ⟨q, hq⟩ : ∃ q, xs.length = q * n := ⟨xs.length / n, by have := Nat.div_add_mod xs.length n; rw [h] at this; rw [Nat.mul_comm]; omega⟩
  unfold pcB
  rw [hq, ← Nat.mul_assoc, ← Nat.mul_assoc, Nat.mul_div_cancel _ (by omega), Nat.mul_div_cancel _ (by omega), Nat.mul_div_cancel _ (by omega), Nat.succ_mul]
  omega
theorem StOk.beg {d n me : Nat} {xs : List Int} (h1 : 1 ≤ d) (h4 : d ≤ 4) (hn : 1 ≤ n) (h16 : n ≤ 16) (hme : me < n) (h6 : xs.length ≤ 65536) (hev : d = 4 → xs.length % n = 0) : StOk d n me (begM d n me xs) := by
  refine ⟨h1, h4, hn, h16, hme, by simp [begM], by simp [begM], Nat.zero_le _, Nat.zero_le _, fun t ys h => by simp [begM, lookL] at h, beg_small hn h6, fun t ys h => by simp [begM, lookL] at h, fun hd k j hk hj => ?_, fun _ t ys _ h => by simp [begM, lookL] at h⟩
  rw [(prt_beg hk).1, (prt_beg hj).2, if_neg (by omega), if_neg (by omega), even_piece hn hk (hev hd), even_piece hn hj (hev hd)]
/-- What a member has at first, in memory. -/
structure StockAt (W : World) (B d n me : Nat) (xs : List Int) (hs hh : Nat) (Ss Sh : Nat → Sl) : Prop where
  rowS : LsAt W hs n Ss
  rowH : LsAt W hh n Sh
  same : d ≠ 4 → hs = hh ∧ Ss = Sh
  other : d = 4 → hs ≠ hh
  bs : B ≤ hs
  bh : B ≤ hh
  snd : ∀ k, k < n → Num W (Ss k) (prt (begM d n me xs).parts k) ∧ ∀ b, (Ss k).On b → B ≤ b
  has : ∀ k, k < n → (Known d n me 0 k → Num W (Sh k) (prt (begM d n me xs).parts k)) ∧ ∀ b, (Sh k).On b → B ≤ b ∧ b < W.heap.size
  apt : ∀ j k, j < n → k < n → j ≠ k → Ap (Sh j) (Sh k)
theorem StockAt.below {W V : World} {B d n me : Nat} {xs : List Int} {hs hh : Nat} {Ss Sh : Nat → Sl} (h : StockAt W B d n me xs hs hh Ss Sh) (hb : Below W.heap.size W V) : StockAt V B d n me xs hs hh Ss Sh :=
  ⟨h.rowS.keep (hb.block _ h.rowS.lt), h.rowH.keep (hb.block _ h.rowH.lt), h.same, h.other, h.bs, h.bh, fun k hk => ⟨(h.snd k hk).1.below hb, (h.snd k hk).2⟩, fun k hk => ⟨fun hK => ((h.has k hk).1 hK).below hb, fun b hO => ⟨((h.has k hk).2 b hO).1, Nat.lt_of_lt_of_le ((h.has k hk).2 b hO).2 hb.size⟩⟩, h.apt⟩
theorem stock_cut {W : World} {B d n me : Nat} {xs : List Int} {h b len : Nat} (hd : d ≠ 4) (hd3 : d ≠ 3) (hn : 1 ≤ n) (hl : LsAt W h n (pcS b len n)) (hx : Num W ⟨some ⟨b, 0, none⟩, len, len⟩ xs) (hb : B ≤ b) (hbl : b < W.heap.size) (hB : B ≤ h) : StockAt W B d n me xs h h (pcS b len n) (pcS b len n) :=
  ⟨hl, hl, fun _ => ⟨rfl, rfl⟩, fun e => absurd e hd, hB, hB, fun k hk => ⟨by rw [(prt_beg hk).1, if_neg hd3]; exact pc_num hx hn hk, fun b' hO => by rw [pc_on hO]; exact hb⟩, fun k hk => ⟨fun _ => by rw [(prt_beg hk).1, if_neg hd3]; exact pc_num hx hn hk, fun b' hO => by rw [pc_on hO]; exact ⟨hb, hbl⟩⟩, fun j k hj hk hne => pc_apt hn hj hk hne⟩
theorem stock_whole {W : World} {B n me : Nat} {xs : List Int} {h b len : Nat} (hl : LsAt W h n (fun k => if k = me then ⟨some ⟨b, 0, none⟩, len, len⟩ else slZ)) (hx : Num W ⟨some ⟨b, 0, none⟩, len, len⟩ xs) (hb : B ≤ b) (hbl : b < W.heap.size) (hB : B ≤ h) : StockAt W B 3 n me xs h h (fun k => if k = me then ⟨some ⟨b, 0, none⟩, len, len⟩ else slZ) (fun k => if k = me then ⟨some ⟨b, 0, none⟩, len, len⟩ else slZ) := by
  have hN : ∀ k, k < n → Num W (if k = me then ⟨some ⟨b, 0, none⟩, len, len⟩ else slZ) (prt (begM 3 n me xs).parts k) := fun k hk => by
    rw [(prt_beg hk).1, if_pos rfl]
    split
    · exact hx
    · exact Num.nil _
  have hO : ∀ (k b' : Nat), (if k = me then (⟨some ⟨b, 0, none⟩, len, len⟩ : Sl) else slZ).On b' → B ≤ b' ∧ b' < W.heap.size := fun k b' hO => by
    split at hO
    · obtain ⟨_, off, e⟩ := hO
      simp only [Option.some.injEq, Addr.mk.injEq] at e
      rw [← e.1]
      exact ⟨hb, hbl⟩
    · obtain ⟨h0, _⟩ := hO
      simp [slZ] at h0
  refine ⟨hl, hl, fun _ => ⟨rfl, rfl⟩, fun e => (by cases e), hB, hB, fun k hk => ⟨hN k hk, fun b' h' => (hO k b' h').1⟩, fun k hk => ⟨fun _ => hN k hk, hO k⟩, fun j k hj hk hne => ?_⟩
  by_cases e : j = me
  · simp only [if_neg (fun e' => hne (e.trans e'.symm) : ¬ k = me)]
    exact (Ap.nil _).symm
  · simp only [if_neg e]
    exact Ap.nil _
theorem stock_apart {W : World} {B n me : Nat} {xs : List Int} {h h' b len : Nat} (hn : 1 ≤ n) (hme : me < n) (hl : LsAt W h n (pcS b len n)) (hl' : LsAt W h' n (fun k => if k = me then pcS b len n me else slZ)) (hne : h ≠ h') (hx : Num W ⟨some ⟨b, 0, none⟩, len, len⟩ xs) (hb : B ≤ b) (hbl : b < W.heap.size) (hB : B ≤ h) (hB' : B ≤ h') : StockAt W B 4 n me xs h h' (pcS b len n) (fun k => if k = me then pcS b len n me else slZ) := by
  refine ⟨hl, hl', fun e => absurd rfl e, fun _ => hne, hB, hB', fun k hk => ⟨by rw [(prt_beg hk).1, if_neg (by decide)]; exact pc_num hx hn hk, fun b' hO => by rw [pc_on hO]; exact hb⟩, fun k hk => ⟨fun hK => ?_, fun b' hO => ?_⟩, fun j k hj hk hne => ?_⟩
  · have e : k = me := by
      rcases hK with h | h | ⟨t, ht, _⟩
      · exact absurd rfl h
      · exact h
      · omega
    simp only [if_pos e]
    rw [(prt_beg hk).1, if_neg (by decide), e]
    exact pc_num hx hn hme
  · split at hO
    · rw [pc_on hO]; exact ⟨hb, hbl⟩
    · obtain ⟨h0, _⟩ := hO
      simp [slZ] at h0
  · by_cases e : j = me
    · simp only [if_neg (fun e' => hne (e.trans e'.symm) : ¬ k = me)]
      exact (Ap.nil _).symm
    · simp only [if_neg e]
      exact Ap.nil _
def fStk (B d n me : Nat) (xs : List Int) : Fact := ⟨fun u W => ∃ h h' Ss Sh, u = .agg #[.slice (some ⟨h, 0, none⟩) n n, .slice (some ⟨h', 0, none⟩) n n] ∧ StockAt W B d n me xs h h' Ss Sh, false⟩
theorem fStk_good (B d n me : Nat) (xs : List Int) : (fStk B d n me xs).Good := ⟨fun _ _ _ ⟨h, h', Ss, Sh, h1, h2⟩ hb => ⟨h, h', Ss, Sh, h1, h2.below hb⟩, fun h => by cases h⟩
def fNew2 (N : Nat) : Fact := ⟨fun u W => ∃ C, u = .pointer (some ⟨C, 0, none⟩) ∧ W.heap[C]? = some (.cells #[.slice none 0 0, .slice none 0 0] 80 (0, 0)) ∧ N ≤ C, false⟩
theorem fNew2_good (N : Nat) : (fNew2 N).Good := ⟨fun _ _ _ ⟨C, h1, h2, h3⟩ hb => ⟨C, h1, (hb.block C (Array.getElem?_eq_some_iff.1 h2).1).trans h2, h3⟩, fun h => by cases h⟩
/-- A member is laid. -/
theorem mb_new {V : World} {N d n me : Nat} {xs : List Int} {ra hs hh : Nat} {Ss Sh : Nat → Sl} (hr : RdAt V d ra) (hra : N ≤ ra) (h : StockAt V N d n me xs hs hh Ss Sh) (hN : N ≤ V.heap.size) :
    MbAt ((V.alloc (.map #[] 0)).alloc (.cells (mbL d n me (begM d n me xs) ⟨ra, V.heap.size, hs, hh, Ss, Sh, []⟩).toArray 84)) (fun b => N ≤ b ∧ b < V.heap.size + 2) (V.heap.size + 1) d n me (begM d n me xs) ⟨ra, V.heap.size, hs, hh, Ss, Sh, []⟩ := by
  have hb1 : Below V.heap.size V (V.alloc (.map #[] 0)) := bl_new _
  have e1 : (V.alloc (.map #[] 0)).heap.size = V.heap.size + 1 := by simp
  obtain ⟨U, hU⟩ : ∃ U, U = (V.alloc (.map #[] 0)).alloc (.cells (mbL d n me (begM d n me xs) ⟨ra, V.heap.size, hs, hh, Ss, Sh, []⟩).toArray 84) := ⟨_, rfl⟩
  rw [← hU]
  have hb2 : Below V.heap.size V U := by rw [hU]; exact hb1.alloc (by simp) _
  have eU : U.heap.size = V.heap.size + 2 := by rw [hU]; simp
  have h2 := h.below hb2
  have hrl : ra < V.heap.size := by obtain ⟨cur, h1, _⟩ := hr; exact (Array.getElem?_eq_some_iff.1 h1).1
  refine ⟨?_, ?_, ?_, h2.rowS, h2.rowH, h.same, h.other, ⟨by omega, by omega⟩, ⟨hra, by show ra < _; omega⟩, ⟨hN, by show V.heap.size < _; omega⟩, ⟨h.bs, by have := h2.rowS.lt; show hs < _; omega⟩, ⟨h.bh, by have := h2.rowH.lt; show hh < _; omega⟩, fun k hk => ⟨?_, fun b hO => ⟨(h.snd k hk).2 b hO, by have := (h2.snd k hk).1.lt hO; omega⟩⟩, fun k hk => ⟨(h2.has k hk).1, fun b hO => ⟨⟨((h.has k hk).2 b hO).1, by have := ((h2.has k hk).2 b hO).2; omega⟩, ((h2.has k hk).2 b hO).2⟩⟩, h.apt, fun t ys _ => ?_, fun t v hv => ?_, fun t t' x y _ hx => ?_⟩
  · rw [hU]
    have := World.alloc_heap_new (V.alloc (.map #[] 0)) (.cells (mbL d n me (begM d n me xs) ⟨ra, V.heap.size, hs, hh, Ss, Sh, []⟩).toArray 84)
    rw [e1] at this
    exact this
  · obtain ⟨cur, h1, h3⟩ := hr
    exact ⟨cur, (hb2.block _ hrl).trans h1, h3⟩
  · refine (MpAt.new V).keep ?_
    rw [hU]
    exact (bl_new (w := V.alloc (.map #[] 0)) _).block _ (by simp)
  · have := (h2.snd k hk).1
    split
    · rw [(prt_beg hk).2, ← (prt_beg (d := d) (me := me) (xs := xs) hk).1]; exact this
    · exact this
  · simp [begM, lookL, lkM]
  · simp [lkM] at hv
  · simp [lkM] at hx
/-- A member was made. -/
def NewOk (w : World) (d n me : Nat) (xs : List Int) (e : Ending) (w' : World) : Prop := (∃ g G, e = .returned (.tuple #[pm g, .int .i64 0]) ∧ MbAt w' (fun b => w.heap.size ≤ b ∧ b < w'.heap.size) g d n me (begM d n me xs) G) ∧ Below w.heap.size w w'
set_option maxHeartbeats 1000000 in
theorem kindOf_zero (d : Int) (w : World) (h : d < 1 ∨ 4 < d) :
    Calls Try.prog 30 #[.int .i64 d] w fun e w' => e = .returned (.tuple #[.agg #[.bool false, .bool false, .nilFunc, .slice none 0 0, .nilFunc, .nilFunc, .nilFunc], .bool false]) ∧ Below w.heap.size w w' := by
  have h1 : (d == 1) = false := by simp; omega
  have h2 : (d == 2) = false := by simp; omega
  have h3 : (d == 3) = false := by simp; omega
  have h4 : (d == 4) = false := by simp; omega
  clear h
  go_enter Try.func30, Try.ntmps30
  go_wp2
  refine bodyPost_ret (v := .tuple #[.agg #[.bool false, .bool false, .nilFunc, .slice none 0 0, .nilFunc, .nilFunc, .nilFunc], .bool false]) (by simp [results, Try.results30, go_sem]) rfl ⟨rfl, ?_⟩
  exact ((((bl_new _).alloc (by simp) _).alloc (by simp; omega) _).alloc (by simp; omega) _)
set_option maxHeartbeats 2000000 in
theorem new_kind (d0 many me : Int) (x : Sl) (w : World) (h : d0 < 1 ∨ 4 < d0) :
    Calls Try.prog 16 #[.int .i64 d0, .int .i64 many, .int .i64 me, .slice x.a x.n x.c] w fun e w' => e = .returned (.tuple #[.pointer none, .int .i64 1]) ∧ Below w.heap.size w w' := by
  have HK := hide (kindOf_zero d0 w h)
  go_enter Try.func16, Try.ntmps16
  go_wp2_with (go_at_call 30; refine HK.out.mono ?_; rintro e w1 ⟨rfl, hb⟩; have HB := hide hb; clear hb)
  go_ret2
  exact ⟨rfl, HB.out.alloc HB.out.size _⟩
set_option maxHeartbeats 2000000 in
theorem new_range1 (d0 many me : Int) (x : Sl) (w : World) (h1 : 1 ≤ d0) (h4 : d0 ≤ 4) (h : many < 1) :
    Calls Try.prog 16 #[.int .i64 d0, .int .i64 many, .int .i64 me, .slice x.a x.n x.c] w fun e w' => e = .returned (.tuple #[.pointer none, .int .i64 4]) ∧ Below w.heap.size w w' := by
  obtain ⟨d, hd⟩ : ∃ d : Nat, d0 = (d : Int) := ⟨d0.toNat, by omega⟩
  subst hd
  have hk := kindOf_any d w (by omega) (by omega)
  unfold kindL fv at hk
  have HK := hide hk
  clear hk
  go_enter Try.func16, Try.ntmps16
  go_wp2_with (go_at_call 30; refine HK.out.mono ?_; rintro e w1 ⟨⟨ra, rfl, hra, hrd⟩, hb⟩; have HB := hide hb; clear hb hra hrd)
  go_ret2
  exact ⟨rfl, HB.out.alloc HB.out.size _⟩
set_option maxHeartbeats 2000000 in
theorem new_range2 (d0 many me : Int) (x : Sl) (w : World) (h1 : 1 ≤ d0) (h4 : d0 ≤ 4) (hn : ¬ many < 1) (h : 16 < many) :
    Calls Try.prog 16 #[.int .i64 d0, .int .i64 many, .int .i64 me, .slice x.a x.n x.c] w fun e w' => e = .returned (.tuple #[.pointer none, .int .i64 4]) ∧ Below w.heap.size w w' := by
  obtain ⟨d, hd⟩ : ∃ d : Nat, d0 = (d : Int) := ⟨d0.toNat, by omega⟩
  subst hd
  have hk := kindOf_any d w (by omega) (by omega)
  unfold kindL fv at hk
  have HK := hide hk
  clear hk
  go_enter Try.func16, Try.ntmps16
  go_wp2_with (go_at_call 30; refine HK.out.mono ?_; rintro e w1 ⟨⟨ra, rfl, hra, hrd⟩, hb⟩; have HB := hide hb; clear hb hra hrd)
  go_ret2
  exact ⟨rfl, HB.out.alloc HB.out.size _⟩
set_option maxHeartbeats 2000000 in
theorem new_range3 (d0 many me : Int) (x : Sl) (w : World) (h1 : 1 ≤ d0) (h4 : d0 ≤ 4) (hn : ¬ many < 1) (h16 : ¬ 16 < many) (h : me < 0) :
    Calls Try.prog 16 #[.int .i64 d0, .int .i64 many, .int .i64 me, .slice x.a x.n x.c] w fun e w' => e = .returned (.tuple #[.pointer none, .int .i64 4]) ∧ Below w.heap.size w w' := by
  obtain ⟨d, hd⟩ : ∃ d : Nat, d0 = (d : Int) := ⟨d0.toNat, by omega⟩
  subst hd
  have hk := kindOf_any d w (by omega) (by omega)
  unfold kindL fv at hk
  have HK := hide hk
  clear hk
  go_enter Try.func16, Try.ntmps16
  go_wp2_with (go_at_call 30; refine HK.out.mono ?_; rintro e w1 ⟨⟨ra, rfl, hra, hrd⟩, hb⟩; have HB := hide hb; clear hb hra hrd)
  go_ret2
  exact ⟨rfl, HB.out.alloc HB.out.size _⟩
set_option maxHeartbeats 2000000 in
theorem new_range4 (d0 many me : Int) (x : Sl) (w : World) (h1 : 1 ≤ d0) (h4 : d0 ≤ 4) (hn : ¬ many < 1) (h16 : ¬ 16 < many) (hm : ¬ me < 0) (h : many ≤ me) :
    Calls Try.prog 16 #[.int .i64 d0, .int .i64 many, .int .i64 me, .slice x.a x.n x.c] w fun e w' => e = .returned (.tuple #[.pointer none, .int .i64 4]) ∧ Below w.heap.size w w' := by
  obtain ⟨d, hd⟩ : ∃ d : Nat, d0 = (d : Int) := ⟨d0.toNat, by omega⟩
  subst hd
  have hk := kindOf_any d w (by omega) (by omega)
  unfold kindL fv at hk
  have HK := hide hk
  clear hk
  go_enter Try.func16, Try.ntmps16
  go_wp2_with (go_at_call 30; refine HK.out.mono ?_; rintro e w1 ⟨⟨ra, rfl, hra, hrd⟩, hb⟩; have HB := hide hb; clear hb hra hrd)
  go_ret2
  exact ⟨rfl, HB.out.alloc HB.out.size _⟩
set_option maxHeartbeats 2000000 in
theorem new_much (d0 many me : Int) (x : Sl) (w : World) (h1 : 1 ≤ d0) (h4 : d0 ≤ 4) (hn : ¬ many < 1) (h16 : ¬ 16 < many) (hm : ¬ me < 0) (hmm : ¬ many ≤ me) (h : 65536 < x.n) :
    Calls Try.prog 16 #[.int .i64 d0, .int .i64 many, .int .i64 me, .slice x.a x.n x.c] w fun e w' => e = .returned (.tuple #[.pointer none, .int .i64 5]) ∧ Below w.heap.size w w' := by
  obtain ⟨d, hd⟩ : ∃ d : Nat, d0 = (d : Int) := ⟨d0.toNat, by omega⟩
  subst hd
  have hk := kindOf_any d w (by omega) (by omega)
  unfold kindL fv at hk
  have HK := hide hk
  clear hk
  go_enter Try.func16, Try.ntmps16
  go_wp2_with (go_at_call 30; refine HK.out.mono ?_; rintro e w1 ⟨⟨ra, rfl, hra, hrd⟩, hb⟩; have HB := hide hb; clear hb hra hrd)
  go_ret2
  exact ⟨rfl, HB.out.alloc HB.out.size _⟩
set_option maxHeartbeats 2000000 in
theorem new_shape (d0 many me : Int) (x : Sl) (w : World) (h4 : d0 = 4) (hn : ¬ many < 1) (h16 : ¬ 16 < many) (hm : ¬ me < 0) (hmm : ¬ many ≤ me) (h6 : ¬ 65536 < x.n) (h : (x.n : Int).tmod many ≠ 0) :
    Calls Try.prog 16 #[.int .i64 d0, .int .i64 many, .int .i64 me, .slice x.a x.n x.c] w fun e w' => e = .returned (.tuple #[.pointer none, .int .i64 6]) ∧ Below w.heap.size w w' := by
  subst h4
  have hk := kindOf_4 w
  unfold kindL fv at hk
  rw [show decide (4 = 4) = true from rfl] at hk
  have HK := hide hk
  have m0 : ¬ many = 0 := by omega
  have m1 : (many == 0) = false := by simp; omega
  have w1' : wrap64 ((x.n : Int).tmod many) = (x.n : Int).tmod many := by
    have h1 := Int.tmod_lt_of_pos (x.n : Int) (show 0 < many by omega)
    have h2 := Int.tmod_nonneg many (Int.natCast_nonneg x.n)
    exact wrap_small (by omega) (by omega)
  have w2' : ((x.n : Int).tmod many == 0) = false := by simpa using h
  have w3' : ((x.n : Int).tmod many != 0) = true := by simpa using h
  have em : (x.n : Int).tmod many = (x.n : Int) % many := Int.tmod_eq_emod_of_nonneg (Int.natCast_nonneg _)
  rw [em] at h w1'
  have w4' : ((x.n : Int) % many == 0) = false := by simpa using h
  have w5' : ((x.n : Int) % many != 0) = true := by simpa using h
  have w6' : ¬ (x.n : Int) % many = 0 := h
  clear hk em w2' w3'
  go_enter Try.func16, Try.ntmps16
  go_wp2_with (go_at_call 30; refine HK.out.mono ?_; rintro e w1 ⟨⟨ra, rfl, hra, hrd⟩, hb⟩; have HB := hide hb; clear hb hra hrd)
  go_ret2
  exact ⟨rfl, HB.out.alloc HB.out.size _⟩
end Go.Proofs.Yticcoacoepajpaa.V
namespace Go.Proofs.Yticcoacoepajpaa.V
open Go Go.RowKit
set_option linter.unusedVariables false
set_option linter.unusedSimpArgs false

set_option maxRecDepth 20000 in
set_option maxHeartbeats 4000000 in
theorem new_cut (d n me : Nat) (x : Sl) (xs : List Int) (w : World) (hx : Ints w x.a x.n xs) (hd4 : d ≠ 4) (hd3 : d ≠ 3) (h1 : 1 ≤ d) (h4 : d ≤ 4) (hn : 1 ≤ n) (h16 : n ≤ 16) (hme : me < n) (h6 : x.n ≤ 65536) (hev : d = 4 → x.n % n = 0) :
    Calls Try.prog 16 #[.int .i64 (d : Int), .int .i64 (n : Int), .int .i64 (me : Int), .slice x.a x.n x.c] w fun e w' => NewOk w d n me xs e w' := by
  have hk := kindOf_any d w h1 h4
  unfold kindL fv at hk
  have hbg : begF d = 55 := by unfold begF; rw [if_neg hd4, if_neg hd3]
  have hb4 : decide (d = 4) = false := by simp; omega
  have hb4' : decide (d ≠ 4) = true := by simp; omega
  rw [hbg, hb4, hb4'] at hk
  have HB4 := hide hb4
  have HB4' := hide hb4'
  have HK := hide hk
  have HBG := hide hbg
  have HX0 : Hid (∀ V, Below w.heap.size w V → Ints V x.a x.n xs) := fun V hV => hx.below hV
  have q8 : ∀ X : Bool, (decide (d = 4) && X) = true → d = 4 := fun X h => by simp at h; exact h.1
  have HEV := hide hev
  have HDD : Hid (d = 4 → ((x.n : Int) % (n : Int) = 0)) := fun e => by have := hev e; omega
  have n0 : ¬ (n : Int) = 0 := by omega
  have n1 : ((n : Int) == 0) = false := by simp; omega
  have n2 : ¬ n = 0 := by omega
  have c1 : ¬ (n : Int) < 1 := by omega
  have c2 : ¬ 16 < (n : Int) := by omega
  have c3 : ¬ (me : Int) < 0 := by omega
  have c4 : ¬ (n : Int) ≤ (me : Int) := by omega
  have c5 : ¬ 65536 < (x.n : Int) := by omega
  have emod : d = 4 → x.n % n = 0 := hev
  clear hk hx hbg hev q8 hb4 hb4'
  go_enter Try.func16, Try.ntmps16
  go_upto_region 10 with (go_at_call 30; refine HK.out.mono ?_; rintro e w1 ⟨⟨ra, rfl, hra, hrd⟩, hb⟩; have HB := hide hb; have HRD := hide hrd; clear hb hrd)
  obtain ⟨V2, hV2⟩ : ∃ V, V = w1.alloc (.cells #[.bool false, .bool true, .func (.func 55) #[] #[], .slice (some ⟨ra, 0, none⟩) (rdN d) (rdN d), .func (.func (fitF d)) #[] #[], .func (.func (plcF d)) #[] #[], .func (.func (resF d)) #[] #[]] 76) := ⟨_, rfl⟩
  rw [show w1.alloc _ = V2 from hV2.symm]
  have hb2 : Below w.heap.size w V2 := by rw [hV2]; exact HB.out.alloc HB.out.size _
  have hkb : V2.heap[w1.heap.size]? = some (.cells #[.bool false, .bool true, .func (.func 55) #[] #[], .slice (some ⟨ra, 0, none⟩) (rdN d) (rdN d), .func (.func (fitF d)) #[] #[], .func (.func (plcF d)) #[] #[], .func (.func (resF d)) #[] #[]] 76 (0, 0)) := by rw [hV2]; exact World.alloc_heap_new _ _
  have k2 : V2.cell? ⟨w1.heap.size, 2, none⟩ = some (.func (.func 55) #[] #[]) := by simp only [World.cell?, hkb]; rfl
  have hrd2 : RdAt V2 d ra := by
    obtain ⟨cur, h7, h8⟩ := HRD.out
    refine ⟨cur, ?_, h8⟩
    rw [hV2]
    exact ((bl_new (w := w1) _).block _ (Array.getElem?_eq_some_iff.1 h7).1).trans h7
  have HB2 := hide hb2
  have HKB := hide hkb
  have HRD2 := hide hrd2
  have HX : Hid (∀ V, Below V2.heap.size V2 V → Ints V x.a x.n xs) := fun V hV => HX0.out V (bl_on HB2.out hV)
  clear hb2 hkb hrd2 hV2 emod
  refine region_made 8 9 [fIs (.pointer (some ⟨w1.heap.size, 2, none⟩)), fIs (.func (.func 55) #[] #[]), fIs (.slice x.a x.n x.c), fNum w.heap.size x.n xs, fIs (.int .i64 (n : Int)), fIs (.int .i64 (me : Int)), fStk w.heap.size d n me xs, fNew2 V2.heap.size] (by kernel_rfl) (by kernel_rfl) (by kernel_rfl) (fun _ ⟨_, _⟩ ⟨_, _⟩ _ e h => by cases e; exact h) ⟨fIs_good _, fIs_good _, fIs_good _, fNum_good _ _ _, fIs_good _, fIs_good _, fStk_good _ _ _ _ _, fNew2_good _, trivial⟩ ?mk ?rest
  case mk =>
    refine ⟨fun u wz hb hd => ?_, fun u wz hb hd => ?_, fun u wz hb hd => ?_, fun u wz hb hd => ?_, fun u wz hb hd => ?_, fun u wz hb hd => ?_, fun u wz hb hd => ?_, fun u wz hb hd => ?_, trivial⟩
    all_goals simp only [Act.put, List.setIfInBounds_toArray, List.set_cons_zero, List.set_cons_succ]
    · go_simp
      exact ⟨rfl, Below.refl _ _, fun h => by cases h⟩
    · have e0 : u 0 = .pointer (some ⟨w1.heap.size, 2, none⟩) := hd 0 (by omega) (by kernel_rfl)
      rw [e0]
      have k2' := (hb.cell (p := ⟨w1.heap.size, 2, none⟩) (lt_of_cell k2)).trans k2
      go_simp
      exact ⟨rfl, Below.refl _ _, fun h => by cases h⟩
    · go_simp
      exact ⟨rfl, Below.refl _ _, fun h => by cases h⟩
    · have e2 : u 2 = .slice x.a x.n x.c := hd 2 (by omega) (by kernel_rfl)
      rw [e2]
      go_simp
      refine (fresh_ints x xs wz (HX.out wz hb) h6).mono ?_
      rintro e w4 ⟨⟨g4, rfl, hn4, hg4, hl4⟩, hb4⟩
      have hsz := hb.size
      have hsz1 := HB2.out.size
      exact ⟨⟨g4, rfl, hn4, by omega, hl4⟩, hb4, fun h => by cases h⟩
    · go_simp
      exact ⟨rfl, Below.refl _ _, fun h => by cases h⟩
    · go_simp
      exact ⟨rfl, Below.refl _ _, fun h => by cases h⟩
    · have e1 : u 1 = .func (.func 55) #[] #[] := hd 1 (by omega) (by kernel_rfl)
      have e4 : u 4 = .int .i64 (n : Int) := hd 4 (by omega) (by kernel_rfl)
      have e5 : u 5 = .int .i64 (me : Int) := hd 5 (by omega) (by kernel_rfl)
      obtain ⟨g3, e3, n3, l3, m3⟩ := hd 3 (by omega) (by kernel_rfl)
      rw [e1, e4, e5, e3]
      go_simp
      have hsz := hb.size
      have hsz1 := HB2.out.size
      refine (cut_any g3 x.n n me wz hn h16 h6).mono ?_
      rintro e w4 ⟨⟨h, rfl, hl, hz⟩, hb4⟩
      exact ⟨⟨h, h, _, _, rfl, stock_cut hd4 hd3 hn hl (n3.below hb4) (by omega) (Nat.lt_of_lt_of_le m3 hb4.size) (by omega)⟩, hb4, fun h => by cases h⟩
    · go_simp
      have hsz := hb.size
      exact ⟨⟨_, rfl, World.alloc_heap_new _ _, hsz⟩, bl_new _, fun h => by cases h⟩
  case rest =>
    intro u wz hb hf hp
    have f0 : u 0 = .pointer (some ⟨w1.heap.size, 2, none⟩) := hf 0 (by omega)
    have f1 : u 1 = .func (.func 55) #[] #[] := hf 1 (by omega)
    have f2 : u 2 = .slice x.a x.n x.c := hf 2 (by omega)
    obtain ⟨g3, f3, n3, l3, m3⟩ := hf 3 (by omega)
    have f4 : u 4 = .int .i64 (n : Int) := hf 4 (by omega)
    have f5 : u 5 = .int .i64 (me : Int) := hf 5 (by omega)
    obtain ⟨h6, h6', Ss, Sh, f6, st6⟩ := hf 6 (by omega)
    obtain ⟨g7, f7, n7, l7⟩ := hf 7 (by omega)
    refine UptoW.rest 1 8 (by rfl) (by kernel_rfl) ?_
    simp only [List.take, List.drop, putOps, Act.put, List.setIfInBounds_toArray, List.set_cons_zero, List.set_cons_succ, Nat.reduceAdd, f0, f1, f2, f3, f4, f5, f6, f7]
    clear f0 f1 f2 f3 f4 f5 f6 f7 hf hp
    have hbz : Below w.heap.size w wz := bl_on HB2.out hb
    have zk := (Array.getElem?_eq_some_iff.1 HKB.out).1
    have hkz := (hb.block _ zk).trans HKB.out
    have hrz : RdAt wz d ra := by
      obtain ⟨cur, h7, h8⟩ := HRD2.out
      exact ⟨cur, (hb.block _ (Array.getElem?_eq_some_iff.1 h7).1).trans h7, h8⟩
    have y0 : wz.cell? ⟨g7, 0, none⟩ = some (.slice none 0 0) := by simp only [World.cell?, n7]; rfl
    have y1 : wz.cell? ⟨g7, 1, none⟩ = some (.slice none 0 0) := by simp only [World.cell?, n7]; rfl
    have yf : ∀ k, wz.frozen? ⟨g7, k, none⟩ = false := fun k => by simp [World.frozen?, n7]
    have yz := (Array.getElem?_eq_some_iff.1 n7).1
    have HBZ := hide hbz
    have HKZ := hide hkz
    have HRZ := hide hrz
    have HST := hide st6
    have HN7 := hide n7
    clear hb hbz hkz hrz st6 n7 n3 k2
    go_upto_region 11 with fail
    obtain ⟨V5, hV5⟩ : ∃ V, V = (wz.setCell ⟨g7, 0, none⟩ (.slice (some ⟨h6, 0, none⟩) n n)).setCell ⟨g7, 1, none⟩ (.slice (some ⟨h6', 0, none⟩) n n) := ⟨_, rfl⟩
    rw [← hV5]
    have hsz : w.heap.size ≤ g7 := by have := HB2.out.size; omega
    have hb5 : Below w.heap.size w V5 := by rw [hV5]; exact set2_below HBZ.out hsz
    have hs5 : V5.heap[g7]? = some (.cells #[.slice (some ⟨h6, 0, none⟩) n n, .slice (some ⟨h6', 0, none⟩) n n] 80 (0, 0)) := by rw [hV5]; exact set2_heap HN7.out rfl
    have keep5 : ∀ {b : Nat} {cur : Array Value} {ty : TypeId}, wz.heap[b]? = some (.cells cur ty (0, 0)) → ty ≠ 80 → V5.heap[b]? = wz.heap[b]? := fun {b cur ty} hb ht => by
      rw [hV5]
      refine set2_other fun e => ?_
      rw [e, HN7.out] at hb
      simp only [Option.some.injEq, Obj.cells.injEq] at hb
      exact ht hb.2.1.symm
    have hk5 := (keep5 HKZ.out (by decide)).trans HKZ.out
    have hr5 : RdAt V5 d ra := by
      obtain ⟨cur, h7, h8⟩ := HRZ.out
      exact ⟨cur, (keep5 h7 (by decide)).trans h7, h8⟩
    have hsz5 : V5.heap.size = wz.heap.size := by rw [hV5]; simp [World.setCell]
    have kn : ∀ {y : Sl} {ys : List Int}, Num wz y ys → Num V5 y ys := fun hy => hy.keep fun b hO => by
      obtain ⟨cur, hc⟩ := hy.blk b hO
      exact keep5 hc (by decide)
    have st5 : StockAt V5 w.heap.size d n me xs h6 h6' Ss Sh := by
      obtain ⟨s1, s2, s3, s4, s5, s6, s7, s8, s9⟩ := HST.out
      refine ⟨?_, ?_, s3, s4, s5, s6, fun k hk => ⟨kn (s7 k hk).1, (s7 k hk).2⟩, fun k hk => ⟨fun hK => kn ((s8 k hk).1 hK), fun b hO => by rw [hsz5]; exact (s8 k hk).2 b hO⟩, s9⟩
      · obtain ⟨cur, h7, h8⟩ := s1
        exact ⟨cur, (keep5 h7 (by decide)).trans h7, h8⟩
      · obtain ⟨cur, h7, h8⟩ := s2
        exact ⟨cur, (keep5 h7 (by decide)).trans h7, h8⟩
    have x0 : V5.cell? ⟨g7, 0, none⟩ = some (.slice (some ⟨h6, 0, none⟩) n n) := by simp only [World.cell?, hs5]; rfl
    have x1 : V5.cell? ⟨g7, 1, none⟩ = some (.slice (some ⟨h6', 0, none⟩) n n) := by simp only [World.cell?, hs5]; rfl
    have v0 : V5.cell? ⟨w1.heap.size, 0, none⟩ = some (.bool false) := by simp only [World.cell?, hk5]; rfl
    have v1 : V5.cell? ⟨w1.heap.size, 1, none⟩ = some (.bool true) := by simp only [World.cell?, hk5]; rfl
    have v2 : V5.cell? ⟨w1.heap.size, 2, none⟩ = some (.func (.func 55) #[] #[]) := by simp only [World.cell?, hk5]; rfl
    have v3 : V5.cell? ⟨w1.heap.size, 3, none⟩ = some (.slice (some ⟨ra, 0, none⟩) (rdN d) (rdN d)) := by simp only [World.cell?, hk5]; rfl
    have v4 : V5.cell? ⟨w1.heap.size, 4, none⟩ = some (.func (.func (fitF d)) #[] #[]) := by simp only [World.cell?, hk5]; rfl
    have v5 : V5.cell? ⟨w1.heap.size, 5, none⟩ = some (.func (.func (plcF d)) #[] #[]) := by simp only [World.cell?, hk5]; rfl
    have v6 : V5.cell? ⟨w1.heap.size, 6, none⟩ = some (.func (.func (resF d)) #[] #[]) := by simp only [World.cell?, hk5]; rfl
    have z5 := (Array.getElem?_eq_some_iff.1 hs5).1
    have z6 := (Array.getElem?_eq_some_iff.1 hk5).1
    have hmb := mb_new hr5 hra st5 hb5.size
    unfold mbL kindL fv at hmb
    rw [HBG.out, HB4.out, HB4'.out] at hmb
    have HMB := hide hmb
    have HB5 := hide hb5
    have mkm : ∀ W : World, (Instr.makeMap 82 none).run Try.prog W = .ok (.map (some W.heap.size)) (W.alloc (.map #[] 0)) := fun W => rfl
    clear hV5 hb5 hs5 hk5 hr5 st5 hmb y0 y1 yf hsz5 keep5 kn
    go_wp2
    go_ret2
    have hsz2 : (((V5.alloc (.map #[] 0)).alloc (.cells #[.bool false, .bool true, .func (.func 55) #[] #[], .slice (some ⟨ra, 0, none⟩) (rdN d) (rdN d), .func (.func (fitF d)) #[] #[], .func (.func (plcF d)) #[] #[], .func (.func (resF d)) #[] #[], .int .i64 (n : Int), .int .i64 (me : Int), .int .i64 0, .int .i64 0, .map (some V5.heap.size), .slice (some ⟨h6, 0, none⟩) n n, .slice (some ⟨h6', 0, none⟩) n n] 84))).heap.size = V5.heap.size + 2 := by simp
    refine ⟨⟨V5.heap.size + 1, _, rfl, HMB.out.mono fun b hb => ⟨hb.1, by rw [hsz2]; exact hb.2⟩⟩, ?_⟩
    exact (HB5.out.alloc HB5.out.size _).alloc (by simp; have := HB5.out.size; omega) _
end Go.Proofs.Yticcoacoepajpaa.V
namespace Go.Proofs.Yticcoacoepajpaa.V
open Go Go.RowKit
set_option linter.unusedVariables false
set_option linter.unusedSimpArgs false

set_option maxRecDepth 20000 in
set_option maxHeartbeats 4000000 in
theorem new_whole (d n me : Nat) (x : Sl) (xs : List Int) (w : World) (hx : Ints w x.a x.n xs) (hd3 : d = 3) (h1 : 1 ≤ d) (h4 : d ≤ 4) (hn : 1 ≤ n) (h16 : n ≤ 16) (hme : me < n) (h6 : x.n ≤ 65536) (hev : d = 4 → x.n % n = 0) :
    Calls Try.prog 16 #[.int .i64 (d : Int), .int .i64 (n : Int), .int .i64 (me : Int), .slice x.a x.n x.c] w fun e w' => NewOk w d n me xs e w' := by
  have hk := kindOf_any d w h1 h4
  unfold kindL fv at hk
  have hbg : begF d = 56 := by unfold begF; rw [if_neg (by omega), if_pos hd3]
  have hb4 : decide (d = 4) = false := by simp; omega
  have hb4' : decide (d ≠ 4) = true := by simp; omega
  rw [hbg, hb4, hb4'] at hk
  have HB4 := hide hb4
  have HB4' := hide hb4'
  have HK := hide hk
  have HBG := hide hbg
  have HX0 : Hid (∀ V, Below w.heap.size w V → Ints V x.a x.n xs) := fun V hV => hx.below hV
  have q8 : ∀ X : Bool, (decide (d = 4) && X) = true → d = 4 := fun X h => by simp at h; exact h.1
  have HEV := hide hev
  have HDD : Hid (d = 4 → ((x.n : Int) % (n : Int) = 0)) := fun e => by have := hev e; omega
  have n0 : ¬ (n : Int) = 0 := by omega
  have n1 : ((n : Int) == 0) = false := by simp; omega
  have n2 : ¬ n = 0 := by omega
  have c1 : ¬ (n : Int) < 1 := by omega
  have c2 : ¬ 16 < (n : Int) := by omega
  have c3 : ¬ (me : Int) < 0 := by omega
  have c4 : ¬ (n : Int) ≤ (me : Int) := by omega
  have c5 : ¬ 65536 < (x.n : Int) := by omega
  have emod : d = 4 → x.n % n = 0 := hev
  clear hk hx hbg hev q8 hb4 hb4'
  have HD3 := hide hd3
  clear hd3
  go_enter Try.func16, Try.ntmps16
  go_upto_region 10 with (go_at_call 30; refine HK.out.mono ?_; rintro e w1 ⟨⟨ra, rfl, hra, hrd⟩, hb⟩; have HB := hide hb; have HRD := hide hrd; clear hb hrd)
  obtain ⟨V2, hV2⟩ : ∃ V, V = w1.alloc (.cells #[.bool false, .bool true, .func (.func 56) #[] #[], .slice (some ⟨ra, 0, none⟩) (rdN d) (rdN d), .func (.func (fitF d)) #[] #[], .func (.func (plcF d)) #[] #[], .func (.func (resF d)) #[] #[]] 76) := ⟨_, rfl⟩
  rw [show w1.alloc _ = V2 from hV2.symm]
  have hb2 : Below w.heap.size w V2 := by rw [hV2]; exact HB.out.alloc HB.out.size _
  have hkb : V2.heap[w1.heap.size]? = some (.cells #[.bool false, .bool true, .func (.func 56) #[] #[], .slice (some ⟨ra, 0, none⟩) (rdN d) (rdN d), .func (.func (fitF d)) #[] #[], .func (.func (plcF d)) #[] #[], .func (.func (resF d)) #[] #[]] 76 (0, 0)) := by rw [hV2]; exact World.alloc_heap_new _ _
  have k2 : V2.cell? ⟨w1.heap.size, 2, none⟩ = some (.func (.func 56) #[] #[]) := by simp only [World.cell?, hkb]; rfl
  have hrd2 : RdAt V2 d ra := by
    obtain ⟨cur, h7, h8⟩ := HRD.out
    refine ⟨cur, ?_, h8⟩
    rw [hV2]
    exact ((bl_new (w := w1) _).block _ (Array.getElem?_eq_some_iff.1 h7).1).trans h7
  have HB2 := hide hb2
  have HKB := hide hkb
  have HRD2 := hide hrd2
  have HX : Hid (∀ V, Below V2.heap.size V2 V → Ints V x.a x.n xs) := fun V hV => HX0.out V (bl_on HB2.out hV)
  clear hb2 hkb hrd2 hV2 emod
  refine region_made 8 9 [fIs (.pointer (some ⟨w1.heap.size, 2, none⟩)), fIs (.func (.func 56) #[] #[]), fIs (.slice x.a x.n x.c), fNum w.heap.size x.n xs, fIs (.int .i64 (n : Int)), fIs (.int .i64 (me : Int)), fStk w.heap.size d n me xs, fNew2 V2.heap.size] (by kernel_rfl) (by kernel_rfl) (by kernel_rfl) (fun _ ⟨_, _⟩ ⟨_, _⟩ _ e h => by cases e; exact h) ⟨fIs_good _, fIs_good _, fIs_good _, fNum_good _ _ _, fIs_good _, fIs_good _, fStk_good _ _ _ _ _, fNew2_good _, trivial⟩ ?mk ?rest
  case mk =>
    refine ⟨fun u wz hb hd => ?_, fun u wz hb hd => ?_, fun u wz hb hd => ?_, fun u wz hb hd => ?_, fun u wz hb hd => ?_, fun u wz hb hd => ?_, fun u wz hb hd => ?_, fun u wz hb hd => ?_, trivial⟩
    all_goals simp only [Act.put, List.setIfInBounds_toArray, List.set_cons_zero, List.set_cons_succ]
    · go_simp
      exact ⟨rfl, Below.refl _ _, fun h => by cases h⟩
    · have e0 : u 0 = .pointer (some ⟨w1.heap.size, 2, none⟩) := hd 0 (by omega) (by kernel_rfl)
      rw [e0]
      have k2' := (hb.cell (p := ⟨w1.heap.size, 2, none⟩) (lt_of_cell k2)).trans k2
      go_simp
      exact ⟨rfl, Below.refl _ _, fun h => by cases h⟩
    · go_simp
      exact ⟨rfl, Below.refl _ _, fun h => by cases h⟩
    · have e2 : u 2 = .slice x.a x.n x.c := hd 2 (by omega) (by kernel_rfl)
      rw [e2]
      go_simp
      refine (fresh_ints x xs wz (HX.out wz hb) h6).mono ?_
      rintro e w4 ⟨⟨g4, rfl, hn4, hg4, hl4⟩, hb4⟩
      have hsz := hb.size
      have hsz1 := HB2.out.size
      exact ⟨⟨g4, rfl, hn4, by omega, hl4⟩, hb4, fun h => by cases h⟩
    · go_simp
      exact ⟨rfl, Below.refl _ _, fun h => by cases h⟩
    · go_simp
      exact ⟨rfl, Below.refl _ _, fun h => by cases h⟩
    · have e1 : u 1 = .func (.func 56) #[] #[] := hd 1 (by omega) (by kernel_rfl)
      have e4 : u 4 = .int .i64 (n : Int) := hd 4 (by omega) (by kernel_rfl)
      have e5 : u 5 = .int .i64 (me : Int) := hd 5 (by omega) (by kernel_rfl)
      obtain ⟨g3, e3, n3, l3, m3⟩ := hd 3 (by omega) (by kernel_rfl)
      rw [e1, e4, e5, e3]
      go_simp
      have hsz := hb.size
      have hsz1 := HB2.out.size
      refine (whole_any ⟨some ⟨g3, 0, none⟩, x.n, x.n⟩ n me wz hn h16 hme).mono ?_
      rintro e w4 ⟨⟨h, rfl, hl, hz⟩, hb4⟩
      exact ⟨⟨h, h, _, _, rfl, by rw [HD3.out]; exact stock_whole hl (n3.below hb4) (by omega) (Nat.lt_of_lt_of_le m3 hb4.size) (by omega)⟩, hb4, fun h => by cases h⟩
    · go_simp
      have hsz := hb.size
      exact ⟨⟨_, rfl, World.alloc_heap_new _ _, hsz⟩, bl_new _, fun h => by cases h⟩
  case rest =>
    intro u wz hb hf hp
    have f0 : u 0 = .pointer (some ⟨w1.heap.size, 2, none⟩) := hf 0 (by omega)
    have f1 : u 1 = .func (.func 56) #[] #[] := hf 1 (by omega)
    have f2 : u 2 = .slice x.a x.n x.c := hf 2 (by omega)
    obtain ⟨g3, f3, n3, l3, m3⟩ := hf 3 (by omega)
    have f4 : u 4 = .int .i64 (n : Int) := hf 4 (by omega)
    have f5 : u 5 = .int .i64 (me : Int) := hf 5 (by omega)
    obtain ⟨h6, h6', Ss, Sh, f6, st6⟩ := hf 6 (by omega)
    obtain ⟨g7, f7, n7, l7⟩ := hf 7 (by omega)
    refine UptoW.rest 1 8 (by rfl) (by kernel_rfl) ?_
    simp only [List.take, List.drop, putOps, Act.put, List.setIfInBounds_toArray, List.set_cons_zero, List.set_cons_succ, Nat.reduceAdd, f0, f1, f2, f3, f4, f5, f6, f7]
    clear f0 f1 f2 f3 f4 f5 f6 f7 hf hp
    have hbz : Below w.heap.size w wz := bl_on HB2.out hb
    have zk := (Array.getElem?_eq_some_iff.1 HKB.out).1
    have hkz := (hb.block _ zk).trans HKB.out
    have hrz : RdAt wz d ra := by
      obtain ⟨cur, h7, h8⟩ := HRD2.out
      exact ⟨cur, (hb.block _ (Array.getElem?_eq_some_iff.1 h7).1).trans h7, h8⟩
    have y0 : wz.cell? ⟨g7, 0, none⟩ = some (.slice none 0 0) := by simp only [World.cell?, n7]; rfl
    have y1 : wz.cell? ⟨g7, 1, none⟩ = some (.slice none 0 0) := by simp only [World.cell?, n7]; rfl
    have yf : ∀ k, wz.frozen? ⟨g7, k, none⟩ = false := fun k => by simp [World.frozen?, n7]
    have yz := (Array.getElem?_eq_some_iff.1 n7).1
    have HBZ := hide hbz
    have HKZ := hide hkz
    have HRZ := hide hrz
    have HST := hide st6
    have HN7 := hide n7
    clear hb hbz hkz hrz st6 n7 n3 k2
    go_upto_region 11 with fail
    obtain ⟨V5, hV5⟩ : ∃ V, V = (wz.setCell ⟨g7, 0, none⟩ (.slice (some ⟨h6, 0, none⟩) n n)).setCell ⟨g7, 1, none⟩ (.slice (some ⟨h6', 0, none⟩) n n) := ⟨_, rfl⟩
    rw [← hV5]
    have hsz : w.heap.size ≤ g7 := by have := HB2.out.size; omega
    have hb5 : Below w.heap.size w V5 := by rw [hV5]; exact set2_below HBZ.out hsz
    have hs5 : V5.heap[g7]? = some (.cells #[.slice (some ⟨h6, 0, none⟩) n n, .slice (some ⟨h6', 0, none⟩) n n] 80 (0, 0)) := by rw [hV5]; exact set2_heap HN7.out rfl
    have keep5 : ∀ {b : Nat} {cur : Array Value} {ty : TypeId}, wz.heap[b]? = some (.cells cur ty (0, 0)) → ty ≠ 80 → V5.heap[b]? = wz.heap[b]? := fun {b cur ty} hb ht => by
      rw [hV5]
      refine set2_other fun e => ?_
      rw [e, HN7.out] at hb
      simp only [Option.some.injEq, Obj.cells.injEq] at hb
      exact ht hb.2.1.symm
    have hk5 := (keep5 HKZ.out (by decide)).trans HKZ.out
    have hr5 : RdAt V5 d ra := by
      obtain ⟨cur, h7, h8⟩ := HRZ.out
      exact ⟨cur, (keep5 h7 (by decide)).trans h7, h8⟩
    have hsz5 : V5.heap.size = wz.heap.size := by rw [hV5]; simp [World.setCell]
    have kn : ∀ {y : Sl} {ys : List Int}, Num wz y ys → Num V5 y ys := fun hy => hy.keep fun b hO => by
      obtain ⟨cur, hc⟩ := hy.blk b hO
      exact keep5 hc (by decide)
    have st5 : StockAt V5 w.heap.size d n me xs h6 h6' Ss Sh := by
      obtain ⟨s1, s2, s3, s4, s5, s6, s7, s8, s9⟩ := HST.out
      refine ⟨?_, ?_, s3, s4, s5, s6, fun k hk => ⟨kn (s7 k hk).1, (s7 k hk).2⟩, fun k hk => ⟨fun hK => kn ((s8 k hk).1 hK), fun b hO => by rw [hsz5]; exact (s8 k hk).2 b hO⟩, s9⟩
      · obtain ⟨cur, h7, h8⟩ := s1
        exact ⟨cur, (keep5 h7 (by decide)).trans h7, h8⟩
      · obtain ⟨cur, h7, h8⟩ := s2
        exact ⟨cur, (keep5 h7 (by decide)).trans h7, h8⟩
    have x0 : V5.cell? ⟨g7, 0, none⟩ = some (.slice (some ⟨h6, 0, none⟩) n n) := by simp only [World.cell?, hs5]; rfl
    have x1 : V5.cell? ⟨g7, 1, none⟩ = some (.slice (some ⟨h6', 0, none⟩) n n) := by simp only [World.cell?, hs5]; rfl
    have v0 : V5.cell? ⟨w1.heap.size, 0, none⟩ = some (.bool false) := by simp only [World.cell?, hk5]; rfl
    have v1 : V5.cell? ⟨w1.heap.size, 1, none⟩ = some (.bool true) := by simp only [World.cell?, hk5]; rfl
    have v2 : V5.cell? ⟨w1.heap.size, 2, none⟩ = some (.func (.func 56) #[] #[]) := by simp only [World.cell?, hk5]; rfl
    have v3 : V5.cell? ⟨w1.heap.size, 3, none⟩ = some (.slice (some ⟨ra, 0, none⟩) (rdN d) (rdN d)) := by simp only [World.cell?, hk5]; rfl
    have v4 : V5.cell? ⟨w1.heap.size, 4, none⟩ = some (.func (.func (fitF d)) #[] #[]) := by simp only [World.cell?, hk5]; rfl
    have v5 : V5.cell? ⟨w1.heap.size, 5, none⟩ = some (.func (.func (plcF d)) #[] #[]) := by simp only [World.cell?, hk5]; rfl
    have v6 : V5.cell? ⟨w1.heap.size, 6, none⟩ = some (.func (.func (resF d)) #[] #[]) := by simp only [World.cell?, hk5]; rfl
    have z5 := (Array.getElem?_eq_some_iff.1 hs5).1
    have z6 := (Array.getElem?_eq_some_iff.1 hk5).1
    have hmb := mb_new hr5 hra st5 hb5.size
    unfold mbL kindL fv at hmb
    rw [HBG.out, HB4.out, HB4'.out] at hmb
    have HMB := hide hmb
    have HB5 := hide hb5
    have mkm : ∀ W : World, (Instr.makeMap 82 none).run Try.prog W = .ok (.map (some W.heap.size)) (W.alloc (.map #[] 0)) := fun W => rfl
    clear hV5 hb5 hs5 hk5 hr5 st5 hmb y0 y1 yf hsz5 keep5 kn
    go_wp2
    go_ret2
    have hsz2 : (((V5.alloc (.map #[] 0)).alloc (.cells #[.bool false, .bool true, .func (.func 56) #[] #[], .slice (some ⟨ra, 0, none⟩) (rdN d) (rdN d), .func (.func (fitF d)) #[] #[], .func (.func (plcF d)) #[] #[], .func (.func (resF d)) #[] #[], .int .i64 (n : Int), .int .i64 (me : Int), .int .i64 0, .int .i64 0, .map (some V5.heap.size), .slice (some ⟨h6, 0, none⟩) n n, .slice (some ⟨h6', 0, none⟩) n n] 84))).heap.size = V5.heap.size + 2 := by simp
    refine ⟨⟨V5.heap.size + 1, _, rfl, HMB.out.mono fun b hb => ⟨hb.1, by rw [hsz2]; exact hb.2⟩⟩, ?_⟩
    exact (HB5.out.alloc HB5.out.size _).alloc (by simp; have := HB5.out.size; omega) _
end Go.Proofs.Yticcoacoepajpaa.V
