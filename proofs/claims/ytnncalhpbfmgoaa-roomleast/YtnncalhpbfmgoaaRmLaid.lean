/-
  Things that lie: rows of them in blocks of the call's own. Contract: shelf.gap.
-/
import Derived.Test.YtnncalhpbfmgoaaRmWrong
import Derived.Test.YtnncalhpbfmgoaaRw
import Derived.Laws.MakeOwn
import Derived.Laws.IdiomCopy
import Derived.Deep.Upon
namespace Go.Proofs.Ytnncalhpbfmgoaa.V
open Go Go.Shelf Go.RowKit Go.Lib Go.Sort Go.Proofs
set_option linter.unusedVariables false

/-- A life, and where it lies. -/
structure Ld where
  lf : Lf
  at_ : Int
def ldD : Ld := ⟨lfD, 0⟩
instance : Inhabited Ld := ⟨ldD⟩
def l4 (x : Ld) : List Value := [.int .i64 x.lf.fr, .int .i64 x.lf.to, .int .i64 x.lf.wd, .int .i64 x.at_]
theorem info_D : (Try.prog.info? 73).map (fun i => (i.zero, i.size, i.bytes)) = some (some (.agg #[.int .i64 0, .int .i64 0, .int .i64 0, .int .i64 0]), 4, 32) := by kernel_rfl
theorem l4_one (x : Ld) : ∀ v ∈ l4 x, v.oneCell' = true := fun v hv => by
  simp [l4] at hv
  rcases hv with rfl | rfl | rfl | rfl <;> rfl
theorem l4s_one (l : List Ld) : ∀ v ∈ l.flatMap l4, v.oneCell' = true := fun v hv => by
  rw [List.mem_flatMap] at hv
  obtain ⟨u, _, h⟩ := hv
  exact l4_one u v h
theorem flat4_len : ∀ us : List Ld, (us.flatMap l4).length = us.length * 4
  | [] => rfl
  | u :: us => by rw [List.flatMap_cons, List.length_append, flat4_len us, List.length_cons]; simp [l4]; omega
theorem flat4_get : ∀ (us : List Ld) (j i : Nat), j < us.length → i < 4 → (us.flatMap l4)[j * 4 + i]? = (l4 (us[j]?.getD ldD))[i]?
  | [], j, i, h, _ => by simp at h
  | u :: us, 0, i, h, hi => by
    rw [List.flatMap_cons, List.getElem?_append_left (by simp [l4]; omega)]
    simp
  | u :: us, j + 1, i, h, hi => by
    have := flat4_get us j i (by simpa using h) hi
    rw [List.flatMap_cons]
    have e1 : (j + 1) * 4 + i = (l4 u).length + (j * 4 + i) := by simp [l4]; omega
    rw [e1, List.getElem?_append_right (by omega), Nat.add_sub_cancel_left]
    simpa using this
/-- A row of n things in block g, of which some are known. -/
structure RowL (W : World) (g n : Nat) (f : Nat → Option Ld) : Prop where
  blk : ∃ cur, W.heap[g]? = some (.cells cur 73 (0, 0)) ∧ cur.size = n * 4
  at_ : ∀ j x, j < n → f j = some x → ∀ i, i < 4 → W.cell? ⟨g, j * 4 + i, none⟩ = (l4 x)[i]?
theorem RowL.lt {W : World} {g n : Nat} {f : Nat → Option Ld} (h : RowL W g n f) : g < W.heap.size := by
  obtain ⟨cur, e, _⟩ := h.blk
  exact (Array.getElem?_eq_some_iff.1 e).1
theorem RowL.free {W : World} {g n : Nat} {f : Nat → Option Ld} (h : RowL W g n f) (i : Nat) : W.frozen? ⟨g, i, none⟩ = false := by
  obtain ⟨cur, e, _⟩ := h.blk
  simp [World.frozen?, e]
theorem RowL.some_ {W : World} {g n : Nat} {f : Nat → Option Ld} (h : RowL W g n f) {t : Nat} (ht : t < n * 4) : (W.cell? ⟨g, t, none⟩).isSome = true := by
  obtain ⟨cur, e, hs⟩ := h.blk
  simp [World.cell?, e]
  omega
theorem RowL.of_block {W V : World} {g n : Nat} {f : Nat → Option Ld} (h : RowL W g n f) (e : V.heap[g]? = W.heap[g]?) : RowL V g n f := by
  obtain ⟨cur, e1, hs⟩ := h.blk
  exact ⟨⟨cur, e.trans e1, hs⟩, fun j x hj hx i hi => (World.cell?_of_block (w := W) (w' := V) (a := ⟨g, j * 4 + i, none⟩) e).trans (h.at_ j x hj hx i hi)⟩
theorem RowL.below {W V : World} {g n : Nat} {f : Nat → Option Ld} (h : RowL W g n f) (hb : Below W.heap.size W V) : RowL V g n f := h.of_block (hb.block g h.lt)
theorem RowL.congr {W : World} {g n : Nat} {f f' : Nat → Option Ld} (h : RowL W g n f) (e : ∀ j x, j < n → f' j = some x → f j = some x) : RowL W g n f' := ⟨h.blk, fun j x hj hx i hi => h.at_ j x hj (e j x hj hx) i hi⟩
theorem RowL.cells {W : World} {g n : Nat} {f : Nat → Option Ld} (h : RowL W g n f) {j : Nat} {x : Ld} (hj : j < n) (hx : f j = some x) : W.cell? ⟨g, j * 4, none⟩ = some (.int .i64 x.lf.fr) ∧ W.cell? ⟨g, j * 4 + 1, none⟩ = some (.int .i64 x.lf.to) ∧ W.cell? ⟨g, j * 4 + 2, none⟩ = some (.int .i64 x.lf.wd) ∧ W.cell? ⟨g, j * 4 + 3, none⟩ = some (.int .i64 x.at_) :=
  ⟨h.at_ j x hj hx 0 (by omega), h.at_ j x hj hx 1 (by omega), h.at_ j x hj hx 2 (by omega), h.at_ j x hj hx 3 (by omega)⟩
theorem setCells_size4 (g : Nat) : ∀ (vs : List Value) (o : Nat) (w : World) (cur : Array Value) (t : TypeId) (z : Nat × Nat), w.heap[g]? = some (.cells cur t z) → ∃ cur', (w.setCells g o vs).heap[g]? = some (.cells cur' t z) ∧ cur'.size = cur.size
  | [], o, w, cur, t, z, h => ⟨cur, h, rfl⟩
  | v :: r, o, w, cur, t, z, h => by
    rw [World.setCells]
    obtain ⟨c', h1, h2⟩ := setCells_size4 g r (o + 1) (w.setCell ⟨g, o, none⟩ v) (cur.setIfInBounds o v) t z (by
      rw [setCell_eq]
      unfold mapBlock onCells
      rw [Array.getElem?_modify, if_pos rfl, h]
      rfl)
    exact ⟨c', h1, h2.trans (by simp)⟩
/-- Things are put from one place on. -/
theorem RowL.set {W : World} {g n : Nat} {f : Nat → Option Ld} (h : RowL W g n f) (o : Nat) (l : List Ld) (hl : o + l.length ≤ n) : RowL (W.setCells g (o * 4) (l.flatMap l4)) g n (fun j => if o ≤ j ∧ j < o + l.length then l[j - o]? else f j) := by
  obtain ⟨cur, e, hs⟩ := h.blk
  obtain ⟨cur', e', hs'⟩ := setCells_size4 g (l.flatMap l4) (o * 4) W cur _ _ e
  refine ⟨⟨cur', e', hs'.trans hs⟩, fun j x hj hx i hi => ?_⟩
  have hlen := flat4_len l
  by_cases c : o ≤ j ∧ j < o + l.length
  · rw [if_pos c] at hx
    have hin := World.cell?_setCells_in g (l.flatMap l4) (o * 4) W (fun t ht => h.some_ (by rw [hlen] at ht; omega)) ((j - o) * 4 + i) (by rw [hlen]; omega)
    rw [show o * 4 + ((j - o) * 4 + i) = j * 4 + i by omega] at hin
    rw [hin]
    have e2 := flat4_get l (j - o) i (by omega) hi
    rw [hx] at e2
    rw [← List.getElem?_eq_getElem]
    exact e2
  · rw [if_neg c] at hx
    rw [World.cell?_setCells_out g (l.flatMap l4) (o * 4) W ⟨g, j * 4 + i, none⟩ (fun _ _ => by simp only [hlen]; omega)]
    exact h.at_ j x hj hx i hi
/-- Things in a row of the call's own. -/
def OutD (W : World) (B : Nat) (v : Value) (L : List Ld) : Prop := W.ownsRow B 73 4 v L.length (L.flatMap l4)
theorem OutD.nil (W : World) (B : Nat) : OutD W B (.slice none 0 0) [] := World.ownsRow_nil _ _ _ _
theorem OutD.lt {W : World} {B : Nat} {v : Value} {L : List Ld} (h : OutD W B v L) : ∀ g, v.ownBlock = some g → B ≤ g ∧ g < W.heap.size := fun g e => by
  rcases h.2 with ⟨rfl, _⟩ | ⟨g', cap, cur, rfl, e2, e3, e4⟩
  · simp [Value.ownBlock] at e
  · obtain rfl : g' = g := by simpa [Value.ownBlock] using e
    exact ⟨e2, (Array.getElem?_eq_some_iff.1 e3).1⟩
theorem OutD.of_block {W V : World} {B : Nat} {v : Value} {L : List Ld} (h : OutD W B v L) (hb : ∀ g, v.ownBlock = some g → V.heap[g]? = W.heap[g]?) : OutD V B v L := by
  refine ⟨h.1, ?_⟩
  rcases h.2 with h1 | ⟨g, cap, cur, rfl, e2, e3, e4⟩
  · exact .inl h1
  · exact .inr ⟨g, cap, cur, rfl, e2, (hb g rfl).trans e3, e4⟩
theorem OutD.below {W V : World} {B : Nat} {v : Value} {L : List Ld} (h : OutD W B v L) (hb : Below W.heap.size W V) : OutD V B v L := h.of_block (fun g e => hb.block g (h.lt g e).2)
/-- Nothing, or a row of a block. -/
theorem OutD.row {W : World} {B : Nat} {v : Value} {L : List Ld} (h : OutD W B v L) : (v = .slice none 0 0 ∧ L = []) ∨ ∃ g c, v = .slice (some ⟨g, 0, none⟩) L.length c ∧ B ≤ g ∧ L.length ≤ c ∧ c ≤ 9223372036854775807 ∧ RowL W g c (fun j => L[j]?) := by
  rcases h.2 with ⟨h1, h2⟩ | ⟨g, cap, cur, rfl, e2, e3, e4, e5, e6, e7⟩
  · exact .inl ⟨h1, List.length_eq_zero_iff.1 h2⟩
  · refine .inr ⟨g, cap, rfl, e2, e4, by unfold maxLen at e5; omega, ⟨cur, e3, e6⟩, fun j x hj hx i hi => ?_⟩
    have hjl : j < L.length := (List.getElem?_eq_some_iff.1 hx).1
    have f := flat4_get L j i hjl hi
    rw [← e7, List.getElem?_take_of_lt (by omega), hx] at f
    simp only [World.cell?, e3]
    simpa using f
theorem OutD.of_row {W : World} {B g c : Nat} {L : List Ld} {f : Nat → Option Ld} (h : RowL W g c f) (hf : ∀ j x, L[j]? = some x → f j = some x) (hB : B ≤ g) (hl : L.length ≤ c) (hc : c ≤ 9223372036854775807) : OutD W B (.slice (some ⟨g, 0, none⟩) L.length c) L := by
  obtain ⟨cur, e, hs⟩ := h.blk
  refine ⟨flat4_len L, .inr ⟨g, c, cur, rfl, hB, e, hl, by unfold maxLen; omega, hs, ?_⟩⟩
  apply List.ext_getElem?
  intro t
  by_cases ht : t < L.length * 4
  · rw [List.getElem?_take_of_lt ht]
    have hj : t / 4 < L.length := by omega
    have hx : L[t / 4]? = some (L[t / 4]) := List.getElem?_eq_getElem hj
    have h1 := h.at_ (t / 4) _ (by omega) (hf _ _ hx) (t % 4) (by omega)
    rw [show t / 4 * 4 + t % 4 = t by omega] at h1
    have h2 := flat4_get L (t / 4) (t % 4) hj (by omega)
    rw [show t / 4 * 4 + t % 4 = t by omega, hx] at h2
    rw [h2, Option.getD_some, ← h1]
    simp [World.cell?, e]
  · rw [List.getElem?_eq_none (by simp; omega), List.getElem?_eq_none (by rw [flat4_len]; omega)]
theorem copy4_run (w : World) (ty : TypeId) (b o dLen dCap : Nat) (a : Addr) (sLen sCap : Nat) (cs : List Value) (hn : cs.length = Nat.min sLen dLen * 4)
    (hsrc : ∀ j v, cs[j]? = some v → w.cell? (a.add j) = some v) (hc : ∀ j, j < cs.length → (w.cell? ⟨b, o + j, none⟩).isSome = true) (hf : ∀ j, j < cs.length → w.frozen? ⟨b, o + j, none⟩ = false) (h1 : ∀ v ∈ cs, v.oneCell' = true) :
    (Builtin.copy_ #[47, 47] ty #[.slice (some ⟨b, o, none⟩) dLen dCap, .slice (some a) sLen sCap]).run Try.prog w = .ok (goInt (Nat.min sLen dLen)) (w.setCells b o cs) := by
  have hl := run_loadCells_list (P := Try.prog) w a cs hsrc
  have hst := run_storeCells_cells (P := Try.prog) b o cs 0 w (by simpa using hc) (by simpa using hf) h1
  obtain ⟨i, hi, hz0, hz1, hz2⟩ := info_parts info_D
  simp [Builtin.copy_, run_underlying Try.underlying47, Builtin.lenOf, Builtin.firstCells, sizeOf, typeInfo, hi, hz1, ← hn, hl, hst]
theorem zeros4 (m : Nat) : (Builtin.zeroCells (Value.agg #[.int .i64 0, .int .i64 0, .int .i64 0, .int .i64 0]).cells m).toList = (List.replicate m ldD).flatMap l4 := by
  have h1 : (Builtin.zeroCells (Value.agg #[.int .i64 0, .int .i64 0, .int .i64 0, .int .i64 0]).cells m).toList = List.replicate (m * 4) (.int .i64 0) := by
    rw [List.eq_replicate_iff]
    refine ⟨by simp [Builtin.zeroCells, Value.cells], fun b hb => ?_⟩
    simp only [Builtin.zeroCells, Value.cells, Array.toList_map, List.mem_map] at hb
    obtain ⟨i, _, rfl⟩ := hb
    have h4 : i % 4 = 0 ∨ i % 4 = 1 ∨ i % 4 = 2 ∨ i % 4 = 3 := by omega
    show (#[Value.int IntKind.i64 0, .int .i64 0, .int .i64 0, .int .i64 0] : Array Value)[i % 4]! = _
    rcases h4 with h4 | h4 | h4 | h4 <;> rw [h4] <;> rfl
  rw [h1]
  symm
  rw [List.eq_replicate_iff]
  refine ⟨by rw [flat4_len]; simp, fun b hb => ?_⟩
  simp only [List.mem_flatMap, List.mem_replicate] at hb
  obtain ⟨x, ⟨_, rfl⟩, hb⟩ := hb
  simp [l4, ldD, lfD] at hb
  exact hb
theorem clear4_run {w : World} (ty : TypeId) (g n : Nat) (f : Nat → Option Ld) (hrow : RowL w g n f) (p c q m : Nat) (hq : q = p * 4) (hp : p + (m + 1) ≤ n) : (Builtin.clear_ #[47] ty #[.slice (some ⟨g, q, none⟩) (m + 1) c]).run Try.prog w = .ok (.tuple #[]) (w.setCells g (p * 4) ((List.replicate (m + 1) ldD).flatMap l4)) := by
  subst hq
  have hl := flat4_len (List.replicate (m + 1) ldD)
  rw [List.length_replicate] at hl
  have hst := run_storeCells_cells (P := Try.prog) g (p * 4) ((List.replicate (m + 1) ldD).flatMap l4) 0 w (fun j hj => by
    rw [hl] at hj
    simpa using hrow.some_ (by omega)) (fun j _ => by simpa using hrow.free _) (l4s_one _)
  simp only [Nat.add_zero] at hst
  obtain ⟨i, hi, hz0, hz1, hz2⟩ := info_parts info_D
  simp [Builtin.clear_, run_underlying Try.underlying47, zeroValue, typeInfo, hi, hz0, zeros4, hst]
/-- Where there is room for so many words. -/
def gapV (n : Int) : List Ld → Int → Nat × Int
  | [], at_ => (0, at_)
  | x :: xs, at_ => if at_ + n ≤ x.at_ then (0, at_) else ((gapV n xs (x.at_ + x.lf.wd)).1 + 1, (gapV n xs (x.at_ + x.lf.wd)).2)
theorem drop_ld (L : List Ld) (k : Nat) (h : k < L.length) : L.drop k = L[k]?.getD ldD :: L.drop (k + 1) := by
  rw [List.drop_eq_getElem_cons h]; simp [h]
/-- What lies is small. -/
structure LdOk (x : Ld) : Prop where
  lf : LfOk x.lf
  a0 : 0 ≤ x.at_
  a1 : x.at_ + x.lf.wd ≤ 4294967296
set_option maxHeartbeats 2000000 in
theorem gap_any (sb B : Nat) (v : Value) (L : List Ld) (n : Int) (w : World) (hs : w.heap[sb]? = some (.cells #[v] 49 (0, 0))) (ho : OutD w B v L) (hok : ∀ x ∈ L, LdOk x) (hn : 0 ≤ n ∧ n ≤ 1048576) :
    Calls Try.prog 45 #[.pointer (some ⟨sb, 0, none⟩), .int .i64 n] w fun e w' => e = .returned (.tuple #[.int .i64 ((gapV n L 0).1 : Int), .int .i64 (gapV n L 0).2]) ∧ Below w.heap.size w w' := by
  obtain ⟨A, c, rfl, hml⟩ : ∃ A c, v = .slice A L.length c ∧ L.length ≤ 9223372036854775807 := by
    rcases ho.row with ⟨rfl, rfl⟩ | ⟨g, c, rfl, _, h1, h2, _⟩
    · exact ⟨none, 0, rfl, by simp⟩
    · exact ⟨_, c, rfl, by omega⟩
  have z0 := (Array.getElem?_eq_some_iff.1 hs).1
  have HS := hide hs
  have c0 : w.cell? ⟨sb, 0, none⟩ = some (.slice A L.length c) := by simp [World.cell?, hs]
  have HO := hide ho
  have HOK := hide hok
  obtain ⟨R, hR⟩ : ∃ R, R = gapV n L 0 := ⟨_, rfl⟩
  rw [← hR]
  have HR := hide hR
  obtain ⟨len, hlen⟩ : ∃ len, len = L.length := ⟨_, rfl⟩
  have HLN := hide hlen
  rw [← hlen] at c0 hml
  have C0 := hide c0
  clear hs ho hok hR hlen
  go_enter Try.func45, Try.ntmps45
  go_wp2
  go_loopw [5, 13] (fun v5 i wr => ∃ (k : Nat) (p : Int), k ≤ len ∧ i = .int .i64 k ∧ v5 = .int .i64 p ∧ (0 ≤ p ∧ p ≤ 4294967296) ∧ (k + (gapV n (L.drop k) p).1, (gapV n (L.drop k) p).2) = R ∧ Below w.heap.size w wr) (fun _ i _ => len - (intOf i).toNat)
  case atStart => exact ⟨0, 0, Nat.zero_le _, rfl, rfl, by omega, by rw [HR.out]; simp, Below.refl _ _⟩
  case round =>
    obtain ⟨k, p, hk, rfl, rfl, hp, hg, hB⟩ := hrel
    have HG := hide hg
    have HB := hide hB
    clear hg hB
    by_cases hlt : k < len
    · have hkl : k < L.length := by rw [← HLN.out]; exact hlt
      obtain ⟨g, rfl, q0, q1, q2, q3⟩ : ∃ g, A = some ⟨g, 0, none⟩ ∧ wr.cell? ⟨g, k * 4, none⟩ = some (.int .i64 (L[k]?.getD ldD).lf.fr) ∧ wr.cell? ⟨g, k * 4 + 1, none⟩ = some (.int .i64 (L[k]?.getD ldD).lf.to) ∧ wr.cell? ⟨g, k * 4 + 2, none⟩ = some (.int .i64 (L[k]?.getD ldD).lf.wd) ∧ wr.cell? ⟨g, k * 4 + 3, none⟩ = some (.int .i64 (L[k]?.getD ldD).at_) := by
        rcases HO.out.row with ⟨_, e⟩ | ⟨g, c', e, h0, h1, h2, hrow⟩
        · rw [e] at hkl; simp at hkl
        · cases e
          exact ⟨g, rfl, (hrow.below HB.out).cells (x := L[k]?.getD ldD) (by omega) (by simp [hkl])⟩
      have hx := HOK.out (L[k]?.getD ldD) (by simp [hkl])
      have hd := HG.out
      rw [drop_ld L k hkl, gapV] at hd
      have z1 := lt_of_cell q0
      simp only at z1
      obtain ⟨x, hxq⟩ : ∃ x, x = L[k]?.getD ldD := ⟨_, rfl⟩
      rw [← hxq] at q0 q1 q2 q3 hd hx
      have HD := hide hd
      have hb1 := hx.a0
      have hb2 := hx.a1
      have hb3 := hx.lf.w0
      have hb4 := hx.lf.w1
      have hw1 : IntKind.i64.wrap (p + n) = p + n := by rw [IntKind.wrap_i64]; omega
      have hw2 : IntKind.i64.wrap (x.at_ + x.lf.wd) = x.at_ + x.lf.wd := by rw [IntKind.wrap_i64]; omega
      have HB3 := hide (bl_on HB.out (bl_new (.cells #[.int .i64 x.lf.fr, .int .i64 x.lf.to, .int .i64 x.lf.wd, .int .i64 x.at_] 73)))
      clear hd hkl hx hxq HG
      by_cases hle : p + n ≤ x.at_
      · have hd := HD.out
        rw [if_pos hle] at hd
        have HD2 := hide hd
        clear hd
        go_wp2
        refine bodyPost_ret (v := .tuple #[.int .i64 (k : Int), .int .i64 p]) (by simp [results, Try.results45, go_sem]) rfl ⟨by rw [← HD2.out]; simp, HB3.out⟩
      · have hd := HD.out
        rw [if_neg hle] at hd
        have HD2 := hide hd
        clear hd
        go_wp2
        go_roundw
        case rel => exact ⟨k + 1, x.at_ + x.lf.wd, by omega, by go_num, rfl, by omega, by rw [← HD2.out]; simp; omega, HB3.out⟩
        case measure => simp [intOf]; omega
    · obtain rfl : k = len := by omega
      have hd := HG.out
      rw [List.drop_of_length_le (by rw [← HLN.out]; omega)] at hd
      have HD2 := hide hd
      have c1 := (HB.out.cell (p := ⟨sb, 0, none⟩) z0).trans C0.out
      have z1 := HB.out.size
      clear hd c0
      go_wp2
      refine bodyPost_ret (v := .tuple #[.int .i64 (k : Int), .int .i64 p]) (by simp [results, Try.results45, go_sem]) rfl ⟨by rw [← HD2.out]; simp [gapV], HB.out⟩
end Go.Proofs.Ytnncalhpbfmgoaa.V
