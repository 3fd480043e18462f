/-
  Orders: what Run tells. What Legal and Free tell, in memory. Orders: at plain times all stands as it does.
-/
import Derived.Test.YtkbdnhchlkafnabK15
import Derived.Test.YtkbdnhchlkafnabK11
import Derived.Test.YtkbdnhchlkafnabK7
namespace Go.Proofs.Ytkbdnhchlkafnab.V
open Go.RowKit
set_option linter.unusedVariables false

/-- What is wrong with what is to be run in an order. -/
def ordRunE (zs : List Int) (ss : List Stm) (T : Tms) (L : Mem) : Int := if rightE zs ss T ≠ 0 then rightE zs ss T else fitsE zs L
/-- What is in memory in the end. -/
def ordM (zs : List Int) (ss : List Stm) (T : Tms) (mix : List Int) (L : Mem) : Mem := if ordRunE zs ss T L = 0 then (playL T mix (spK ss ss.length).length 0 (spK ss ss.length)).foldl (spM ss) L else []
theorem pairs_of_none {bad : Spn → Spn → Bool} {l : List Spn} (h : NoneTo bad l l.length) : l.Pairwise (fun a b => bad a b = false) := by
  rw [List.pairwise_iff_getElem]
  intro i j hi hj hij
  have := h j i hj hij
  simpa [hi, hj] using this
theorem fits_same {zs : List Int} {L : Mem} (hz : ∀ z ∈ zs, 0 ≤ z ∧ z ≤ 65536) (h : fitsE zs L = 0) : SameLen L (memZ zs) := by
  obtain ⟨h1, h2⟩ := fits_ok h
  refine ⟨by rw [memZ_len]; exact h1, fun i => ?_⟩
  by_cases hi : i < zs.length
  · have e1 := h2 i (by omega)
    have e2 := memZ_arr (fun z hz' => (hz z hz').1) i hi
    omega
  · have e1 : arrM L i = [] := by unfold arrM; simp [show ¬ i < L.length by omega]
    have e2 : arrM (memZ zs) i = [] := by unfold arrM; simp [memZ, show ¬ i < zs.length by omega]
    rw [e1, e2]
/-- A LEGAL ORDER CHANGES NOTHING (and what is free can go at one time). -/
theorem ord_keeps {zs : List Int} {ss : List Stm} {T : Tms} {L : Mem} (mix : List Int) (hR : rightE zs ss T = 0) (hL : NoneTo (badP (memZ zs) ss T false) (spK ss ss.length) (spK ss ss.length).length) (hF : mix ≠ [] → NoneTo (badP (memZ zs) ss T true) (spK ss ss.length) (spK ss ss.length).length) (hf : fitsE zs L = 0) : ordRunE zs ss T L = 0 ∧ ordM zs ss T mix L = runM ss L := by
  have e0 : ordRunE zs ss T L = 0 := by unfold ordRunE; rw [if_neg (by simpa using hR)]; exact hf
  refine ⟨e0, ?_⟩
  have hok := rightE_ok hR
  have hn := nestE_ok hok.ord.nest
  unfold ordM
  rw [if_pos e0]
  have hrun := spM_run ss L ss.length (Nat.le_refl _)
  rw [List.take_length] at hrun
  rw [← hrun]
  refine play_fold (memZ zs) ss T mix (fun s h => by rw [memZ_len]; exact hn.stms s h) _ 0 _ L rfl (fits_same hn.sizes hf) (fun a ha => (sp_mem ha).1) ?_ (fun hm => ?_)
  · refine (pairs_of_none hL).imp (fun {b a} h hb => ?_)
    unfold badP at h
    simp only [Bool.false_eq_true, if_false, hb, Bool.true_and, decide_eq_false_iff_not] at h
    exact h
  · refine (pairs_of_none (hF hm)).imp (fun {b a} h hb => ?_)
    unfold badP at h
    simp only [if_true, hb, Bool.true_and, decide_eq_false_iff_not] at h
    exact h
end Go.Proofs.Ytkbdnhchlkafnab.V
namespace Go.Proofs.Ytkbdnhchlkafnab.V
open Go.RowKit
set_option linter.unusedVariables false

theorem ints_setB {w : World} {Y : Option Addr} {len B : Nat} {xs : List Int} (h : Ints w Y len xs) (hne : ∀ g o, Y = some ⟨g, o, none⟩ → g ≠ B) (i : Nat) (a : Value) : Ints (w.setCell ⟨B, i, none⟩ a) Y len xs := by
  obtain ⟨h1, h2, h3, h4⟩ := h
  refine ⟨h1, h2, h3, ?_⟩
  rcases h4 with h4 | ⟨b', off, ha, hc⟩
  · exact .inl h4
  · have e : (w.setCell ⟨B, i, none⟩ a).heap[b']? = w.heap[b']? := Below.heap_setCell _ ⟨B, i, none⟩ _ b' (hne b' off ha)
    exact .inr ⟨_, _, ha, fun j hj => (World.cell?_of_block (w := w) e).trans (hc j hj)⟩
def put5 (w : World) (b : Nat) (f : Nat → Value) : World := ((((w.setCell ⟨b, 0, none⟩ (f 0)).setCell ⟨b, 1, none⟩ (f 1)).setCell ⟨b, 2, none⟩ (f 2)).setCell ⟨b, 3, none⟩ (f 3)).setCell ⟨b, 4, none⟩ (f 4)
theorem set5 {w : World} {b : Nat} {t : TypeId} {g : Nat → Value} (h : w.rowIs b t 5 g) (f : Nat → Value) : (put5 w b f).rowIs b t 5 f := by
  refine (((((h.set 0 (f 0)).set 1 (f 1)).set 2 (f 2)).set 3 (f 3)).set 4 (f 4)).congr (fun j hj => ?_)
  have : j = 0 ∨ j = 1 ∨ j = 2 ∨ j = 3 ∨ j = 4 := by omega
  rcases this with rfl | rfl | rfl | rfl | rfl <;> rfl
theorem below5 {N : Nat} {w0 w : World} (h : Below N w0 w) {b : Nat} (hb : N ≤ b) (f : Nat → Value) : Below N w0 (put5 w b f) :=
  ((((h.setCell (p := ⟨b, 0, none⟩) hb _).setCell (p := ⟨b, 1, none⟩) hb _).setCell (p := ⟨b, 2, none⟩) hb _).setCell (p := ⟨b, 3, none⟩) hb _).setCell (p := ⟨b, 4, none⟩) hb _
theorem ints_set5 {w : World} {Y : Option Addr} {len B : Nat} {xs : List Int} (h : Ints w Y len xs) (hne : ∀ g o, Y = some ⟨g, o, none⟩ → g ≠ B) (f : Nat → Value) : Ints (put5 w B f) Y len xs :=
  ints_setB (ints_setB (ints_setB (ints_setB (ints_setB h hne 0 _) hne 1 _) hne 2 _) hne 3 _) hne 4 _
theorem NumT.set5 {w : World} {a : Option Addr} {B : Nat} (h : NumT w a) (hne : ∀ g o, a = some ⟨g, o, none⟩ → g ≠ B) (f : Nat → Value) : NumT (put5 w B f) a := ((((h.set hne).set hne).set hne).set hne).set hne
def five (a b c d e : Value) : Nat → Value
  | 0 => a | 1 => b | 2 => c | 3 => d | _ => e
theorem row5 {w : World} {b : Nat} {t : TypeId} (f : Nat → Value) (h : w.heap[b]? = some (.cells #[f 0, f 1, f 2, f 3, f 4] t (0, 0))) : w.rowIs b t 5 f := ⟨_, h, rfl, fun i hi => by
  have : i = 0 ∨ i = 1 ∨ i = 2 ∨ i = 3 ∨ i = 4 := by omega
  rcases this with rfl | rfl | rfl | rfl | rfl <;> rfl⟩
def zeroF : Value := .agg #[.bool false, .int .i64 0, .slice none 0 0, .int .i64 0, .slice none 0 0]
/-- What Legal and Free tell. -/
def FindV (zs : List Int) (ss : List Stm) (T : Tms) (al : Bool) (w : World) (v : Value) : Prop := (rightE zs ss T ≠ 0 ∧ v = zeroF) ∨ (rightE zs ss T = 0 ∧ FoundV (badP (memZ zs) ss T al) (spK ss ss.length) w v)
/-- A Found, and where it is stored. -/
theorem FindV.put {zs : List Int} {ss : List Stm} {T : Tms} {al : Bool} {w : World} {v : Value} {B : Nat} {cs : Array Value} (h : FindV zs ss T al w v) (hB : w.heap[B]? = some (.cells cs 34 (0, 0))) : ∃ (x : Bool) (i : Int) (a : Option Addr) (l c : Nat) (i2 : Int) (a2 : Option Addr) (l2 c2 : Nat), v = .agg #[.bool x, .int .i64 i, .slice a l c, .int .i64 i2, .slice a2 l2 c2] ∧ FindV zs ss T al (put5 w B (five (.bool x) (.int .i64 i) (.slice a l c) (.int .i64 i2) (.slice a2 l2 c2))) v := by
  rcases h with ⟨h1, h2⟩ | ⟨h1, ⟨h2, h3⟩ | ⟨i, j, a1, l1, c1, a2, l2, c2, h2, h3, ⟨h4, h5⟩, h6, h7⟩⟩
  · exact ⟨_, _, _, _, _, _, _, _, _, h2, .inl ⟨h1, h2⟩⟩
  · exact ⟨_, _, _, _, _, _, _, _, _, h3, .inr ⟨h1, .inl ⟨h2, h3⟩⟩⟩
  · have e1 := h5.ne hB (by decide)
    have e2 := h7.ne hB (by decide)
    exact ⟨_, _, _, _, _, _, _, _, _, h3, .inr ⟨h1, .inr ⟨i, j, a1, l1, c1, a2, l2, c2, h2, h3, ⟨ints_set5 h4 e1 _, h5.set5 e1 _⟩, ints_set5 h6 e2 _, h7.set5 e2 _⟩⟩⟩
theorem FindV.below {zs : List Int} {ss : List Stm} {T : Tms} {al : Bool} {w w' : World} {v : Value} (h : FindV zs ss T al w v) (hb : Below w.heap.size w w') : FindV zs ss T al w' v := by
  rcases h with h | ⟨h1, h | ⟨i, j, a1, l1, c1, a2, l2, c2, h2, h3, ⟨h4, h5⟩, h6, h7⟩⟩
  · exact .inl h
  · exact .inr ⟨h1, .inl h⟩
  · exact .inr ⟨h1, .inr ⟨i, j, a1, l1, c1, a2, l2, c2, h2, h3, ⟨h4.below hb, h5.below hb⟩, h6.below hb, h7.below hb⟩⟩
theorem FindV.set5 {zs : List Int} {ss : List Stm} {T : Tms} {al : Bool} {w : World} {v : Value} {B : Nat} {g : Nat → Value} (h : FindV zs ss T al w v) (hB : w.rowIs B 34 5 g) (f : Nat → Value) : FindV zs ss T al (put5 w B f) v := by
  obtain ⟨cs, hB, _⟩ := hB
  rcases h with h | ⟨h1, h | ⟨i, j, a1, l1, c1, a2, l2, c2, h2, h3, ⟨h4, h5⟩, h6, h7⟩⟩
  · exact .inl h
  · exact .inr ⟨h1, .inl h⟩
  · have e1 := h5.ne hB (by decide)
    have e2 := h7.ne hB (by decide)
    exact .inr ⟨h1, .inr ⟨i, j, a1, l1, c1, a2, l2, c2, h2, h3, ⟨ints_set5 h4 e1 _, h5.set5 e1 _⟩, ints_set5 h6 e2 _, h7.set5 e2 _⟩⟩
theorem FindV.words {zs : List Int} {ss : List Stm} {T : Tms} {al : Bool} {w : World} {v : Value} (h : FindV zs ss T al w v) : ∃ (x : Bool) (i : Int) (a : Option Addr) (l c : Nat) (i2 : Int) (a2 : Option Addr) (l2 c2 : Nat), v = .agg #[.bool x, .int .i64 i, .slice a l c, .int .i64 i2, .slice a2 l2 c2] := by
  rcases h with ⟨_, h⟩ | ⟨h1, ⟨_, h⟩ | ⟨i, j, a1, l1, c1, a2, l2, c2, h2, h3, _⟩⟩
  · exact ⟨_, _, _, _, _, _, _, _, _, h⟩
  · exact ⟨_, _, _, _, _, _, _, _, _, h⟩
  · exact ⟨_, _, _, _, _, _, _, _, _, h3⟩
theorem rowIs_other5 {w : World} {C b n : Nat} {t : TypeId} {g : Nat → Value} (h : w.rowIs C t n g) (hn : C ≠ b) (f : Nat → Value) : (put5 w b f).rowIs C t n g :=
  ((((h.setOther (a := ⟨b, 0, none⟩) hn _).setOther (a := ⟨b, 1, none⟩) hn _).setOther (a := ⟨b, 2, none⟩) hn _).setOther (a := ⟨b, 3, none⟩) hn _).setOther (a := ⟨b, 4, none⟩) hn _
theorem heap_put5 {w : World} {C b : Nat} (hn : C ≠ b) (f : Nat → Value) : (put5 w b f).heap[C]? = w.heap[C]? :=
  (Below.heap_setCell _ ⟨b, 4, none⟩ _ C hn).trans ((Below.heap_setCell _ ⟨b, 3, none⟩ _ C hn).trans ((Below.heap_setCell _ ⟨b, 2, none⟩ _ C hn).trans ((Below.heap_setCell _ ⟨b, 1, none⟩ _ C hn).trans (Below.heap_setCell _ ⟨b, 0, none⟩ _ C hn))))
end Go.Proofs.Ytkbdnhchlkafnab.V
namespace Go.Proofs.Ytkbdnhchlkafnab.V
open Go.RowKit
set_option linter.unusedVariables false

/-- The order of lists of one length. -/
def lexL : List Int → List Int → Prop
  | x :: xs, y :: ys => x < y ∨ (x = y ∧ lexL xs ys)
  | _, _ => False
theorem lexL_at : ∀ {x y : List Int}, lexL x y → ∃ m, m < x.length ∧ (∀ j, j < m → x[j]?.getD 0 = y[j]?.getD 0) ∧ x[m]?.getD 0 < y[m]?.getD 0
  | [], _, h => by simp [lexL] at h
  | x :: xs, [], h => by simp [lexL] at h
  | x :: xs, y :: ys, h => by
    rcases h with h | ⟨rfl, h⟩
    · exact ⟨0, by simp, fun j hj => by omega, by simpa using h⟩
    · obtain ⟨m, h1, h2, h3⟩ := lexL_at h
      refine ⟨m + 1, by simpa using h1, fun j hj => ?_, by simpa using h3⟩
      cases j with
      | zero => rfl
      | succ j => simpa using h2 j (by omega)
theorem BL_sorted : ∀ (box : List Int), (∀ x ∈ box, 0 ≤ x) → (BL box).Pairwise lexL
  | [], _ => by
    have e : BL [] = [[]] := by simp [BL, prod, indexV]
    rw [e]
    simp
  | b :: post, h => by
    have hb := h b (by simp)
    obtain ⟨n, rfl⟩ : ∃ n : Nat, b = (n : Int) := ⟨b.toNat, by omega⟩
    have e := BL_app [(n : Int)] post.length post rfl (by simpa using h)
    rw [List.singleton_append] at e
    rw [e, BL_one, List.flatMap_map, List.pairwise_flatMap]
    have ih := BL_sorted post (fun x hx => h x (by simp [hx]))
    refine ⟨fun q _ => ?_, ?_⟩
    · rw [List.pairwise_map]
      exact ih.imp (fun h => .inr ⟨rfl, h⟩)
    · refine List.pairwise_lt_range.imp (fun {p q} hpq => fun x hx y hy => ?_)
      obtain ⟨x', _, rfl⟩ := List.mem_map.1 hx
      obtain ⟨y', _, rfl⟩ := List.mem_map.1 hy
      exact .inl (by omega)
theorem pts_sub (box : List Int) (rs : List (List Int × Int)) : (pts box rs).Sublist (BL box) := List.filter_sublist
/-- How spots stand. -/
def spLt (a b : Spn) : Prop := a.1 < b.1 ∨ (a.1 = b.1 ∧ lexL a.2 b.2)
theorem spK_sorted (ss : List Stm) (h : ∀ s ∈ ss, PtOk s.box s.rows) : ∀ k, k ≤ ss.length → (spK ss k).Pairwise spLt := by
  intro k hk
  unfold spK
  rw [List.pairwise_flatMap]
  refine ⟨fun i hi => ?_, List.pairwise_lt_range.imp (fun {p q} hpq => fun x hx y hy => ?_)⟩
  · unfold spS
    rw [List.pairwise_map]
    have hi' : i < ss.length := by have := List.mem_range.1 hi; omega
    have hp := h _ (mem_getS ss i hi')
    have hs := BL_sorted (ss[i]?.getD stmD).box (fun x hx => (hp.dims x hx).1)
    refine (hs.sublist (pts_sub _ _)).imp (fun h => .inr ⟨rfl, h⟩)
  · obtain ⟨x', _, rfl⟩ := List.mem_map.1 hx
    obtain ⟨y', _, rfl⟩ := List.mem_map.1 hy
    exact .inl hpq
/-- Plain times. -/
def unitR (n k : Nat) : List Int := (List.range n).map (fun j => if j = k then 1 else 0)
def plainR (n i : Nat) : List (List Int × Int) := (List.replicate n 0, (i : Int)) :: (List.range n).map (fun k => (unitR n k, 0))
def plainT (ss : List Stm) : Tms := (List.range ss.length).map (fun i => plainR (ss[i]?.getD stmD).box.length i)
theorem dotV_repl : ∀ (n : Nat) (x : List Int), dotV (List.replicate n 0) x = 0
  | 0, x => by simp [dotV]
  | n + 1, [] => by simp [List.replicate_succ, dotV]
  | n + 1, y :: ys => by simp [List.replicate_succ, dotV, dotV_repl n ys]
theorem dotV_unit : ∀ (n k : Nat) (x : List Int), x.length = n → k < n → dotV (unitR n k) x = x[k]?.getD 0
  | 0, k, x, _, hk => by omega
  | n + 1, k, [], hx, _ => by simp at hx
  | n + 1, 0, y :: ys, hx, _ => by
    unfold unitR
    rw [List.range_succ_eq_map, List.map_cons, List.map_map]
    have e : (List.range n).map ((fun j => if j = 0 then (1 : Int) else 0) ∘ Nat.succ) = List.replicate n 0 := by
      rw [List.eq_replicate_iff]
      refine ⟨by simp, fun b hb => ?_⟩
      obtain ⟨j, _, rfl⟩ := List.mem_map.1 hb
      simp
    rw [e]
    simp [dotV, dotV_repl]
  | n + 1, k + 1, y :: ys, hx, hk => by
    have ih := dotV_unit n k ys (by simpa using hx) (by omega)
    unfold unitR at ih ⊢
    rw [List.range_succ_eq_map, List.map_cons, List.map_map]
    have e : (List.range n).map ((fun j => if j = k + 1 then (1 : Int) else 0) ∘ Nat.succ) = (List.range n).map (fun j => if j = k then 1 else 0) := by
      apply List.map_congr_left
      intro j _
      simp
    rw [e]
    simp [dotV, ih]
theorem plain_time (ss : List Stm) (a : Spn) (h : a.1 < ss.length) (hl : a.2.length = (ss[a.1]?.getD stmD).box.length) (k : Nat) : spT (plainT ss) a k = if k = 0 then (a.1 : Int) else if k ≤ a.2.length then a.2[k - 1]?.getD 0 else 0 := by
  have e : (plainT ss)[a.1]?.getD [] = plainR (ss[a.1]?.getD stmD).box.length a.1 := by simp [plainT, h]
  unfold spT timeV
  rw [e, ← hl]
  unfold plainR
  cases k with
  | zero => simp [worthV, dotV_repl]
  | succ k =>
    have t1 : ¬ (k + 1 = 0) := by omega
    by_cases c : k < a.2.length
    · have t2 : k + 1 < ((List.replicate a.2.length (0 : Int), (a.1 : Int)) :: (List.range a.2.length).map (fun k => (unitR a.2.length k, (0 : Int)))).length := by simp [c]
      have t3 : k + 1 ≤ a.2.length := by omega
      rw [if_pos t2, if_neg t1, if_pos t3]
      simp [c, worthV, dotV_unit _ _ _ rfl c]
    · have t2 : ¬ k + 1 < ((List.replicate a.2.length (0 : Int), (a.1 : Int)) :: (List.range a.2.length).map (fun k => (unitR a.2.length k, (0 : Int)))).length := by simp; omega
      have t3 : ¬ k + 1 ≤ a.2.length := by omega
      rw [if_neg t2, if_neg t1, if_neg t3]
theorem plain_bef (ss : List Stm) (a b : Spn) (ha : a.1 < ss.length) (hb : b.1 < ss.length) (hla : a.2.length = (ss[a.1]?.getD stmD).box.length) (hlb : b.2.length = (ss[b.1]?.getD stmD).box.length) (h4 : a.2.length ≤ 4) (h : spLt a b) : befB (spT (plainT ss) a) (spT (plainT ss) b) = true := by
  rcases h with h | ⟨h1, h⟩
  · rw [befB_here (k := 0) (by omega) (fun j hj => by omega) (by rw [plain_time ss a ha hla, plain_time ss b hb hlb]; simp; omega)]
    rw [plain_time ss a ha hla, plain_time ss b hb hlb]
    simp; omega
  · obtain ⟨m, k1, k2, k3⟩ := lexL_at h
    have hl : a.2.length = b.2.length := by rw [hla, hlb, h1]
    have e : ∀ c : Spn, c.1 < ss.length → c.2.length = (ss[c.1]?.getD stmD).box.length → c.2.length = a.2.length → spT (plainT ss) c (m + 1) = c.2[m]?.getD 0 := fun c hc hlc hle => by
      rw [plain_time ss c hc hlc, if_neg (by omega), if_pos (by omega)]
      rfl
    have q : befB (spT (plainT ss) a) (spT (plainT ss) b) = decide (spT (plainT ss) a (m + 1) < spT (plainT ss) b (m + 1)) := by
      refine befB_here (by omega) (fun j hj => ?_) (by rw [e a ha hla rfl, e b hb hlb hl.symm]; omega)
      rw [plain_time ss a ha hla, plain_time ss b hb hlb]
      cases j with
      | zero => simp [h1]
      | succ j =>
        have t1 : ¬ (j + 1 = 0) := by omega
        have t2 : j + 1 ≤ a.2.length := by omega
        have t3 : j + 1 ≤ b.2.length := by omega
        rw [if_neg t1, if_neg t1, if_pos t2, if_pos t3]
        exact k2 j (by omega)
    rw [q, e a ha hla rfl, e b hb hlb hl.symm]
    simpa using k3
/-- At plain times nothing changes places, and nothing goes at one time with another one. -/
theorem plain_pairs (zs : List Int) (ss : List Stm) (hn : NestOk zs ss) : (spK ss ss.length).Pairwise (fun a b => befB (spT (plainT ss) a) (spT (plainT ss) b) = true) := by
  have hp : ∀ s ∈ ss, PtOk s.box s.rows := fun s h => ptE_ok (hn.stms s h).pt
  refine (List.Pairwise.imp_of_mem (fun {a b} ha hb h => ?_) (spK_sorted ss hp ss.length (Nat.le_refl _)))
  obtain ⟨a1, a2⟩ := sp_mem ha
  obtain ⟨b1, b2⟩ := sp_mem hb
  have pa := hp _ (mem_getS ss _ a1)
  obtain ⟨_, la⟩ := ne_pts_mem pa a2
  obtain ⟨_, lb⟩ := ne_pts_mem (hp _ (mem_getS ss _ b1)) b2
  exact plain_bef ss a b a1 b1 la lb (by rw [la]; exact pa.rank) h
theorem plain_none (Z : Mem) (zs : List Int) (ss : List Stm) (hn : NestOk zs ss) (al : Bool) : NoneTo (badP Z ss (plainT ss) al) (spK ss ss.length) (spK ss ss.length).length := by
  intro j i hj hi
  have h := List.pairwise_iff_getElem.1 (plain_pairs zs ss hn) i j (by omega) hj hi
  have e1 : (spK ss ss.length)[i]?.getD spD = (spK ss ss.length)[i]'(by omega) := by simp [show i < (spK ss ss.length).length by omega]
  have e2 : (spK ss ss.length)[j]?.getD spD = (spK ss ss.length)[j]'hj := by simp [hj]
  rw [e1, e2]
  unfold badP
  cases al with
  | true =>
    have : eq8 (spT (plainT ss) ((spK ss ss.length)[i]'(by omega))) (spT (plainT ss) ((spK ss ss.length)[j]'hj)) = false := by
      cases hc : eq8 (spT (plainT ss) ((spK ss ss.length)[i]'(by omega))) (spT (plainT ss) ((spK ss ss.length)[j]'hj)) with
      | false => rfl
      | true =>
        rw [eq8_iff] at hc
        rw [befB_same hc] at h
        cases h
    simp [this]
  | false => simp [befB_asymm h]
end Go.Proofs.Ytkbdnhchlkafnab.V
