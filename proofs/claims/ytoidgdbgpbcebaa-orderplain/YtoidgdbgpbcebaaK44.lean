/-
  Orders: at plain times all stands as it does.
-/
import Derived.Test.YtoidgdbgpbcebaaK18
import Derived.Test.YtoidgdbgpbcebaaK43
namespace Go.Proofs.Ytoidgdbgpbcebaa.V
open Go.RowKit
set_option linter.unusedVariables false

/-- The order of lists of one length. -/
def lexL : List Int → List Int → Prop
  | x :: xs, y :: ys => x < y ∨ (x = y ∧ lexL xs ys)
  | _, _ => False
theorem lexL_at : ∀ {x y : List Int}, lexL x y → ∃ m, m < x.length ∧ (∀ j, j < m → x[j]?.getD 0 = y[j]?.getD 0) ∧ x[m]?.getD 0 < y[m]?.getD 0
  | [], _, h => by simp [lexL] at h
  | x :: xs, [], h => by simp [lexL] at h
  | x :: xs, y :: ys, h => by
    rcases h with h | ⟨rfl, h⟩
    · exact ⟨0, by simp, fun j hj => by omega, by simpa using h⟩
    · obtain ⟨m, h1, h2, h3⟩ := lexL_at h
      refine ⟨m + 1, by simpa using h1, fun j hj => ?_, by simpa using h3⟩
      cases j with
      | zero => rfl
      | succ j => simpa using h2 j (by omega)
theorem BL_sorted : ∀ (box : List Int), (∀ x ∈ box, 0 ≤ x) → (BL box).Pairwise lexL
  | [], _ => by
    have e : BL [] = [[]] := by simp [BL, prod, indexV]
    rw [e]
    simp
  | b :: post, h => by
    have hb := h b (by simp)
    obtain ⟨n, rfl⟩ : ∃ n : Nat, b = (n : Int) := ⟨b.toNat, by omega⟩
    have e := BL_app [(n : Int)] post.length post rfl (by simpa using h)
    rw [List.singleton_append] at e
    rw [e, BL_one, List.flatMap_map, List.pairwise_flatMap]
    have ih := BL_sorted post (fun x hx => h x (by simp [hx]))
    refine ⟨fun q _ => ?_, ?_⟩
    · rw [List.pairwise_map]
      exact ih.imp (fun h => .inr ⟨rfl, h⟩)
    · refine List.pairwise_lt_range.imp (fun {p q} hpq => fun x hx y hy => ?_)
      obtain ⟨x', _, rfl⟩ := List.mem_map.1 hx
      obtain ⟨y', _, rfl⟩ := List.mem_map.1 hy
      exact .inl (by omega)
theorem pts_sub (box : List Int) (rs : List (List Int × Int)) : (pts box rs).Sublist (BL box) := List.filter_sublist
/-- How spots stand. -/
def spLt (a b : Spn) : Prop := a.1 < b.1 ∨ (a.1 = b.1 ∧ lexL a.2 b.2)
theorem spK_sorted (ss : List Stm) (h : ∀ s ∈ ss, PtOk s.box s.rows) : ∀ k, k ≤ ss.length → (spK ss k).Pairwise spLt := by
  intro k hk
  unfold spK
  rw [List.pairwise_flatMap]
  refine ⟨fun i hi => ?_, List.pairwise_lt_range.imp (fun {p q} hpq => fun x hx y hy => ?_)⟩
  · unfold spS
    rw [List.pairwise_map]
    have hi' : i < ss.length := by have := List.mem_range.1 hi; omega
    have hp := h _ (mem_getS ss i hi')
    have hs := BL_sorted (ss[i]?.getD stmD).box (fun x hx => (hp.dims x hx).1)
    refine (hs.sublist (pts_sub _ _)).imp (fun h => .inr ⟨rfl, h⟩)
  · obtain ⟨x', _, rfl⟩ := List.mem_map.1 hx
    obtain ⟨y', _, rfl⟩ := List.mem_map.1 hy
    exact .inl hpq
/-- Plain times. -/
def unitR (n k : Nat) : List Int := (List.range n).map (fun j => if j = k then 1 else 0)
def plainR (n i : Nat) : List (List Int × Int) := (List.replicate n 0, (i : Int)) :: (List.range n).map (fun k => (unitR n k, 0))
def plainT (ss : List Stm) : Tms := (List.range ss.length).map (fun i => plainR (ss[i]?.getD stmD).box.length i)
theorem dotV_repl : ∀ (n : Nat) (x : List Int), dotV (List.replicate n 0) x = 0
  | 0, x => by simp [dotV]
  | n + 1, [] => by simp [List.replicate_succ, dotV]
  | n + 1, y :: ys => by simp [List.replicate_succ, dotV, dotV_repl n ys]
theorem dotV_unit : ∀ (n k : Nat) (x : List Int), x.length = n → k < n → dotV (unitR n k) x = x[k]?.getD 0
  | 0, k, x, _, hk => by omega
  | n + 1, k, [], hx, _ => by simp at hx
  | n + 1, 0, y :: ys, hx, _ => by
    unfold unitR
    rw [List.range_succ_eq_map, List.map_cons, List.map_map]
    have e : (List.range n).map ((fun j => if j = 0 then (1 : Int) else 0) ∘ Nat.succ) = List.replicate n 0 := by
      rw [List.eq_replicate_iff]
      refine ⟨by simp, fun b hb => ?_⟩
      obtain ⟨j, _, rfl⟩ := List.mem_map.1 hb
      simp
    rw [e]
    simp [dotV, dotV_repl]
  | n + 1, k + 1, y :: ys, hx, hk => by
    have ih := dotV_unit n k ys (by simpa using hx) (by omega)
    unfold unitR at ih ⊢
    rw [List.range_succ_eq_map, List.map_cons, List.map_map]
    have e : (List.range n).map ((fun j => if j = k + 1 then (1 : Int) else 0) ∘ Nat.succ) = (List.range n).map (fun j => if j = k then 1 else 0) := by
      apply List.map_congr_left
      intro j _
      simp
    rw [e]
    simp [dotV, ih]
theorem plain_time (ss : List Stm) (a : Spn) (h : a.1 < ss.length) (hl : a.2.length = (ss[a.1]?.getD stmD).box.length) (k : Nat) : spT (plainT ss) a k = if k = 0 then (a.1 : Int) else if k ≤ a.2.length then a.2[k - 1]?.getD 0 else 0 := by
  have e : (plainT ss)[a.1]?.getD [] = plainR (ss[a.1]?.getD stmD).box.length a.1 := by simp [plainT, h]
  unfold spT timeV
  rw [e, ← hl]
  unfold plainR
  cases k with
  | zero => simp [worthV, dotV_repl]
  | succ k =>
    have t1 : ¬ (k + 1 = 0) := by omega
    by_cases c : k < a.2.length
    · have t2 : k + 1 < ((List.replicate a.2.length (0 : Int), (a.1 : Int)) :: (List.range a.2.length).map (fun k => (unitR a.2.length k, (0 : Int)))).length := by simp [c]
      have t3 : k + 1 ≤ a.2.length := by omega
      rw [if_pos t2, if_neg t1, if_pos t3]
      simp [c, worthV, dotV_unit _ _ _ rfl c]
    · have t2 : ¬ k + 1 < ((List.replicate a.2.length (0 : Int), (a.1 : Int)) :: (List.range a.2.length).map (fun k => (unitR a.2.length k, (0 : Int)))).length := by simp; omega
      have t3 : ¬ k + 1 ≤ a.2.length := by omega
      rw [if_neg t2, if_neg t1, if_neg t3]
theorem plain_bef (ss : List Stm) (a b : Spn) (ha : a.1 < ss.length) (hb : b.1 < ss.length) (hla : a.2.length = (ss[a.1]?.getD stmD).box.length) (hlb : b.2.length = (ss[b.1]?.getD stmD).box.length) (h4 : a.2.length ≤ 4) (h : spLt a b) : befB (spT (plainT ss) a) (spT (plainT ss) b) = true := by
  rcases h with h | ⟨h1, h⟩
  · rw [befB_here (k := 0) (by omega) (fun j hj => by omega) (by rw [plain_time ss a ha hla, plain_time ss b hb hlb]; simp; omega)]
    rw [plain_time ss a ha hla, plain_time ss b hb hlb]
    simp; omega
  · obtain ⟨m, k1, k2, k3⟩ := lexL_at h
    have hl : a.2.length = b.2.length := by rw [hla, hlb, h1]
    have e : ∀ c : Spn, c.1 < ss.length → c.2.length = (ss[c.1]?.getD stmD).box.length → c.2.length = a.2.length → spT (plainT ss) c (m + 1) = c.2[m]?.getD 0 := fun c hc hlc hle => by
      rw [plain_time ss c hc hlc, if_neg (by omega), if_pos (by omega)]
      rfl
    have q : befB (spT (plainT ss) a) (spT (plainT ss) b) = decide (spT (plainT ss) a (m + 1) < spT (plainT ss) b (m + 1)) := by
      refine befB_here (by omega) (fun j hj => ?_) (by rw [e a ha hla rfl, e b hb hlb hl.symm]; omega)
      rw [plain_time ss a ha hla, plain_time ss b hb hlb]
      cases j with
      | zero => simp [h1]
      | succ j =>
        have t1 : ¬ (j + 1 = 0) := by omega
        have t2 : j + 1 ≤ a.2.length := by omega
        have t3 : j + 1 ≤ b.2.length := by omega
        rw [if_neg t1, if_neg t1, if_pos t2, if_pos t3]
        exact k2 j (by omega)
    rw [q, e a ha hla rfl, e b hb hlb hl.symm]
    simpa using k3
/-- At plain times nothing changes places, and nothing goes at one time with another one. -/
theorem plain_pairs (zs : List Int) (ss : List Stm) (hn : NestOk zs ss) : (spK ss ss.length).Pairwise (fun a b => befB (spT (plainT ss) a) (spT (plainT ss) b) = true) := by
  have hp : ∀ s ∈ ss, PtOk s.box s.rows := fun s h => ptE_ok (hn.stms s h).pt
  refine (List.Pairwise.imp_of_mem (fun {a b} ha hb h => ?_) (spK_sorted ss hp ss.length (Nat.le_refl _)))
  obtain ⟨a1, a2⟩ := sp_mem ha
  obtain ⟨b1, b2⟩ := sp_mem hb
  have pa := hp _ (mem_getS ss _ a1)
  obtain ⟨_, la⟩ := ne_pts_mem pa a2
  obtain ⟨_, lb⟩ := ne_pts_mem (hp _ (mem_getS ss _ b1)) b2
  exact plain_bef ss a b a1 b1 la lb (by rw [la]; exact pa.rank) h
theorem plain_none (Z : Mem) (zs : List Int) (ss : List Stm) (hn : NestOk zs ss) (al : Bool) : NoneTo (badP Z ss (plainT ss) al) (spK ss ss.length) (spK ss ss.length).length := by
  intro j i hj hi
  have h := List.pairwise_iff_getElem.1 (plain_pairs zs ss hn) i j (by omega) hj hi
  have e1 : (spK ss ss.length)[i]?.getD spD = (spK ss ss.length)[i]'(by omega) := by simp [show i < (spK ss ss.length).length by omega]
  have e2 : (spK ss ss.length)[j]?.getD spD = (spK ss ss.length)[j]'hj := by simp [hj]
  rw [e1, e2]
  unfold badP
  cases al with
  | true =>
    have : eq8 (spT (plainT ss) ((spK ss ss.length)[i]'(by omega))) (spT (plainT ss) ((spK ss ss.length)[j]'hj)) = false := by
      cases hc : eq8 (spT (plainT ss) ((spK ss ss.length)[i]'(by omega))) (spT (plainT ss) ((spK ss ss.length)[j]'hj)) with
      | false => rfl
      | true =>
        rw [eq8_iff] at hc
        rw [befB_same hc] at h
        cases h
    simp [this]
  | false => simp [befB_asymm h]
end Go.Proofs.Ytoidgdbgpbcebaa.V
