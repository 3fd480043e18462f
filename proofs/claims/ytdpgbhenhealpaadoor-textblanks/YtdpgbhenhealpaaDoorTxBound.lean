/-
  No list of what is read is longer than the tokens are many.
-/
import Derived.Test.YtdpgbhenhealpaaDoorTxGram
namespace Go.Proofs.YtdpgbhenhealpaaDoor.V
set_option maxRecDepth 20000
set_option linter.unusedVariables false

mutual
/-- All lists of a tree have at most N entries. -/
def TrOk (N : Nat) : Tr → Prop
  | .mk _ _ _ _ shape lists kids => shape.length ≤ N ∧ lists.length ≤ N ∧ (∀ l ∈ lists, l.length ≤ N) ∧ kids.length ≤ N ∧ KidsOk N kids
def KidsOk (N : Nat) : List Tr → Prop
  | [] => True
  | t :: ts => TrOk N t ∧ KidsOk N ts
end
theorem kidsOk_all {N : Nat} : ∀ {ts : List Tr}, KidsOk N ts ↔ ∀ t ∈ ts, TrOk N t
  | [] => by simp [KidsOk]
  | t :: ts => by simp [KidsOk, kidsOk_all (ts := ts)]
def FnOk (N : Nat) (f : FnT) : Prop := f.given.length ≤ N ∧ (∀ g ∈ f.given, g.2.length ≤ N) ∧ TrOk N f.body
/-- Where it is read, p holds of it. -/
def ResP {α : Type} (p : α → Nat → Prop) : Res α → Prop
  | .bad _ _ => True
  | .ok a i => p a i
theorem ResP.bind {α β : Type} {p : α → Nat → Prop} {q : β → Nat → Prop} {r : Res α} {f : α → Nat → Res β} (h : ResP p r) (hf : ∀ a i, p a i → ResP q (f a i)) : ResP q (r.bind f) := by
  cases r with
  | bad T k => trivial
  | ok a i => exact hf a i h
theorem ResP.mono {α : Type} {p q : α → Nat → Prop} {r : Res α} (h : ResP p r) (k : ∀ a i, p a i → q a i) : ResP q r := by
  cases r with
  | bad T k => trivial
  | ok a i => exact k a i h
theorem ResP.ite {α : Type} {p : α → Nat → Prop} {c : Prop} [Decidable c] {r s : Res α} (h1 : c → ResP p r) (h2 : ¬ c → ResP p s) : ResP p (if c then r else s) := by
  by_cases h : c
  · rw [if_pos h]; exact h1 h
  · rw [if_neg h]; exact h2 h

section
variable (X : Tks)
/-- Which place was come to. -/
abbrev Up (i : Nat) (j : Nat) : Prop := i < j ∧ j ≤ X.ts.length
theorem tx_lt {i : Nat} {t : List UInt8} (h : ((X.tx i).toList == t) = true) (ht : t ≠ []) : i < X.ts.length := Tks.lt_of h ht
theorem num_lt {i : Nat} (h : isNumB (X.tx i) = true) : i < X.ts.length := by
  by_cases c : i < X.ts.length
  · exact c
  · rw [Tks.tx_end (by omega)] at h; simp [isNumB] at h
theorem name_lt {i : Nat} (h : isNameB (X.tx i) = true) : i < X.ts.length := by
  by_cases c : i < X.ts.length
  · exact c
  · rw [Tks.tx_end (by omega)] at h; simp [isNameB] at h
theorem b_must (t : List UInt8) (ht : t ≠ []) (i : Nat) : ResP (fun _ j => Up X i j) (mustS X t i) := by
  unfold mustS
  exact ResP.ite (fun h => ⟨by omega, by have := tx_lt X h ht; omega⟩) (fun _ => trivial)
theorem b_name (i : Nat) : ResP (fun _ j => Up X i j) (nameS X i) := by
  unfold nameS
  exact ResP.ite (fun h => ⟨by omega, by have := name_lt X h; omega⟩) (fun _ => trivial)
theorem b_num (i : Nat) : ResP (fun _ j => Up X i j) (numS X i) := by
  unfold numS
  exact ResP.ite (fun h => ⟨by omega, by have := num_lt X h; omega⟩) (fun _ => trivial)
theorem b_shapeL : ∀ (f i : Nat) (ds : List (ByteArray × Int)), i ≤ X.ts.length → ds.length ≤ i → ResP (fun a j => Up X i j ∧ a.length ≤ j) (shapeL X f i ds)
  | 0, i, ds, _, _ => trivial
  | f + 1, i, ds, h1, h2 => by
    rw [shapeL]
    refine ResP.ite (fun h => ⟨⟨by omega, by have := tx_lt X h (by decide); omega⟩, by omega⟩) (fun _ => ResP.ite (fun h => ?_) (fun _ => ResP.ite (fun h => ?_) (fun _ => trivial)))
    · have := num_lt X h
      exact (b_shapeL f (i + 1) _ (by omega) (by simp; omega)).mono fun a j q => ⟨⟨by have := q.1.1; omega, q.1.2⟩, q.2⟩
    · have := name_lt X h
      exact (b_shapeL f (i + 1) _ (by omega) (by simp; omega)).mono fun a j q => ⟨⟨by have := q.1.1; omega, q.1.2⟩, q.2⟩
theorem b_shape (i : Nat) : ResP (fun a j => Up X i j ∧ a.length ≤ X.ts.length) (shapeS X i) := by
  unfold shapeS
  exact (b_must X (tC 91) (by decide) i).bind fun _ k hk => (b_shapeL X _ k [] hk.2 (by simp)).mono fun a j q => ⟨⟨by have := hk.1; have := q.1.1; omega, q.1.2⟩, by have := q.1.2; omega⟩
theorem b_listL : ∀ (f i : Nat) (ds : List Int), i ≤ X.ts.length → ds.length ≤ i → ResP (fun a j => Up X i j ∧ a.length ≤ j) (listL X f i ds)
  | 0, i, ds, _, _ => trivial
  | f + 1, i, ds, h1, h2 => by
    rw [listL]
    refine ResP.ite (fun h => ⟨⟨by omega, by have := tx_lt X h (by decide); omega⟩, by omega⟩) (fun _ => ResP.ite (fun h => ?_) (fun _ => trivial))
    have := num_lt X h
    exact (b_listL f (i + 1) _ (by omega) (by simp; omega)).mono fun a j q => ⟨⟨by have := q.1.1; omega, q.1.2⟩, q.2⟩
theorem b_list (i : Nat) : ResP (fun a j => Up X i j ∧ a.length ≤ X.ts.length) (listS X i) := by
  unfold listS
  exact (b_must X (tC 123) (by decide) i).bind fun _ k hk => (b_listL X _ k [] hk.2 (by simp)).mono fun a j q => ⟨⟨by have := hk.1; have := q.1.1; omega, q.1.2⟩, by have := q.1.2; omega⟩
theorem b_listsL : ∀ (f i : Nat) (ls : List (List Int)), i ≤ X.ts.length → ls.length ≤ i → (∀ l ∈ ls, l.length ≤ X.ts.length) → ResP (fun a j => (i ≤ j ∧ j ≤ X.ts.length) ∧ a.length ≤ j ∧ ∀ l ∈ a, l.length ≤ X.ts.length) (listsL X f i ls)
  | 0, i, ls, _, _, _ => trivial
  | f + 1, i, ls, h1, h2, h3 => by
    rw [listsL]
    refine ResP.ite (fun h => ?_) (fun _ => ⟨⟨Nat.le_refl _, h1⟩, h2, h3⟩)
    refine (b_list X i).bind fun l j hj => ?_
    refine (b_listsL f j _ hj.1.2 (by have := hj.1.1; simp; omega) (fun l' hl' => ?_)).mono fun a k q => ⟨⟨by have := hj.1.1; have := q.1.1; omega, q.1.2⟩, q.2⟩
    rcases List.mem_append.1 hl' with q | q
    · exact h3 l' q
    · simp at q; subst q; exact hj.2
theorem b_argsL {α : Type} {p : α → Prop} {E : Nat → Res α} (hE : ∀ i, i ≤ X.ts.length → ResP (fun a j => Up X i j ∧ p a) (E i)) : ∀ (f i : Nat) (us : List α), i ≤ X.ts.length → us.length ≤ i → (∀ u ∈ us, p u) → ResP (fun a j => Up X i j ∧ a.length ≤ j ∧ ∀ u ∈ a, p u) (argsL X E f i us)
  | 0, i, us, _, _, _ => trivial
  | f + 1, i, us, h1, h2, h3 => by
    rw [argsL]
    refine ResP.ite (fun h => ?_) (fun _ => ResP.ite (fun h => ⟨⟨by omega, by have := tx_lt X h (by decide); omega⟩, by omega, h3⟩) (fun _ => trivial))
    have hi := tx_lt X h (by decide)
    refine (hE (i + 1) (by omega)).bind fun a j hj => ?_
    refine (b_argsL hE f j _ hj.1.2 (by have := hj.1.1; simp; omega) (fun u hu => ?_)).mono fun a k q => ⟨⟨by have := hj.1.1; have := q.1.1; omega, q.1.2⟩, q.2⟩
    rcases List.mem_append.1 hu with q | q
    · exact h3 u q
    · simp at q; subst q; exact hj.2
theorem b_brack {α : Type} {p : α → Prop} {E : Nat → Res α} (hE : ∀ i, i ≤ X.ts.length → ResP (fun a j => Up X i j ∧ p a) (E i)) (i : Nat) : ResP (fun a j => Up X i j ∧ a.length ≤ X.ts.length ∧ ∀ u ∈ a, p u) (brackS X E i) := by
  unfold brackS
  refine (b_must X (tC 40) (by decide) i).bind fun _ k hk => ResP.ite (fun h => ⟨⟨by have := hk.1; omega, by have := tx_lt X h (by decide); omega⟩, by simp, by simp⟩) (fun _ => ?_)
  refine (hE k hk.2).bind fun a j hj => ?_
  refine (b_argsL X hE _ j [a] hj.1.2 (by have := hj.1.1; simp; omega) (by simp; exact hj.2)).mono fun a m q => ⟨⟨by have := hk.1; have := hj.1.1; have := q.1.1; omega, q.1.2⟩, by have := q.1.2; have := q.2.1; omega, q.2.2⟩
theorem two_ok {N : Nat} (hN : 2 ≤ N) {kind : Int} {nm : ByteArray} {num : Int} {a b : Tr} (ha : TrOk N a) (hb : TrOk N b) : TrOk N (.mk kind nm num false [] [] [a, b]) := by
  rw [TrOk]
  exact ⟨by simp, by simp, by simp, by simp; omega, by simp [KidsOk, ha, hb]⟩
/-- A tree is read. -/
abbrev TP (i : Nat) : Tr → Nat → Prop := fun t j => Up X i j ∧ TrOk (X.ts.length + 2) t
theorem b_bound {E : Nat → Res Tr} (hE : ∀ i, i ≤ X.ts.length → ResP (TP X i) (E i)) (kind num : Int) (word : List UInt8) (hw : word ≠ []) (i : Nat) : ResP (TP X i) (boundS X E kind num word i) := by
  unfold boundS
  refine (b_name X i).bind fun nm i1 h1 => (b_must X (tC 61) (by decide) i1).bind fun _ i2 h2 => (hE i2 h2.2).bind fun a i3 h3 => (b_must X word hw i3).bind fun _ i4 h4 => (hE i4 h4.2).bind fun b i5 h5 => ?_
  exact ⟨⟨by have := h1.1; have := h2.1; have := h3.1.1; have := h4.1; have := h5.1.1; omega, h5.1.2⟩, two_ok (by omega) h3.2 h5.2⟩
theorem b_chainL {P : Nat → Res Tr} (hP : ∀ i, i ≤ X.ts.length → ResP (TP X i) (P i)) (sg : ByteArray → Bool) (hsg : sg ByteArray.empty = false) : ∀ (f i : Nat) (t : Tr), i ≤ X.ts.length → TrOk (X.ts.length + 2) t → ResP (fun t j => (i ≤ j ∧ j ≤ X.ts.length) ∧ TrOk (X.ts.length + 2) t) (chainL X P sg f i t)
  | 0, i, t, h1, h2 => by
    rw [chainL]
    exact ResP.ite (fun _ => trivial) (fun _ => ⟨⟨Nat.le_refl _, h1⟩, h2⟩)
  | f + 1, i, t, h1, h2 => by
    rw [chainL]
    refine ResP.ite (fun h => ?_) (fun _ => ⟨⟨Nat.le_refl _, h1⟩, h2⟩)
    have hi : i < X.ts.length := by
      by_cases c : i < X.ts.length
      · exact c
      · rw [Tks.tx_end (by omega), hsg] at h; cases h
    refine (hP (i + 1) (by omega)).bind fun b j hj => ?_
    exact (b_chainL hP sg hsg f j _ hj.1.2 (two_ok (by omega) h2 hj.2)).mono fun t k q => ⟨⟨by have := hj.1.1; have := q.1.1; omega, q.1.2⟩, q.2⟩
theorem b_chain {P : Nat → Res Tr} (hP : ∀ i, i ≤ X.ts.length → ResP (TP X i) (P i)) (sg : ByteArray → Bool) (hsg : sg ByteArray.empty = false) (i : Nat) (hi : i ≤ X.ts.length) : ResP (TP X i) (chainS X P sg i) := by
  unfold chainS
  exact (hP i hi).bind fun t j hj => (b_chainL X hP sg hsg 64 j t hj.1.2 hj.2).mono fun t k q => ⟨⟨by have := hj.1.1; have := q.1.1; omega, q.1.2⟩, q.2⟩
theorem b_call {E : Nat → Res Tr} (hE : ∀ i, i ≤ X.ts.length → ResP (TP X i) (E i)) (nm : ByteArray) (i : Nat) (hi : i ≤ X.ts.length) : ResP (TP X i) (callS X E nm i) := by
  unfold callS
  have hs : ResP (fun (sh : Bool × List (ByteArray × Int)) j => (i ≤ j ∧ j ≤ X.ts.length) ∧ sh.2.length ≤ X.ts.length) (shapedS X i) := by
    unfold shapedS
    exact ResP.ite (fun _ => (b_shape X i).bind fun ds j hj => ⟨⟨by have := hj.1.1; omega, hj.1.2⟩, hj.2⟩) (fun _ => ⟨⟨Nat.le_refl _, hi⟩, by simp⟩)
  refine hs.bind fun sh i1 h1 => (b_listsL X _ i1 [] h1.1.2 (by simp) (by simp)).bind fun ls i2 h2 => (b_brack X hE i2).bind fun ks i3 h3 => ?_
  refine ⟨⟨by have := h1.1.1; have := h2.1.1; have := h3.1.1; omega, h3.1.2⟩, ?_⟩
  rw [TrOk]
  exact ⟨by have := h1.2; omega, by have := h2.1.2; have := h2.2.1; omega, fun l hl => by have := h2.2.2 l hl; omega, by have := h3.2.1; omega, kidsOk_all.2 h3.2.2⟩
theorem b_factor {E : Nat → Res Tr} (hE : ∀ i, i ≤ X.ts.length → ResP (TP X i) (E i)) (i : Nat) (hi : i ≤ X.ts.length) : ResP (TP X i) (factorS X E i) := by
  unfold factorS
  refine ResP.ite (fun h => ?_) (fun _ => ResP.ite (fun h => ?_) (fun _ => ?_))
  · have hl := tx_lt X h (by decide)
    exact (hE (i + 1) (by omega)).bind fun t j hj => (b_must X (tC 41) (by decide) j).bind fun _ k hk => ⟨⟨by have := hj.1.1; have := hk.1; omega, hk.2⟩, hj.2⟩
  · have hl := num_lt X h
    exact ⟨⟨by omega, by omega⟩, by rw [Tr.one, TrOk]; simp [KidsOk]⟩
  · refine (b_name X i).bind fun nm j hj => ResP.ite (fun _ => ?_) (fun _ => ?_)
    · exact (b_call X hE nm j hj.2).mono fun t k q => ⟨⟨by have := hj.1; have := q.1.1; omega, q.1.2⟩, q.2⟩
    · exact ⟨hj, by rw [Tr.nam, TrOk]; simp [KidsOk]⟩
theorem b_expr : ∀ (d i : Nat), i ≤ X.ts.length → ResP (TP X i) (exprS X d i)
  | 0, i, _ => trivial
  | d + 1, i, hi => by
    rw [exprS]
    refine ResP.ite (fun h => ?_) (fun _ => ResP.ite (fun h => ?_) (fun _ => ?_))
    · exact (b_bound X (b_expr d) 5 0 tIn (by decide) (i + 1)).mono fun t k q => ⟨⟨by have := q.1.1; omega, q.1.2⟩, q.2⟩
    · exact (b_num X (i + 1)).bind fun n j hj => (b_bound X (b_expr d) 6 n tWith (by decide) j).mono fun t k q => ⟨⟨by have := hj.1; have := q.1.1; omega, q.1.2⟩, q.2⟩
    · exact b_chain X (fun i hi => b_chain X (fun i hi => b_factor X (b_expr d) i hi) isMulB (by simp [isMulB]) i hi) isSumB (by simp [isSumB]) i hi
theorem b_given (i : Nat) : ResP (fun (g : ByteArray × List (ByteArray × Int)) j => Up X i j ∧ g.2.length ≤ X.ts.length) (givenS X i) := by
  unfold givenS
  exact (b_name X i).bind fun nm i1 h1 => (b_must X (tC 58) (by decide) i1).bind fun _ i2 h2 => (b_shape X i2).bind fun ds i3 h3 => ⟨⟨by have := h1.1; have := h2.1; have := h3.1.1; omega, h3.1.2⟩, h3.2⟩
theorem b_func (i : Nat) : ResP (fun f j => Up X i j ∧ FnOk (X.ts.length + 2) f) (funcS X i) := by
  unfold funcS
  refine (b_must X tFn (by decide) i).bind fun _ i1 h1 => (b_name X i1).bind fun nm i2 h2 => (b_brack X (p := fun g => g.2.length ≤ X.ts.length) (fun i _ => b_given X i) i2).bind fun gs i3 h3 => (b_must X (tC 61) (by decide) i3).bind fun _ i4 h4 => (b_expr X 64 i4 h4.2).bind fun b i5 h5 => (b_must X (tC 59) (by decide) i5).bind fun _ i6 h6 => ?_
  exact ⟨⟨by have := h1.1; have := h2.1; have := h3.1.1; have := h4.1; have := h5.1.1; have := h6.1; omega, h6.2⟩, by have := h3.2.1; simp only; omega, fun g hg => by have := h3.2.2 g hg; omega, h5.2⟩
theorem b_progL : ∀ (f i : Nat) (fs : List FnT), i ≤ X.ts.length → fs.length ≤ i → (∀ f ∈ fs, FnOk (X.ts.length + 2) f) → ResP (fun a j => a.length ≤ X.ts.length ∧ ∀ f ∈ a, FnOk (X.ts.length + 2) f) (progL X f i fs)
  | 0, i, fs, _, _, _ => trivial
  | f + 1, i, fs, h1, h2, h3 => by
    rw [progL]
    refine ResP.ite (fun h => ?_) (fun _ => ⟨by omega, h3⟩)
    refine (b_func X i).bind fun fn j hj => b_progL f j _ hj.1.2 (by have := hj.1.1; simp; omega) (fun g hg => ?_)
    rcases List.mem_append.1 hg with q | q
    · exact h3 g q
    · simp at q; subst q; exact hj.2
theorem b_prog : ResP (fun a _ => a.length ≤ X.ts.length ∧ ∀ f ∈ a, FnOk (X.ts.length + 2) f) (progS X) := b_progL X _ 0 [] (Nat.zero_le _) (by simp) (by simp)
end
end Go.Proofs.YtdpgbhenhealpaaDoor.V
