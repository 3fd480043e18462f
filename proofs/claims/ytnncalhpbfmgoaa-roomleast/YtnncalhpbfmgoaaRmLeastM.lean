/-
  Rooms: LIU: no order needs less.
-/
import Derived.Test.YtnncalhpbfmgoaaRmClimb
namespace Go.Proofs.Ytnncalhpbfmgoaa.V
open Go.RowKit
set_option linter.unusedVariables false

/-- What is made ahead of a time. -/
def mdB (o : List Nat) (t : Nat) : Nat → Bool := fun x => decide (x ∈ o.take t)
/-- An order of all nodes, each behind those below it, that needs no more than that. -/
structure Ordr (ab ws : List Int) (o : List Nat) (v : Int) : Prop where
  len : o.length = ab.length
  lt : ∀ t, t < o.length → atK o t < ab.length
  new : ∀ t, t < o.length → ¬ atK o t ∈ o.take t
  kid : ∀ t, t < o.length → ∀ q ∈ kids ab (atK o t), q ∈ o.take t
  need : ∀ t, t < o.length → needV ab.length ab ws (mdB o t) + nth ws (atK o t) ≤ v
theorem setL_none (l : List Nat) : setL (fun _ => false) l = fun x => decide (x ∈ l) := by funext x; simp [setL]
theorem setL_set (M : Nat → Bool) (k : Nat) (l : List Nat) : setL (setB M k) l = setL M (k :: l) := by
  funext x
  simp only [setL, setB, List.mem_cons]
  by_cases h : x = k <;> simp [h]
theorem pk_spec {ab ws : List Int} : ∀ (ord : List Int) (M : Nat → Bool) (most v : Int), pk ab ws M most ord = some v → most ≤ v ∧ ∃ o : List Nat, ord = cI o ∧ ∀ t, t < o.length → atK o t < ab.length ∧ setL M (o.take t) (atK o t) = false ∧ kidsIn ab.length ab (setL M (o.take t)) (atK o t) ∧ needV ab.length ab ws (setL M (o.take t)) + nth ws (atK o t) ≤ v
  | [], M, most, v, h => by
    rw [pk] at h
    cases h
    exact ⟨Int.le_refl _, [], rfl, fun t ht => by simp at ht⟩
  | i :: r, M, most, v, h => by
    rw [pk] at h
    by_cases hb : stepBad ab M i = true
    · rw [if_pos hb] at h; cases h
    rw [if_neg hb] at h
    obtain ⟨s1, s2, s3, s4⟩ := step_ok (by simpa using hb)
    obtain ⟨h1, o, ho, hs⟩ := pk_spec r _ _ _ h
    refine ⟨by omega, i.toNat :: o, ?_, fun t ht => ?_⟩
    · rw [ho]
      simp [cI]
      omega
    · cases t with
      | zero =>
        simp only [List.take_zero, setL_nil]
        show i.toNat < _ ∧ M i.toNat = false ∧ kidsIn _ _ M i.toNat ∧ needV _ _ _ M + nth ws i.toNat ≤ v
        exact ⟨by omega, s3, s4, by omega⟩
      | succ t =>
        have := hs t (by simpa using ht)
        rw [setL_set] at this
        rw [List.take_succ_cons]
        exact this
theorem ordr_of {ab ws ord : List Int} {v : Int} (h : peakV ab ws ord = (v, 0)) : ∃ o, ord = cI o ∧ Ordr ab ws o v := by
  unfold peakV at h
  cases hp : pk ab ws (fun _ => false) 0 ord with
  | none => rw [hp] at h; simp [peakX] at h
  | some x =>
    rw [hp] at h
    simp only [peakX] at h
    by_cases hl : ord.length = ab.length
    · rw [if_pos hl] at h
      cases h
      obtain ⟨_, o, ho, hs⟩ := pk_spec _ _ _ _ hp
      refine ⟨o, ho, ?_, fun t ht => (hs t ht).1, fun t ht hm => ?_, fun t ht q hq => ?_, fun t ht => ?_⟩
      · rw [← hl, ho]; simp [cI]
      · have := (hs t ht).2.1
        rw [setL_none] at this
        simp at this
        exact this hm
      · have h2 := (hs t ht).2.2.1
        rw [setL_none] at h2
        simp [kids, kidsTo] at hq
        simpa using h2 q hq.1 hq.2
      · have := (hs t ht).2.2.2
        rw [setL_none] at this
        exact this
    · rw [if_neg hl] at h
      simp at h
theorem nodup_sub : ∀ (o u : List Nat), o.Nodup → (∀ x ∈ o, x ∈ u) → o.length ≤ u.length
  | [], u, _, _ => by simp
  | a :: r, u, h1, h2 => by
    obtain ⟨n1, n2⟩ := List.nodup_cons.1 h1
    have ha := h2 a (by simp)
    have := nodup_sub r (u.erase a) n2 fun x hx => (List.mem_erase_of_ne (fun e : x = a => n1 (e ▸ hx))).2 (h2 x (by simp [hx]))
    rw [List.length_erase_of_mem ha] at this
    have : 0 < u.length := List.length_pos_of_mem ha
    simp
    omega
theorem mem_take {o : List Nat} {x t : Nat} : x ∈ o.take t ↔ ∃ i, i < t ∧ i < o.length ∧ atK o i = x := by
  rw [List.mem_iff_getElem]
  constructor
  · rintro ⟨i, h1, h2⟩
    simp at h1
    refine ⟨i, by omega, by omega, ?_⟩
    simp [atK, show i < o.length by omega, ← h2]
  · rintro ⟨i, h1, h2, h3⟩
    refine ⟨i, by simp; omega, ?_⟩
    simp [atK, h2] at h3
    simp [h3]
section
variable {ab ws : List Int} {o : List Nat} {v : Int}
theorem Ordr.nodup (h : Ordr ab ws o v) : o.Nodup := by
  rw [List.Nodup, List.pairwise_iff_getElem]
  intro i j hi hj hij e
  refine h.new j hj (mem_take.2 ⟨i, hij, hi, ?_⟩)
  simp [atK, hi, hj, e]
theorem Ordr.all (h : Ordr ab ws o v) {x : Nat} (hx : x < ab.length) : ∃ t, t < o.length ∧ atK o t = x := by
  by_cases hm : x ∈ o
  · obtain ⟨i, h1, h2⟩ := List.mem_iff_getElem.1 hm
    exact ⟨i, h1, by simp [atK, h1, h2]⟩
  · exfalso
    have h1 := nodup_sub o ((List.range ab.length).erase x) h.nodup fun y hy => by
      obtain ⟨i, k1, k2⟩ := List.mem_iff_getElem.1 hy
      have := h.lt i k1
      refine (List.mem_erase_of_ne (fun e : y = x => hm (e ▸ hy))).2 ?_
      simp [atK, k1, k2] at this
      simpa using this
    rw [List.length_erase_of_mem (by simpa using hx), List.length_range, h.len] at h1
    omega
theorem Ordr.inj (h : Ordr ab ws o v) {s t : Nat} (hs : s < o.length) (ht : t < o.length) (e : atK o s = atK o t) : s = t := by
  rcases Nat.lt_trichotomy s t with h1 | h1 | h1
  · exact absurd (mem_take.2 ⟨s, h1, hs, e⟩) (h.new t ht)
  · exact h1
  · exact absurd (mem_take.2 ⟨t, h1, ht, e.symm⟩) (h.new s hs)
/-- Where a node is made, its tree is. -/
theorem Ordr.desc (hT : TreeOk ab ws) (h : Ordr ab ws o v) {k t : Nat} (hk : k < ab.length) (hm : k ∈ o.take t) : ∀ x, x < ab.length → inB ab k x = true → x ∈ o.take t := by
  refine up_ind hT _ fun x hx ih a => ?_
  rcases (inB_spec hT hk).1 a with rfl | ⟨a1, a2⟩
  · exact hm
  · obtain ⟨i, i1, i2, i3⟩ := mem_take.1 (ih (by omega) a2)
    have := h.kid i i2 x (by rw [i3]; exact (mem_kids hT).2 ⟨by omega, rfl⟩)
    obtain ⟨j, j1, j2, j3⟩ := mem_take.1 this
    exact mem_take.2 ⟨j, by omega, j2, j3⟩
end
/-- What is needed of a node at a time. -/
def valT (ab ws : List Int) (o : List Nat) (t x : Nat) : Int := if (mdB o t x && openB ab (mdB o t) x) = true ∨ x = atK o t then nth ws x else 0
def needS (ab ws : List Int) (o : List Nat) (k t : Nat) : Int := sumTo (fun x => if inB ab k x = true then valT ab ws o t x else 0) ab.length
theorem sumTo_le {f g : Nat → Int} : ∀ (n : Nat), (∀ k, k < n → f k ≤ g k) → sumTo f n ≤ sumTo g n
  | 0, _ => Int.le_refl _
  | n + 1, h => by
    have h1 := sumTo_le n fun k hk => h k (by omega)
    have h2 := h n (by omega)
    rw [sumTo, sumTo]
    omega
theorem val_pos {ab ws : List Int} (hT : TreeOk ab ws) (o : List Nat) (t x : Nat) (hx : x < ab.length) : 0 ≤ valT ab ws o t x := by
  unfold valT
  have := (hT.wd x hx).1
  split <;> omega
theorem needS_all {ab ws : List Int} {o : List Nat} {v : Int} (hT : TreeOk ab ws) (h : Ordr ab ws o v) {t : Nat} (ht : t < o.length) (k : Nat) : needS ab ws o k t ≤ v := by
  refine Int.le_trans ?_ (h.need t ht)
  have h1 := sumTo_one (nth ws (atK o t)) (atK o t) ab.length
  rw [if_pos (h.lt t ht)] at h1
  rw [← h1, needV, ← sumTo_add]
  refine sumTo_le _ fun x hx => ?_
  have hp := (hT.wd x hx).1
  have hnew : mdB o t (atK o t) = false := by
    unfold mdB
    simpa using h.new t ht
  by_cases e : x = atK o t
  · subst e
    unfold valT
    simp only [hnew, Bool.false_and, or_true, if_true]
    split <;> simp
    omega
  · unfold valT
    simp only [e, or_false, if_false]
    split <;> split <;> omega
theorem needS_ge {ab ws : List Int} (hT : TreeOk ab ws) {o : List Nat} {s t x : Nat} (hx : x < ab.length) (hs : inB ab s x = true) (hv : (mdB o t x && openB ab (mdB o t) x) = true) : nth ws x ≤ needS ab ws o s t := by
  have h1 := sumTo_one (nth ws x) x ab.length
  rw [if_pos hx] at h1
  rw [← h1, needS]
  refine sumTo_le _ fun y hy => ?_
  by_cases e : y = x
  · subst e
    rw [if_pos rfl, if_pos hs, valT, if_pos (.inl hv)]
    exact Int.le_refl _
  · rw [if_neg e]
    have := val_pos hT o t y hy
    split <;> omega
/-- Trees of several that stand below one node. -/
theorem needS_sum {ab ws : List Int} (hT : TreeOk ab ws) (o : List Nat) (t k : Nat) : ∀ (A : List Nat), A.Nodup → (∀ q ∈ A, q ∈ kids ab k) → (A.map fun q => needS ab ws o q t).sum = sumTo (fun x => if (A.any fun q => inB ab q x) = true then valT ab ws o t x else 0) ab.length
  | [], _, _ => by simp [sumTo_zero]
  | q :: A, h1, h2 => by
    obtain ⟨n1, n2⟩ := List.nodup_cons.1 h1
    rw [List.map_cons, List.sum_cons, needS_sum hT o t k A n2 fun r hr => h2 r (by simp [hr]), needS, ← sumTo_add]
    refine sumTo_congr _ fun x hx => ?_
    simp only [List.any_cons]
    by_cases e1 : inB ab q x = true
    · have e2 : (A.any fun q => inB ab q x) = false := by
        rw [List.any_eq_false]
        intro r hr e
        have m1 := (mem_kids hT).1 (h2 q (by simp))
        have m2 := (mem_kids hT).1 (h2 r (by simp [hr]))
        exact inB_dis hT m1.1 m2.1 (by rw [m1.2, m2.2]) (fun e => n1 (e ▸ hr)) x hx e1 e
      simp [e1, e2]
    · simp [e1]
theorem needS_kids {ab ws : List Int} (hT : TreeOk ab ws) (o : List Nat) (t k : Nat) (A : List Nat) (h1 : A.Nodup) (h2 : ∀ q ∈ A, q ∈ kids ab k) : (A.map fun q => needS ab ws o q t).sum ≤ needS ab ws o k t := by
  rw [needS_sum hT o t k A h1 h2, needS]
  refine sumTo_le _ fun x hx => ?_
  have hp := val_pos hT o t x hx
  by_cases e : (A.any fun q => inB ab q x) = true
  · obtain ⟨q, hq, e2⟩ := List.any_eq_true.1 e
    rw [if_pos e, if_pos (inB_up hT (h2 q hq) hx e2)]
    exact Int.le_refl _
  · rw [if_neg e]
    split <;> omega
theorem mostF_pre (ws : List Int) (bl : Nat → Int) : ∀ (l : List Nat) (h m : Int), mostF ws bl h m l = m ∨ ∃ A q r, l = A ++ q :: r ∧ mostF ws bl h m l = h + wsum ws A + nth ws q + bl q
  | [], h, m => .inl rfl
  | x :: l, h, m => by
    rw [mostF]
    rcases mostF_pre ws bl l (h + nth ws x) (max m (h + nth ws x + bl x)) with e | ⟨A, q, r, e1, e2⟩
    · rw [e]
      by_cases hm : h + nth ws x + bl x ≤ m
      · exact .inl (by omega)
      · exact .inr ⟨[], x, l, rfl, by simp [wsum]; omega⟩
    · refine .inr ⟨x :: A, q, r, by rw [e1]; rfl, ?_⟩
      rw [e2]
      have : wsum ws (x :: A) = nth ws x + wsum ws A := by simp [wsum]
      omega
theorem sum_ge (f g : Nat → Int) (c : Int) (s : Nat) : ∀ (S : List Nat), S.Nodup → s ∈ S → (∀ q ∈ S, q ≠ s → g q ≤ f q) → g s + c ≤ f s → (S.map g).sum + c ≤ (S.map f).sum
  | [], _, h, _, _ => by simp at h
  | x :: S, hn, hs, h1, h2 => by
    obtain ⟨n1, n2⟩ := List.nodup_cons.1 hn
    simp only [List.map_cons, List.sum_cons]
    by_cases e : x = s
    · subst e
      have : ∀ (S : List Nat), (∀ q ∈ S, g q ≤ f q) → (S.map g).sum ≤ (S.map f).sum := by
        intro S
        induction S with
        | nil => intro _; simp
        | cons y S ih =>
          intro hh
          have a := hh y (by simp)
          have b := ih fun q hq => hh q (by simp [hq])
          simp only [List.map_cons, List.sum_cons]
          omega
      have := this S fun q hq => h1 q (by simp [hq]) (fun e => n1 (e ▸ hq))
      omega
    · have hs2 : s ∈ S := by
        rcases List.mem_cons.1 hs with e2 | e2
        · exact absurd e2.symm e
        · exact e2
      have a := sum_ge f g c s S n2 hs2 (fun q hq => h1 q (by simp [hq])) h2
      have b := h1 x (by simp) e
      omega
/-- The last of several times. -/
theorem last_of (R : Nat → Nat → Prop) : ∀ (S : List Nat), S ≠ [] → (∀ s ∈ S, ∃ t, R s t) → ∃ s t, s ∈ S ∧ R s t ∧ ∀ q ∈ S, ∃ u, u ≤ t ∧ R q u
  | [], h, _ => absurd rfl h
  | x :: S, _, h => by
    obtain ⟨t, ht⟩ := h x (by simp)
    by_cases hS : S = []
    · subst hS
      exact ⟨x, t, by simp, ht, fun q hq => by simp at hq; subst hq; exact ⟨t, Nat.le_refl _, ht⟩⟩
    · obtain ⟨s, u, h1, h2, h3⟩ := last_of R S hS fun s hs => h s (by simp [hs])
      by_cases e : u ≤ t
      · refine ⟨x, t, by simp, ht, fun q hq => ?_⟩
        rcases List.mem_cons.1 hq with rfl | hq
        · exact ⟨t, Nat.le_refl _, ht⟩
        · obtain ⟨w, w1, w2⟩ := h3 q hq
          exact ⟨w, by omega, w2⟩
      · refine ⟨s, u, by simp [h1], h2, fun q hq => ?_⟩
        rcases List.mem_cons.1 hq with rfl | hq
        · exact ⟨t, by omega, ht⟩
        · exact h3 q hq
/-- What is begun is needed till the one above is made. -/
def Holds (ab ws : List Int) (o : List Nat) : Prop := ∀ k s t u, k < ab.length → s ∈ kids ab k → t < u → u < o.length → inB ab s (atK o t) = true → inB ab s (atK o u) = false → ¬ k ∈ o.take u → nth ws s ≤ needS ab ws o s u
theorem srt_le {bl : Nat → Int} {l l' : List Nat} (h : SrtK bl l l') : ∀ (A r : List Nat) (q : Nat), l' = A ++ q :: r → ∀ s ∈ A, bl q ≤ bl s := by
  obtain ⟨D, h1, h2, h3⟩ := h
  intro A r q e s hs
  have h4 : l'.Pairwise (fun a b => bl b ≤ bl a) := by
    rw [h3, List.pairwise_map]
    refine h2.imp fun {a b} hab => ?_
    unfold ltK at hab
    simp only [Bool.or_eq_false_iff, decide_eq_false_iff_not] at hab
    omega
  rw [e, List.pairwise_append] at h4
  exact h4.2.2 s hs q (by simp)
/-- When a node is made, all that stand below it are needed, and it is. -/
theorem kids_at {ab ws : List Int} {T : List Nat} {o : List Nat} {v : Int} (hT : TreeOk ab ws) (h : Ordr ab ws o v) {k t : Nat} (ht : t < o.length) (e : atK o t = k) (hk : k < ab.length) (hws : wsum ws T = wsum ws (kids ab k)) : wsum ws T + nth ws k ≤ needS ab ws o k t := by
  have h1 := sumTo_one (nth ws k) k ab.length
  rw [if_pos hk] at h1
  rw [hws, ← h1, kids, wsum_kids, ← sumTo_add, needS]
  refine sumTo_le _ fun x hx => ?_
  have hp := val_pos hT o t x hx
  have hnk : mdB o t k = false := by
    unfold mdB
    have := h.new t ht
    rw [e] at this
    simpa using this
  by_cases e1 : x = k
  · subst e1
    have e2 : ¬ nth ab x = (x : Int) := fun e3 => by
      have hq : x ∈ kids ab x := by simp [kids, kidsTo, hx, e3]
      have := kids_lt hT hq
      omega
    rw [if_neg e2, if_pos rfl, if_pos (inB_self _ _), valT, if_pos (.inr e.symm)]
    omega
  · rw [if_neg e1]
    by_cases e2 : nth ab x = (k : Int)
    · have hq : x ∈ kids ab k := by simp [kids, kidsTo, hx, e2]
      have hmd : mdB o t x = true := by
        unfold mdB
        have := h.kid t ht x (by rw [e]; exact hq)
        simpa using this
      have hop : openB ab (mdB o t) x = true := by
        unfold openB
        rw [e2, Int.toNat_natCast, hnk]
        simp
      rw [if_pos e2, if_pos (inB_up hT hq hx (inB_self _ _)), valT, if_pos (.inl (by rw [hmd, hop]; rfl))]
      omega
    · rw [if_neg e2]
      split <;> omega
theorem liu {ab ws : List Int} {T : Nat → List Nat} {bl : Nat → Int} {o : List Nat} {v : Int} (hS : Sorted ab ws T bl) (h : Ordr ab ws o v) (hH : Holds ab ws o) : ∀ (m k : Nat), k < m → k < ab.length → ∃ t, t < o.length ∧ inB ab k (atK o t) = true ∧ peakN ws bl k ≤ needS ab ws o k t
  | 0, k, hm, _ => by omega
  | m + 1, k, hm, hk => by
    have hT := hS.rows.ok
    have hb := hS.bey k hk
    unfold beyV at hb
    have hw0 := (hT.wd k hk).1
    have hws := wsum_perm ws (hS.rows.perm k hk)
    have hwp := (wsum_bound hT (T k) (fun q hq => by have := hS.rows.lt hk hq; omega)).1
    by_cases hlast : peakN ws bl k ≤ wsum ws (T k) + nth ws k
    · obtain ⟨t, t1, t2⟩ := h.all hk
      exact ⟨t, t1, by rw [t2]; exact inB_self _ _, Int.le_trans hlast (kids_at hT h t1 t2 hk hws)⟩
    rcases mostF_pre ws bl (T k) 0 0 with e | ⟨A, q, r, e1, e2⟩
    · exfalso; unfold peakN at hlast; omega
    · skip
      have hpk : peakN ws bl k = wsum ws A + nth ws q + bl q := by unfold peakN at hlast ⊢; omega
      have hmem : ∀ s ∈ A ++ [q], s ∈ kids ab k := fun s hs => (hS.rows.mem hk).1 (by rw [e1]; simp at hs ⊢; rcases hs with hs | hs <;> simp [hs])
      have hnd : (A ++ [q]).Nodup := by
        have := hS.rows.nodup hk
        rw [e1, show A ++ q :: r = (A ++ [q]) ++ r by simp, List.nodup_append] at this
        exact this.1
      obtain ⟨s, u, s1, ⟨s2, s3, s4⟩, s5⟩ := last_of (fun s t => t < o.length ∧ inB ab s (atK o t) = true ∧ peakN ws bl s ≤ needS ab ws o s t) (A ++ [q]) (by simp) fun s hs => by
        have hl := kids_lt hT (hmem s hs)
        obtain ⟨t, h1, h2, h3⟩ := liu hS h hH m s (by omega) (by omega)
        exact ⟨t, h1, h2, h3⟩
      have hks := hmem s s1
      have hul := h.lt u s2
      have hku : inB ab k (atK o u) = true := inB_up hT hks hul s3
      have hnk : ¬ k ∈ o.take u := fun hm => h.new u s2 (h.desc hT hk hm _ hul hku)
      refine ⟨u, s2, hku, ?_⟩
      refine Int.le_trans ?_ (needS_kids hT o u k (A ++ [q]) hnd hmem)
      have hbs : bl q ≤ bl s := by
        rcases List.mem_append.1 s1 with hs | hs
        · exact srt_le (hS.srt k hk) A r q e1 s hs
        · simp at hs
          subst hs
          exact Int.le_refl _
      have hge := sum_ge (fun q => needS ab ws o q u) (nth ws) (bl s) s (A ++ [q]) hnd s1 (fun x hx hne => by
        obtain ⟨t, t1, t2, t3, _⟩ := s5 x hx
        have m1 := (mem_kids hT).1 (hmem x hx)
        have m2 := (mem_kids hT).1 hks
        have hxu : inB ab x (atK o u) = false := by
          cases hh : inB ab x (atK o u) with
          | false => rfl
          | true => exact (inB_dis hT m1.1 m2.1 (by rw [m1.2, m2.2]) hne _ hul hh s3).elim
        have htu : t ≠ u := fun e => by rw [e, hxu] at t3; cases t3
        exact hH k x t u hk (hmem x hx) (by omega) s2 t3 hxu hnk) s4
      have : ((A ++ [q]).map (nth ws)).sum = wsum ws A + nth ws q := by simp [wsum]
      rw [this] at hge
      omega
end Go.Proofs.Ytnncalhpbfmgoaa.V
