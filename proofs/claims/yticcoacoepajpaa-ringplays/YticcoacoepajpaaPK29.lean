/-
  Rows that grow, nearly as far as Go lets them.
-/
import Derived.Test.YticcoacoepajpaaPK21
import Derived.Deep.DeepAppendWide
namespace Go.Proofs.Yticcoacoepajpaa.V
open Go Go.RowKit
set_option linter.unusedVariables false
set_option linter.unusedSimpArgs false

/-- Where there is no room a new row is made. -/
theorem run_grows_w {W : World} {t ty e : TypeId} {i : TypeInfo} {z : Value} {size bytes : Nat} (ht : Try.prog.underlying t = some (.slice e)) (hi : Try.prog.info? e = some i) (hz : i.zero = some z) (hsize : i.size = size) (hby : i.bytes = bytes) (hzs : z.cells.size = size)
    {g n cap : Nat} {xs : List Value} (hx : xs.length = n * size) (hc : ∀ j u, xs[j]? = some u → W.cell? ⟨g, j, none⟩ = some u) (a : Addr) (m c : Nat) (news : List Value) (hl : news.length = m * size) (hnews : ∀ j u, news[j]? = some u → W.cell? (a.add j) = some u)
    (hg : cap < n + m) (h63 : n + m ≤ maxLen) (hbytes : (n + m + (n + m) / 4 + 192) * bytes ≤ 281474976710656) (B : Nat) (hB : B ≤ W.heap.size) :
    ∃ v' w', (Builtin.append_ #[t, t] ty #[.slice (some ⟨g, 0, none⟩) n cap, .slice (some a) m c]).run Try.prog W = .ok v' w' ∧ w'.ownsRow B e size v' (n + m) (xs ++ news) ∧ W.grownBy w' (some g) ∧ v'.ownBlock = some W.heap.size := by
  subst hsize
  subst hby
  have hlen : (xs ++ news).length = (n + m) * i.size := by rw [List.length_append, hx, hl, Nat.add_mul]
  have h1 : ((n + m : Nat) : Int) ≤ 9223372036854775807 := by unfold maxLen at h63; omega
  have hr := run_append_grow (P := Try.prog) W t ty e i z ht hi hz ⟨g, 0, none⟩ n cap xs hx (fun j u hj => by rw [add_pl, Nat.zero_add]; exact hc j u hj) a m c news hl hnews hg h1 (growslice_fits_wide hg hbytes)
  obtain ⟨k, hk⟩ : ∃ k, k = grownCap W (n + m) cap e := ⟨_, rfl⟩
  have hk1 : n + m ≤ k := by rw [hk]; exact grownCap_ge W (n + m) cap e
  have hk2 : k ≤ maxLen := by rw [hk]; exact grownCap_le_maxLen W (n + m) cap e h63
  rw [← hk] at hr
  refine ⟨_, _, hr, ⟨hlen, .inr ⟨W.heap.size, k, _, rfl, hB, heap_alloc_new W.drew _, hk1, hk2, ?_, ?_⟩⟩, ⟨rfl, rfl, rfl, by simp, fun j hj _ => heap_alloc_old W.drew _ hj⟩, rfl⟩
  · have h2 : (xs ++ news).length + (k - (n + m)) * i.size = k * i.size := by rw [hlen, ← Nat.add_mul]; congr 1; omega
    rw [List.length_append] at h2
    simp only [Array.size_append, List.size_toArray, size_zeroCells, hzs]
    omega
  · simp only [Array.toList_append, List.append_assoc]
    rw [← List.append_assoc, ← hlen]
    exact List.take_left
theorem run_append_w {W : World} {B : Nat} {t ty e : TypeId} {i : TypeInfo} {z : Value} {size bytes : Nat} (ht : Try.prog.underlying t = some (.slice e)) (hi : Try.prog.info? e = some i) (hz : i.zero = some z) (hsize : i.size = size) (hby : i.bytes = bytes) (hzs : z.cells.size = size) (hsz : 0 < size)
    {v : Value} {n : Nat} {xs : List Value} (h : RowC W B e size v n xs) (a : Addr) (m c : Nat) (news : List Value) (hl : news.length = m * size) (hnews : ∀ j u, news[j]? = some u → W.cell? (a.add j) = some u) (h1 : ∀ u ∈ news, u.oneCell' = true)
    (hm : 1 ≤ m) (h63 : n + m ≤ maxLen) (hbytes : (n + m + (n + m) / 4 + 192) * bytes ≤ 281474976710656) (hbase : B ≤ W.heap.size) :
    ∃ v' w', (Builtin.append_ #[t, t] ty #[v, .slice (some a) m c]).run Try.prog W = .ok v' w' ∧ RowC w' B e size v' (n + m) (xs ++ news) ∧ W.grownBy w' v.ownBlock ∧ (v'.ownBlock = v.ownBlock ∨ ∃ g', v'.ownBlock = some g' ∧ W.heap.size ≤ g') := by
  have hcell : ∀ {g cap : Nat}, v = .slice (some ⟨g, 0, none⟩) n cap → ∀ j u, xs[j]? = some u → W.cell? ⟨g, j, none⟩ = some u := fun e j u hj => h.cell e hj
  have hlen := h.len
  rcases h with h | ⟨h0, g, cur, rfl, h2, h3, h4, h5⟩
  · rcases h.2 with ⟨rfl, rfl⟩ | ⟨g, cap, cur, rfl, k1, k2, k3, k4, k5, k6⟩
    · obtain ⟨v', w', r1, r2, r3, _⟩ := run_append_own_wide (P := Try.prog) W B t ty e i z size bytes ht hi hz hsize hby hzs hsz _ 0 xs h a m c news hl hnews h1 h63 hbytes hbase
      refine ⟨v', w', r1, .inl r2, r3, .inr ⟨W.heap.size, ?_, Nat.le_refl _⟩⟩
      have hn := run_append_nil (P := Try.prog) W t ty e i z ht hi hz a m c news (by rw [hsize]; exact hl) hnews (by omega) (by unfold maxLen at h63; omega) (by rw [hby]; exact Nat.le_trans (Nat.mul_le_mul_right _ (by omega)) hbytes)
      rw [hn] at r1
      cases r1
      rfl
    · by_cases hroom : n + m ≤ cap
      · obtain ⟨v', w', r1, r2, r3, _⟩ := run_append_own_wide (P := Try.prog) W B t ty e i z size bytes ht hi hz hsize hby hzs hsz _ n xs h a m c news hl hnews h1 h63 hbytes hbase
        refine ⟨v', w', r1, .inl r2, r3, .inl ?_⟩
        have hn := run_append_room (P := Try.prog) W t ty e i ht hi g n cap cur k2 a m c news (by rw [hsize]; exact hl) hnews h1 hroom (by rw [hsize, hl, k5, ← Nat.add_mul]; exact Nat.mul_le_mul_right _ hroom)
        rw [hn] at r1
        cases r1
        rfl
      · obtain ⟨v', w', r1, r2, r3, r4⟩ := run_grows_w (ty := ty) ht hi hz hsize hby hzs (g := g) (n := n) (cap := cap) hlen (hcell rfl) a m c news hl hnews (by omega) h63 hbytes B hbase
        exact ⟨v', w', r1, .inl r2, r3, .inr ⟨_, r4, Nat.le_refl _⟩⟩
  · obtain ⟨v', w', r1, r2, r3, r4⟩ := run_grows_w (ty := ty) ht hi hz hsize hby hzs (g := g) (n := n) (cap := n) hlen (hcell rfl) a m c news hl hnews (by omega) h63 hbytes B hbase
    exact ⟨v', w', r1, .inl r2, r3, .inr ⟨_, r4, Nat.le_refl _⟩⟩
/-- append(row, thing), at the operation. -/
theorem append_w {w : World} {ops : Array Oper} {rest : List Oper} {o : Oper} {a : Act} {Q : Exit → Act → World → Prop} (hgd : o.guard = none) (s x : Operand) (t : TypeId) (ho : o.op = .call { callee := .builtin .append, args := #[s, x], argTypes := #[t, t] })
    (B : Nat) (e : TypeId) (i : TypeInfo) (z : Value) (size bytes : Nat) (ht : Try.prog.underlying t = some (.slice e)) (hi : Try.prog.info? e = some i) (hz : i.zero = some z) (hsize : i.size = size) (hby : i.bytes = bytes) (hzs : z.cells.size = size) (hsz : 0 < size)
    (v : Value) (n : Nat) (xs : List Value) (hs : a.eval s = v) (h : RowC w B e size v n xs) (ad : Addr) (m c : Nat) (news : List Value) (hx : a.eval x = .slice (some ad) m c) (hl : news.length = m * size) (hnews : ∀ j u, news[j]? = some u → w.cell? (ad.add j) = some u) (h1 : ∀ u ∈ news, u.oneCell' = true)
    (hm : 1 ≤ m) (h63 : n + m ≤ maxLen) (hbytes : (n + m + (n + m) / 4 + 192) * bytes ≤ 281474976710656) (hbase : B ≤ w.heap.size)
    (hQ : ∀ v' w', RowC w' B e size v' (n + m) (xs ++ news) → w.grownBy w' v.ownBlock → (v'.ownBlock = v.ownBlock ∨ ∃ g', v'.ownBlock = some g' ∧ w.heap.size ≤ g') → wpList Try.prog ops Q rest (a.put o.dst v') w') : wpList Try.prog ops Q (o :: rest) a w := by
  refine wpList_plain hgd fun K hK => ?_
  obtain ⟨v', w', hr, h2, h3, h4⟩ := run_append_w (ty := o.type) ht hi hz hsize hby hzs hsz h ad m c news hl hnews h1 hm h63 hbytes hbase
  unfold Oper.wp execOp
  simp only [ho, resolve, invoke, builtin, Sem.run_bind, Sem.run_pure, Result.andThen_ok, List.map_toArray, List.map_cons, List.map_nil, hs, hx, hr]
  exact hK _ _ (hQ v' w' h2 h3 h4)
end Go.Proofs.Yticcoacoepajpaa.V
