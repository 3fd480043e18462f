/-
  Contract: view.Index.
-/
import Derived.Test.YtoagnhppjlcpkaaGreatRGLastFirst
import Derived.Test.YtoagnhppjlcpkaaGreatRGReads
import Derived.Deep.OwnRows
import Derived.Test.YtoagnhppjlcpkaaGreatRGSize
namespace Go.Proofs.YtoagnhppjlcpkaaGreat.V
set_option maxRecDepth 20000
open Go.RowKit Go.Shelf
attribute [local go_sem] Oper.semAt_some

theorem info_int : (Tryz.prog.info? 3).map (fun i => (i.zero, i.size, i.bytes)) = some (some (.int .i64 0), 1, 8) := by kernel_rfl

def idxV (xs : List Int) (p : Int) (k : Nat) : Int := p / beh xs k % xs[k]?.getD 0
def indexV (xs : List Int) (p : Int) : List Int := (List.range xs.length).map (idxV xs p)
theorem row_own {β : Type} (R : Nat) (t : TypeId) (n : Nat) (f : β → Nat → Value) : Own (fun s W => W.rowIs R t n (f s)) := fun s X Y row hs hg hrow =>
  hs.of_block (hg.block R hs.lt (fun e' => by obtain ⟨o, ho, hc⟩ := hrow R e'.symm; obtain ⟨c, hb, _⟩ := hs; rw [hb] at ho; cases ho; cases hc))
theorem wrap_in (n : Int) (h1 : -9223372036854775808 ≤ n) (h2 : n ≤ 9223372036854775807) : IntKind.i64.wrap n = n := by
  simp only [IntKind.wrap, IntKind.bits, IntKind.signed]
  simp
  split <;> omega

end Go.Proofs.YtoagnhppjlcpkaaGreat.V

/-
  Contracts: view.permutes, view.rises, adjointref1.Rising; what a permutation is, said in two ways.
-/
namespace Go.Proofs.YtoagnhppjlcpkaaGreat.V
set_option maxRecDepth 20000
open Go.RowKit

/-- Those ahead of place k are numbers below n, no two alike. -/
def goodPre (xs : List Int) (n k : Nat) : Prop := ∀ i, i < k → 0 ≤ xs[i]?.getD 0 ∧ xs[i]?.getD 0 < n ∧ ∀ j, j < i → xs[j]?.getD 0 ≠ xs[i]?.getD 0
def PermOk (xs : List Int) (n : Nat) : Prop := xs.length = n ∧ goodPre xs n n
theorem goodPre_succ {xs : List Int} {n k : Nat} (h : goodPre xs n k) (h0 : 0 ≤ xs[k]?.getD 0) (h1 : xs[k]?.getD 0 < n) (h2 : ∀ j, j < k → xs[j]?.getD 0 ≠ xs[k]?.getD 0) : goodPre xs n (k + 1) := fun i hi => by
  by_cases e : i = k
  · subst e; exact ⟨h0, h1, h2⟩
  · exact h i (by omega)

/-- How often the numbers below n are met in a list. -/
def met (xs : List Int) : Nat → Nat
  | 0 => 0
  | n + 1 => met xs n + xs.countP (fun x => x == (n : Int))
theorem met_cons (x : Int) (xs : List Int) : ∀ n : Nat, met (x :: xs) n = met xs n + if 0 ≤ x ∧ x < n then 1 else 0
  | 0 => by
    have : ¬ (0 ≤ x ∧ x < ((0 : Nat) : Int)) := by omega
    rw [if_neg this]; rfl
  | n + 1 => by
    rw [met, met, met_cons x xs n, List.countP_cons]
    by_cases e : x = (n : Int)
    · subst e
      have h1 : ¬ (0 ≤ (n : Int) ∧ (n : Int) < (n : Int)) := by omega
      have h2 : 0 ≤ (n : Int) ∧ (n : Int) < ((n + 1 : Nat) : Int) := by omega
      rw [if_neg h1, if_pos h2]; simp; omega
    · have h3 : (x == (n : Int)) = false := by simp [e]
      rw [h3]
      by_cases h : 0 ≤ x ∧ x < (n : Int)
      · have h2 : 0 ≤ x ∧ x < ((n + 1 : Nat) : Int) := by omega
        rw [if_pos h, if_pos h2]; simp; omega
      · have h2 : ¬ (0 ≤ x ∧ x < ((n + 1 : Nat) : Int)) := by omega
        rw [if_neg h, if_neg h2]; simp
theorem met_le (n : Nat) : ∀ xs : List Int, met xs n ≤ xs.length
  | [] => by have : ∀ n, met [] n = 0 := fun n => by induction n with | zero => rfl | succ n ih => simp [met, ih]
             simp [this]
  | x :: xs => by rw [met_cons]; have := met_le n xs; simp; split <;> omega
theorem met_all (n : Nat) : ∀ xs : List Int, met xs n = xs.length → ∀ x ∈ xs, 0 ≤ x ∧ x < n
  | [], _, _, h => by cases h
  | x :: xs, h, y, hy => by
    rw [met_cons] at h
    have hle := met_le n xs
    simp at h
    by_cases hx : 0 ≤ x ∧ x < (n : Int)
    · rw [if_pos hx] at h
      rcases List.mem_cons.1 hy with rfl | hy'
      · exact hx
      · exact met_all n xs (by omega) y hy'
    · rw [if_neg hx] at h; omega
theorem met_of_all (n : Nat) : ∀ xs : List Int, (∀ x ∈ xs, 0 ≤ x ∧ x < n) → met xs n = xs.length
  | [], _ => by have : ∀ n, met [] n = 0 := fun n => by induction n with | zero => rfl | succ n ih => simp [met, ih]
                simp [this]
  | x :: xs, h => by rw [met_cons, met_of_all n xs (fun y hy => h y (by simp [hy])), if_pos (h x (by simp))]; simp
theorem met_ge (xs : List Int) : ∀ n : Nat, (∀ k : Nat, k < n → (k : Int) ∈ xs) → n ≤ met xs n
  | 0, _ => Nat.zero_le _
  | n + 1, h => by
    have ih := met_ge xs n (fun k hk => h k (by omega))
    have : 0 < xs.countP (fun x => x == (n : Int)) := List.countP_pos_iff.2 ⟨_, h n (by omega), by simp⟩
    rw [met]; omega
/-- If each is met at most once, and there are n of them in all, each is met. -/
theorem met_full (xs : List Int) : ∀ n : Nat, (∀ k : Nat, k < n → xs.countP (fun x => x == (k : Int)) ≤ 1) → met xs n ≤ n ∧ (met xs n = n → ∀ k : Nat, k < n → (k : Int) ∈ xs)
  | 0, _ => ⟨Nat.le_refl _, fun _ k hk => by omega⟩
  | n + 1, h => by
    obtain ⟨i1, i2⟩ := met_full xs n (fun k hk => h k (by omega))
    have hc := h n (by omega)
    refine ⟨by rw [met]; omega, fun he k hk => ?_⟩
    rw [met] at he
    have h1 : met xs n = n := by omega
    by_cases e : k = n
    · subst e
      have : 0 < xs.countP (fun x => x == (k : Int)) := by omega
      obtain ⟨y, hy, hb⟩ := List.countP_pos_iff.1 this
      simp at hb
      exact hb ▸ hy
    · exact i2 h1 k (by omega)

theorem countP_le_one {xs : List Int} (v : Int) (h : ∀ i j, i < xs.length → j < i → xs[j]?.getD 0 ≠ xs[i]?.getD 0) : xs.countP (fun x => x == v) ≤ 1 := by
  induction xs with
  | nil => simp
  | cons x r ih =>
    have ih' := ih (fun i j hi hj => by
      have := h (i + 1) (j + 1) (by simp; omega) (by omega)
      simpa using this)
    rw [List.countP_cons]
    by_cases e : x = v
    · subst e
      have h0 : r.countP (fun y => y == x) = 0 := by
        rw [List.countP_eq_zero]
        intro y hy hb
        simp at hb
        subst hb
        obtain ⟨k, hk, he⟩ := List.getElem_of_mem hy
        have := h (k + 1) 0 (by simp; omega) (by omega)
        simp [hk, he] at this
      simp [h0]
    · have : (x == v) = false := by simp [e]
      simp [this]; exact ih'
theorem perm_iff {xs : List Int} {n : Nat} (hl : xs.length = n) : goodPre xs n n ↔ ∀ k : Nat, k < n → (k : Int) ∈ xs := by
  constructor
  · intro h
    have hr : ∀ x ∈ xs, 0 ≤ x ∧ x < n := fun x hx => by
      obtain ⟨i, hi, he⟩ := List.getElem_of_mem hx
      have := h i (by omega)
      simp [hi, he] at this
      exact ⟨this.1, this.2.1⟩
    have h1 := met_of_all n xs hr
    exact (met_full xs n (fun k _ => countP_le_one _ (fun i j hi hj => (h i (by omega)).2.2 j hj))).2 (by omega)
  · intro h
    have h1 := met_ge xs n h
    have h2 := met_le n xs
    have hr := met_all n xs (by omega)
    intro i hi
    have hil : i < xs.length := by omega
    have hm := hr _ (mem_getD xs i hil)
    refine ⟨hm.1, hm.2, fun j hj he => ?_⟩
    -- two alike: one could be left out, and all would still be met
    have h3 : ∀ k : Nat, k < n → (k : Int) ∈ xs.eraseIdx i := fun k hk => by
      obtain ⟨t, ht, hte⟩ := List.getElem_of_mem (h k hk)
      by_cases e : t = i
      · rw [List.mem_eraseIdx_iff_getElem?]
        refine ⟨j, by omega, ?_⟩
        have hjl : j < xs.length := by omega
        subst e
        simp [hjl, hil] at he
        simp [hjl, he, hte]
      · rw [List.mem_eraseIdx_iff_getElem?]
        exact ⟨t, e, by simp [ht, hte]⟩
    have h4 := met_ge (xs.eraseIdx i) n h3
    have h5 := met_le n (xs.eraseIdx i)
    rw [List.length_eraseIdx_of_lt hil] at h5
    omega
end Go.Proofs.YtoagnhppjlcpkaaGreat.V

/-
  Contract: view.permutes.
-/
namespace Go.Proofs.YtoagnhppjlcpkaaGreat.V
set_option maxRecDepth 20000
open Go.RowKit

/-- It answers whether. -/
def Tells (e : Ending) (p : Prop) : Prop := ∃ r : Bool, e = .returned (.bool r) ∧ (r = true ↔ p)
/-- What has been seen among the first k. -/
def seen (xs : List Int) (k : Nat) (j : Nat) : Value := .bool ((xs.take k).any fun x => x == (j : Int))
theorem seen_succ (xs : List Int) (k j : Nat) (m : Nat) (h : k < xs.length) (hm : xs[k]?.getD 0 = (m : Int)) : (if j = m then .bool true else seen xs k j) = seen xs (k + 1) j := by
  unfold seen
  rw [take_succ_getD xs k h, List.any_append, hm]
  by_cases e : j = m
  · subst e; simp
  · have : ((m : Int) == (j : Int)) = false := by simp; omega
    simp [e, this]

set_option maxRecDepth 100000 in
set_option maxHeartbeats 2000000 in
theorem permutes_any (a : Option Addr) (len cap : Nat) (xs : List Int) (n : Nat) (w : World) (h : Ints w a len xs) (h6 : n ≤ 6) :
    Calls Tryz.prog 111 #[.slice a len cap, .int .i64 n] w fun e w' => Tells e (PermOk xs n) ∧ Below w.heap.size w w' := by
  have hl := h.1
  have hm := h.2.1
  have H := hide h
  clear h
  by_cases hn : len ≠ n
  · have hn1 : ((len : Int) != (n : Int)) = true := by simp; omega
    have P : Hid (¬ PermOk xs n) := fun hp => hn (by rw [← hl]; exact hp.1)
    clear hn hl
    go_enter Tryz.func111, Tryz.ntmps111
    go_wp2
    go_ret
    exact ⟨⟨false, rfl, by simp; exact P.out⟩, Below.refl _ _⟩
  obtain rfl : len = n := by omega
  have HL := hide hl
  clear hl hn
  go_enter Tryz.func111, Tryz.ntmps111
  go_wp2
  go_loopw [14] (fun i wr => ∃ k : Nat, k ≤ len ∧ i = .int .i64 k ∧ wr.rowIs w.heap.size 110 6 (seen xs k) ∧ Below w.heap.size w wr ∧ goodPre xs len k) (fun i _ => len - (intOf i).toNat)
  case atStart =>
    refine ⟨0, Nat.zero_le _, rfl, ?_, (Below.refl _ _).alloc (Nat.le_refl _) _, fun i hi => by omega⟩
    refine World.rowIs_alloc w #[.bool false, .bool false, .bool false, .bool false, .bool false, .bool false] 110 (seen xs 0) (fun i hi => ?_)
    have : i = 0 ∨ i = 1 ∨ i = 2 ∨ i = 3 ∨ i = 4 ∨ i = 5 := by simp at hi; omega
    rcases this with e | e | e | e | e | e <;> subst e <;> simp [seen]
  case round =>
    obtain ⟨k, hk, rfl, hrow, hB, hgood⟩ := hrel
    have HR := hide hrow
    have HB := hide hB
    have HG := hide hgood
    clear hrow hB hgood
    by_cases hlt : k < len
    · obtain ⟨b, off, rfl, hb, hc⟩ := H.out.at (by omega)
      have hck : wr.cell? ⟨b, off + k, none⟩ = some (.int .i64 (xs[k]?.getD 0)) := (HB.out.cell (p := ⟨b, off + k, none⟩) hb).trans (hc k hlt)
      have HKL : Hid (k < xs.length) := by rw [Hid, HL.out]; exact hlt
      clear hc
      by_cases q1 : xs[k]?.getD 0 < 0
      · go_wp2
        go_ret
        exact ⟨⟨false, rfl, by simp; exact fun hp => by have := hp.2 k hlt; omega⟩, HB.out⟩
      by_cases q2 : (len : Int) ≤ xs[k]?.getD 0
      · go_wp2
        go_ret
        exact ⟨⟨false, rfl, by simp; exact fun hp => by have := hp.2 k hlt; omega⟩, HB.out⟩
      obtain ⟨m, hm'⟩ : ∃ m : Nat, xs[k]?.getD 0 = (m : Int) := ⟨(xs[k]?.getD 0).toNat, by omega⟩
      have HM := hide hm'
      rw [hm'] at hck q1 q2
      have hm6 : m < 6 := by omega
      have hcm := HR.out.cell hm6
      have hfm := HR.out.frozen m
      clear hm'
      cases q3 : ((xs.take k).any fun x => x == (m : Int)) with
      | true =>
        have hcm' : wr.cell? ⟨w.heap.size, m, none⟩ = some (.bool true) := by rw [hcm]; simp [seen, q3]
        have Q3 := hide q3
        clear hcm q3
        go_wp2
        go_ret
        have hno : ¬ PermOk xs len := fun hp => by
          have q := Q3.out
          rw [List.any_eq_true] at q
          obtain ⟨y, hy, hye⟩ := q
          simp at hye
          obtain ⟨j, hj, hje⟩ := List.getElem_of_mem hy
          have hj' : j < k ∧ j < xs.length := by simp at hj; omega
          have := (hp.2 k hlt).2.2 j hj'.1
          apply this
          rw [HM.out, ← hye, ← hje]
          simp [hj'.2]
        exact ⟨⟨false, rfl, by simp; exact hno⟩, HB.out⟩
      | false =>
        have hcm' : wr.cell? ⟨w.heap.size, m, none⟩ = some (.bool false) := by rw [hcm]; simp [seen, q3]
        have Q3 := hide q3
        clear hcm q3
        go_wp2
        go_roundw
        case rel =>
          refine ⟨k + 1, by omega, by go_num, (HR.out.set m _).congr (fun j _ => seen_succ xs k j m HKL.out HM.out), HB.out.setCell (p := ⟨w.heap.size, m, none⟩) (Nat.le_refl _) _, goodPre_succ HG.out (by rw [HM.out]; omega) (by rw [HM.out]; omega) (fun j hj he => ?_)⟩
          have q := Q3.out
          rw [List.any_eq_false] at q
          have hjl : j < xs.length := by have := HKL.out; omega
          apply q (xs[j]?.getD 0) _ (by rw [he, HM.out]; simp)
          rw [List.mem_iff_getElem?]
          exact ⟨j, by simp [List.getElem?_take_of_lt hj, hjl]⟩
        case measure => simp [intOf]; omega
    · go_wp2
      go_ret
      obtain rfl : k = len := by omega
      exact ⟨⟨true, rfl, by simp; exact ⟨HL.out, HG.out⟩⟩, HB.out⟩
end Go.Proofs.YtoagnhppjlcpkaaGreat.V

/-
  Contracts: view.rises, adjointref1.Rising; sums over rising lists.
-/
namespace Go.Proofs.YtoagnhppjlcpkaaGreat.V
set_option maxRecDepth 20000
open Go.RowKit

def risePre (xs : List Int) (n k : Nat) : Prop := ∀ i, i < k → 0 ≤ xs[i]?.getD 0 ∧ xs[i]?.getD 0 < n ∧ (0 < i → xs[i - 1]?.getD 0 < xs[i]?.getD 0)
def RiseOk (xs : List Int) (n : Nat) : Prop := risePre xs n xs.length
def riseB (xs : List Int) (n : Nat) : Bool := (List.range xs.length).all fun i => decide (0 ≤ xs[i]?.getD 0) && (decide (xs[i]?.getD 0 < n) && (decide (i = 0) || decide (xs[i - 1]?.getD 0 < xs[i]?.getD 0)))
theorem riseB_iff (xs : List Int) (n : Nat) : riseB xs n = true ↔ RiseOk xs n := by
  unfold riseB RiseOk risePre
  simp only [List.all_eq_true, List.mem_range, Bool.and_eq_true, Bool.or_eq_true, decide_eq_true_eq]
  constructor
  · intro h i hi
    obtain ⟨h1, h2, h3⟩ := h i hi
    exact ⟨h1, h2, fun h0 => h3.resolve_left (by omega)⟩
  · intro h i hi
    obtain ⟨h1, h2, h3⟩ := h i hi
    refine ⟨h1, h2, ?_⟩
    by_cases e : i = 0
    · exact .inl e
    · exact .inr (h3 (by omega))
theorem risePre_succ {xs : List Int} {n k : Nat} (h : risePre xs n k) (h0 : 0 ≤ xs[k]?.getD 0) (h1 : xs[k]?.getD 0 < n) (h2 : 0 < k → xs[k - 1]?.getD 0 < xs[k]?.getD 0) : risePre xs n (k + 1) := fun i hi => by
  by_cases e : i = k
  · subst e; exact ⟨h0, h1, h2⟩
  · exact h i (by omega)
theorem rise_ge {xs : List Int} {n k : Nat} (h : risePre xs n k) : ∀ i, i < k → (i : Int) ≤ xs[i]?.getD 0
  | 0, hi => by have := (h 0 hi).1; simpa using this
  | i + 1, hi => by
    have h1 := rise_ge h i (by omega)
    have h2 := (h (i + 1) hi).2.2 (by omega)
    simp at h2
    omega
theorem rise_len {xs : List Int} {n : Nat} (h : RiseOk xs n) : xs.length ≤ n := by
  by_cases e : xs.length = 0
  · omega
  · have h1 := rise_ge h (xs.length - 1) (by omega)
    have h2 := (h (xs.length - 1) (by omega)).2.1
    omega
theorem rise_lt {xs : List Int} {n : Nat} (h : RiseOk xs n) : ∀ i j, i < j → j < xs.length → xs[i]?.getD 0 < xs[j]?.getD 0 := by
  intro i j
  induction j with
  | zero => intro h0; omega
  | succ j ih =>
    intro hij hj
    have h1 := (h (j + 1) hj).2.2 (by omega)
    simp only [Nat.add_sub_cancel] at h1
    by_cases e : i = j
    · subst e; exact h1
    · have := ih (by omega) (by omega); omega

set_option maxHeartbeats 1000000 in
theorem rises_any (a : Option Addr) (len cap : Nat) (xs : List Int) (n : Nat) (w : World) (h : Ints w a len xs) (_h6 : n ≤ 6) :
    Calls Tryz.prog 93 #[.slice a len cap, .int .i64 n] w fun e w' => Tells e (RiseOk xs n) ∧ w' = w := by
  have hl := h.1
  have hm := h.2.1
  have H := hide h
  have HL := hide hl
  clear h hl
  go_enter Tryz.func93, Tryz.ntmps93
  go_wp2
  go_loop [5, 10] (fun v i => ∃ k : Nat, k ≤ len ∧ i = .int .i64 k ∧ v = .int .i64 (if k = 0 then -1 else xs[k - 1]?.getD 0) ∧ risePre xs n k) (fun _ i => len - (intOf i).toNat)
  case atStart => exact ⟨0, Nat.zero_le _, rfl, rfl, fun i hi => by omega⟩
  case round =>
    obtain ⟨k, hk, rfl, rfl, hp⟩ := hrel
    have HP := hide hp
    obtain ⟨p, hpe⟩ : ∃ p : Int, (if k = 0 then -1 else xs[k - 1]?.getD 0) = p := ⟨_, rfl⟩
    have hpm : -1 ≤ p := by
      rw [← hpe]
      by_cases e : k = 0
      · rw [if_pos e]; omega
      · rw [if_neg e]; have := (hp (k - 1) (by omega)).1; omega
    rw [hpe]
    have HPE := hide hpe
    clear hp hpe
    by_cases hlt : k < len
    · obtain ⟨b, off, rfl, hb, hc⟩ := H.out.at (by omega)
      have hck := hc k hlt
      clear hc
      by_cases q1 : xs[k]?.getD 0 ≤ p
      · go_wp2
        go_ret
        have hno : ¬ RiseOk xs n := fun hr => by
          have h1 := hr k (by rw [HL.out]; exact hlt)
          have h2 := HPE.out
          by_cases e : k = 0
          · rw [if_pos e] at h2; omega
          · rw [if_neg e] at h2; have := h1.2.2 (by omega); omega
        exact ⟨⟨false, rfl, by simp; exact hno⟩, rfl⟩
      by_cases q2 : (n : Int) ≤ xs[k]?.getD 0
      · go_wp2
        go_ret
        have hno : ¬ RiseOk xs n := fun hr => by have h1 := hr k (by rw [HL.out]; exact hlt); omega
        exact ⟨⟨false, rfl, by simp; exact hno⟩, rfl⟩
      go_wp2
      go_round
      case rel =>
        refine ⟨k + 1, by omega, by go_num, by simp, risePre_succ HP.out (by omega) (by omega) (fun h0 => ?_)⟩
        have h2 := HPE.out
        rw [if_neg (by omega)] at h2
        omega
      case measure => simp [intOf]; omega
    · go_wp2
      go_ret
      obtain rfl : k = len := by omega
      exact ⟨⟨true, rfl, by simp; unfold RiseOk; rw [HL.out]; exact HP.out⟩, rfl⟩

set_option maxHeartbeats 2000000 in
theorem rrising_any (a : Option Addr) (len cap : Nat) (xs : List Int) (n : Nat) (w : World) (h : Ints w a len xs) (_h6 : n ≤ 6) :
    Calls Tryz.prog 77 #[.slice a len cap, .int .i64 n] w fun e w' => Tells e (RiseOk xs n) ∧ w' = w := by
  have hl := h.1
  have hm := h.2.1
  have H := hide h
  have HL := hide hl
  clear h hl
  go_enter Tryz.func77, Tryz.ntmps77
  go_wp2
  go_loop [9] (fun i => ∃ k : Nat, k ≤ len ∧ i = .int .i64 k ∧ risePre xs n k) (fun i => len - (intOf i).toNat)
  case atStart => exact ⟨0, Nat.zero_le _, rfl, fun i hi => by omega⟩
  case round =>
    obtain ⟨k, hk, rfl, hp⟩ := hrel
    have HP := hide hp
    clear hp
    by_cases hlt : k < len
    · obtain ⟨b, off, rfl, hb, hc⟩ := H.out.at (by omega)
      have hck := hc k hlt
      by_cases q1 : xs[k]?.getD 0 < 0
      · clear hc
        go_wp2
        go_ret
        have hno : ¬ RiseOk xs n := fun hr => by have h1 := hr k (by rw [HL.out]; exact hlt); omega
        exact ⟨⟨false, rfl, by simp; exact hno⟩, rfl⟩
      by_cases q2 : (n : Int) ≤ xs[k]?.getD 0
      · clear hc
        go_wp2
        go_ret
        have hno : ¬ RiseOk xs n := fun hr => by have h1 := hr k (by rw [HL.out]; exact hlt); omega
        exact ⟨⟨false, rfl, by simp; exact hno⟩, rfl⟩
      by_cases q3 : 0 < k
      · obtain ⟨j, rfl⟩ : ∃ j, k = j + 1 := ⟨k - 1, by omega⟩
        have hcj := hc j (by omega)
        clear hc
        by_cases q4 : xs[j + 1]?.getD 0 ≤ xs[j]?.getD 0
        · go_wp2
          go_ret
          have hno : ¬ RiseOk xs n := fun hr => by have h1 := (hr (j + 1) (by rw [HL.out]; exact hlt)).2.2 (by omega); simp at h1; omega
          exact ⟨⟨false, rfl, by simp; exact hno⟩, rfl⟩
        · go_wp2
          go_round
          case rel => exact ⟨j + 1 + 1, by omega, by go_num, risePre_succ HP.out (by omega) (by omega) (fun _ => by simp; omega)⟩
          case measure => simp [intOf]; omega
      · obtain rfl : k = 0 := by omega
        have hck0 : w.cell? ⟨b, off, none⟩ = some (.int .i64 (xs[0]?.getD 0)) := by simpa using hck
        clear hc hck
        go_wp2
        go_round
        case rel => exact ⟨1, by omega, by go_num, risePre_succ HP.out (by omega) (by omega) (fun h0 => by omega)⟩
        case measure => simp [intOf]; omega
    · go_wp2
      go_ret
      obtain rfl : k = len := by omega
      exact ⟨⟨true, rfl, by simp; unfold RiseOk; rw [HL.out]; exact HP.out⟩, rfl⟩
end Go.Proofs.YtoagnhppjlcpkaaGreat.V
