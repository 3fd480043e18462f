/-
  Contract: view.Turn, whatever it is asked. Contracts: view.rises, adjointref1.Rising; sums over rising lists. Places and indices go back and forth.
-/
import Derived.Test.YteoobeldmicjhaaGreatPRKArrayRows7
namespace Go.Proofs.YteoobeldmicjhaaGreat.V
set_option maxRecDepth 20000
open Go.RowKit

def permB (xs : List Int) (n : Nat) : Bool := decide (xs.length = n) && (List.range n).all fun k => xs.any fun x => x == (k : Int)
theorem permB_iff (xs : List Int) (n : Nat) : permB xs n = true ↔ PermOk xs n := by
  unfold permB PermOk
  simp only [Bool.and_eq_true, decide_eq_true_eq, List.all_eq_true, List.mem_range, List.any_eq_true, beq_iff_eq]
  constructor
  · rintro ⟨h1, h2⟩
    exact ⟨h1, (perm_iff h1).2 (fun k hk => by obtain ⟨x, hx, he⟩ := h2 k hk; exact he ▸ hx)⟩
  · rintro ⟨h1, h2⟩
    exact ⟨h1, fun k hk => ⟨_, (perm_iff h1).1 h2 k hk, rfl⟩⟩
def turnE (s : Int) (ds ss ps : List Int) : Int := if wrongE s ds ss ≠ 0 then wrongE s ds ss else if permB ps ds.length = true then 0 else 6
def okS (E : Int) (s : Int) : Int := if E = 0 then s else 0
def okL (E : Int) (l : List Int) : List Int := if E = 0 then l else []

set_option maxHeartbeats 1000000 in
theorem turn_wrong (s : Int) (da : Option Addr) (dl dc : Nat) (ds : List Int) (sa : Option Addr) (sl sc : Nat) (ss : List Int) (a : Option Addr) (len cap : Nat) (w : World)
    (hd : Ints w da dl ds) (hs : Ints w sa sl ss) (hW : wrongE s ds ss ≠ 0) :
    Calls Tryz.prog 94 #[.agg #[.int .i64 s, .slice da dl dc, .slice sa sl sc], .slice a len cap] w fun e w' => e = .returned (.tuple #[.agg #[.int .i64 0, .slice none 0 0, .slice none 0 0], .int .i64 (wrongE s ds ss)]) ∧ Below w.heap.size w w' := by
  have HD := hide hd
  have HS := hide hs
  have c1 : (wrongE s ds ss != 0) = true := by simp [hW]
  clear hd hs hW
  have hb2 : Below w.heap.size w ((w.alloc (.cells #[.int .i64 s, .slice da dl dc, .slice sa sl sc] 68)).alloc (.cells #[.int .i64 0, .slice none 0 0, .slice none 0 0] 68)) := ((Below.refl _ _).alloc (Nat.le_refl _) _).alloc (by simp) _
  have HB2 := hide hb2
  clear hb2
  go_enter Tryz.func94, Tryz.ntmps94
  go_wp2_with fail
  refine (wrong_any _ _ _ _ ds _ _ _ ss _ (HD.out.below HB2.out) (HS.out.below HB2.out)).mono ?_
  rintro e w1 ⟨rfl, hb⟩
  have HB := hide (Below.on HB2.out hb)
  obtain ⟨hc1, hf1⟩ := bcell hb
  have hz := hb.size
  simp at hz
  clear hb
  go_wp2
  refine bodyPost_ret (v := .tuple #[.agg #[.int .i64 0, .slice none 0 0, .slice none 0 0], .int .i64 (wrongE s ds ss)]) (by simp [results, Tryz.results94, go_sem, hc1]) rfl ⟨rfl, ?_⟩
  exact ((HB.out.setCell (p := ⟨w.heap.size + 1, 0, none⟩) (by simp) _).setCell (p := ⟨w.heap.size + 1, 1, none⟩) (by simp) _).setCell (p := ⟨w.heap.size + 1, 2, none⟩) (by simp) _

set_option maxHeartbeats 1000000 in
theorem turn_shape (s : Int) (da : Option Addr) (dl dc : Nat) (ds : List Int) (sa : Option Addr) (sl sc : Nat) (ss : List Int) (a : Option Addr) (len cap : Nat) (ps : List Int) (w : World)
    (hd : Ints w da dl ds) (hs : Ints w sa sl ss) (hp : Ints w a len ps) (hW : wrongE s ds ss = 0) (hP : ¬ PermOk ps dl) (h6 : dl ≤ 6) :
    Calls Tryz.prog 94 #[.agg #[.int .i64 s, .slice da dl dc, .slice sa sl sc], .slice a len cap] w fun e w' => e = .returned (.tuple #[.agg #[.int .i64 0, .slice none 0 0, .slice none 0 0], .int .i64 6]) ∧ Below w.heap.size w w' := by
  have HD := hide hd
  have HS := hide hs
  have HP := hide hp
  have HW := hide hW
  have HPO := hide hP
  clear hd hs hp hW hP
  have hb2 : Below w.heap.size w ((w.alloc (.cells #[.int .i64 s, .slice da dl dc, .slice sa sl sc] 68)).alloc (.cells #[.int .i64 0, .slice none 0 0, .slice none 0 0] 68)) := ((Below.refl _ _).alloc (Nat.le_refl _) _).alloc (by simp) _
  have HB2 := hide hb2
  clear hb2
  go_enter Tryz.func94, Tryz.ntmps94
  go_wp2_with fail
  refine (wrong_any _ _ _ _ ds _ _ _ ss _ (HD.out.below HB2.out) (HS.out.below HB2.out)).mono ?_
  rintro e w1 ⟨rfl, hb⟩
  rw [HW.out]
  have HB := hide (Below.on HB2.out hb)
  have hV1 : ViewAt w1 w.heap.size (.int .i64 s) (.slice da dl dc) (.slice sa sl sc) := ((ViewAt.new w _ _ _).alloc _).below hb
  have hR1 : ViewAt w1 (w.heap.size + 1) (.int .i64 0) (.slice none 0 0) (.slice none 0 0) := by
    have := (ViewAt.new (w.alloc (.cells #[.int .i64 s, .slice da dl dc, .slice sa sl sc] 68)) (.int .i64 0) (.slice none 0 0) (.slice none 0 0)).below hb
    simpa using this
  have HR1 := hide hR1
  obtain ⟨⟨v0, v1, v2⟩, _⟩ := hV1.cells
  clear hb hV1 hR1
  go_wp2_with fail
  refine (permutes_any _ _ _ ps dl _ (HP.out.below HB.out) h6).mono ?_
  rintro e w2 ⟨⟨r, rfl, hr⟩, hb⟩
  obtain rfl : r = false := by
    cases r with
    | true => exact absurd (hr.1 rfl) HPO.out
    | false => rfl
  have HBa := hide (Below.on HB.out hb)
  obtain ⟨⟨r0, r1, r2⟩, rf0, rf1, rf2⟩ := (HR1.out.below hb).cells
  clear hb hr v0 v1 v2
  go_wp2
  refine bodyPost_ret (v := .tuple #[.agg #[.int .i64 0, .slice none 0 0, .slice none 0 0], .int .i64 6]) (by simp [results, Tryz.results94, go_sem, r0, r1, r2]) rfl ⟨rfl, ?_⟩
  exact ((HBa.out.setCell (p := ⟨w.heap.size + 1, 0, none⟩) (by simp) _).setCell (p := ⟨w.heap.size + 1, 1, none⟩) (by simp) _).setCell (p := ⟨w.heap.size + 1, 2, none⟩) (by simp) _

end Go.Proofs.YteoobeldmicjhaaGreat.V
namespace Go.Proofs.YteoobeldmicjhaaGreat.V
set_option maxRecDepth 20000
open Go.RowKit

def risePre (xs : List Int) (n k : Nat) : Prop := ∀ i, i < k → 0 ≤ xs[i]?.getD 0 ∧ xs[i]?.getD 0 < n ∧ (0 < i → xs[i - 1]?.getD 0 < xs[i]?.getD 0)
def RiseOk (xs : List Int) (n : Nat) : Prop := risePre xs n xs.length
def riseB (xs : List Int) (n : Nat) : Bool := (List.range xs.length).all fun i => decide (0 ≤ xs[i]?.getD 0) && (decide (xs[i]?.getD 0 < n) && (decide (i = 0) || decide (xs[i - 1]?.getD 0 < xs[i]?.getD 0)))
theorem riseB_iff (xs : List Int) (n : Nat) : riseB xs n = true ↔ RiseOk xs n := by
  unfold riseB RiseOk risePre
  simp only [List.all_eq_true, List.mem_range, Bool.and_eq_true, Bool.or_eq_true, decide_eq_true_eq]
  constructor
  · intro h i hi
    obtain ⟨h1, h2, h3⟩ := h i hi
    exact ⟨h1, h2, fun h0 => h3.resolve_left (by omega)⟩
  · intro h i hi
    obtain ⟨h1, h2, h3⟩ := h i hi
    refine ⟨h1, h2, ?_⟩
    by_cases e : i = 0
    · exact .inl e
    · exact .inr (h3 (by omega))
theorem risePre_succ {xs : List Int} {n k : Nat} (h : risePre xs n k) (h0 : 0 ≤ xs[k]?.getD 0) (h1 : xs[k]?.getD 0 < n) (h2 : 0 < k → xs[k - 1]?.getD 0 < xs[k]?.getD 0) : risePre xs n (k + 1) := fun i hi => by
  by_cases e : i = k
  · subst e; exact ⟨h0, h1, h2⟩
  · exact h i (by omega)
theorem rise_ge {xs : List Int} {n k : Nat} (h : risePre xs n k) : ∀ i, i < k → (i : Int) ≤ xs[i]?.getD 0
  | 0, hi => by have := (h 0 hi).1; simpa using this
  | i + 1, hi => by
    have h1 := rise_ge h i (by omega)
    have h2 := (h (i + 1) hi).2.2 (by omega)
    simp at h2
    omega
theorem rise_len {xs : List Int} {n : Nat} (h : RiseOk xs n) : xs.length ≤ n := by
  by_cases e : xs.length = 0
  · omega
  · have h1 := rise_ge h (xs.length - 1) (by omega)
    have h2 := (h (xs.length - 1) (by omega)).2.1
    omega
theorem rise_lt {xs : List Int} {n : Nat} (h : RiseOk xs n) : ∀ i j, i < j → j < xs.length → xs[i]?.getD 0 < xs[j]?.getD 0 := by
  intro i j
  induction j with
  | zero => intro h0; omega
  | succ j ih =>
    intro hij hj
    have h1 := (h (j + 1) hj).2.2 (by omega)
    simp only [Nat.add_sub_cancel] at h1
    by_cases e : i = j
    · subst e; exact h1
    · have := ih (by omega) (by omega); omega

set_option maxHeartbeats 1000000 in
theorem rises_any (a : Option Addr) (len cap : Nat) (xs : List Int) (n : Nat) (w : World) (h : Ints w a len xs) (_h6 : n ≤ 6) :
    Calls Tryz.prog 102 #[.slice a len cap, .int .i64 n] w fun e w' => Tells e (RiseOk xs n) ∧ w' = w := by
  have hl := h.1
  have hm := h.2.1
  have H := hide h
  have HL := hide hl
  clear h hl
  go_enter Tryz.func102, Tryz.ntmps102
  go_wp2
  go_loop [5, 10] (fun v i => ∃ k : Nat, k ≤ len ∧ i = .int .i64 k ∧ v = .int .i64 (if k = 0 then -1 else xs[k - 1]?.getD 0) ∧ risePre xs n k) (fun _ i => len - (intOf i).toNat)
  case atStart => exact ⟨0, Nat.zero_le _, rfl, rfl, fun i hi => by omega⟩
  case round =>
    obtain ⟨k, hk, rfl, rfl, hp⟩ := hrel
    have HP := hide hp
    obtain ⟨p, hpe⟩ : ∃ p : Int, (if k = 0 then -1 else xs[k - 1]?.getD 0) = p := ⟨_, rfl⟩
    have hpm : -1 ≤ p := by
      rw [← hpe]
      by_cases e : k = 0
      · rw [if_pos e]; omega
      · rw [if_neg e]; have := (hp (k - 1) (by omega)).1; omega
    rw [hpe]
    have HPE := hide hpe
    clear hp hpe
    by_cases hlt : k < len
    · obtain ⟨b, off, rfl, hb, hc⟩ := H.out.at (by omega)
      have hck := hc k hlt
      clear hc
      by_cases q1 : xs[k]?.getD 0 ≤ p
      · go_wp2
        go_ret
        have hno : ¬ RiseOk xs n := fun hr => by
          have h1 := hr k (by rw [HL.out]; exact hlt)
          have h2 := HPE.out
          by_cases e : k = 0
          · rw [if_pos e] at h2; omega
          · rw [if_neg e] at h2; have := h1.2.2 (by omega); omega
        exact ⟨⟨false, rfl, by simp; exact hno⟩, rfl⟩
      by_cases q2 : (n : Int) ≤ xs[k]?.getD 0
      · go_wp2
        go_ret
        have hno : ¬ RiseOk xs n := fun hr => by have h1 := hr k (by rw [HL.out]; exact hlt); omega
        exact ⟨⟨false, rfl, by simp; exact hno⟩, rfl⟩
      go_wp2
      go_round
      case rel =>
        refine ⟨k + 1, by omega, by go_num, by simp, risePre_succ HP.out (by omega) (by omega) (fun h0 => ?_)⟩
        have h2 := HPE.out
        rw [if_neg (by omega)] at h2
        omega
      case measure => simp [intOf]; omega
    · go_wp2
      go_ret
      obtain rfl : k = len := by omega
      exact ⟨⟨true, rfl, by simp; unfold RiseOk; rw [HL.out]; exact HP.out⟩, rfl⟩

set_option maxHeartbeats 2000000 in
theorem rrising_any (a : Option Addr) (len cap : Nat) (xs : List Int) (n : Nat) (w : World) (h : Ints w a len xs) (_h6 : n ≤ 6) :
    Calls Tryz.prog 50 #[.slice a len cap, .int .i64 n] w fun e w' => Tells e (RiseOk xs n) ∧ w' = w := by
  have hl := h.1
  have hm := h.2.1
  have H := hide h
  have HL := hide hl
  clear h hl
  go_enter Tryz.func50, Tryz.ntmps50
  go_wp2
  go_loop [9] (fun i => ∃ k : Nat, k ≤ len ∧ i = .int .i64 k ∧ risePre xs n k) (fun i => len - (intOf i).toNat)
  case atStart => exact ⟨0, Nat.zero_le _, rfl, fun i hi => by omega⟩
  case round =>
    obtain ⟨k, hk, rfl, hp⟩ := hrel
    have HP := hide hp
    clear hp
    by_cases hlt : k < len
    · obtain ⟨b, off, rfl, hb, hc⟩ := H.out.at (by omega)
      have hck := hc k hlt
      by_cases q1 : xs[k]?.getD 0 < 0
      · clear hc
        go_wp2
        go_ret
        have hno : ¬ RiseOk xs n := fun hr => by have h1 := hr k (by rw [HL.out]; exact hlt); omega
        exact ⟨⟨false, rfl, by simp; exact hno⟩, rfl⟩
      by_cases q2 : (n : Int) ≤ xs[k]?.getD 0
      · clear hc
        go_wp2
        go_ret
        have hno : ¬ RiseOk xs n := fun hr => by have h1 := hr k (by rw [HL.out]; exact hlt); omega
        exact ⟨⟨false, rfl, by simp; exact hno⟩, rfl⟩
      by_cases q3 : 0 < k
      · obtain ⟨j, rfl⟩ : ∃ j, k = j + 1 := ⟨k - 1, by omega⟩
        have hcj := hc j (by omega)
        clear hc
        by_cases q4 : xs[j + 1]?.getD 0 ≤ xs[j]?.getD 0
        · go_wp2
          go_ret
          have hno : ¬ RiseOk xs n := fun hr => by have h1 := (hr (j + 1) (by rw [HL.out]; exact hlt)).2.2 (by omega); simp at h1; omega
          exact ⟨⟨false, rfl, by simp; exact hno⟩, rfl⟩
        · go_wp2
          go_round
          case rel => exact ⟨j + 1 + 1, by omega, by go_num, risePre_succ HP.out (by omega) (by omega) (fun _ => by simp; omega)⟩
          case measure => simp [intOf]; omega
      · obtain rfl : k = 0 := by omega
        have hck0 : w.cell? ⟨b, off, none⟩ = some (.int .i64 (xs[0]?.getD 0)) := by simpa using hck
        clear hc hck
        go_wp2
        go_round
        case rel => exact ⟨1, by omega, by go_num, risePre_succ HP.out (by omega) (by omega) (fun h0 => by omega)⟩
        case measure => simp [intOf]; omega
    · go_wp2
      go_ret
      obtain rfl : k = len := by omega
      exact ⟨⟨true, rfl, by simp; unfold RiseOk; rw [HL.out]; exact HP.out⟩, rfl⟩
end Go.Proofs.YteoobeldmicjhaaGreat.V
namespace Go.Proofs.YteoobeldmicjhaaGreat.V
set_option maxRecDepth 20000

/-- The product from dimension k on. -/
def P (xs : List Int) (k : Nat) : Int := prod (xs.drop k)
theorem P_succ (xs : List Int) (k : Nat) (h : k < xs.length) : P xs k = xs[k]?.getD 0 * P xs (k + 1) := prod_drop xs k h
theorem P_pos {xs : List Int} (h : ∀ x ∈ xs, 1 ≤ x) (k : Nat) : 1 ≤ P xs k := (prod_drop_le xs h k).1
theorem P_end (xs : List Int) : P xs xs.length = 1 := by simp [P, prod]
theorem P_zero (xs : List Int) : P xs 0 = prod xs := by simp [P]
theorem beh_P (xs : List Int) (k : Nat) : beh xs k = P xs (k + 1) := rfl

theorem rest_bd {xs ys : List Int} (h : IdxOk xs ys) : ∀ d k, k + d = xs.length → 0 ≤ placeS xs ys xs.length - placeS xs ys k ∧ placeS xs ys xs.length - placeS xs ys k < P xs k := by
  intro d
  induction d with
  | zero =>
    intro k hk
    obtain rfl : k = xs.length := by omega
    rw [P_end]; omega
  | succ d ih =>
    intro k hk
    obtain ⟨i1, i2⟩ := ih (k + 1) (by omega)
    have hkl : k < xs.length := by omega
    have hg := idxOk_pos h
    have h2 := P_pos hg (k + 1)
    obtain ⟨j1, j2⟩ := h k hkl
    have e := P_succ xs k hkl
    rw [placeS, beh_P] at i1 i2
    have m1 : 0 ≤ ys[k]?.getD 0 * P xs (k + 1) := Int.mul_nonneg j1 (by omega)
    have m2 : ys[k]?.getD 0 * P xs (k + 1) ≤ (xs[k]?.getD 0 - 1) * P xs (k + 1) := Int.mul_le_mul_of_nonneg_right (by omega) (by omega)
    rw [Int.sub_mul, Int.one_mul] at m2
    rw [e]; omega

theorem place_bd {xs ys : List Int} (h : IdxOk xs ys) : 0 ≤ placeS xs ys xs.length ∧ placeS xs ys xs.length < prod xs := by
  have := rest_bd h xs.length 0 (by omega)
  simpa [placeS, P_zero] using this

end Go.Proofs.YteoobeldmicjhaaGreat.V
