/-
  Contracts: a row's number, what is above all rows, what is wrong with rows, boxes, points.
-/
import Derived.Test.YtindmfpfpooijaaOwn
import Derived.Test.YtindmfpfpooijaaPtMath
import Derived.Test.YtindmfpfpooijaaSame
namespace Go.Proofs.Ytindmfpfpooijaa.V
open Go.RowKit
set_option linter.unusedVariables false

/-- A row's two cells. -/
def RowAt (w : World) (b o : Nat) (r : List Int × Int) : Prop := ∃ a l c, w.cell? ⟨b, o, none⟩ = some (.slice a l c) ∧ w.cell? ⟨b, o + 1, none⟩ = some (.int .i64 r.2) ∧ Ints w a l r.1 ∧ (l ≤ c ∧ (a = none → c = 0)) ∧ (-9223372036854775808 ≤ r.2 ∧ r.2 ≤ 9223372036854775807)
theorem RowAt.below {w w' : World} {b o : Nat} {r : List Int × Int} (h : RowAt w b o r) (hb : Below w.heap.size w w') : RowAt w' b o r := by
  obtain ⟨a, l, c, h1, h2, h3, h4⟩ := h
  exact ⟨a, l, c, (hb.cell (p := ⟨b, o, none⟩) (lt_of_cell h1)).trans h1, (hb.cell (p := ⟨b, o + 1, none⟩) (lt_of_cell h2)).trans h2, h3.below hb, h4⟩
/-- A list of rows. -/
def Rws (w : World) (a : Option Addr) (len : Nat) (rs : List (List Int × Int)) : Prop := rs.length = len ∧ len ≤ 9223372036854775807 ∧ (len = 0 ∨ ∃ b off, a = some ⟨b, off, none⟩ ∧ ∀ j, j < len → RowAt w b (off + j * 2) (rs[j]?.getD ([], 0)))
theorem Rws.below {w w' : World} {a : Option Addr} {len : Nat} {rs : List (List Int × Int)} (h : Rws w a len rs) (hb : Below w.heap.size w w') : Rws w' a len rs := by
  obtain ⟨h1, h2, h3⟩ := h
  refine ⟨h1, h2, ?_⟩
  rcases h3 with h3 | ⟨b, off, e, h⟩
  · exact .inl h3
  · exact .inr ⟨b, off, e, fun j hj => (h j hj).below hb⟩
theorem Rws.at {w : World} {a : Option Addr} {len : Nat} {rs : List (List Int × Int)} (h : Rws w a len rs) (h0 : 0 < len) : ∃ b off, a = some ⟨b, off, none⟩ ∧ ∀ j, j < len → RowAt w b (off + j * 2) (rs[j]?.getD ([], 0)) := by
  rcases h.2.2 with h3 | h3
  · omega
  · exact h3
theorem mem_getR (rs : List (List Int × Int)) (k : Nat) (h : k < rs.length) : rs[k]?.getD ([], 0) ∈ rs := by simp [h]

set_option maxHeartbeats 1000000 in
theorem worth_any (a : Option Addr) (l c : Nat) (cs : List Int) (K : Int) (xa : Option Addr) (xl xc : Nat) (xs : List Int) (w : World) (h : Ints w a l cs) (hx : Ints w xa xl xs) (hl : l = xl) (h4 : l ≤ 4)
    (hK : -1048576 ≤ K ∧ K ≤ 1048576) (hc : ∀ c ∈ cs, -1048576 ≤ c ∧ c ≤ 1048576) (hb : ∀ x ∈ xs, 0 ≤ x ∧ x ≤ 4096) :
    Calls Try.prog 45 #[.agg #[.slice a l c, .int .i64 K], .slice xa xl xc] w fun e w' => e = .returned (.int .i64 (worthV (cs, K) xs)) ∧ Below w.heap.size w w' := by
  have B1 : Below w.heap.size w (w.alloc (.cells #[.slice a l c, .int .i64 K] 41)) := bl_new _
  have H := hide (h.below B1)
  have HX := hide (hx.below B1)
  have HL1 := hide h.1
  have HL2 := hide hx.1
  have HC := hide hc
  have HB := hide hb
  have HB1 := hide B1
  subst hl
  clear h hx hc hb B1
  go_enter Try.func45, Try.ntmps45
  go_wp2
  go_loop [5, 13] (fun s i => ∃ k : Nat, k ≤ l ∧ i = .int .i64 k ∧ s = .int .i64 (K + dotV (cs.take k) (xs.take k))) (fun _ i => l - (intOf i).toNat)
  case atStart => exact ⟨0, Nat.zero_le _, rfl, by simp [dotV]⟩
  case round =>
    obtain ⟨k, hk, rfl, rfl⟩ := hrel
    by_cases hlt : k < l
    · obtain ⟨b, off, rfl, hb, hcc⟩ := H.out.at (by omega)
      obtain ⟨b', off', rfl, hb', hcc'⟩ := HX.out.at (by omega)
      have hck := hcc k hlt
      have hck' := hcc' k hlt
      have k1 : k < cs.length := by rw [HL1.out]; exact hlt
      have k2 : k < xs.length := by rw [HL2.out]; exact hlt
      have m1 := pt_mul_bd (HC.out _ (mem_getD cs k k1)) (HB.out _ (mem_getD xs k k2))
      have m2 := dotV_bd (cs.take k) (xs.take k) (fun c hc => HC.out c (List.mem_of_mem_take hc)) (fun x hx => HB.out x (List.mem_of_mem_take hx))
      have m3 : (cs.take k).length ≤ 4 := by rw [List.length_take]; omega
      have HD := hide (dotV_take cs xs k k1 k2)
      obtain ⟨S, hS⟩ : ∃ S, S = dotV (cs.take k) (xs.take k) := ⟨_, rfl⟩
      rw [← hS] at m2 ⊢
      have HS := hide hS
      have m4 : -17179869184 ≤ S ∧ S ≤ 17179869184 := by omega
      obtain ⟨x1, hx1⟩ : ∃ x, x = cs[k]?.getD 0 := ⟨_, rfl⟩
      obtain ⟨x2, hx2⟩ : ∃ x, x = xs[k]?.getD 0 := ⟨_, rfl⟩
      rw [← hx1] at hck m1
      rw [← hx2] at hck' m1
      have HX1 := hide hx1
      have HX2 := hide hx2
      have HM := hide (And.intro k1 k2)
      clear hcc hcc' k1 k2 m2 m3 hS hx1 hx2
      go_wp2
      go_round
      case rel => exact ⟨k + 1, by omega, by go_num, by rw [HD.out, ← HS.out, ← HX1.out, ← HX2.out]; go_num⟩
      case measure => simp [intOf]; omega
    · go_wp2
      go_ret
      refine ⟨?_, HB1.out⟩
      rw [take_all HL1.out hlt, take_all HL2.out hlt]
      rfl

set_option maxHeartbeats 1000000 in
theorem above1_any (a : Option Addr) (l c : Nat) (cs : List Int) (K : Int) (xb : Nat) (xa : Option Addr) (xl xc : Nat) (xs : List Int) (w : World) (h : Ints w a l cs) (hx : Ints w xa xl xs) (hbx : w.cell? ⟨xb, 0, none⟩ = some (.slice xa xl xc)) (hl : l = xl) (h4 : l ≤ 4)
    (hK : -1048576 ≤ K ∧ K ≤ 1048576) (hc : ∀ c ∈ cs, -1048576 ≤ c ∧ c ≤ 1048576) (hb : ∀ x ∈ xs, 0 ≤ x ∧ x ≤ 4096) :
    Calls Try.prog 55 #[.agg #[.slice a l c, .int .i64 K], .pointer (some ⟨xb, 0, none⟩)] w fun e w' => e = .returned (.bool (decide (worthV (cs, K) xs < 0))) ∧ Below w.heap.size w w' := by
  subst hl
  have zb := lt_of_cell hbx
  simp only at zb
  have B1 : Below w.heap.size w (w.alloc (.cells #[.slice a l c, .int .i64 K] 41)) := bl_new _
  have H := hide (worth_any a l c cs K xa l xc xs (w.alloc (.cells #[.slice a l c, .int .i64 K] 41)) (h.below B1) (hx.below B1) rfl h4 hK hc hb)
  have HB := hide B1
  clear B1
  clear h hx hc hb
  go_enter Try.func55, Try.ntmps55
  go_wp2_with (go_at_call 45; refine H.out.mono ?_; rintro e w' ⟨rfl, hb⟩; have HB2 := hide (bl_on HB.out hb); clear hb)
  go_ret
  exact ⟨rfl, HB2.out⟩

/-- What is asked of rows and a list of numbers, so that nothing wraps round. -/
structure Fits (rs : List (List Int × Int)) (xs : List Int) : Prop where
  rank : xs.length ≤ 4
  nums : ∀ x ∈ xs, 0 ≤ x ∧ x ≤ 4096
  rows : ∀ r ∈ rs, r.1.length = xs.length ∧ (-1048576 ≤ r.2 ∧ r.2 ≤ 1048576) ∧ ∀ c ∈ r.1, -1048576 ≤ c ∧ c ≤ 1048576
def lowB (xs : List Int) (r : List Int × Int) : Bool := decide (worthV r xs < 0)
theorem take_succR (rs : List (List Int × Int)) (k : Nat) (h : k < rs.length) : rs.take (k + 1) = rs.take k ++ [rs[k]?.getD ([], 0)] := by
  rw [List.take_succ_eq_append_getElem h]; simp [h]
theorem not_any_succR {p : List Int × Int → Bool} (rs : List (List Int × Int)) (k : Nat) (h : k < rs.length) (hn : (rs.take k).any p = false) (hk : p (rs[k]?.getD ([], 0)) = false) : (rs.take (k + 1)).any p = false := by
  rw [take_succR rs k h, List.any_append, hn]; simp [hk]
theorem any_of_getR {p : List Int × Int → Bool} (rs : List (List Int × Int)) (k : Nat) (h : k < rs.length) (hk : p (rs[k]?.getD ([], 0)) = true) : rs.any p = true := by
  rw [List.any_eq_true]; exact ⟨_, mem_getR rs k h, hk⟩

set_option maxHeartbeats 1000000 in
theorem indexRow_any (ra : Option Addr) (rl rc : Nat) (rs : List (List Int × Int)) (xb : Nat) (xa : Option Addr) (xl xc : Nat) (xs : List Int) (w : World) (h : Rws w ra rl rs) (hx : Ints w xa xl xs) (hbx : w.cell? ⟨xb, 0, none⟩ = some (.slice xa xl xc)) (hf : Fits rs xs) :
    Calls Try.prog 58 #[.slice ra rl rc, .func (.func 55) #[] #[.pointer (some ⟨xb, 0, none⟩)]] w fun e w' => (∃ r : Int, e = .returned (.int .i64 r) ∧ decide (0 ≤ r) = rs.any (lowB xs)) ∧ Below w.heap.size w w' := by
  have HL := hide h.1
  have hm := h.2.1
  have H := hide h
  have HX := hide hx
  have HF := hide hf
  have HBX := hide hbx
  have HXL := hide hx.1
  clear h hx hf hbx
  go_enter Try.func58, Try.ntmps58
  go_wp2
  go_loopw [8] (fun i wr => ∃ k : Nat, k ≤ rl ∧ i = .int .i64 k ∧ (rs.take k).any (lowB xs) = false ∧ Below w.heap.size w wr) (fun i _ => rl - (intOf i).toNat)
  case atStart => exact ⟨0, Nat.zero_le _, rfl, by simp, Below.refl _ _⟩
  case round =>
    obtain ⟨k, hk, rfl, hn, hB⟩ := hrel
    have HN := hide hn
    have HB := hide hB
    clear hn hB
    by_cases hlt : k < rl
    · have hkl : k < rs.length := by rw [HL.out]; exact hlt
      obtain ⟨b, off, rfl, hat⟩ := (H.out.below HB.out).at (by omega)
      obtain ⟨a, l, c, c1, c2, c3, c4, c5⟩ := hat k hlt
      have z1 := lt_of_cell c1
      have z2 := lt_of_cell c2
      simp only at z1 z2
      have hr := HF.out.rows _ (mem_getR rs k hkl)
      obtain ⟨q, hq⟩ : ∃ q, q = rs[k]?.getD ([], 0) := ⟨_, rfl⟩
      rw [← hq] at c2 c3 hr
      have HQ := hide hq
      obtain ⟨cs, K⟩ := q
      simp only at c2 c3 hr
      have HC := hide (fun W (hb : Below wr.heap.size wr W) => above1_any a l c cs K xb xa xl xc xs W (c3.below hb) ((HX.out.below HB.out).below hb) ((hb.cell (p := ⟨xb, 0, none⟩) (Nat.lt_of_lt_of_le (lt_of_cell HBX.out) HB.out.size)).trans ((HB.out.cell (p := ⟨xb, 0, none⟩) (lt_of_cell HBX.out)).trans HBX.out)) (by have := c3.1; have := HXL.out; omega) (by have := c3.1; have := HF.out.rank; omega) hr.2.1 hr.2.2 HF.out.nums)
      have HKL := hide hkl
      clear hat c3 c4 c5 hr hq hkl
      go_wp2_with (go_at_call 55; refine (HC.out _ (Below.refl _ _)).mono ?_; rintro e w2 ⟨rfl, hb⟩; have HB2 := hide (bl_on HB.out hb); clear hb)
      · have hx : decide (worthV (cs, K) xs < 0) = true := by simpa using (by assumption : worthV (cs, K) xs < 0)
        go_ret
        refine ⟨⟨_, rfl, ?_⟩, HB2.out⟩
        rw [any_of_getR rs k HKL.out (by rw [← HQ.out]; exact hx)]; simp
      · have hx : decide (worthV (cs, K) xs < 0) = false := by simpa using (by assumption : 0 ≤ worthV (cs, K) xs)
        go_roundw
        case rel => exact ⟨k + 1, by omega, by go_num, not_any_succR rs k HKL.out HN.out (by rw [← HQ.out]; exact hx), HB2.out⟩
        case measure => simp [intOf]; omega
    · go_wp2
      go_ret
      refine ⟨⟨_, rfl, ?_⟩, HB.out⟩
      have := HN.out
      rw [List.take_of_length_le (by rw [HL.out]; omega)] at this
      rw [this]; decide

theorem containsRow_any (ra : Option Addr) (rl rc : Nat) (rs : List (List Int × Int)) (xb : Nat) (xa : Option Addr) (xl xc : Nat) (xs : List Int) (w : World) (h : Rws w ra rl rs) (hx : Ints w xa xl xs) (hbx : w.cell? ⟨xb, 0, none⟩ = some (.slice xa xl xc)) (hf : Fits rs xs) :
    Calls Try.prog 54 #[.slice ra rl rc, .func (.func 55) #[] #[.pointer (some ⟨xb, 0, none⟩)]] w fun e w' => e = .returned (.bool (rs.any (lowB xs))) ∧ Below w.heap.size w w' := by
  have H := hide (indexRow_any ra rl rc rs xb xa xl xc xs w h hx hbx hf)
  clear h hx hbx hf
  go_enter Try.func54, Try.ntmps54
  go_wp2_with (go_at_call 58; refine H.out.mono ?_; rintro e w' ⟨⟨r, rfl, hr⟩, hb⟩; have HR := hide hr; have HB := hide hb; clear hr hb)
  go_ret
  exact ⟨by rw [← HR.out]; rfl, HB.out⟩
theorem above_low (rs : List (List Int × Int)) (xs : List Int) : aboveB rs xs = !rs.any (lowB xs) := by
  unfold aboveB lowB
  induction rs with
  | nil => rfl
  | cons r rs ih =>
    simp only [List.all_cons, List.any_cons, ih, Bool.not_or]
    congr 1
    by_cases h : worthV r xs < 0
    · simp [h]
    · simp [h]; omega

theorem above_any (ra : Option Addr) (rl rc : Nat) (rs : List (List Int × Int)) (xa : Option Addr) (xl xc : Nat) (xs : List Int) (w : World) (h : Rws w ra rl rs) (hx : Ints w xa xl xs) (hf : Fits rs xs) :
    Calls Try.prog 41 #[.slice ra rl rc, .slice xa xl xc] w fun e w' => e = .returned (.bool (aboveB rs xs)) ∧ Below w.heap.size w w' := by
  have B1 : Below w.heap.size w (w.alloc (.cells #[.slice xa xl xc] 22)) := bl_new _
  have H := hide (containsRow_any ra rl rc rs w.heap.size xa xl xc xs (w.alloc (.cells #[.slice xa xl xc] 22)) (h.below B1) (hx.below B1) (Boxed.new w 22 (.slice xa xl xc)).cell hf)
  have HB := hide B1
  clear h hx hf B1
  rw [above_low]
  go_enter Try.func41, Try.ntmps41
  go_wp2_with (go_at_call 54; refine H.out.mono ?_; rintro e w' ⟨rfl, hb⟩; have HB2 := hide (bl_on HB.out hb); clear hb)
  go_ret
  exact ⟨rfl, HB2.out⟩

set_option maxHeartbeats 400000 in
theorem indexBox_any (a : Option Addr) (len cap : Nat) (xs : List Int) (w : World) (h : Ints w a len xs) :
    Calls Try.prog 32 #[.slice a len cap, .func (.func 49) #[] #[]] w fun e w' => (∃ r : Int, e = .returned (.int .i64 r) ∧ decide (0 ≤ r) = xs.any badDim) ∧ w' = w := by
  have hl := h.1
  have hm := h.2.1
  have HL : Hid (xs.length = len) := hl
  go_enter Try.func32, Try.ntmps32
  go_wp2
  go_loop [8] (fun i => ∃ k : Nat, k ≤ len ∧ i = .int .i64 k ∧ (xs.take k).any badDim = false) (fun i => len - (intOf i).toNat)
  case atStart => exact ⟨0, Nat.zero_le _, rfl, by simp⟩
  case round =>
    obtain ⟨k, hk, rfl, hn⟩ := hrel
    have HN : Hid ((xs.take k).any badDim = false) := hn
    clear hn hl
    by_cases hlt : k < len
    · obtain ⟨b, off, rfl, hb, hc⟩ := h.at (by omega)
      have hck := hc k hlt
      clear hc h
      by_cases h1 : xs[k]?.getD 0 < 0
      · go_wp2
        go_ret
        exact ⟨⟨_, rfl, by rw [any_of_getD xs k (by rw [HL.out]; exact hlt) (by simp [badDim, h1])]; simp⟩, rfl⟩
      · by_cases h2 : 4096 < xs[k]?.getD 0
        · go_wp2
          go_ret
          exact ⟨⟨_, rfl, by rw [any_of_getD xs k (by rw [HL.out]; exact hlt) (by simp [badDim, h2])]; simp⟩, rfl⟩
        · go_wp2
          go_round
          case rel => exact ⟨k + 1, by omega, by go_num, not_mem_take_succ xs k (by rw [HL.out]; exact hlt) HN.out (by simp [badDim]; omega)⟩
          case measure => simp [intOf]; omega
    · go_wp2
      go_ret
      refine ⟨⟨_, rfl, ?_⟩, rfl⟩
      have := HN.out
      rw [take_all HL.out hlt] at this
      rw [this]; decide
theorem containsBox_any (a : Option Addr) (len cap : Nat) (xs : List Int) (w : World) (h : Ints w a len xs) :
    Calls Try.prog 17 #[.slice a len cap, .func (.func 49) #[] #[]] w fun e w' => e = .returned (.bool (xs.any badDim)) ∧ w' = w := by
  have H : Hid (Ints w a len xs) := h
  clear h
  go_enter Try.func17, Try.ntmps17
  go_wp2_with (go_at_call 32; refine (indexBox_any _ _ _ _ _ H.out).mono ?_; rintro e w' ⟨⟨r, rfl, hr⟩, rfl⟩; have HR := hide hr; clear hr)
  go_ret
  exact ⟨by rw [← HR.out]; rfl, rfl⟩
set_option maxHeartbeats 400000 in
theorem ptIndexFar_any (a : Option Addr) (len cap : Nat) (xs : List Int) (w : World) (h : Ints w a len xs) :
    Calls Try.prog 32 #[.slice a len cap, .func (.func 50) #[] #[]] w fun e w' => (∃ r : Int, e = .returned (.int .i64 r) ∧ decide (0 ≤ r) = xs.any ptFar) ∧ w' = w := by
  have hl := h.1
  have hm := h.2.1
  have HL : Hid (xs.length = len) := hl
  go_enter Try.func32, Try.ntmps32
  go_wp2
  go_loop [8] (fun i => ∃ k : Nat, k ≤ len ∧ i = .int .i64 k ∧ (xs.take k).any ptFar = false) (fun i => len - (intOf i).toNat)
  case atStart => exact ⟨0, Nat.zero_le _, rfl, by simp⟩
  case round =>
    obtain ⟨k, hk, rfl, hn⟩ := hrel
    have HN : Hid ((xs.take k).any ptFar = false) := hn
    clear hn hl
    by_cases hlt : k < len
    · obtain ⟨b, off, rfl, hb, hc⟩ := h.at (by omega)
      have hck := hc k hlt
      clear hc h
      by_cases h1 : xs[k]?.getD 0 < -1048576
      · go_wp2
        go_ret
        exact ⟨⟨_, rfl, by rw [any_of_getD xs k (by rw [HL.out]; exact hlt) (by simp [ptFar, h1])]; simp⟩, rfl⟩
      · by_cases h2 : 1048576 < xs[k]?.getD 0
        · go_wp2
          go_ret
          exact ⟨⟨_, rfl, by rw [any_of_getD xs k (by rw [HL.out]; exact hlt) (by simp [ptFar, h2])]; simp⟩, rfl⟩
        · go_wp2
          go_round
          case rel => exact ⟨k + 1, by omega, by go_num, not_mem_take_succ xs k (by rw [HL.out]; exact hlt) HN.out (by simp [ptFar]; omega)⟩
          case measure => simp [intOf]; omega
    · go_wp2
      go_ret
      refine ⟨⟨_, rfl, ?_⟩, rfl⟩
      have := HN.out
      rw [take_all HL.out hlt] at this
      rw [this]; decide
theorem ptContainsFar_any (a : Option Addr) (len cap : Nat) (xs : List Int) (w : World) (h : Ints w a len xs) :
    Calls Try.prog 17 #[.slice a len cap, .func (.func 50) #[] #[]] w fun e w' => e = .returned (.bool (xs.any ptFar)) ∧ w' = w := by
  have H : Hid (Ints w a len xs) := h
  clear h
  go_enter Try.func17, Try.ntmps17
  go_wp2_with (go_at_call 32; refine (ptIndexFar_any _ _ _ _ _ H.out).mono ?_; rintro e w' ⟨⟨r, rfl, hr⟩, rfl⟩; have HR := hide hr; clear hr)
  go_ret
  exact ⟨by rw [← HR.out]; rfl, rfl⟩

theorem prod_take_bd (xs : List Int) (h : ∀ x ∈ xs, 0 ≤ x ∧ x ≤ 4096) : ∀ k, 0 ≤ prod (xs.take k) ∧ prod (xs.take k) ≤ 4096 ^ k
  | 0 => by simp [prod]
  | k + 1 => by
    have ih := prod_take_bd xs h k
    have hk4 : (1 : Int) ≤ 4096 ^ k := by
      have : (0 : Int) < 4096 ^ k := Int.pow_pos (by omega)
      omega
    by_cases hk : k < xs.length
    · rw [prod_take_succ xs k hk]
      have hx := h _ (mem_getD xs k hk)
      refine ⟨Int.mul_nonneg ih.1 hx.1, ?_⟩
      rw [Int.pow_succ]
      exact Int.mul_le_mul ih.2 hx.2 hx.1 (by omega)
    · rw [List.take_of_length_le (by omega)]
      rw [List.take_of_length_le (by omega)] at ih
      refine ⟨ih.1, ?_⟩
      rw [Int.pow_succ]
      omega

set_option maxHeartbeats 1000000 in
theorem wrongBox_any (a : Option Addr) (len cap : Nat) (xs : List Int) (w : World) (h : Ints w a len xs) :
    Calls Try.prog 36 #[.slice a len cap] w fun e w' => e = .returned (.int .i64 (boxE xs)) ∧ w' = w := by
  have hm := h.2.1
  have H := hide h
  have HL := hide h.1
  by_cases c1 : 4 < len
  · have e1 : boxE xs = 3 := by unfold boxE; rw [if_pos (by rw [h.1]; exact c1)]
    rw [e1]
    clear h e1
    go_enter Try.func36, Try.ntmps36
    go_wp2
    go_ret
    exact ⟨rfl, rfl⟩
  have c1' : len ≤ 4 := by omega
  cases c2 : xs.any badDim with
  | true =>
    have e1 : boxE xs = 4 := by unfold boxE; rw [if_neg (by rw [h.1]; exact c1), if_pos c2]
    rw [e1]
    have C2 := hide c2
    clear h e1 c2
    go_enter Try.func36, Try.ntmps36
    go_wp2_with (go_at_call 17; refine (containsBox_any _ _ _ _ _ H.out).mono ?_; rintro e w' ⟨rfl, rfl⟩; rw [C2.out])
    go_ret
    exact ⟨rfl, rfl⟩
  | false =>
    have e1 : boxE xs = if 4096 < prod xs then 5 else 0 := by unfold boxE; rw [if_neg (by rw [h.1]; exact c1), if_neg (by simp [c2])]
    have hd : ∀ x ∈ xs, 0 ≤ x ∧ x ≤ 4096 := by
      intro x hx
      have := List.any_eq_false.1 c2 x hx
      simp [badDim] at this
      omega
    have E1 := hide e1
    have C2 := hide c2
    have HD := hide hd
    clear h e1 c2 hd c1
    go_enter Try.func36, Try.ntmps36
    go_wp2_with (go_at_call 17; refine (containsBox_any _ _ _ _ _ H.out).mono ?_; rintro e w' ⟨rfl, rfl⟩; rw [C2.out])
    go_loop [3, 13] (fun s i => ∃ k : Nat, k ≤ len ∧ i = .int .i64 k ∧ s = .int .i64 (prod (xs.take k))) (fun _ i => len - (intOf i).toNat)
    case atStart => exact ⟨0, Nat.zero_le _, rfl, by simp [prod]⟩
    case round =>
      obtain ⟨k, hk, rfl, rfl⟩ := hrel
      by_cases hlt : k < len
      · obtain ⟨b, off, rfl, hb, hc⟩ := H.out.at (by omega)
        have hck := hc k hlt
        have hkl : k < xs.length := by rw [HL.out]; exact hlt
        have HP := hide (prod_take_succ xs k hkl)
        have q := prod_take_bd xs HD.out (k + 1)
        rw [HP.out] at q
        have q3 : (4096 : Int) ^ (k + 1) ≤ 281474976710656 := by
          have : k + 1 = 1 ∨ k + 1 = 2 ∨ k + 1 = 3 ∨ k + 1 = 4 := by omega
          rcases this with e | e | e | e <;> rw [e] <;> decide
        have q4 : prod (xs.take k) * xs[k]?.getD 0 ≤ 281474976710656 := Int.le_trans q.2 q3
        have q5 := q.1
        clear hc hkl q q3
        go_wp2
        go_round
        case rel => exact ⟨k + 1, by omega, by go_num, by rw [HP.out]⟩
        case measure => simp [intOf]; omega
      · have e := take_all HL.out hlt
        rw [e]
        have q := prod_take_bd xs HD.out len
        clear e
        by_cases c3 : 4096 < prod xs
        · go_wp2
          go_ret
          exact ⟨by rw [E1.out, if_pos (by omega)]; rfl, rfl⟩
        · go_wp2
          go_ret
          exact ⟨by rw [E1.out, if_neg (by omega)]; rfl, rfl⟩

theorem ptFar_any (K : Int) (w : World) : Calls Try.prog 50 #[.int .i64 K] w fun e w' => e = .returned (.bool (ptFar K)) ∧ w' = w := by
  by_cases h1 : K < -1048576
  · have e : ptFar K = true := by simp [ptFar, h1]
    rw [e]
    go_enter Try.func50, Try.ntmps50
    go_wp2
    go_ret
    exact ⟨rfl, rfl⟩
  · have e : ptFar K = decide (1048576 < K) := by simp [ptFar, h1]
    rw [e]
    clear e
    go_enter Try.func50, Try.ntmps50
    go_wp2
    go_ret
    exact ⟨rfl, rfl⟩
set_option maxHeartbeats 1000000 in
theorem wrongRow_any (a : Option Addr) (l c : Nat) (cs : List Int) (K : Int) (many : Nat) (w : World) (h : Ints w a l cs) (hK : -9223372036854775808 ≤ K ∧ K ≤ 9223372036854775807) (h4 : many ≤ 4) :
    Calls Try.prog 37 #[.agg #[.slice a l c, .int .i64 K], .int .i64 many] w fun e w' => e = .returned (.int .i64 (rowE (cs, K) many)) ∧ Below w.heap.size w w' := by
  have hm := h.2.1
  have B1 : Below w.heap.size w (w.alloc (.cells #[.slice a l c, .int .i64 K] 41)) := bl_new _
  have H := hide (ptContainsFar_any a l c cs (w.alloc (.cells #[.slice a l c, .int .i64 K] 41)) (h.below B1))
  have HB := hide B1
  clear B1
  by_cases c1 : l = many
  · subst c1
    have e1 : rowE (cs, K) l = if (ptFar K || cs.any ptFar) = true then 4 else 0 := by unfold rowE; rw [if_neg (by simp [h.1])]
    rw [e1]
    clear e1 h
    cases k1 : ptFar K
    · cases c2 : cs.any ptFar
      all_goals
        have C1 := hide k1
        have C2 := hide c2
        clear c2 k1
        go_enter Try.func37, Try.ntmps37
        go_wp2_with (first | (go_at_call 50; refine (ptFar_any _ _).mono ?_; rintro e w' ⟨rfl, rfl⟩; rw [C1.out]) | (go_at_call 17; refine H.out.mono ?_; rintro e w' ⟨rfl, rfl⟩; rw [C2.out]))
        go_ret
        exact ⟨rfl, HB.out⟩
    · have C1 := hide k1
      clear k1
      go_enter Try.func37, Try.ntmps37
      go_wp2_with (go_at_call 50; refine (ptFar_any _ _).mono ?_; rintro e w' ⟨rfl, rfl⟩; rw [C1.out])
      go_ret
      exact ⟨rfl, HB.out⟩
  · have e1 : rowE (cs, K) many = 6 := by unfold rowE; rw [if_pos (by rw [h.1]; exact c1)]
    rw [e1]
    have c2 : ((l : Int) != (many : Int)) = true := by simp; omega
    clear e1 h c1
    go_enter Try.func37, Try.ntmps37
    go_wp2
    go_ret
    exact ⟨rfl, HB.out⟩

/-- A description of points in memory: two cells. -/
def PtAt (w : World) (b : Nat) (ba : Option Addr) (bl bc : Nat) (ra : Option Addr) (rl rc : Nat) : Prop := w.heap[b]? = some (.cells #[.slice ba bl bc, .slice ra rl rc] 39 (0, 0))
theorem PtAt.lt {w : World} {b : Nat} {ba : Option Addr} {bl bc : Nat} {ra : Option Addr} {rl rc : Nat} (h : PtAt w b ba bl bc ra rl rc) : b < w.heap.size := (Array.getElem?_eq_some_iff.1 h).1
theorem PtAt.below {w w' : World} {b : Nat} {ba : Option Addr} {bl bc : Nat} {ra : Option Addr} {rl rc : Nat} (h : PtAt w b ba bl bc ra rl rc) (hb : Below w.heap.size w w') : PtAt w' b ba bl bc ra rl rc := (hb.block b h.lt).trans h
theorem PtAt.new (w : World) (ba : Option Addr) (bl bc : Nat) (ra : Option Addr) (rl rc : Nat) : PtAt (w.alloc (.cells #[.slice ba bl bc, .slice ra rl rc] 39)) w.heap.size ba bl bc ra rl rc := World.alloc_heap_new w _
theorem PtAt.cells {w : World} {b : Nat} {ba : Option Addr} {bl bc : Nat} {ra : Option Addr} {rl rc : Nat} (h : PtAt w b ba bl bc ra rl rc) : w.cell? ⟨b, 0, none⟩ = some (.slice ba bl bc) ∧ w.cell? ⟨b, 1, none⟩ = some (.slice ra rl rc) := by
  unfold PtAt at h
  refine ⟨?_, ?_⟩ <;> simp [World.cell?, h]
theorem rowsE_take (rs : List (List Int × Int)) (many : Nat) : ∀ k, k < rs.length → rowsE (rs.take k) many = 0 → rowE (rs[k]?.getD ([], 0)) many = 0 → rowsE (rs.take (k + 1)) many = 0 := by
  induction rs with
  | nil => intro k h; simp at h
  | cons r rs ih =>
    intro k h1 h2 h3
    cases k with
    | zero => simp only [List.getElem?_cons_zero, Option.getD_some] at h3; simp [rowsE, h3]
    | succ k =>
      simp only [List.take_succ_cons, rowsE] at h2 ⊢
      by_cases hr : rowE r many ≠ 0
      · rw [if_pos hr] at h2; exact absurd h2 hr
      · rw [if_neg hr] at h2 ⊢
        exact ih k (by simpa using h1) h2 (by simpa using h3)
theorem rowsE_here (rs : List (List Int × Int)) (many : Nat) : ∀ k, k < rs.length → rowsE (rs.take k) many = 0 → rowE (rs[k]?.getD ([], 0)) many ≠ 0 → rowsE rs many = rowE (rs[k]?.getD ([], 0)) many := by
  induction rs with
  | nil => intro k h; simp at h
  | cons r rs ih =>
    intro k h1 h2 h3
    cases k with
    | zero => simp only [List.getElem?_cons_zero, Option.getD_some] at h3 ⊢; simp [rowsE, h3]
    | succ k =>
      simp only [List.take_succ_cons, rowsE] at h2 ⊢
      by_cases hr : rowE r many ≠ 0
      · rw [if_pos hr] at h2; exact absurd h2 hr
      · rw [if_neg hr] at h2 ⊢
        simpa using ih k (by simpa using h1) h2 (by simpa using h3)

set_option maxHeartbeats 2000000 in
theorem ptWrong_any (ba : Option Addr) (bl bc : Nat) (box : List Int) (ra : Option Addr) (rl rc : Nat) (rs : List (List Int × Int)) (w : World) (h : Ints w ba bl box) (hr : Rws w ra rl rs) :
    Calls Try.prog 23 #[.agg #[.slice ba bl bc, .slice ra rl rc]] w fun e w' => e = .returned (.int .i64 (ptE box rs)) ∧ Below w.heap.size w w' := by
  have hm := h.2.1
  have hm2 := hr.2.1
  have B1 : Below w.heap.size w (w.alloc (.cells #[.slice ba bl bc, .slice ra rl rc] 39)) := bl_new _
  have HWB := hide (wrongBox_any ba bl bc box _ (h.below B1))
  have HR := hide hr
  have HB := hide B1
  have HL1 := hide h.1
  have HL2 := hide hr.1
  have HP0 := hide (PtAt.new w ba bl bc ra rl rc)
  by_cases c1 : boxE box ≠ 0
  · have e1 : ptE box rs = boxE box := by unfold ptE; rw [if_pos c1]
    have c2 : (boxE box != 0) = true := by simpa using c1
    rw [e1]
    clear h hr e1 c1 B1
    go_enter Try.func23, Try.ntmps23
    go_wp2_with (go_at_call 36; refine HWB.out.mono ?_; rintro e w' ⟨rfl, rfl⟩)
    go_ret
    exact ⟨rfl, HB.out⟩
  have c1' : boxE box = 0 := by simpa using c1
  have hb4 := (boxE_ok c1').1
  have hbl : bl ≤ 4 := by have := h.1; omega
  have C1 := hide c1'
  by_cases c3 : 8 < rl
  · have e1 : ptE box rs = 2 := by unfold ptE; rw [if_neg c1, if_pos (by rw [hr.1]; exact c3)]
    rw [e1]
    clear h hr e1 c1 c1' B1 hb4
    go_enter Try.func23, Try.ntmps23
    go_wp2_with (go_at_call 36; refine HWB.out.mono ?_; rintro e w' ⟨rfl, rfl⟩; rw [C1.out])
    go_ret
    exact ⟨rfl, HB.out⟩
  have e1 : ptE box rs = rowsE rs bl := by unfold ptE; rw [if_neg c1, if_neg (by rw [hr.1]; exact c3), h.1]
  rw [e1]
  clear h hr e1 c1 c1' B1 hb4
  go_enter Try.func23, Try.ntmps23
  go_wp2_with (go_at_call 36; refine HWB.out.mono ?_; rintro e w' ⟨rfl, rfl⟩; rw [C1.out])
  go_loopw [20] (fun i wr => ∃ k : Nat, k ≤ rl ∧ i = .int .i64 k ∧ rowsE (rs.take k) bl = 0 ∧ Below w.heap.size w wr ∧ PtAt wr w.heap.size ba bl bc ra rl rc) (fun i _ => rl - (intOf i).toNat)
  case atStart => exact ⟨0, Nat.zero_le _, rfl, by simp [rowsE], HB.out, HP0.out⟩
  case round =>
    obtain ⟨k, hk, rfl, hn, hB, hP⟩ := hrel
    have HN := hide hn
    have HBr := hide hB
    have HP := hide hP
    clear hn hB
    by_cases hlt : k < rl
    · have hkl : k < rs.length := by rw [HL2.out]; exact hlt
      obtain ⟨b, off, rfl, hat⟩ := (HR.out.below HBr.out).at (by omega)
      obtain ⟨a, l, c, k1, k2, k3, k4, k5⟩ := hat k hlt
      have z1 := lt_of_cell k1
      have z2 := lt_of_cell k2
      simp only at z1 z2
      obtain ⟨q, hq⟩ : ∃ q, q = rs[k]?.getD ([], 0) := ⟨_, rfl⟩
      rw [← hq] at k2 k3 k5
      have HQ := hide hq
      obtain ⟨cs, K⟩ := q
      simp only at k2 k3 k5
      have B2 : Below wr.heap.size wr (wr.alloc (.cells #[.slice a l c, .int .i64 K] 41)) := bl_new _
      obtain ⟨p0, p1⟩ := (hP.below B2).cells
      obtain ⟨p2, p3⟩ := hP.cells
      have pz := hP.lt
      have HC := hide (wrongRow_any a l c cs K bl (wr.alloc (.cells #[.slice a l c, .int .i64 K] 41)) (k3.below B2) k5 hbl)
      have HKL := hide hkl
      have HB2 := hide B2
      clear hat k3 k4 k5 hq hkl B2 hP
      go_wp2_with (go_at_call 37; refine HC.out.mono ?_; rintro e w2 ⟨rfl, hb⟩; have HB3 := hide (bl_on HB2.out hb); clear hb)
      · have hx : rowE (cs, K) bl ≠ 0 := by simpa using (by assumption : (rowE (cs, K) bl != 0) = true)
        go_ret
        refine ⟨?_, bl_on HBr.out HB3.out⟩
        rw [rowsE_here rs bl k HKL.out HN.out (by rw [← HQ.out]; exact hx), ← HQ.out]; rfl
      · have hx : rowE (cs, K) bl = 0 := by simpa using (by assumption : (rowE (cs, K) bl != 0) = false)
        go_roundw
        case rel => exact ⟨k + 1, by omega, by go_num, rowsE_take rs bl k HKL.out HN.out (by rw [← HQ.out]; exact hx), bl_on HBr.out HB3.out, HP.out.below HB3.out⟩
        case measure => simp [intOf]; omega
    · go_wp2
      go_ret
      have := HN.out
      rw [List.take_of_length_le (by rw [HL2.out]; omega)] at this
      exact ⟨by rw [this]; rfl, HBr.out⟩
end Go.Proofs.Ytindmfpfpooijaa.V
