/-
  Contracts: the document's SameMemory and the law's sameWords, of equal lists; leaves of the document. The law's picks. What a team's members have in the end. Contract: the document's Piece.
-/
import Derived.Test.YticcoacoepajpaaK20
import Derived.BigQuiet
import Derived.Test.YticcoacoepajpaaK21
namespace Go.Proofs.Yticcoacoepajpaa.V
open Go Go.RowKit
set_option linter.unusedVariables false
set_option linter.unusedSimpArgs false

/-- Lists of words. -/
def LsA (W : World) (a : Option Addr) (len : Nat) (xss : List (List Int)) : Prop := xss.length = len ∧ len ≤ 9223372036854775807 ∧ (len = 0 ∨ ∃ b off, a = some ⟨b, off, none⟩ ∧ ∀ i, i < len → ∃ X m c, W.cell? ⟨b, off + i, none⟩ = some (.slice X m c) ∧ Ints W X m (xss[i]?.getD []) ∧ m ≤ c)
theorem LsA.below {W V : World} {a : Option Addr} {len : Nat} {xss : List (List Int)} (h : LsA W a len xss) (hb : Below W.heap.size W V) : LsA V a len xss := by
  refine ⟨h.1, h.2.1, h.2.2.imp id fun ⟨b, off, e, hc⟩ => ⟨b, off, e, fun i hi => ?_⟩⟩
  obtain ⟨X, m, c, h1, h2, h3⟩ := hc i hi
  exact ⟨X, m, c, (hb.cell (p := ⟨b, off + i, none⟩) (lt_of_cell h1)).trans h1, h2.below hb, h3⟩
theorem LsA.at {W : World} {a : Option Addr} {len : Nat} {xss : List (List Int)} (h : LsA W a len xss) (h0 : 0 < len) : ∃ b off, a = some ⟨b, off, none⟩ ∧ ∀ i, i < len → ∃ X m c, W.cell? ⟨b, off + i, none⟩ = some (.slice X m c) ∧ Ints W X m (xss[i]?.getD []) ∧ m ≤ c := by
  rcases h.2.2 with e | h
  · omega
  · exact h
set_option maxRecDepth 100000 in
set_option maxHeartbeats 4000000 in
theorem sameMem_eq (a : Option Addr) (cap : Nat) (a' : Option Addr) (cap' : Nat) (len : Nat) (M : List (List Int)) (w : World) (h : LsA w a len M) (h' : LsA w a' len M) :
    Calls Try.prog 29 #[.slice a len cap, .slice a' len cap'] w fun e w' => e = .returned (.bool true) ∧ ∃ n, w' = w.drewN n := by
  have hm := h.2.1
  have H := hide h
  have H' := hide h'
  have q0 : ((len : Int) != (len : Int)) = false := by simp
  clear h h'
  go_enter Try.func29, Try.ntmps29
  go_wp2_with fail
  go_loopw [14] (fun i wr => ∃ k : Nat, k ≤ len ∧ i = .int .i64 k ∧ ∃ n, wr = w.drewN n) (fun i _ => len - (intOf i).toNat)
  case atStart => exact ⟨0, Nat.zero_le _, rfl, 0, rfl⟩
  case round =>
    obtain ⟨k, hk, rfl, nn, rfl⟩ := hrel
    by_cases hlt : k < len
    · obtain ⟨b, off, rfl, hat⟩ := H.out.at (by omega)
      obtain ⟨x, l, c, c1, c2⟩ := hat k hlt
      obtain ⟨b', off', rfl, hat'⟩ := H'.out.at (by omega)
      obtain ⟨x', l', c', c1', c2'⟩ := hat' k hlt
      obtain rfl : l = l' := by have := c2.1.1; have := c2'.1.1; omega
      have z1 := lt_of_cell c1
      have z1' := lt_of_cell c1'
      simp only at z1 z1'
      have hlm := c2.1.2.1
      have q1 : ((l : Int) != (l : Int)) = false := by simp
      have HX := hide c2.1
      have HX' := hide c2'.1
      have HC1 := hide c1
      have HC1' := hide c1'
      clear hat hat' c2 c2'
      go_wp2_with fail
      go_quiet (fail)
      go_wp2_with fail
      go_loopw [33] (fun i wr => ∃ j : Nat, j ≤ l ∧ i = .int .i64 j ∧ ∃ n, wr = w.drewN n) (fun i _ => l - (intOf i).toNat)
      case atStart => exact ⟨0, Nat.zero_le _, rfl, _, rfl⟩
      case round =>
        obtain ⟨j, hj, rfl, n2, rfl⟩ := hrel
        by_cases hlt2 : j < l
        · obtain ⟨y, yo, rfl, hy, hyc⟩ := HX.out.at (by omega)
          obtain ⟨y', yo', rfl, hy', hyc'⟩ := HX'.out.at (by omega)
          have d1 := hyc j hlt2
          have d1' := hyc' j hlt2
          obtain ⟨V, hV⟩ : ∃ V, V = (M[k]?.getD [])[j]?.getD 0 := ⟨_, rfl⟩
          rw [← hV] at d1 d1'
          have q2 : (V != V) = false := by simp
          clear hyc hyc' hV
          go_wp2_with fail
          go_quiet (fail)
          go_wp2_with fail
          go_roundw
          case rel => exact ⟨j + 1, by omega, by go_num, _, rfl⟩
          case measure => simp [intOf]; omega
        · go_wp2_with fail
          go_roundw
          case rel => exact ⟨k + 1, by omega, by go_num, _, rfl⟩
          case measure => simp [intOf]; omega
    · go_wp2_with fail
      go_ret
      exact ⟨rfl, _, rfl⟩
theorem bl_drew (w : World) (n : Nat) : Below w.heap.size w (w.drewN n) := ⟨rfl, rfl, rfl, Nat.le_refl _, fun _ _ => rfl⟩
theorem lsA_one {w : World} {g : Nat} {X : Option Addr} {m c : Nat} {xs : List Int} (hc : w.cell? ⟨g, 0, none⟩ = some (.slice X m c)) (h : Ints w X m xs) (hmc : m ≤ c) : LsA w (some ⟨g, 0, none⟩) 1 [xs] := by
  refine ⟨rfl, by omega, .inr ⟨g, 0, rfl, fun i hi => ?_⟩⟩
  have : i = 0 := by omega
  subst this
  exact ⟨X, m, c, hc, h, hmc⟩
set_option maxRecDepth 100000 in
theorem sameW_eq (x y : Sl) (xs : List Int) (w : World) (hx : Ints w x.a x.n xs) (hxc : x.n ≤ x.c) (hy : Ints w y.a y.n xs) (hyc : y.n ≤ y.c) :
    Calls Try.prog 14 #[.slice x.a x.n x.c, .slice y.a y.n y.c] w fun e w' => e = .returned (.bool true) ∧ Below w.heap.size w w' := by
  have HX := hide hx
  have HY := hide hy
  obtain ⟨xa, xn, xc⟩ := x
  obtain ⟨ya, yn, yc⟩ := y
  simp only at HX HY hxc hyc ⊢
  clear hx hy
  go_enter Try.func14, Try.ntmps14
  go_wp2_with (go_at_call 29; refine stp ?_)
  unfold Stp1
  have hb1 : Below w.heap.size w ((w.alloc (.cells #[.slice xa xn xc] 24)).alloc (.cells #[.slice ya yn yc] 24)) := (bl_new _).alloc (by simp) _
  have k1 : ((w.alloc (.cells #[.slice xa xn xc] 24)).alloc (.cells #[.slice ya yn yc] 24)).cell? ⟨w.heap.size, 0, none⟩ = some (.slice xa xn xc) := by
    have h8 := ((bl_new (w := w.alloc (.cells #[.slice xa xn xc] 24)) (.cells #[.slice ya yn yc] 24)).block w.heap.size (by simp)).trans (World.alloc_heap_new _ _)
    simp only [World.cell?, h8]
    rfl
  have k2 : ((w.alloc (.cells #[.slice xa xn xc] 24)).alloc (.cells #[.slice ya yn yc] 24)).cell? ⟨w.heap.size + 1, 0, none⟩ = some (.slice ya yn yc) := by
    have h8 := World.alloc_heap_new' (w.alloc (.cells #[.slice xa xn xc] 24)) (.cells #[.slice ya yn yc] 24) (g := w.heap.size + 1) (by simp)
    simp only [World.cell?, h8]
    rfl
  refine (sameMem_eq _ _ _ _ 1 [xs] _ (lsA_one k1 (HX.out.below hb1) hxc) (lsA_one k2 (HY.out.below hb1) hyc)).mono ?_
  rintro e w1 ⟨rfl, nn, rfl⟩
  have HB1 := hide hb1
  clear k1 k2 hb1
  go_wp2_with fail
  go_ret
  exact ⟨rfl, bl_on HB1.out (bl_drew _ nn)⟩
theorem rWrong_any (d m me : Int) (l : Nat) (w : World) : Calls Try.prog 10 #[.int .i64 d, .int .i64 m, .int .i64 me, .int .i64 (l : Int)] w fun e w' => e = .returned (.int .i64 (wrongM d m me l)) ∧ w' = w := by
  go_enter Try.func10, Try.ntmps10
  by_cases a1 : d < 1
  · have e : wrongM d m me l = 1 := by unfold wrongM; rw [if_pos (.inl a1)]
    rw [e]
    go_wp2_with fail
    go_ret
    exact ⟨rfl, rfl⟩
  by_cases a2 : 4 < d
  · have e : wrongM d m me l = 1 := by unfold wrongM; rw [if_pos (.inr a2)]
    rw [e]
    go_wp2_with fail
    go_ret
    exact ⟨rfl, rfl⟩
  by_cases b1 : m < 1
  · have e : wrongM d m me l = 4 := by unfold wrongM; rw [if_neg (by omega), if_pos (.inl b1)]
    rw [e]
    go_wp2_with fail
    go_ret
    exact ⟨rfl, rfl⟩
  by_cases b2 : 16 < m
  · have e : wrongM d m me l = 4 := by unfold wrongM; rw [if_neg (by omega), if_pos (.inr (.inl b2))]
    rw [e]
    go_wp2_with fail
    go_ret
    exact ⟨rfl, rfl⟩
  by_cases b3 : me < 0
  · have e : wrongM d m me l = 4 := by unfold wrongM; rw [if_neg (by omega), if_pos (.inr (.inr (.inl b3)))]
    rw [e]
    go_wp2_with fail
    go_ret
    exact ⟨rfl, rfl⟩
  by_cases b4 : m ≤ me
  · have e : wrongM d m me l = 4 := by unfold wrongM; rw [if_neg (by omega), if_pos (.inr (.inr (.inr b4)))]
    have b5 : ¬ me < m := by omega
    rw [e]
    go_wp2_with fail
    go_ret
    exact ⟨rfl, rfl⟩
  have b5 : me < m := by omega
  by_cases c1 : 65536 < l
  · have e : wrongM d m me l = 5 := by unfold wrongM; rw [if_neg (by omega), if_neg (by omega), if_pos c1]
    have c2 : (65536 : Int) < (l : Int) := by omega
    rw [e]
    go_wp2_with fail
    go_ret
    exact ⟨rfl, rfl⟩
  have c2 : ¬ (65536 : Int) < (l : Int) := by omega
  by_cases d4 : d = 4
  · subst d4
    obtain ⟨n, rfl⟩ : ∃ n : Nat, m = (n : Int) := ⟨m.toNat, by omega⟩
    have hb := tmod_bd (n := n) (by omega) (l : Int)
    have q0 : ¬ ((n : Int) = 0) := by omega
    have q1 : ((n : Int) == 0) = false := by simp; omega
    have q3 : wrap64 ((l : Int).tmod (n : Int)) = (l : Int).tmod (n : Int) := by unfold wrap64; omega
    by_cases r : (l : Int).tmod (n : Int) = 0
    · have e : wrongM 4 (n : Int) me l = 0 := by unfold wrongM; rw [if_neg (by omega), if_neg (by omega), if_neg c1, if_neg (fun h => h.2 r)]
      rw [e]
      clear hb
      go_wp2_with fail
      go_ret
      exact ⟨rfl, rfl⟩
    · have e : wrongM 4 (n : Int) me l = 6 := by unfold wrongM; rw [if_neg (by omega), if_neg (by omega), if_neg c1, if_pos ⟨rfl, r⟩]
      rw [e]
      have r2 : ((l : Int).tmod (n : Int) != 0) = true := by simpa using r
      have r3 : ((l : Int).tmod (n : Int) == 0) = false := by simpa using r
      have r5 : ¬ ((l : Int) % (n : Int) = 0) := by rw [← Int.tmod_eq_emod_of_nonneg (by omega)]; exact r
      have r6 : ((l : Int) % (n : Int) == 0) = false := by simpa using r5
      have r7 : ((l : Int) % (n : Int) != 0) = true := by simpa using r5
      clear hb e
      go_wp2_with fail
      go_ret
      exact ⟨rfl, rfl⟩
  · have e : wrongM d m me l = 0 := by unfold wrongM; rw [if_neg (by omega), if_neg (by omega), if_neg c1, if_neg (fun h => d4 h.1)]
    rw [e]
    go_wp2_with fail
    go_ret
    exact ⟨rfl, rfl⟩
end Go.Proofs.Yticcoacoepajpaa.V
namespace Go.Proofs.Yticcoacoepajpaa.V
open Go Go.RowKit
set_option linter.unusedVariables false
set_option linter.unusedSimpArgs false

/-- What the picks say. -/
def pickV (ps : List Int) (i : Nat) : Int := if ps.length = 0 then 0 else ps[i % ps.length]?.getD 0
set_option maxRecDepth 100000 in
set_option maxHeartbeats 2000000 in
theorem pick_any (B : Nat) (X : Option Addr) (m c : Nat) (ps : List Int) (i : Nat) (w : World) (hi : i ≤ 1000000) (hb : w.cell? ⟨B, 0, none⟩ = some (.slice X m c)) (h : Ints w X m ps) : Calls Try.prog 28 #[.int .i64 (i : Int), .pointer (some ⟨B, 0, none⟩)] w fun e w' => e = .returned (.int .i64 (pickV ps i)) ∧ Below w.heap.size w w' := by
  have hz := lt_of_cell hb
  have hl := h.1
  have hm := h.2.1
  by_cases h0 : m = 0
  · subst h0
    have e : pickV ps i = 0 := by unfold pickV; rw [if_pos hl]
    rw [e]
    clear h hl e
    go_enter Try.func28, Try.ntmps28
    go_wp2_with fail
    go_ret
    exact ⟨rfl, Below.refl _ _⟩
  · obtain ⟨b, off, rfl, hbl, hc⟩ := h.at (by omega)
    have hr : i % m < m := Nat.mod_lt _ (by omega)
    have c1 := hc (i % m) hr
    have e : pickV ps i = ps[i % m]?.getD 0 := by unfold pickV; rw [hl, if_neg h0]
    rw [← e] at c1
    obtain ⟨V, hV⟩ : ∃ V, V = pickV ps i := ⟨_, rfl⟩
    rw [← hV] at c1 ⊢
    clear e hV
    obtain ⟨r, hr'⟩ : ∃ r, r = i % m := ⟨_, rfl⟩
    rw [← hr'] at c1 hr
    have HR := hide hr'
    clear hr'
    have q2 : wrap64 (r : Int) = (r : Int) := by unfold wrap64; omega
    have z1 := lt_of_cell c1
    have q0 : ¬ ((m : Int) = 0) := by omega
    have q1 : ((m : Int) == 0) = false := by simp; omega
    have q3 : (0 : Int) ≤ (r : Int) := by omega
    have q4 : (r : Int) < (m : Int) := by omega
    have hrm : (i : Int).tmod (m : Int) = (r : Int) := by rw [HR.out, Int.tmod_eq_emod_of_nonneg (Int.natCast_nonneg _)]; simp
    have hrm2 : (i : Int) % (m : Int) = (r : Int) := by rw [HR.out]; simp
    have HRM := hide hrm
    have HRM2 := hide hrm2
    clear h hc hl hrm hrm2
    go_enter Try.func28, Try.ntmps28
    go_upto_region 3 with fail
    refine region_made 7 9 [fIs (.slice (some ⟨b, off, none⟩) m c), fIs (.int .i64 (i : Int)), fIs (.slice (some ⟨b, off, none⟩) m c), fIs (.int .i64 (m : Int)), fIs (.int .i64 (r : Int)), fIs (.pointer (some ⟨b, off + r, none⟩)), fIs (.int .i64 V)] (by kernel_rfl) (by kernel_rfl) (by kernel_rfl) (fun _ ⟨_, _⟩ ⟨_, _⟩ _ e h => by cases e; exact h) ⟨fIs_good _, fIs_good _, fIs_good _, fIs_good _, fIs_good _, fIs_good _, fIs_good _, trivial⟩ ?mk ?rest
    case mk =>
      refine ⟨fun u wz hw hd => ?_, fun u wz hw hd => ?_, fun u wz hw hd => ?_, fun u wz hw hd => ?_, fun u wz hw hd => ?_, fun u wz hw hd => ?_, fun u wz hw hd => ?_, trivial⟩
      all_goals simp only [Act.put, List.setIfInBounds_toArray, List.set_cons_zero, List.set_cons_succ]
      · have hb' := (hw.cell (p := ⟨B, 0, none⟩) (lt_of_cell hb)).trans hb
        go_simp
        exact ⟨rfl, Below.refl _ _, fun h => by cases h⟩
      · go_simp
        exact ⟨rfl, Below.refl _ _, fun h => by cases h⟩
      · have hb' := (hw.cell (p := ⟨B, 0, none⟩) (lt_of_cell hb)).trans hb
        go_simp
        exact ⟨rfl, Below.refl _ _, fun h => by cases h⟩
      · have e2 : u 2 = .slice (some ⟨b, off, none⟩) m c := hd 2 (by omega) (by kernel_rfl)
        rw [e2]
        go_simp
        exact ⟨rfl, Below.refl _ _, fun h => by cases h⟩
      · have e1 : u 1 = .int .i64 (i : Int) := hd 1 (by omega) (by kernel_rfl)
        have e3 : u 3 = .int .i64 (m : Int) := hd 3 (by omega) (by kernel_rfl)
        rw [e1, e3]
        go_simp
        try rw [HRM2.out]
        try rw [HRM.out]
        try rw [q2]
        exact ⟨rfl, Below.refl _ _, fun h => by cases h⟩
      · have e0 : u 0 = .slice (some ⟨b, off, none⟩) m c := hd 0 (by omega) (by kernel_rfl)
        have e4 : u 4 = .int .i64 (r : Int) := hd 4 (by omega) (by kernel_rfl)
        rw [e0, e4]
        go_simp
        exact ⟨rfl, Below.refl _ _, fun h => by cases h⟩
      · have e5 : u 5 = .pointer (some ⟨b, off + r, none⟩) := hd 5 (by omega) (by kernel_rfl)
        rw [e5]
        have c1' := (hw.cell (p := ⟨b, off + r, none⟩) (lt_of_cell c1)).trans c1
        go_simp
        exact ⟨rfl, Below.refl _ _, fun h => by cases h⟩
    case rest =>
      intro u wz hw hf hp
      have f0 : u 0 = .slice (some ⟨b, off, none⟩) m c := hf 0 (by omega)
      have f1 : u 1 = .int .i64 (i : Int) := hf 1 (by omega)
      have f2 : u 2 = .slice (some ⟨b, off, none⟩) m c := hf 2 (by omega)
      have f3 : u 3 = .int .i64 (m : Int) := hf 3 (by omega)
      have f4 : u 4 = .int .i64 (r : Int) := hf 4 (by omega)
      have f5 : u 5 = .pointer (some ⟨b, off + r, none⟩) := hf 5 (by omega)
      have f6 : u 6 = .int .i64 V := hf 6 (by omega)
      refine UptoW.rest 1 7 (by rfl) (by kernel_rfl) ?_
      simp only [List.take, List.drop, putOps, Act.put, List.setIfInBounds_toArray, List.set_cons_zero, List.set_cons_succ, Nat.reduceAdd, f0, f1, f2, f3, f4, f5, f6]
      clear f0 f1 f2 f3 f4 f5 f6 hf hp
      go_wp2_with fail
      go_ret
      exact ⟨rfl, hw⟩
end Go.Proofs.Yticcoacoepajpaa.V
namespace Go.Proofs.Yticcoacoepajpaa.V
open Go Go.RowKit
set_option linter.unusedVariables false
set_option linter.unusedSimpArgs false
set_option synthInstance.maxHeartbeats 400000
set_option synthInstance.maxSize 2000

/-- Sums of numbers. -/
def sumI : Nat → (Nat → Int) → Int
  | 0, _ => 0
  | k + 1, f => f 0 + sumI k (fun m => f (m + 1))
theorem sumI_same : ∀ (k : Nat) (f g : Nat → Int), (∀ i, i < k → f i = g i) → sumI k f = sumI k g
  | 0, f, g, _ => rfl
  | k + 1, f, g, h => by unfold sumI; rw [sumI_same k _ _ (fun i hi => h (i + 1) (by omega)), h 0 (by omega)]
theorem sumI_last : ∀ (k : Nat) (f : Nat → Int), sumI (k + 1) f = sumI k f + f k
  | 0, f => by simp [sumI]
  | k + 1, f => by
    show f 0 + sumI (k + 1) (fun m => f (m + 1)) = _
    rw [sumI_last k]
    show _ = f 0 + sumI k (fun m => f (m + 1)) + f (k + 1)
    omega
theorem sumI_turn (f : Nat → Int) (n i : Nat) (hn : n < 7) (hi : i < n) : sumI n (fun m => f (modI ((i : Int) - (m : Nat)) n)) = sumI n f := by
  have hn' : n = 1 ∨ n = 2 ∨ n = 3 ∨ n = 4 ∨ n = 5 ∨ n = 6 := by omega
  have hi' : i = 0 ∨ i = 1 ∨ i = 2 ∨ i = 3 ∨ i = 4 ∨ i = 5 := by omega
  rcases hn' with rfl | rfl | rfl | rfl | rfl | rfl <;> rcases hi' with rfl | rfl | rfl | rfl | rfl | rfl <;> first | omega | (simp [sumI, modI]; try omega)
theorem wrap_add (a b : Int) : wrap64 (a + wrap64 b) = wrap64 (a + b) := by unfold wrap64; omega
theorem wrap_same {a : Int} (h : -9223372036854775808 ≤ a ∧ a ≤ 9223372036854775807) : wrap64 a = a := by unfold wrap64; omega
/-- A list by its words. -/
theorem list_words (l : List Int) : l = (List.range l.length).map fun w => l[w]?.getD 0 := by
  apply List.ext_getElem?
  intro k
  by_cases h : k < l.length
  · simp [h]
  · simp [h]
theorem piece_word (xs : List Int) (p n w : Nat) (hp : p < n) (hw : w < plN n xs.length p) : (pieceL xs p n)[w]?.getD 0 = xs[p * xs.length / n + w]?.getD 0 := by
  unfold pieceL
  rw [List.getElem?_drop]
  unfold plN at hw
  rw [List.getElem?_take_of_lt (by omega)]
theorem piece_in (xs : List Int) (p n : Nat) (y : Int) (h : y ∈ pieceL xs p n) : y ∈ xs := List.mem_of_mem_take (List.mem_of_mem_drop h)
/-- Word w of piece p of member j. -/
def wd (d n : Nat) (x : Nat → List Int) (j p w : Nat) : Int := (prt (ownP d n x j) p)[w]?.getD 0
theorem fin_shift : ∀ d : Nat, d < 3 → 1 ≤ d → ∀ n : Nat, n < 7 → ∀ j : Nat, j < n → ∀ t : Nat, t < 7 → ∀ m : Nat, m < 7 → modI (((fromN d n j t : Nat) : Int) - (m : Nat)) n = modI ((j : Int) - ((m + 1 : Nat) : Int)) n := by decide +kernel
/-- What comes on the way round is the sum of so many. -/
theorem dat_sum {d n : Nat} {x : Nat → List Int} (h : TmOk d n x) (hd : d ≤ 2) : ∀ (t : Nat) (j : Nat), j < n → t < n - 1 → dat d n x t j = (List.range (plN n (x 0).length (sendN d n j t))).map fun w => wrap64 (sumI (t + 1) fun m => wd d n x (modI ((j : Int) - (m : Nat)) n) (sendN d n j t) w)
  | 0, j, hj, ht => by
    have hp : sendN d n j 0 < n := sendN_lt h.n1
    have hl := own_len h (by omega) hj hp
    unfold dat
    conv => lhs; rw [list_words (prt (ownP d n x j) (sendN d n j 0)), hl]
    apply List.map_congr_left
    intro w hw
    have hw' : w < plN n (x 0).length (sendN d n j 0) := List.mem_range.1 hw
    simp only [sumI]
    rw [(fin_self n h.n7 j hj).1]
    unfold wd
    rw [Int.add_zero, wrap_same]
    have e : (prt (ownP d n x j) (sendN d n j 0))[w]?.getD 0 ∈ x j := by
      have h9 : w < (prt (ownP d n x j) (sendN d n j 0)).length := by rw [hl]; exact hw'
      have h8 : (prt (ownP d n x j) (sendN d n j 0))[w]?.getD 0 ∈ prt (ownP d n x j) (sendN d n j 0) := by simp [h9]
      rw [ownP_at d n x j _ hp, if_neg (by omega)] at h8 ⊢
      exact piece_in _ _ _ _ h8
    exact h.rng j hj _ e
  | t + 1, j, hj, ht => by
    have h7 := h.n7
    have hs : sumsB d n t = true := by
      unfold sumsB
      have := h.d1
      simp only [decide_eq_true_eq]; omega
    have hf : fromN d n j t < n := fromN_lt h.n1
    have e1 : takeN d n j t = sendN d n j (t + 1) := fin_take_send d (by omega) h.d1 n h.n7 j hj t (by omega)
    have e2 : sendN d n (fromN d n j t) t = sendN d n j (t + 1) := by rw [← e1]; unfold takeN; rw [if_neg (by omega)]
    unfold dat
    rw [if_neg (by omega), if_pos hs, dat_sum h hd t _ hf (by omega), e1, e2]
    unfold addW
    rw [List.length_map, List.length_range]
    apply List.map_congr_left
    intro w hw
    have hw' := List.mem_range.1 hw
    simp only [List.getElem?_map, List.getElem?_range hw', Option.map_some, Option.getD_some]
    rw [wrap_add]
    congr 1
    show _ = wd d n x (modI ((j : Int) - ((0 : Nat) : Int)) n) (sendN d n j (t + 1)) w + sumI (t + 1) (fun m => wd d n x (modI ((j : Int) - ((m + 1 : Nat) : Int)) n) (sendN d n j (t + 1)) w)
    rw [(fin_self n h.n7 j hj).1]
    congr 1
    apply sumI_same
    intro m hm
    rw [fin_shift d (by omega) h.d1 n h.n7 j hj t (by omega) m (by omega)]
/-- The sum of all, word by word. -/
def sumW (n : Nat) (x : Nat → List Int) (k : Nat) : Int := wrap64 (sumI n fun j => (x j)[k]?.getD 0)
def sumL (n : Nat) (x : Nat → List Int) : List Int := (List.range (x 0).length).map (sumW n x)
theorem sumL_len (n : Nat) (x : Nat → List Int) : (sumL n x).length = (x 0).length := by simp [sumL]
def fullP (d n : Nat) (x : Nat → List Int) (i p : Nat) : List Int := (List.range (plN n (x 0).length p)).map fun w => wrap64 (sumI n fun m => wd d n x (modI ((i : Int) - (m : Nat)) n) p w)
theorem fullP_is {d n : Nat} {x : Nat → List Int} (h : TmOk d n x) (hd : d ≤ 2) {i p : Nat} (hi : i < n) (hp : p < n) : fullP d n x i p = pieceL (sumL n x) p n := by
  have hl : (pieceL (sumL n x) p n).length = plN n (x 0).length p := by rw [piece_len _ _ _ hp, sumL_len]
  conv => rhs; rw [list_words (pieceL (sumL n x) p n), hl]
  unfold fullP
  apply List.map_congr_left
  intro w hw
  have hw' : w < plN n (x 0).length p := List.mem_range.1 hw
  have hb : p * (x 0).length / n + w < (x 0).length := by
    have h1 : (p + 1) * (x 0).length / n ≤ (x 0).length := Nat.div_le_of_le_mul (Nat.mul_le_mul_right _ hp)
    unfold plN at hw'
    omega
  rw [piece_word _ _ _ _ hp (by rw [sumL_len]; exact hw'), sumL_len]
  unfold sumL
  rw [List.getElem?_map, List.getElem?_range hb]
  simp only [Option.map_some, Option.getD_some]
  unfold sumW
  rw [sumI_turn (fun j => wd d n x j p w) n i h.n7 hi]
  congr 1
  apply sumI_same
  intro j hj
  unfold wd
  have e := h.len (by omega) j hj
  rw [ownP_at d n x j p hp, if_neg (by omega), piece_word _ _ _ _ hp (by rw [e]; exact hw'), e]
/-- The value of a piece that was last touched at t. -/
theorem parA_at {d n : Nat} {x : Nat → List Int} (h : TmOk d n x) {i p t T : Nat} (hp : p < n) (ht : t < T) (e : takeN d n i t = p) (hv : ∀ v, t < v → v < T → takeN d n i v ≠ p) : prt (parA d n x i T) p = if sumsB d n t = true then addW (prt (parA d n x i t) p) (dat d n x t (fromN d n i t)) else dat d n x t (fromN d n i t) := by
  have h1 := parA_keep (d := d) (x := x) (i := i) hp (T - (t + 1)) (t + 1) (fun v hv' => hv (t + 1 + v) (by omega) (by omega))
  rw [show t + 1 + (T - (t + 1)) = T by omega] at h1
  rw [h1]
  show prt ((parA d n x i t).set (takeN d n i t) (if sumsB d n t = true then addW (prt (parA d n x i t) (takeN d n i t)) (dat d n x t (fromN d n i t)) else dat d n x t (fromN d n i t))) p = _
  rw [e, prt_setE _ _ _ (by rw [parA_len]; exact hp)]
theorem parA_own {d n : Nat} {x : Nat → List Int} {i p T : Nat} (hp : p < n) (hv : ∀ v, v < T → takeN d n i v ≠ p) : prt (parA d n x i T) p = prt (ownP d n x i) p := by
  have h1 := parA_keep (d := d) (x := x) (i := i) hp T 0 (fun v hv' => by rw [Nat.zero_add]; exact hv v hv')
  rw [Nat.zero_add] at h1
  exact h1
/-- The first time round the sum of all comes together at t = n - 2. -/
theorem fin_first : ∀ d < 3, 1 ≤ d → ∀ n < 7, ∀ i < n, 2 ≤ n → takeN d n i (n - 2) = i ∧ (∀ v < n - 2, takeN d n i v ≠ i) ∧ (∀ v < notN d n, n - 2 < v → takeN d n i v ≠ i) ∧ sendN d n (fromN d n i (n - 2)) (n - 2) = i := by decide +kernel
theorem sum_here {d n : Nat} {x : Nat → List Int} (h : TmOk d n x) (hd : d ≤ 2) {i : Nat} (hi : i < n) (hn : 2 ≤ n) : addW (prt (ownP d n x i) i) (dat d n x (n - 2) (fromN d n i (n - 2))) = fullP d n x i i := by
  have h7 := h.n7
  obtain ⟨f1, f2, f3, f4⟩ := fin_first d (by omega) h.d1 n h.n7 i hi hn
  rw [dat_sum h hd (n - 2) _ (fromN_lt h.n1) (by omega), f4]
  unfold addW fullP
  rw [List.length_map, List.length_range]
  apply List.map_congr_left
  intro w hw
  have hw' := List.mem_range.1 hw
  simp only [List.getElem?_map, List.getElem?_range hw', Option.map_some, Option.getD_some]
  rw [wrap_add]
  congr 1
  obtain ⟨k, rfl⟩ : ∃ k, n = k + 2 := ⟨n - 2, by omega⟩
  show _ = wd d (k + 2) x (modI ((i : Int) - ((0 : Nat) : Int)) (k + 2)) i w + sumI (k + 1) (fun m => wd d (k + 2) x (modI ((i : Int) - ((m + 1 : Nat) : Int)) (k + 2)) i w)
  rw [(fin_self (k + 2) h.n7 i hi).1]
  congr 1
  apply sumI_same
  intro m hm
  rw [fin_shift d (by omega) h.d1 (k + 2) h.n7 i hi (k + 2 - 2) (by omega) m (by omega)]
theorem one_full {d n : Nat} {x : Nat → List Int} (h : TmOk d n x) (hd : d ≤ 2) (hn : n = 1) : prt (ownP d n x 0) 0 = fullP d n x 0 0 := by
  subst hn
  have hl := own_len h (by omega) (i := 0) (p := 0) (by omega) (by omega)
  conv => lhs; rw [list_words (prt (ownP d 1 x 0) 0), hl]
  unfold fullP
  apply List.map_congr_left
  intro w hw
  have hw' := List.mem_range.1 hw
  simp only [sumI]
  rw [(fin_self 1 (by omega) 0 (by omega)).1, Int.add_zero, wrap_same]
  · rfl
  · unfold wd
    have h9 : w < (prt (ownP d 1 x 0) 0).length := by rw [hl]; exact hw'
    have h8 : (prt (ownP d 1 x 0) 0)[w]?.getD 0 ∈ prt (ownP d 1 x 0) 0 := by simp [h9]
    rw [ownP_at d 1 x 0 _ (by omega), if_neg (by omega)] at h8 ⊢
    exact h.rng 0 (by omega) _ (piece_in _ _ _ _ h8)
theorem end_self {d n : Nat} {x : Nat → List Int} (h : TmOk d n x) (hd : d ≤ 2) {i : Nat} (hi : i < n) : prt (parA d n x i (notN d n)) i = fullP d n x i i := by
  by_cases hn : 2 ≤ n
  · obtain ⟨f1, f2, f3, f4⟩ := fin_first d (by omega) h.d1 n h.n7 i hi hn
    have hd1 := h.d1
    rw [parA_at h hi (t := n - 2) (by unfold notN; split <;> omega) f1 (fun v a b => f3 v b a), if_pos (by unfold sumsB; simp only [decide_eq_true_eq]; omega), parA_own hi (fun v hv => f2 v hv)]
    exact sum_here h hd hi hn
  · have hn1 : n = 1 := by omega
    have hi0 : i = 0 := by omega
    subst hi0
    rw [parA_own hi (fun v hv => by unfold notN at hv; split at hv <;> omega)]
    exact one_full h hd hn1
/-- The second time round the sums go on. -/
theorem fin_second : ∀ n : Nat, n < 7 → ∀ j : Nat, j < n → ∀ u : Nat, u < 6 → 2 ≤ n → sumsB 1 n (n - 1 + u) = false ∧ modI (((fromN 1 n j (n - 1 + u) : Nat) : Int) - (u : Nat)) n = modI ((j : Int) - ((u + 1 : Nat) : Int)) n := by decide +kernel
theorem dat_full {n : Nat} {x : Nat → List Int} (h : TmOk 1 n x) (hn : 2 ≤ n) : ∀ (u : Nat), u < 6 → ∀ j, j < n → dat 1 n x (n - 1 + u) j = fullP 1 n x (modI ((j : Int) - (u : Nat)) n) (modI ((j : Int) - (u : Nat)) n)
  | 0, _, j, hj => by
    rw [(fin_self n h.n7 j hj).1, show n - 1 + 0 = (n - 2) + 1 by omega]
    obtain ⟨f1, _⟩ := fin_first 1 (by omega) (by omega) n h.n7 j hj hn
    unfold dat
    rw [if_neg (by omega), if_pos (by unfold sumsB; simp only [decide_eq_true_eq]; right; exact ⟨by first | rfl | trivial, by omega⟩), f1]
    exact sum_here h (by omega) hj hn
  | u + 1, hu, j, hj => by
    obtain ⟨g1, g2⟩ := fin_second n h.n7 j hj u (by omega) hn
    rw [show n - 1 + (u + 1) = n - 1 + u + 1 by omega]
    unfold dat
    rw [if_neg (by omega), g1, if_neg (by simp), dat_full h hn u (by omega) _ (fromN_lt h.n1), g2]
def last1 (n i p : Nat) : Nat := n - 1 + modI ((i : Int) - 1 - (p : Nat)) n
theorem fin_last1 : ∀ n : Nat, n < 7 → ∀ i : Nat, i < n → ∀ p : Nat, p < n → p ≠ i → last1 n i p < notN 1 n ∧ takeN 1 n i (last1 n i p) = p ∧ (∀ v < notN 1 n, last1 n i p < v → takeN 1 n i v ≠ p) ∧ sumsB 1 n (last1 n i p) = false ∧ modI ((i : Int) - 1 - (p : Nat)) n < 6 ∧ modI (((fromN 1 n i (last1 n i p) : Nat) : Int) - ((modI ((i : Int) - 1 - (p : Nat)) n : Nat) : Int)) n = p := by decide +kernel
theorem end_one {n : Nat} {x : Nat → List Int} (h : TmOk 1 n x) {i p : Nat} (hi : i < n) (hp : p < n) : prt (parA 1 n x i (notN 1 n)) p = pieceL (sumL n x) p n := by
  by_cases e : p = i
  · subst e
    rw [end_self h (by omega) hp, fullP_is h (by omega) hp hp]
  · obtain ⟨f1, f2, f3, f4, f5, f6⟩ := fin_last1 n h.n7 i hi p hp e
    rw [parA_at h hp f1 f2 (fun v a b => f3 v b a), f4, if_neg (by simp)]
    have h9 := dat_full h (by omega) _ f5 (fromN 1 n i (last1 n i p)) (fromN_lt h.n1)
    rw [f6] at h9
    unfold last1 at h9 ⊢
    rw [h9, fullP_is h (by omega) hp hp]
def last3 (n i p : Nat) : Nat := modI ((i : Int) - 1 - (p : Nat)) n
theorem fin_last3 : ∀ n : Nat, n < 7 → ∀ i : Nat, i < n → ∀ p : Nat, p < n → p ≠ i → last3 n i p < notN 3 n ∧ takeN 3 n i (last3 n i p) = p ∧ (∀ v < notN 3 n, last3 n i p < v → takeN 3 n i v ≠ p) ∧ modI (((fromN 3 n i (last3 n i p) : Nat) : Int) - ((last3 n i p : Nat) : Int)) n = p := by decide +kernel
theorem fin_self3 : ∀ n : Nat, n < 7 → ∀ i : Nat, i < n → (∀ v < notN 3 n, takeN 3 n i v ≠ i) ∧ sendN 3 n i 0 = i ∧ ∀ t : Nat, t < 11 → modI (((fromN 3 n i t : Nat) : Int) - (t : Nat)) n = modI ((i : Int) - ((t + 1 : Nat) : Int)) n := by decide +kernel
theorem dat_three {n : Nat} {x : Nat → List Int} (h : TmOk 3 n x) : ∀ (t : Nat), t < 11 → ∀ j, j < n → dat 3 n x t j = x (modI ((j : Int) - (t : Nat)) n)
  | 0, _, j, hj => by
    obtain ⟨_, f2, _⟩ := fin_self3 n h.n7 j hj
    unfold dat
    rw [f2, ownP_at 3 n x j j hj, if_pos rfl, if_pos rfl, (fin_self n h.n7 j hj).1]
  | t + 1, ht, j, hj => by
    obtain ⟨_, _, f3⟩ := fin_self3 n h.n7 j hj
    unfold dat
    rw [if_neg (by omega), if_neg (by simp [sumsB]), dat_three h t (by omega) _ (fromN_lt h.n1), f3 t (by omega)]
theorem end_three {n : Nat} {x : Nat → List Int} (h : TmOk 3 n x) {i p : Nat} (hi : i < n) (hp : p < n) : prt (parA 3 n x i (notN 3 n)) p = x p := by
  by_cases e : p = i
  · subst e
    rw [parA_own hp (fun v hv => (fin_self3 n h.n7 p hp).1 v hv), ownP_at 3 n x p p hp, if_pos rfl, if_pos rfl]
  · obtain ⟨f1, f2, f3, f4⟩ := fin_last3 n h.n7 i hi p hp e
    have := notN_small (d := 3) h.n7
    rw [parA_at h hp f1 f2 (fun v a b => f3 v b a), if_neg (by simp [sumsB]), dat_three h _ (by omega) _ (fromN_lt h.n1), f4]
def last4 (n i p : Nat) : Nat := modI ((i : Int) - (p : Nat) - 1) n
theorem fin_last4 : ∀ n : Nat, n < 7 → ∀ i : Nat, i < n → ∀ p : Nat, p < n → p ≠ i → last4 n i p < notN 4 n ∧ takeN 4 n i (last4 n i p) = p ∧ (∀ v < notN 4 n, last4 n i p < v → takeN 4 n i v ≠ p) ∧ fromN 4 n i (last4 n i p) = p ∧ sendN 4 n p (last4 n i p) = i := by decide +kernel
theorem fin_self4 : ∀ n < 7, ∀ i < n, ∀ v < notN 4 n, takeN 4 n i v ≠ i := by decide +kernel
theorem dat_four {n : Nat} {x : Nat → List Int} (t j : Nat) : dat 4 n x t j = prt (ownP 4 n x j) (sendN 4 n j t) := by
  cases t with
  | zero => rfl
  | succ t => unfold dat; rw [if_pos rfl]
theorem end_four {n : Nat} {x : Nat → List Int} (h : TmOk 4 n x) {i p : Nat} (hi : i < n) (hp : p < n) : prt (parA 4 n x i (notN 4 n)) p = pieceL (x p) i n := by
  by_cases e : p = i
  · subst e
    rw [parA_own hp (fun v hv => fin_self4 n h.n7 p hp v hv), ownP_at 4 n x p p hp, if_neg (by omega)]
  · obtain ⟨f1, f2, f3, f4, f5⟩ := fin_last4 n h.n7 i hi p hp e
    rw [parA_at h hp f1 f2 (fun v a b => f3 v b a), if_neg (by simp [sumsB]), f4, dat_four, f5, ownP_at 4 n x p i hi, if_neg (by omega)]
/-- What a member is to have. -/
def wantL (d n : Nat) (x : Nat → List Int) (m : Nat) : List Int :=
  if d = 3 then (List.range n).flatMap x else if d = 4 then (List.range n).flatMap (fun p => pieceL (x p) m n) else if d = 1 then (List.range n).flatMap (fun p => pieceL (sumL n x) p n) else pieceL (sumL n x) m n
theorem parts_flat (P : List (List Int)) (n : Nat) (g : Nat → List Int) (hl : P.length = n) (h : ∀ p, p < n → prt P p = g p) : P.flatten = (List.range n).flatMap g := by
  have e : P = (List.range n).map g := by
    apply List.ext_getElem?
    intro k
    by_cases hk : k < n
    · have h1 := h k hk
      unfold prt at h1
      rw [List.getElem?_eq_getElem (by omega)] at h1 ⊢
      simp only [Option.getD_some] at h1
      rw [h1]
      simp [hk]
    · rw [List.getElem?_eq_none (by omega), List.getElem?_eq_none (by simp; omega)]
  rw [e, List.flatMap_def]
theorem res_want {d n : Nat} {x : Nat → List Int} (h : TmOk d n x) {m : Nat} (hm : m < n) : resW d n x m = wantL d n x m := by
  have h1 := h.d1
  have h5 := h.d5
  have hd : d = 1 ∨ d = 2 ∨ d = 3 ∨ d = 4 := by omega
  unfold resW wantL
  rcases hd with rfl | rfl | rfl | rfl
  · rw [if_neg (by omega), if_neg (by omega), if_neg (by omega), if_pos rfl]
    exact parts_flat _ n _ (parA_len _ _ _ _ _) (fun p hp => end_one h hm hp)
  · rw [if_pos rfl, if_neg (by omega), if_neg (by omega), if_neg (by omega), end_self h (by omega) hm, fullP_is h (by omega) hm hm]
  · rw [if_neg (by omega), if_pos rfl]
    exact parts_flat _ n _ (parA_len _ _ _ _ _) (fun p hp => end_three h hm hp)
  · rw [if_neg (by omega), if_neg (by omega), if_pos rfl]
    exact parts_flat _ n _ (parA_len _ _ _ _ _) (fun p hp => end_four h hm hp)
/-- How many words are to be sent. -/
def wordsN (d n : Nat) (x : Nat → List Int) (m : Nat) : Int :=
  if d = 3 then ((sumN n (fun k => if k = (m + 1) % n then 0 else (x k).length) : Nat) : Int)
  else if d = 1 then 2 * ((x m).length : Int) - (plN n (x m).length m : Int) - (plN n (x m).length ((m + 1) % n) : Int)
  else ((x m).length : Int) - (plN n (x m).length m : Int)
theorem words_is {d n : Nat} {x : Nat → List Int} (h : TmOk d n x) {m : Nat} (hm : m < n) : ((datS d n x m (notN d n) : Nat) : Int) = wordsN d n x m := by
  have h1 := h.d1
  have h5 := h.d5
  have h7 := h.n7
  have h11 := notN_small (d := d) h.n7
  by_cases h3 : d = 3
  · subst h3
    unfold datS wordsN
    rw [if_pos rfl, sumN_same _ _ (fun t => (x (modI ((m : Int) - (t : Nat)) n)).length) (fun t ht => by rw [dat_three h t (by omega) m hm])]
    have hn' : n = 1 ∨ n = 2 ∨ n = 3 ∨ n = 4 ∨ n = 5 ∨ n = 6 := by omega
    have hi' : m = 0 ∨ m = 1 ∨ m = 2 ∨ m = 3 ∨ m = 4 ∨ m = 5 := by omega
    clear h h1 h5 h7 h11
    rcases hn' with rfl | rfl | rfl | rfl | rfl | rfl <;> rcases hi' with rfl | rfl | rfl | rfl | rfl | rfl <;> first | omega | (simp [sumN, modI, notN]; try omega)
  · unfold datS
    rw [sumN_same _ _ (fun t => plN n (x 0).length (sendN d n m t)) (fun t ht => dat_len h h3 t m hm (by omega))]
    unfold wordsN
    rw [if_neg h3, h.len h3 m hm]
    obtain ⟨L, hL⟩ : ∃ L, L = (x 0).length := ⟨_, rfl⟩
    rw [← hL]
    clear hL
    have hd : d = 1 ∨ d = 2 ∨ d = 4 := by omega
    have hn' : n = 1 ∨ n = 2 ∨ n = 3 ∨ n = 4 ∨ n = 5 ∨ n = 6 := by omega
    have hi' : m = 0 ∨ m = 1 ∨ m = 2 ∨ m = 3 ∨ m = 4 ∨ m = 5 := by omega
    clear h h1 h5 h7 h11 h3
    rcases hd with rfl | rfl | rfl <;> rcases hn' with rfl | rfl | rfl | rfl | rfl | rfl <;> rcases hi' with rfl | rfl | rfl | rfl | rfl | rfl <;> first | omega | (simp [sumN, modI, notN, sendN, plN]; try omega)
end Go.Proofs.Yticcoacoepajpaa.V
namespace Go.Proofs.Yticcoacoepajpaa.V
open Go Go.RowKit
set_option linter.unusedVariables false
set_option linter.unusedSimpArgs false

/-- Where a piece begins in memory. -/
def pcA (a : Option Addr) (c lo : Nat) : Option Addr := if c = lo then a else a.map (fun x => x.add lo)
theorem piece_ints {w : World} {a : Option Addr} {l c : Nat} {xs : List Int} (h : Ints w a l xs) (hc : l ≤ c) {p n : Nat} (hp : p < n) : Ints w (pcA a c (p * l / n)) ((p + 1) * l / n - p * l / n) (pieceL xs p n) := by
  have hl := h.1
  have h1 : (p + 1) * l / n ≤ l := Nat.div_le_of_le_mul (Nat.mul_le_mul_right _ hp)
  have hlen : (pieceL xs p n).length = (p + 1) * l / n - p * l / n := by rw [piece_len _ _ _ hp, hl]; rfl
  obtain ⟨lo, hlo⟩ : ∃ lo, lo = p * l / n := ⟨_, rfl⟩
  obtain ⟨hi, hhi⟩ : ∃ hi, hi = (p + 1) * l / n := ⟨_, rfl⟩
  rw [← hlo, ← hhi] at hlen ⊢
  rw [← hhi] at h1
  have epc : pieceL xs p n = (xs.take hi).drop lo := by unfold pieceL; rw [hl, ← hlo, ← hhi]
  refine ⟨hlen, by have := h.2.1; omega, fun x hx => h.2.2.1 x (by rw [epc] at hx; exact List.mem_of_mem_take (List.mem_of_mem_drop hx)), ?_⟩
  by_cases h0 : hi - lo = 0
  · exact .inl h0
  · right
    obtain ⟨b, off, rfl, _, hcell⟩ := h.at (by omega)
    refine ⟨b, off + lo, ?_, fun j hj => ?_⟩
    · unfold pcA
      rw [if_neg (by omega)]
      show some ((⟨b, off, none⟩ : Addr).add lo) = _
      rw [add_pl]
    · have h9 := hcell (lo + j) (by omega)
      rw [epc, List.getElem?_drop, List.getElem?_take_of_lt (by omega)]
      rw [show off + lo + j = off + (lo + j) by omega]
      exact h9
set_option maxRecDepth 100000 in
set_option maxHeartbeats 4000000 in
theorem rPiece_any (a : Option Addr) (l c : Nat) (xs : List Int) (p n : Nat) (w : World) (h : Ints w a l xs) (hc : l ≤ c) (hl : l ≤ 1000000) (hp : p < n) (hn : n ≤ 16) :
    Calls Try.prog 15 #[.slice a l c, .int .i64 (p : Int), .int .i64 (n : Int)] w fun e w' => (∃ A m c', e = .returned (.slice A m c') ∧ Ints w' A m (pieceL xs p n) ∧ m ≤ c' ∧ m = plN n l p ∧ m ≤ l) ∧ Below w.heap.size w w' := by
  have HI := hide h
  have h1 : (p + 1) * l / n ≤ l := Nat.div_le_of_le_mul (Nat.mul_le_mul_right _ hp)
  have h2 : p * l / n ≤ (p + 1) * l / n := Nat.div_le_div_right (Nat.mul_le_mul_right _ (by omega))
  obtain ⟨P0, hP0⟩ : ∃ P0, P0 = p * l := ⟨_, rfl⟩
  obtain ⟨P1, hP1⟩ : ∃ P1, P1 = (p + 1) * l := ⟨_, rfl⟩
  have hb0 : P0 ≤ 16 * 1000000 := by rw [hP0]; exact Nat.mul_le_mul (by omega) hl
  have hb1 : P1 ≤ 16 * 1000000 := by rw [hP1]; exact Nat.mul_le_mul (by omega) hl
  obtain ⟨lo, hlo⟩ : ∃ lo, lo = p * l / n := ⟨_, rfl⟩
  obtain ⟨hi, hhi⟩ : ∃ hi, hi = (p + 1) * l / n := ⟨_, rfl⟩
  rw [← hlo, ← hhi] at h2
  rw [← hhi] at h1
  have e0 : (p : Int) * (l : Int) = (P0 : Int) := by rw [hP0]; simp
  have e1 : ((p : Int) + 1) * (l : Int) = (P1 : Int) := by rw [hP1]; simp
  have d0 : (P0 : Int) / (n : Int) = (lo : Int) := by rw [hlo, hP0]; simp
  have d1 : (P1 : Int) / (n : Int) = (hi : Int) := by rw [hhi, hP1]; simp
  have g0 : (P0 : Int).tdiv (n : Int) = (lo : Int) := by rw [Int.tdiv_eq_ediv_of_nonneg (Int.natCast_nonneg _)]; exact d0
  have g1 : (P1 : Int).tdiv (n : Int) = (hi : Int) := by rw [Int.tdiv_eq_ediv_of_nonneg (Int.natCast_nonneg _)]; exact d1
  have HX := hide (show ∀ w' : World, Below w.heap.size w w' → Ints w' (pcA a c lo) (hi - lo) (pieceL xs p n) from fun w' hb => by
    rw [hlo, hhi]
    exact piece_ints (h.below hb) hc hp)
  have HPL := hide (show hi - lo = plN n l p from by rw [hlo, hhi]; rfl)
  clear hlo hhi hP0 hP1 h
  have w0 : IntKind.i64.wrap (P0 : Int) = (P0 : Int) := wrapk_small (by omega) (by omega)
  have w1 : IntKind.i64.wrap (P1 : Int) = (P1 : Int) := wrapk_small (by omega) (by omega)
  have w2 : IntKind.i64.wrap (lo : Int) = (lo : Int) := wrapk_small (by omega) (by omega)
  have w3 : IntKind.i64.wrap (hi : Int) = (hi : Int) := wrapk_small (by omega) (by omega)
  have w4 : IntKind.i64.wrap ((p : Int) + 1) = (p : Int) + 1 := wrapk_small (by omega) (by omega)
  have H1 : Hid (IntKind.i64.wrap ((p : Int) * (l : Int)) = (P0 : Int)) := by rw [e0]; exact w0
  have H2 : Hid (IntKind.i64.wrap ((P0 : Int).tdiv (n : Int)) = (lo : Int)) := by rw [g0]; exact w2
  have H2b : Hid (IntKind.i64.wrap ((P0 : Int) / (n : Int)) = (lo : Int)) := by rw [d0]; exact w2
  have H2c : Hid ((P0 : Int) / (n : Int) = (lo : Int)) := d0
  have H3 : Hid (IntKind.i64.wrap ((p : Int) + 1) = (p : Int) + 1) := w4
  have H4 : Hid (IntKind.i64.wrap (((p : Int) + 1) * (l : Int)) = (P1 : Int)) := by rw [e1]; exact w1
  have H5 : Hid (IntKind.i64.wrap ((P1 : Int).tdiv (n : Int)) = (hi : Int)) := by rw [g1]; exact w3
  have H5b : Hid (IntKind.i64.wrap ((P1 : Int) / (n : Int)) = (hi : Int)) := by rw [d1]; exact w3
  have H5c : Hid ((P1 : Int) / (n : Int) = (hi : Int)) := d1
  have q0 : ¬ ((n : Int) = 0) := by omega
  have qn : ¬ (n = 0) := by omega
  have q1 : ((n : Int) == 0) = false := by simp; omega
  have z1 : (0 : Int) ≤ (hi : Int) := by omega
  have z2 : (hi : Int) ≤ (c : Int) := by omega
  have z3 : hi ≤ c := by omega
  obtain ⟨A, hA⟩ : ∃ A, A = pcA a c lo := ⟨_, rfl⟩
  have HA := hide hA
  rw [← hA] at HX
  clear e0 e1 d0 d1 g0 g1 w0 w1 w2 w3 w4 hA hb0 hb1
  go_enter Try.func15, Try.ntmps15
  go_upto_region 1 with fail
  refine region_made 15 17 [fIs (.slice a l c), fIs (.int .i64 (p : Int)), fIs (.slice a l c), fIs (.int .i64 (l : Int)), fIs (.int .i64 (P0 : Int)), fIs (.int .i64 (n : Int)), fIs (.int .i64 (lo : Int)), fIs (.int .i64 (p : Int)), fIs (.int .i64 ((p : Int) + 1)), fIs (.slice a l c), fIs (.int .i64 (l : Int)), fIs (.int .i64 (P1 : Int)), fIs (.int .i64 (n : Int)), fIs (.int .i64 (hi : Int)), fIs (.slice A (hi - lo) (c - lo))] (by kernel_rfl) (by kernel_rfl) (by kernel_rfl) (fun _ ⟨_, _⟩ ⟨_, _⟩ _ e h => by cases e; exact h) ⟨fIs_good _, fIs_good _, fIs_good _, fIs_good _, fIs_good _, fIs_good _, fIs_good _, fIs_good _, fIs_good _, fIs_good _, fIs_good _, fIs_good _, fIs_good _, fIs_good _, fIs_good _, trivial⟩ ?mk ?rest
  case mk =>
    refine ⟨fun u wz hb hd => ?_, fun u wz hb hd => ?_, fun u wz hb hd => ?_, fun u wz hb hd => ?_, fun u wz hb hd => ?_, fun u wz hb hd => ?_, fun u wz hb hd => ?_, fun u wz hb hd => ?_, fun u wz hb hd => ?_, fun u wz hb hd => ?_, fun u wz hb hd => ?_, fun u wz hb hd => ?_, fun u wz hb hd => ?_, fun u wz hb hd => ?_, fun u wz hb hd => ?_, trivial⟩
    all_goals simp only [Act.put, List.setIfInBounds_toArray, List.set_cons_zero, List.set_cons_succ]
    · go_simp
      exact ⟨rfl, Below.refl _ _, fun h => by cases h⟩
    · go_simp
      exact ⟨rfl, Below.refl _ _, fun h => by cases h⟩
    · go_simp
      exact ⟨rfl, Below.refl _ _, fun h => by cases h⟩
    · have e2 : u 2 = .slice a l c := hd 2 (by omega) (by kernel_rfl)
      rw [e2]
      go_simp
      exact ⟨rfl, Below.refl _ _, fun h => by cases h⟩
    · have e1 : u 1 = .int .i64 (p : Int) := hd 1 (by omega) (by kernel_rfl)
      have e3 : u 3 = .int .i64 (l : Int) := hd 3 (by omega) (by kernel_rfl)
      rw [e1, e3]
      go_simp
      rw [H1.out]
      exact ⟨rfl, Below.refl _ _, fun h => by cases h⟩
    · go_simp
      exact ⟨rfl, Below.refl _ _, fun h => by cases h⟩
    · have e4 : u 4 = .int .i64 (P0 : Int) := hd 4 (by omega) (by kernel_rfl)
      have e5 : u 5 = .int .i64 (n : Int) := hd 5 (by omega) (by kernel_rfl)
      rw [e4, e5]
      go_simp
      first | rw [H2.out] | rw [H2b.out] | rw [H2c.out]
      exact ⟨rfl, Below.refl _ _, fun h => by cases h⟩
    · go_simp
      exact ⟨rfl, Below.refl _ _, fun h => by cases h⟩
    · have e7 : u 7 = .int .i64 (p : Int) := hd 7 (by omega) (by kernel_rfl)
      rw [e7]
      go_simp
      try rw [H3.out]
      exact ⟨rfl, Below.refl _ _, fun h => by cases h⟩
    · go_simp
      exact ⟨rfl, Below.refl _ _, fun h => by cases h⟩
    · have e9 : u 9 = .slice a l c := hd 9 (by omega) (by kernel_rfl)
      rw [e9]
      go_simp
      exact ⟨rfl, Below.refl _ _, fun h => by cases h⟩
    · have e8 : u 8 = .int .i64 ((p : Int) + 1) := hd 8 (by omega) (by kernel_rfl)
      have e10 : u 10 = .int .i64 (l : Int) := hd 10 (by omega) (by kernel_rfl)
      rw [e8, e10]
      go_simp
      rw [H4.out]
      exact ⟨rfl, Below.refl _ _, fun h => by cases h⟩
    · go_simp
      exact ⟨rfl, Below.refl _ _, fun h => by cases h⟩
    · have e11 : u 11 = .int .i64 (P1 : Int) := hd 11 (by omega) (by kernel_rfl)
      have e12 : u 12 = .int .i64 (n : Int) := hd 12 (by omega) (by kernel_rfl)
      rw [e11, e12]
      go_simp
      first | rw [H5.out] | rw [H5b.out] | rw [H5c.out]
      exact ⟨rfl, Below.refl _ _, fun h => by cases h⟩
    · have e0 : u 0 = .slice a l c := hd 0 (by omega) (by kernel_rfl)
      have e6 : u 6 = .int .i64 (lo : Int) := hd 6 (by omega) (by kernel_rfl)
      have e13 : u 13 = .int .i64 (hi : Int) := hd 13 (by omega) (by kernel_rfl)
      rw [e0, e6, e13]
      go_simp
      rw [HA.out]
      unfold pcA
      exact ⟨rfl, Below.refl _ _, fun h => by cases h⟩
  case rest =>
    intro u wz hb hf hp
    have f0 : u 0 = .slice a l c := hf 0 (by omega)
    have f1 : u 1 = .int .i64 (p : Int) := hf 1 (by omega)
    have f2 : u 2 = .slice a l c := hf 2 (by omega)
    have f3 : u 3 = .int .i64 (l : Int) := hf 3 (by omega)
    have f4 : u 4 = .int .i64 (P0 : Int) := hf 4 (by omega)
    have f5 : u 5 = .int .i64 (n : Int) := hf 5 (by omega)
    have f6 : u 6 = .int .i64 (lo : Int) := hf 6 (by omega)
    have f7 : u 7 = .int .i64 (p : Int) := hf 7 (by omega)
    have f8 : u 8 = .int .i64 ((p : Int) + 1) := hf 8 (by omega)
    have f9 : u 9 = .slice a l c := hf 9 (by omega)
    have f10 : u 10 = .int .i64 (l : Int) := hf 10 (by omega)
    have f11 : u 11 = .int .i64 (P1 : Int) := hf 11 (by omega)
    have f12 : u 12 = .int .i64 (n : Int) := hf 12 (by omega)
    have f13 : u 13 = .int .i64 (hi : Int) := hf 13 (by omega)
    have f14 : u 14 = .slice A (hi - lo) (c - lo) := hf 14 (by omega)
    refine UptoW.rest 1 15 (by rfl) (by kernel_rfl) ?_
    simp only [List.take, List.drop, putOps, Act.put, List.setIfInBounds_toArray, List.set_cons_zero, List.set_cons_succ, Nat.reduceAdd, f0, f1, f2, f3, f4, f5, f6, f7, f8, f9, f10, f11, f12, f13, f14]
    clear f0 f1 f2 f3 f4 f5 f6 f7 f8 f9 f10 f11 f12 f13 f14 hf hp
    go_wp2_with fail
    go_ret
    exact ⟨⟨A, hi - lo, c - lo, rfl, HX.out _ hb, by omega, HPL.out, by omega⟩, hb⟩
end Go.Proofs.Yticcoacoepajpaa.V
