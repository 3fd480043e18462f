/-
  Rooms: trees: what is wrong with one; who stands below whom.
-/
import Derived.Test.YtnncalhpbfmgoaaRmWrong
namespace Go.Proofs.Ytnncalhpbfmgoaa.V
open Go.RowKit
set_option linter.unusedVariables false

abbrev nth (l : List Int) (k : Nat) : Int := l[k]?.getD 0
def formBad (n k : Nat) (a : Int) : Bool := (decide (k + 1 = n) && decide (a ≠ -1)) || (decide (k + 1 ≠ n) && (decide (a ≤ (k : Int)) || decide ((n : Int) ≤ a)))
def wordBad (x : Int) : Bool := decide (x < 0) || decide (1048576 < x)
/-- What is found first, from a node on. -/
def scanE (n : Nat) (ab ws : List Int) : List Nat → Int
  | [] => 0
  | k :: ks => if formBad n k (nth ab k) = true then 7 else if wordBad (nth ws k) = true then 4 else scanE n ab ws ks
def treeE (ab ws : List Int) : Int := if ab.length ≠ ws.length ∨ 4096 < ab.length then 2 else scanE ab.length ab ws (List.range ab.length)
theorem range_drop (n k : Nat) (h : k < n) : (List.range n).drop k = k :: (List.range n).drop (k + 1) := by
  rw [List.drop_eq_getElem_cons (by simpa using h)]; simp
theorem scan_none {n : Nat} {ab ws : List Int} : ∀ (ks : List Nat), scanE n ab ws ks = 0 → ∀ k ∈ ks, formBad n k (nth ab k) = false ∧ wordBad (nth ws k) = false
  | [], _, k, hk => by simp at hk
  | q :: ks, h, k, hk => by
    unfold scanE at h
    by_cases h1 : formBad n q (nth ab q) = true
    · rw [if_pos h1] at h; omega
    rw [if_neg h1] at h
    by_cases h2 : wordBad (nth ws q) = true
    · rw [if_pos h2] at h; omega
    rw [if_neg h2] at h
    rcases List.mem_cons.1 hk with rfl | hk
    · exact ⟨by simpa using h1, by simpa using h2⟩
    · exact scan_none ks h k hk
/-- A right tree. -/
structure TreeOk (ab ws : List Int) : Prop where
  same : ws.length = ab.length
  few : ab.length ≤ 4096
  root : ∀ k, k + 1 = ab.length → nth ab k = -1
  up : ∀ k, k + 1 < ab.length → (k : Int) < nth ab k ∧ nth ab k < (ab.length : Int)
  wd : ∀ k, k < ab.length → 0 ≤ nth ws k ∧ nth ws k ≤ 1048576
theorem treeE_ok {ab ws : List Int} (h : treeE ab ws = 0) : TreeOk ab ws := by
  unfold treeE at h
  by_cases h1 : ab.length ≠ ws.length ∨ 4096 < ab.length
  · rw [if_pos h1] at h; omega
  rw [if_neg h1] at h
  have hs := scan_none _ h
  refine ⟨by omega, by omega, fun k hk => ?_, fun k hk => ?_, fun k hk => ?_⟩
  · have := (hs k (by simp; omega)).1
    simp [formBad, hk] at this
    exact this
  · have := (hs k (by simp; omega)).1
    have hne : k + 1 ≠ ab.length := by omega
    simp [formBad, hne] at this
    exact this
  · have := (hs k (by simpa using hk)).2
    simp [wordBad] at this
    exact this
set_option maxHeartbeats 4000000 in
theorem rTree_any (a : Option Addr) (n cap : Nat) (ab : List Int) (b : Option Addr) (m cap' : Nat) (ws : List Int) (w : World) (h : Ints w a n ab) (h' : Ints w b m ws) :
    Calls Try.prog 20 #[.slice a n cap, .slice b m cap'] w fun e w' => e = .returned (.int .i64 (treeE ab ws)) ∧ w' = w := by
  have hn := h.2.1
  have hm := h'.2.1
  have H := hide h
  have H' := hide h'
  have HE : Hid (treeE ab ws = if n ≠ m ∨ 4096 < n then 2 else scanE n ab ws (List.range n)) := by rw [Hid]; unfold treeE; rw [h.1, h'.1]
  clear h h'
  go_enter Try.func20, Try.ntmps20
  by_cases e1 : n = m
  · subst e1
    by_cases e2 : 4096 < n
    · go_wp2
      go_ret
      exact ⟨by rw [HE.out, if_pos (.inr e2)]; rfl, rfl⟩
    · have HE2 : Hid (treeE ab ws = scanE n ab ws (List.range n)) := by rw [Hid, HE.out, if_neg (by omega)]
      go_wp2
      go_loopw [19] (fun i wr => ∃ k : Nat, k ≤ n ∧ i = .int .i64 k ∧ scanE n ab ws ((List.range n).drop k) = treeE ab ws ∧ wr = w) (fun i _ => n - (intOf i).toNat)
      case atStart => exact ⟨0, Nat.zero_le _, rfl, by rw [HE2.out]; rfl, rfl⟩
      case round =>
        obtain ⟨k, hk, rfl, hs, rfl⟩ := hrel
        have HS := hide hs
        clear hs
        by_cases hlt : k < n
        · obtain ⟨b1, o1, rfl, zb1, c1⟩ := H.out.at (show 0 < n by omega)
          obtain ⟨b2, o2, rfl, zb2, c2⟩ := H'.out.at (show 0 < n by omega)
          have q1 := c1 k hlt
          have q2 := c2 k hlt
          have hsc := HS.out
          rw [range_drop n k hlt, scanE] at hsc
          obtain ⟨u, hu⟩ : ∃ u, u = nth ab k := ⟨_, rfl⟩
          obtain ⟨x, hx⟩ : ∃ x, x = nth ws k := ⟨_, rfl⟩
          rw [← hu] at hsc
          rw [← hx] at hsc
          simp only [nth] at hu hx
          rw [← hu] at q1
          rw [← hx] at q2
          have HSC := hide hsc
          have hw1 : IntKind.i64.wrap ((n : Int) - 1) = (n : Int) - 1 := by rw [IntKind.wrap_i64]; omega
          clear c1 c2 hu hx hsc HS
          by_cases hl : (k : Int) = (n : Int) - 1
          · have hkn : k + 1 = n := by omega
            have hlb : ((k : Int) == (n : Int) - 1) = true := by simpa using hl
            have hlt1 : ¬ (k : Int) < (n : Int) - 1 := by omega
            clear hl
            have HKN := hide hkn
            clear hkn
            by_cases hr : u = -1
            · have hfb : formBad n k u = false := by simp [formBad, HKN.out, hr]
              have hsc := HSC.out
              rw [hfb] at hsc
              rw [if_neg (by simp)] at hsc
              have HSC2 := hide hsc
              clear hsc hfb HSC
              subst hr
              by_cases p1 : x < 0
              · go_wp2
                go_ret
                exact ⟨by rw [← HSC2.out, if_pos (by simp [wordBad, p1])]; rfl, rfl⟩
              · by_cases p2 : x > 1048576
                · go_wp2
                  go_ret
                  exact ⟨by rw [← HSC2.out, if_pos (by simp [wordBad]; omega)]; rfl, rfl⟩
                · have hwb : wordBad x = false := by simp [wordBad]; omega
                  have hsc := HSC2.out
                  rw [hwb] at hsc
                  rw [if_neg (by simp)] at hsc
                  have HSC3 := hide hsc
                  clear hsc hwb
                  go_wp2
                  go_roundw
                  case rel => exact ⟨k + 1, by omega, by go_num, HSC3.out, (by first | rfl | trivial)⟩
                  case measure => simp [intOf]; omega
            · have hrb : (u != -1) = true := by simpa using hr
              have hfb : formBad n k u = true := by simp [formBad, HKN.out, hr]
              go_wp2
              go_ret
              exact ⟨by rw [← HSC.out, if_pos hfb]; rfl, rfl⟩
          · have hkn : k + 1 ≠ n := by omega
            have hlb : ((k : Int) == (n : Int) - 1) = false := by simpa using hl
            have hlt1 : (k : Int) < (n : Int) - 1 := by omega
            by_cases f1 : u ≤ (k : Int)
            · have hfb : formBad n k u = true := by simp [formBad, hkn, f1]
              go_wp2
              go_ret
              exact ⟨by rw [← HSC.out, if_pos hfb]; rfl, rfl⟩
            · by_cases f2 : u ≥ (n : Int)
              · have hfb : formBad n k u = true := by simp [formBad, hkn]; omega
                go_wp2
                go_ret
                exact ⟨by rw [← HSC.out, if_pos hfb]; rfl, rfl⟩
              · have hfb : formBad n k u = false := by simp [formBad, hkn]; omega
                have hsc := HSC.out
                rw [hfb] at hsc
                rw [if_neg (by simp)] at hsc
                have HSC2 := hide hsc
                clear hsc hfb HSC
                by_cases p1 : x < 0
                · go_wp2
                  go_ret
                  exact ⟨by rw [← HSC2.out, if_pos (by simp [wordBad, p1])]; rfl, rfl⟩
                · by_cases p2 : x > 1048576
                  · go_wp2
                    go_ret
                    exact ⟨by rw [← HSC2.out, if_pos (by simp [wordBad]; omega)]; rfl, rfl⟩
                  · have hwb : wordBad x = false := by simp [wordBad]; omega
                    have hsc := HSC2.out
                    rw [hwb] at hsc
                    rw [if_neg (by simp)] at hsc
                    have HSC3 := hide hsc
                    clear hsc hwb
                    go_wp2
                    go_roundw
                    case rel => exact ⟨k + 1, by omega, by go_num, HSC3.out, (by first | rfl | trivial)⟩
                    case measure => simp [intOf]; omega
        · have hsc := HS.out
          rw [List.drop_of_length_le (by simp; omega), scanE] at hsc
          have HSC := hide hsc
          clear hsc HS
          go_wp2
          go_ret
          exact ⟨by rw [← HSC.out]; rfl, rfl⟩
  · have hne : ¬ (n : Int) = (m : Int) := by omega
    go_wp2
    go_ret
    exact ⟨by rw [HE.out, if_pos (.inl e1)]; rfl, rfl⟩
end Go.Proofs.Ytnncalhpbfmgoaa.V
