/-
  The law RoomApart.
-/
import Derived.Test.YtcnnghhaohehoaaRmAlive
import Derived.Deep.DeepCutAuto
import Derived.Deep.QuietTactic
namespace Go.Proofs.Ytcnnghhaohehoaa.V
open Go Go.Shelf Go.RowKit Go.Lib Go.Sort Go.Proofs
set_option linter.unusedVariables false

/-- What is laid lies apart. -/
structure Apart (ls : List Lf) (at_ : List Int) (en : Int) : Prop where
  len : at_.length = ls.length
  bd : 0 ≤ en ∧ en ≤ 1048576
  one : ∀ i, i < ls.length → 0 ≤ numAt at_ i ∧ numAt at_ i ≤ 1048576 ∧ ((lifeAt ls i).fr < (lifeAt ls i).to → numAt at_ i + (lifeAt ls i).wd ≤ en)
  two : ∀ i k, i < ls.length → k < ls.length → i ≠ k → ¬ ((lifeAt ls i).fr < (lifeAt ls k).to ∧ (lifeAt ls k).fr < (lifeAt ls i).to ∧ numAt at_ i < numAt at_ k + (lifeAt ls k).wd ∧ numAt at_ k < numAt at_ i + (lifeAt ls i).wd ∧ (lifeAt ls i).fr < (lifeAt ls i).to ∧ (lifeAt ls k).fr < (lifeAt ls k).to)
theorem lay_apart {ls : List Lf} {os : List Nat} (hE : layE ls os = 0) (ho : livesE ls = 0 → Ord ls os) : livesE ls = 0 ∧ layN ls os = (layS ls os).en ∧ layL ls os = (layS ls os).at_ ∧ Apart ls (layS ls os).at_ (layS ls os).en ∧ loadV ls ≤ (layS ls os).en := by
  have hlE : livesE ls = 0 := by
    unfold layE at hE
    by_cases h0 : livesE ls = 0
    · exact h0
    · rw [if_pos h0] at hE; exact absurd hE h0
  obtain ⟨hl, hok⟩ := livesE_ok hlE
  have hen : (layS ls os).en ≤ 1048576 := by
    unfold layE at hE
    rw [if_neg (by simpa using hlE)] at hE
    by_cases h0 : 1048576 < (layS ls os).en
    · rw [if_pos h0] at hE; omega
    · omega
  have hi := lay_all (ho hlE) hok
  have hmem : ∀ i, i < ls.length → i ∈ os := fun i h => (ho hlE).perm.mem_iff.2 (by simpa using h)
  have hzero : ∀ i, takes (lifeAt ls i) = false → numAt (layS ls os).at_ i = 0 := fun i h => hi.none_ i (.inr h)
  have hone : ∀ i, i < ls.length → 0 ≤ numAt (layS ls os).at_ i ∧ numAt (layS ls os).at_ i ≤ 1048576 ∧ ((lifeAt ls i).fr < (lifeAt ls i).to → numAt (layS ls os).at_ i + (lifeAt ls i).wd ≤ (layS ls os).en) := fun i h => by
    have hq := hok _ (mem_getLf ls i h)
    have h0 := hq.w0
    have he := hi.en0
    by_cases ht : takes (lifeAt ls i) = true
    · have := hi.placed i (hmem i h) ht
      simp only [lifeAt] at this h0 ⊢
      omega
    · have hf : takes (lifeAt ls i) = false := by simpa using ht
      rw [hzero i hf]
      refine ⟨by omega, by omega, fun hft => ?_⟩
      simp [takes] at hf
      have : ¬ 0 < (lifeAt ls i).wd := fun hw => by have := hf hw; omega
      simp only [lifeAt] at this h0 ⊢
      omega
  refine ⟨hlE, by unfold layN; rw [if_pos hE], by unfold layL; rw [if_pos hE], ⟨hi.len, ⟨hi.en0, hen⟩, hone, fun i k hil hkl hik hc => ?_⟩, load_le (ho hlE) hok⟩
  obtain ⟨c1, c2, c3, c4, c5, c6⟩ := hc
  have wi := (hok _ (mem_getLf ls i hil)).w0
  have wk := (hok _ (mem_getLf ls k hkl)).w0
  by_cases ti : takes (lifeAt ls i) = true
  · by_cases tk : takes (lifeAt ls k) = true
    · rcases hi.apart i (hmem i hil) k (hmem k hkl) hik ti tk c1 c2 with h | h <;> omega
    · have hf : takes (lifeAt ls k) = false := by simpa using tk
      have h1 := hone i hil
      rw [hzero k hf] at c3 c4
      simp [takes] at hf
      have : ¬ 0 < (lifeAt ls k).wd := fun hw => by have := hf hw; omega
      simp only [lifeAt] at *
      omega
  · have hf : takes (lifeAt ls i) = false := by simpa using ti
    have h1 := hone k hkl
    rw [hzero i hf] at c3 c4
    simp [takes] at hf
    have : ¬ 0 < (lifeAt ls i).wd := fun hw => by have := hf hw; omega
    simp only [lifeAt] at *
    omega
theorem below_drewN' (w : World) (n : Nat) : Below w.heap.size w (w.drewN n) := ⟨rfl, rfl, rfl, Nat.le_refl _, fun _ _ => rfl⟩
set_option maxHeartbeats 8000000 in
set_option maxRecDepth 100000 in
theorem roomApart_walk (a : Option Addr) (len cap : Nat) (ls : List Lf) (w : World) (h : Lives w a len ls) (hcap : len ≤ cap) :
    Calls Try.prog 5 #[.slice a len cap] w fun e w' => e = .returned (.bool true) ∧ Below w.heap.size w w' := by
  have HL := hide h.1
  have hm := h.2.1
  have H := hide h
  have HA := hide (alive12_ok w)
  clear h
  go_enter Try.func5, Try.ntmps5
  go_wp2_with (go_at_call 19; refine HA.out.mono ?_; rintro e w1 ⟨rfl, hb1⟩; have HB1 := hide hb1; clear hb1)
  refine (lay_any a len cap ls w1 (H.out.below HB1.out)).mono ?_
  rintro e w2 ⟨⟨os, a', l', c2, hord, rfl, hin⟩, hb2⟩
  have HB2 := hide (bl_on HB1.out hb2)
  have HORD := hide hord
  have HIN := hide hin
  clear hord hin hb2 HA
  by_cases hE : layE ls os = 0
  · obtain ⟨hlE, hN, hL, hap, hload⟩ := lay_apart hE HORD.out
    have hll : l' = len := by have := HIN.out.1; rw [hL, hap.len, HL.out] at this; exact this.symm
    subst hll
    rw [hE, hN]
    rw [hL] at HIN
    obtain ⟨en, hen⟩ : ∃ en, en = (layS ls os).en := ⟨_, rfl⟩
    obtain ⟨AT, hAT⟩ : ∃ AT, AT = (layS ls os).at_ := ⟨_, rfl⟩
    rw [← hen] at hap hload ⊢
    rw [← hAT] at hap HIN
    have HAP := hide hap
    have hen1 := hap.bd
    have HLO := fun W hW => load_any a l' cap ls W hW
    rw [hlE, if_pos rfl] at HLO
    have HLOH := hide HLO
    have HLOAD := hide hload
    have HOKK := hide (livesE_ok hlE).2
    clear hE hlE hN hL hap hload HLO hen hAT
    go_wp2_with fail
    go_loopw [28] (fun i wr => ∃ k : Nat, k ≤ l' ∧ i = .int .i64 k ∧ Below w2.heap.size w2 wr) (fun i _ => l' - (intOf i).toNat)
    case atStart => exact ⟨0, Nat.zero_le _, rfl, Below.refl _ _⟩
    case round =>
      obtain ⟨i, hi, rfl, hB⟩ := hrel
      have HB := hide hB
      clear hB
      by_cases hlt : i < l'
      · have hil : i < ls.length := by rw [HL.out]; exact hlt
        have HLV := hide (H.out.below (bl_on HB2.out HB.out))
        obtain ⟨b, off, rfl, c1, c2', c3⟩ := HLV.out.at hlt
        obtain ⟨b2, o2, rfl, zb2, ca⟩ := (HIN.out.below HB.out).at (show 0 < l' by omega)
        have c4 := ca i hlt
        have z1 := lt_of_cell c1
        simp only at z1
        have h1 := HAP.out.one i hil
        have HTW : Hid (∀ k, k < i → _) := fun k hk => HAP.out.two i k hil (by omega) (by omega)
        obtain ⟨x, hx⟩ : ∃ x, x = ls[i]?.getD lfD := ⟨_, rfl⟩
        obtain ⟨p, hp⟩ : ∃ p, p = AT[i]?.getD 0 := ⟨_, rfl⟩
        simp only [lifeAt, numAt] at HTW h1
        rw [← hx] at c1 c2' c3 h1
        rw [← hp] at c4 h1
        rw [← hx, ← hp] at HTW
        have HPP := hide hp
        have hxb : 0 ≤ x.wd ∧ x.wd ≤ 1048576 := by rw [hx]; have := HOKK.out (ls[i]?.getD lfD) (mem_getLf ls i hil); exact ⟨this.w0, this.w1⟩
        clear hx hp hil
        go_wp2_with fail
        have HWW := hide (bl_new (w := wr) (.cells #[.int .i64 x.fr, .int .i64 x.to, .int .i64 x.wd] 37))
        have x0 : (wr.alloc (.cells #[.int .i64 x.fr, .int .i64 x.to, .int .i64 x.wd] 37)).cell? ⟨wr.heap.size, 0, none⟩ = some (.int .i64 x.fr) := by simp
        have x1 : (wr.alloc (.cells #[.int .i64 x.fr, .int .i64 x.to, .int .i64 x.wd] 37)).cell? ⟨wr.heap.size, 1, none⟩ = some (.int .i64 x.to) := by simp
        have x2 : (wr.alloc (.cells #[.int .i64 x.fr, .int .i64 x.to, .int .i64 x.wd] 37)).cell? ⟨wr.heap.size, 2, none⟩ = some (.int .i64 x.wd) := by simp
        have x4 := alloc_cell (o := .cells #[.int .i64 x.fr, .int .i64 x.to, .int .i64 x.wd] 37) c4
        have HLV3 := hide (HLV.out.below HWW.out)
        have ca3 : ∀ V, Below (wr.alloc (.cells #[.int .i64 x.fr, .int .i64 x.to, .int .i64 x.wd] 37)).heap.size (wr.alloc (.cells #[.int .i64 x.fr, .int .i64 x.to, .int .i64 x.wd] 37)) V → ∀ k, k < l' → V.cell? ⟨b2, o2 + k, none⟩ = some (.int .i64 (AT[k]?.getD 0)) := fun V hV k hk => by
          have h0 := alloc_cell (o := .cells #[.int .i64 x.fr, .int .i64 x.to, .int .i64 x.wd] 37) (ca k hk)
          exact (hV.cell (p := ⟨b2, o2 + k, none⟩) (lt_of_cell h0)).trans h0
        have zx : wr.heap.size < (wr.alloc (.cells #[.int .i64 x.fr, .int .i64 x.to, .int .i64 x.wd] 37)).heap.size := by simp
        generalize wr.alloc (.cells #[.int .i64 x.fr, .int .i64 x.to, .int .i64 x.wd] 37) = W3 at HWW x0 x1 x2 x4 HLV3 ca3 zx ⊢
        have HBW := hide (bl_on HB.out HWW.out)
        obtain ⟨X, hX⟩ : ∃ X, X = wr.heap.size := ⟨_, rfl⟩
        rw [← hX] at x0 x1 x2 zx ⊢
        clear HB HWW hX HLV
        have zb3 := lt_of_cell x4
        simp only at zb3
        have wpx : IntKind.i64.wrap (p + x.wd) = p + x.wd := by rw [IntKind.wrap_i64]; omega
        have np : ¬ p < 0 := by omega
        clear c1 c2' c3 c4 ca z1
        have h3 := h1.2.2
        clear h1
        go_cut [55] (fun c wx => c = .bool false ∧ Below W3.heap.size W3 wx)
        case first =>
          by_cases hft : x.fr < x.to
          · have npx : ¬ p + x.wd > en := by have := h3 hft; omega
            have npx' : ¬ en < p + x.wd := npx
            clear h3
            go_quiet (fail)
            go_wp2
            go_meet
            exact ⟨rfl, below_drewN' _ _⟩
          · clear h3
            go_quiet (fail)
            go_wp2
            go_meet
            exact ⟨rfl, below_drewN' _ _⟩
        case rest =>
          obtain ⟨rfl, hb5⟩ := hcut
          have HB5 := hide hb5
          clear hb5 h3
          go_wp2
          go_loopw [60] (fun v60 wr => ∃ k : Nat, k ≤ i ∧ v60 = .int .i64 k ∧ Below W3.heap.size W3 wr) (fun v60 _ => i - (intOf v60).toNat)
          case atStart => exact ⟨0, Nat.zero_le _, rfl, HB5.out⟩
          case round =>
            obtain ⟨k, hk, rfl, hB4⟩ := hrel
            have HB4 := hide hB4
            clear hB4
            by_cases hki : k < i
            · have hkl : k < l' := by omega
              obtain ⟨b9, off9, e9, d1, d2, d3⟩ := (HLV3.out.below HB4.out).at hkl
              cases e9
              have d4 := ca3 wr HB4.out k hkl
              have HTWk := hide (HTW.out k hki)
              have h2 := HAP.out.one k (by rw [HL.out]; exact hkl)
              simp only [lifeAt, numAt] at h2
              obtain ⟨y, hy⟩ : ∃ y, y = ls[k]?.getD lfD := ⟨_, rfl⟩
              obtain ⟨r, hr⟩ : ∃ r, r = AT[k]?.getD 0 := ⟨_, rfl⟩
              rw [← hy, ← hr] at HTWk
              rw [← hy] at d1 d2 d3 h2
              rw [← hr] at d4 h2
              have hyb : 0 ≤ y.wd ∧ y.wd ≤ 1048576 := by rw [hy]; have := HOKK.out (ls[k]?.getD lfD) (mem_getLf ls k (by rw [HL.out]; exact hkl)); exact ⟨this.w0, this.w1⟩
              have e0 := (HB4.out.cell (p := ⟨X, 0, none⟩) zx).trans x0
              have e1 := (HB4.out.cell (p := ⟨X, 1, none⟩) zx).trans x1
              have e2 := (HB4.out.cell (p := ⟨X, 2, none⟩) zx).trans x2
              have e4 := ca3 wr HB4.out i hlt
              rw [← HPP.out] at e4
              have zz := HB4.out.size
              have zb4 := lt_of_cell d1
              have za4 := lt_of_cell d4
              simp only at zb4 za4
              have HB6 := hide (bl_on HB4.out (bl_new (.cells #[.int .i64 y.fr, .int .i64 y.to, .int .i64 y.wd] 37)))
              have w1' : IntKind.i64.wrap (r + y.wd) = r + y.wd := by rw [IntKind.wrap_i64]; omega
              have hXY : X < wr.heap.size := by omega
              clear hy hr h2 hyb
              go_wp2_with fail
              have g0 := alloc_cell (o := .cells #[.int .i64 y.fr, .int .i64 y.to, .int .i64 y.wd] 37) e0
              have g1 := alloc_cell (o := .cells #[.int .i64 y.fr, .int .i64 y.to, .int .i64 y.wd] 37) e1
              have g2 := alloc_cell (o := .cells #[.int .i64 y.fr, .int .i64 y.to, .int .i64 y.wd] 37) e2
              have g4 := alloc_cell (o := .cells #[.int .i64 y.fr, .int .i64 y.to, .int .i64 y.wd] 37) e4
              have g5 := alloc_cell (o := .cells #[.int .i64 y.fr, .int .i64 y.to, .int .i64 y.wd] 37) d4
              have g6 : (wr.alloc (.cells #[.int .i64 y.fr, .int .i64 y.to, .int .i64 y.wd] 37)).cell? ⟨wr.heap.size, 0, none⟩ = some (.int .i64 y.fr) := by simp
              have g7 : (wr.alloc (.cells #[.int .i64 y.fr, .int .i64 y.to, .int .i64 y.wd] 37)).cell? ⟨wr.heap.size, 1, none⟩ = some (.int .i64 y.to) := by simp
              have g8 : (wr.alloc (.cells #[.int .i64 y.fr, .int .i64 y.to, .int .i64 y.wd] 37)).cell? ⟨wr.heap.size, 2, none⟩ = some (.int .i64 y.wd) := by simp
              have zW : (wr.alloc (.cells #[.int .i64 y.fr, .int .i64 y.to, .int .i64 y.wd] 37)).heap.size = wr.heap.size + 1 := by simp
              generalize wr.alloc (.cells #[.int .i64 y.fr, .int .i64 y.to, .int .i64 y.wd] 37) = W6 at g0 g1 g2 g4 g5 g6 g7 g8 zW HB6 ⊢
              clear d1 d2 d3 d4 e0 e1 e2 e4
              go_cut [118] (fun c wx => c = .bool false ∧ Below W6.heap.size W6 wx)
              case first =>
                by_cases h1 : x.fr < y.to
                · by_cases h2 : y.fr < x.to
                  · by_cases h3 : p < r + y.wd
                    · by_cases h4 : r < p + x.wd
                      · by_cases h5 : x.fr < x.to
                        · by_cases h6 : y.fr < y.to
                          · exact absurd ⟨h1, h2, h3, h4, h5, h6⟩ (HTWk.out)
                          · go_quiet (fail)
                            go_wp2
                            go_meet
                            exact ⟨rfl, below_drewN' _ _⟩
                        · go_quiet (fail)
                          go_wp2
                          go_meet
                          exact ⟨rfl, below_drewN' _ _⟩
                      · go_quiet (fail)
                        go_wp2
                        go_meet
                        exact ⟨rfl, below_drewN' _ _⟩
                    · go_quiet (fail)
                      go_wp2
                      go_meet
                      exact ⟨rfl, below_drewN' _ _⟩
                  · go_quiet (fail)
                    go_wp2
                    go_meet
                    exact ⟨rfl, below_drewN' _ _⟩
                · go_quiet (fail)
                  go_wp2
                  go_meet
                  exact ⟨rfl, below_drewN' _ _⟩
              case rest =>
                obtain ⟨rfl, hb8⟩ := hcut
                have HB8 := hide (bl_on HB6.out hb8)
                clear hb8
                go_wp2
                go_roundw
                case rel => exact ⟨k + 1, by omega, by go_num, HB8.out⟩
                case measure => simp [intOf]; omega
            · have HB7 := hide (bl_on HBW.out HB4.out)
              go_wp2
              go_roundw
              case rel => exact ⟨i + 1, by omega, by go_num, HB7.out⟩
              case measure => simp [intOf]; omega
      · obtain rfl : i = l' := by omega
        have HLF := hide (HLOH.out wr (H.out.below (bl_on HB2.out HB.out)))
        have hlo := HLOAD.out
        go_wp2_with (go_at_call 8; refine HLF.out.mono ?_; rintro e w3 ⟨rfl, hb3⟩; have HB3 := hide (bl_on (bl_on HB2.out HB.out) hb3); clear hb3)
        go_ret
        exact ⟨by simp, HB3.out⟩
  · obtain ⟨E, hEE⟩ : ∃ E, E = layE ls os := ⟨_, rfl⟩
    rw [← hEE] at hE ⊢
    have hE' : (E != 0) = true := by simpa using hE
    clear hEE hE
    go_wp2
    go_ret
    exact ⟨rfl, HB2.out⟩
end Go.Proofs.Ytcnnghhaohehoaa.V
