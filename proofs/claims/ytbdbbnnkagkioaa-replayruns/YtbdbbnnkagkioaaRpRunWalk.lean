/-
  Contract: chart.walk, where it tells a run its moves.
-/
import Derived.Test.YtbdbbnnkagkioaaRpRunTell
namespace Go.Proofs.Ytbdbbnnkagkioaa.V
open Go.RowKit
set_option linter.unusedVariables false

/-- The chart, apart from what a run writes. -/
def ChartS (w : World) (b : Bk) (cb n S : Nat) (g : Nat → Nat) : Prop :=
  ChartW w cb n S (S + 1) g ∧ (cb < b.B ∧ cb ≠ b.nb ∧ cb ≠ b.kb ∧ cb ≠ b.rb) ∧ ∀ i, i < S + 1 → g i < b.B ∧ g i ≠ b.nb ∧ g i ≠ b.kb ∧ g i ≠ b.rb
theorem ChartS.sv {w w' : World} {b : Bk} {cb n S : Nat} {g : Nat → Nat} (h : ChartS w b cb n S g) (hs : Sv b w w') : ChartS w' b cb n S g :=
  ⟨h.1.of (hs.2 cb h.2.1.1 h.2.1.2.1 h.2.1.2.2.1 h.2.1.2.2.2) (fun i hi => hs.2 (g i) (h.2.2 i hi).1 (h.2.2 i hi).2.1 (h.2.2 i hi).2.2.1 (h.2.2 i hi).2.2.2), h.2⟩
theorem Sv.size {b : Bk} {w w' : World} (h : Sv b w w') (hB : b.B ≤ w.heap.size) : b.B ≤ w'.heap.size := Nat.le_trans hB h.1.size
theorem step_now (st : St) (j : Nat) : stepS { st with now := st.now + j, cost := st.cost + j } 1 0 = { st with now := st.now + (j + 1), cost := st.cost + (j + 1) } := by
  simp [stepS]; omega

section
variable (b : Bk) (n S : Nat) (start : Int) (cb : Nat) (g : Nat → Nat)
/-- What walk does to a run. -/
def WalksR (free m : Nat) (st : St) (w : World) (e : Ending) (w' : World) : Prop :=
  e = .returned (.tuple #[]) ∧ (∃ st' v', RunAt w' b n S start st' v' ∧ st'.Ok n S ∧ st'.left = st.now ∧ st'.cost = st.cost + T free m ∧ ∀ j, free ≤ j → st'.kept[j]? = st.kept[j]?) ∧ Sv b w w'

set_option maxHeartbeats 2000000 in
theorem walkR_small (hn : n ≤ 256) (hS : S ≤ 16) (hs : -1099511627776 ≤ start ∧ start ≤ 1099511627776) (free m : Nat) (st : St) (v : Value) (w : World) (h : RunAt w b n S start st v) (ho : st.Ok n S) (hl : st.left = st.now + m) (hm : m ≤ 1) (hc : st.cost ≤ 900000) (hB : b.B ≤ w.heap.size) :
    Calls Try.prog 13 #[.slice (some ⟨cb, 0, none⟩) (S + 1) (S + 1), .int .i64 m, .int .i64 free, .func (.func 14) #[] #[.pointer (some ⟨b.ab, 0, none⟩), .pointer (some ⟨b.nb, 0, none⟩), .pointer (some ⟨b.kv, 0, none⟩), .pointer (some ⟨b.bb, 0, none⟩)]] w (WalksR b n S start free m st w) := by
  have H := hide h
  have HO := hide ho
  clear h ho
  have hm' : ¬ (1 : Int) < m := by omega
  go_enter Try.func13, Try.ntmps13
  go_wp2_with fail
  go_loopw [1] (fun u wr => u = .int .i64 m ∧ wr = w) (fun _ _ => 0)
  case atStart => exact ⟨rfl, rfl⟩
  case round =>
    obtain ⟨rfl, rfl⟩ := hrel
    by_cases m1 : m = 1
    · subst m1
      have he : stepE n st 4 0 = 0 := by simp [stepE, hl]
      have HT := hide (tellR_any b n S start st v 4 0 _ H.out HO.out hn hS hs (by omega) hB he)
      have HOK := hide (HO.out.step he)
      clear he
      go_wp2_with fail
      refine HT.out.mono ?_
      rintro e w1 ⟨rfl, ⟨v', q1⟩, q2⟩
      have Q1 := hide q1
      have Q2 := hide q2
      clear q1 q2 HT
      go_wp2_with fail
      exact bodyPost_end (v := .tuple #[]) (by simp [results, Try.results13, go_sem]) rfl ⟨rfl, ⟨_, v', Q1.out, HOK.out, by simp [stepS]; omega, by rw [T_zero (.inr (by omega))]; simp [stepS], fun j _ => by simp [stepS]⟩, Q2.out⟩
    · have m0 : m = 0 := by omega
      subst m0
      go_wp2_with fail
      exact bodyPost_end (v := .tuple #[]) (by simp [results, Try.results13, go_sem]) rfl ⟨rfl, ⟨st, v, H.out, HO.out, by omega, by rw [T_zero (.inr (by omega))]; rfl, fun j _ => rfl⟩, Sv.refl _ _⟩

set_option maxHeartbeats 4000000 in
theorem walkR_any (hn : n ≤ 256) (hS : S ≤ 16) (hs : -1099511627776 ≤ start ∧ start ≤ 1099511627776) : ∀ (free m : Nat) (st : St) (v : Value) (w : World), RunAt w b n S start st v → st.Ok n S → st.left = st.now + m → free ≤ S → (m ≤ 1 ∨ 1 ≤ free) → ChartS w b cb n S g → b.B ≤ w.heap.size → st.cost + T free m ≤ 900000 →
    Calls Try.prog 13 #[.slice (some ⟨cb, 0, none⟩) (S + 1) (S + 1), .int .i64 m, .int .i64 free, .func (.func 14) #[] #[.pointer (some ⟨b.ab, 0, none⟩), .pointer (some ⟨b.nb, 0, none⟩), .pointer (some ⟨b.kv, 0, none⟩), .pointer (some ⟨b.bb, 0, none⟩)]] w (WalksR b n S start free m st w) := by
  intro free
  induction free with
  | zero =>
    intro m st v w h ho hl hf hmf hC hB hL
    exact walkR_small b n S start cb hn hS hs 0 m st v w h ho hl (by omega) (by omega) hB
  | succ f ih =>
    intro m st v w h ho hl hf hmf hC hB hL
    by_cases hm2 : m ≤ 1
    · exact walkR_small b n S start cb hn hS hs (f + 1) m st v w h ho hl hm2 (by omega) hB
    have hleft := ho.left
    have hlen := ho.len
    have he0 : stepE n st 2 (f : Int) = 0 := by
      have : inS (f : Int) st.kept.length = true := by simp [inS]; omega
      simp [stepE, this]
    have HT0 := hide (tellR_any b n S start st v 2 f w h ho hn hS hs (by omega) hB he0)
    have HOK0 := hide (ho.step he0)
    have HC := hide hC
    have IH := hide ih
    have hm' : (1 : Int) < m := by omega
    have ef : ((f : Int) + 1 - 1) = f := by omega
    clear h ho hC ih he0
    go_enter Try.func13, Try.ntmps13
    go_wp2_with fail
    refine HT0.out.mono ?_
    rintro e w1 ⟨rfl, ⟨v1, q1⟩, q2⟩
    have Q1 := hide q1
    have Q2 := hide q2
    clear q1 q2 HT0
    go_wp2_with fail
    go_loopw [1] (fun u wr => ∃ (k : Nat) (sk : St) (vk : Value), u = .int .i64 k ∧ 1 ≤ k ∧ k ≤ m ∧ RunAt wr b n S start sk vk ∧ sk.Ok n S ∧ (sk.now = st.now ∧ sk.left = st.now + k ∧ sk.cost + T (f + 1) k = st.cost + T (f + 1) m ∧ (∀ j, f + 1 ≤ j → sk.kept[j]? = st.kept[j]?) ∧ sk.kept[f]? = some (some st.now)) ∧ Sv b w wr) (fun u _ => (intOf u).toNat)
    case atStart => exact ⟨m, _, v1, rfl, by omega, by omega, Q1.out, HOK0.out, ⟨by simp [stepS], by simp [stepS]; omega, by simp [stepS], fun j hj => by simp only [stepS]; exact List.getElem?_set_ne (by simp; omega), by simp only [stepS]; exact List.getElem?_set_self (by simp; omega)⟩, Q2.out⟩
    case round =>
      obtain ⟨k, sk, vk, rfl, r1, r2, r3, r4, ⟨s1, s2, s3, s4, s5⟩, r5⟩ := hrel
      have R3 := hide r3
      have R4 := hide r4
      have R5 := hide r5
      have S4 := hide s4
      have S5 := hide s5
      have hBr : b.B ≤ wr.heap.size := r5.size hB
      clear r3 r4 r5 s4 s5
      by_cases hk : 2 ≤ k
      · have hk' : (1 : Int) < k := by omega
        have hch := HC.out.sv R5.out
        have k1 := hch.1.1.cell (i := f + 1) (by omega)
        have hrow := (hch.1.2 (f + 1) (by omega)).1
        obtain ⟨q, k2, hq⟩ := hrow.first (j := k) hk (by omega) (by omega) (by omega)
        have hx : f + 1 < S + 1 := by omega
        simp only [hx, if_true] at k1
        have HQ := hide hq
        have q1 := hq.1
        have q2 := hq.2.1
        have hg4 := hq.2.2.2
        rw [show f + 1 - 1 = f by omega] at hg4
        have HCH := hide hch
        clear hch hrow hq hx
        obtain ⟨wo, hwo⟩ : ∃ wo, wo = wr := ⟨_, rfl⟩
        subst hwo
        go_wp2_with fail
        go_loopw [27] (fun i wx => ∃ j : Nat, j ≤ q ∧ i = .int .i64 j ∧ (∃ vx, RunAt wx b n S start { sk with now := sk.now + j, cost := sk.cost + j } vx) ∧ St.Ok n S { sk with now := sk.now + j, cost := sk.cost + j } ∧ Sv b wo wx) (fun i _ => q - (intOf i).toNat)
        case atStart => exact ⟨0, by omega, rfl, ⟨vk, R3.out⟩, R4.out, Sv.refl _ _⟩
        case round =>
          obtain ⟨j, j1, rfl, ⟨vx, j2⟩, j4, j3⟩ := hrel
          have J2 := hide j2
          have J3 := hide j3
          have J4 := hide j4
          have hBx : b.B ≤ wr.heap.size := j3.size hBr
          clear j2 j3 j4
          by_cases hj : j < q
          · have he : stepE n { sk with now := sk.now + j, cost := sk.cost + j } 1 0 = 0 := by
              have : ¬ sk.now + j = n := by omega
              simp [stepE, this]
            have HT := hide (tellR_any b n S start _ vx 1 0 wr J2.out J4.out hn hS hs (by simp only; omega) hBx he)
            have HOK := hide (J4.out.step he)
            clear he
            go_wp2_with fail
            refine HT.out.mono ?_
            rintro e w2 ⟨rfl, ⟨v2, p1⟩, p2⟩
            have P1 := hide p1
            have P2 := hide p2
            clear p1 p2 HT
            go_wp2_with fail
            go_round
            case rel => exact ⟨j + 1, by omega, by go_num, ⟨v2, by rw [← step_now]; exact P1.out⟩, by rw [← step_now]; exact HOK.out, J3.out.trans P2.out⟩
            case measure => simp [intOf]; omega
          · have ej : j = q := by omega
            subst ej
            have ekq : (k : Int) - (j : Int) = ((k - j : Nat) : Int) := by omega
            have hw := IH.out (k - j) _ vx wr J2.out J4.out (by simp only; omega) (by omega) (by
              by_cases e : f = 0
              · subst e; have := HQ.out.2.2.1 rfl; omega
              · omega) (HCH.out.sv J3.out) hBx (by simp only; omega)
            have HW := hide hw
            clear hw
            go_wp2_with fail
            refine HW.out.mono ?_
            rintro e w2 ⟨rfl, ⟨s3', v3, p0, p1, p2, p3, p4⟩, p5⟩
            simp only at p2 p3 p4
            have P0 := hide p0
            have P1 := hide p1
            have P4 := hide p4
            have P5 := hide p5
            have hB2 : b.B ≤ w2.heap.size := p5.size hBx
            have hf4 := p4 f (Nat.le_refl _)
            rw [S5.out] at hf4
            have hl3 := p1.len
            have hsl : s3'.slot (f : Int) = some st.now := by
              unfold St.slot
              rw [Int.toNat_natCast, hf4]
              rfl
            have he : stepE n s3' 3 (f : Int) = 0 := by
              have : inS (f : Int) s3'.kept.length = true := by simp [inS]; omega
              simp [stepE, this, hsl]
            have HT := hide (tellR_any b n S start s3' v3 3 f w2 P0.out P1.out hn hS hs (by omega) hB2 he)
            have HOK := hide (P1.out.step he)
            have est : stepS s3' 3 (f : Int) = { s3' with now := st.now } := by simp [stepS, hsl]
            have EST := hide est
            have HF4 := hide hf4
            clear p0 p1 p4 p5 HW he hsl est hf4
            go_wp2_with fail
            refine HT.out.mono ?_
            rintro e w3 ⟨rfl, ⟨v4, t1⟩, t2⟩
            have T1 := hide t1
            have T2 := hide t2
            clear t1 t2 HT
            go_wp2_with fail
            have X : RunAt w3 b n S start { s3' with now := st.now } v4 := by rw [← EST.out]; exact T1.out
            have Y : St.Ok n S { s3' with now := st.now } := by rw [← EST.out]; exact HOK.out
            have Z := (R5.out.trans J3.out).trans (P5.out.trans T2.out)
            go_round
            case rel => exact ⟨j, _, v4, rfl, by omega, by omega, X, Y, ⟨rfl, by simp only; omega, by simp only; omega, fun t ht => by simp only; rw [P4.out t (by omega), S4.out t ht], HF4.out⟩, Z⟩
            case measure => simp [intOf]; omega
      · have k1 : k = 1 := by omega
        subst k1
        have he : stepE n sk 4 0 = 0 := by simp [stepE, s1, s2]
        have HT := hide (tellR_any b n S start sk vk 4 0 wr R3.out R4.out hn hS hs (by omega) hBr he)
        have HOK := hide (R4.out.step he)
        clear he
        rw [T_zero (s := f + 1) (n := 1) (.inr (by omega))] at s3
        go_wp2_with fail
        refine HT.out.mono ?_
        rintro e w2 ⟨rfl, ⟨v2, p1⟩, p2⟩
        have P1 := hide p1
        have P2 := hide p2
        clear p1 p2 HT
        go_wp2_with fail
        exact bodyPost_end (v := .tuple #[]) (by simp [results, Try.results13, go_sem]) rfl ⟨rfl, ⟨_, v2, P1.out, HOK.out, by simp [stepS]; omega, by simp [stepS]; omega, fun t ht => by simp only [stepS]; exact S4.out t ht⟩, R5.out.trans P2.out⟩
end
end Go.Proofs.Ytbdbbnnkagkioaa.V
