/-
  Contract: room.Climb.
-/
import Derived.Test.YtnncalhpbfmgoaaRmClimbM
import Derived.Test.YtnncalhpbfmgoaaRmSort
import Derived.Test.YtnncalhpbfmgoaaRmPeakR
namespace Go.Proofs.Ytnncalhpbfmgoaa.V
open Go.RowKit
set_option linter.unusedVariables false

def climbL (ab ws : List Int) (T : Nat → List Nat) : List Int := if treeE ab ws = 0 then cI (climbAll T ab.length) else []
def climbN (ab ws : List Int) (bl : Nat → Int) : Int := if treeE ab ws = 0 then climbV2 ab ws bl else 0
theorem cI_get (l : List Nat) (j : Nat) (h : j < l.length) : (cI l)[j]?.getD 0 = ((l[j]?.getD 0 : Nat) : Int) := by simp [cI, h]
theorem ints_of_ownN {w : World} {B : Nat} {u : Value} {l : List Nat} (h : OwnN w B u l) (hl : l.length ≤ 9223372036854775807) (hb : ∀ x ∈ l, x ≤ 9223372036854775807) : ∃ X c, u = .slice X l.length c ∧ Ints w X l.length (cI l) := by
  obtain ⟨a, cap, rfl, hc, hr⟩ := h.slice
  refine ⟨a, cap, rfl, by simp [cI], hl, fun x hx => ?_, ?_⟩
  · simp [cI] at hx
    obtain ⟨y, hy, rfl⟩ := hx
    have := hb y hy
    omega
  · rcases hr with rfl | ⟨g, rfl, _, hr⟩
    · exact .inl rfl
    · refine .inr ⟨g, 0, rfl, fun j hj => ?_⟩
      rw [Nat.zero_add, hr j hj, cI_get l j hj]
      rfl
/-- What sorting makes. -/
structure Sorted (ab ws : List Int) (T : Nat → List Nat) (bl : Nat → Int) : Prop where
  rows : Rows2 ab ws T
  bey : Bey ab ws T bl
  pos : ∀ s, s < ab.length → 0 ≤ bl s
  srt : ∀ s, s < ab.length → SrtK bl (kids ab s) (T s)
  hi : ∀ s, s < ab.length → bl s ≤ 17592186044416
theorem sorted_of {ab ws : List Int} {T : Nat → List Nat} {bl : Nat → Int} (h : TreeOk ab ws) (hs : SrtTo ws (kids ab) T bl ab.length ab.length) : Sorted ab ws T bl :=
  ⟨⟨h, fun s hl => (hs.srt s hl).perm⟩, fun s hl => hs.bey s hl, fun s hl => (hs.bd s hl).1, fun s hl => hs.srt s hl, fun s hl => by have h1 := (hs.bd s hl).2; have h2 := h.few; omega⟩
theorem Sorted.small {ab ws : List Int} {T : Nat → List Nat} {bl : Nat → Int} (h : Sorted ab ws T bl) : ∀ x ∈ climbAll T ab.length, x < ab.length := fun x hx => by
  have := (climb_perm h.rows).mem_iff.1 hx
  simpa using this
theorem Sorted.t_perm {ab ws : List Int} {T : Nat → List Nat} {bl : Nat → Int} {m : Nat} (h : Sorted ab ws T bl) (hm : ab.length = m) : ∀ s, s < m → (T s).Perm (kids ab s) := fun s hs => h.rows.perm s (by omega)
theorem Sorted.t_lt {ab ws : List Int} {T : Nat → List Nat} {bl : Nat → Int} {m : Nat} (h : Sorted ab ws T bl) (hm : ab.length = m) : ∀ s, s < m → ∀ q ∈ T s, q < s := fun s hs q hq => h.rows.lt (by omega) hq
theorem Sorted.t_len {ab ws : List Int} {T : Nat → List Nat} {bl : Nat → Int} {m : Nat} (h : Sorted ab ws T bl) (hm : ab.length = m) : ∀ s, s < m → (T s).length ≤ 4096 := fun s hs => by
  rw [(h.t_perm hm s hs).length_eq]
  have := kids_len ab ab.length s
  have := h.rows.ok.few
  unfold kids
  omega
theorem Sorted.t_is {ab ws : List Int} {T : Nat → List Nat} {bl : Nat → Int} {m : Nat} (h : Sorted ab ws T bl) (hm : ab.length = m) : (climbAll T m).length = m := by
  have := climb_len h.rows
  rw [hm] at this
  exact this
theorem Sorted.t_all {ab ws : List Int} {T : Nat → List Nat} {bl : Nat → Int} {m : Nat} (h : Sorted ab ws T bl) (hm : ab.length = m) : (climbAll T m).length ≤ 65536 := by
  rw [h.t_is hm]
  have := h.rows.ok.few
  omega
theorem kids_ok {ab ws : List Int} (h : TreeOk ab ws) {m : Nat} (hm : ab.length = m) : ∀ s, s < m → (kids ab s).length ≤ 4096 ∧ ∀ q ∈ kids ab s, q < s := fun s hs => by
  have := kids_len ab ab.length s
  have := h.few
  refine ⟨by unfold kids; omega, fun q hq => (kids_lt h hq).1⟩
/-- What lay there before lies there still. -/
theorem Ints.belowB {w w1 w2 : World} {o : Obj} {a : Option Addr} {len : Nat} {xs : List Int} (h : Ints w1 a len xs) (hs : ∀ b o, a = some ⟨b, o, none⟩ → 0 < len → b < w.heap.size) (hb : Below w.heap.size w w1) (h2 : Below w.heap.size (w1.alloc o) w2) : Ints w2 a len xs := by
  obtain ⟨k1, k2, k3, k4⟩ := h
  refine ⟨k1, k2, k3, ?_⟩
  rcases k4 with k4 | ⟨b, off, ha, hc⟩
  · exact .inl k4
  · by_cases h0 : len = 0
    · exact .inl h0
    · have hl := hs b off ha (by omega)
      refine .inr ⟨b, off, ha, fun j hj => ?_⟩
      have e1 : w2.heap[b]? = (w1.alloc o).heap[b]? := h2.block b hl
      have e2 : (w1.alloc o).heap[b]? = w1.heap[b]? := (bl_new o).block b (Nat.lt_of_lt_of_le hl hb.size)
      exact (World.cell?_of_block (e1.trans e2)).trans (hc j hj)
/-- sort, where the tree lies in a box. -/
theorem sort_box {w w1 : World} {L m : Nat} {v : Nat → Value} {ab ws : List Int} {b : Option Addr} {cap' : Nat} (hB : Bel w1 w.heap.size L m v (kids ab)) (h0 : TreeOk ab ws) (hn : ab.length = m) (hb : Below w.heap.size w w1) (hw : Ints w1 b m ws) (hbn : ∀ b' o', b = some ⟨b', o', none⟩ → 0 < m → b' < w.heap.size) :
    Calls Try.prog 33 #[.agg #[.slice (some ⟨L, 0, none⟩) m m, .slice b m cap']] (w1.alloc (.cells #[.slice (some ⟨L, 0, none⟩) m m, .slice b m cap'] 57)) fun e w' => e = .returned (.tuple #[]) ∧ (∃ T bl, Sorted ab ws T bl ∧ Bel w' w.heap.size L m v T) ∧ Below w.heap.size (w1.alloc (.cells #[.slice (some ⟨L, 0, none⟩) m m, .slice b m cap'] 57)) w' ∧ w'.cell? ⟨w1.heap.size, 0, none⟩ = some (.slice (some ⟨L, 0, none⟩) m m) ∧ w'.cell? ⟨w1.heap.size, 1, none⟩ = some (.slice b m cap') ∧ w1.heap.size < w'.heap.size := by
  have h2 := World.alloc_heap_new w1 (.cells #[.slice (some ⟨L, 0, none⟩) m m, .slice b m cap'] 57)
  have hz : (w1.alloc (.cells #[.slice (some ⟨L, 0, none⟩) m m, .slice b m cap'] 57)).heap.size = w1.heap.size + 1 := by simp
  refine (sortT_any w.heap.size L m v (kids ab) ab ws b cap' _ (hB.below (bl_new _)) (by rw [hz]; have := hb.size; omega) (kids_ok h0 hn) h0 hn (hw.below (bl_new _)) hbn).mono ?_
  rintro e w' ⟨rfl, ⟨T, bl, hs, hbel⟩, hb2, hk⟩
  have h3 := (hk w1.heap.size (by omega) (fun s hs e => by have := ((hB.side s hs).at e).2.1; omega)).trans h2
  obtain ⟨t1, t2, _, _, t5⟩ := tree_cells h3
  exact ⟨rfl, ⟨T, bl, sorted_of h0 (by rw [hn]; exact hs), hbel⟩, hb2, t1, t2, t5⟩
set_option maxHeartbeats 4000000 in
theorem roomClimb_any (a : Option Addr) (n cap : Nat) (ab : List Int) (b : Option Addr) (m cap' : Nat) (ws : List Int) (w : World) (h : Ints w a n ab) (h' : Ints w b m ws) (hbn : ∀ b' o', b = some ⟨b', o', none⟩ → 0 < m → b' < w.heap.size) :
    Calls Try.prog 17 #[.slice a n cap, .slice b m cap'] w fun e w' => (∃ T bl X l c, (treeE ab ws = 0 → Sorted ab ws T bl) ∧ e = .returned (.tuple #[.slice X l c, .int .i64 (climbN ab ws bl), .int .i64 (treeE ab ws)]) ∧ Ints w' X l (climbL ab ws T)) ∧ Below w.heap.size w w' := by
  have HA := hide (treeOf_any a n cap ab b m cap' ws w h h')
  have HW := hide h'
  have HL := hide h.1
  have HBN := hide hbn
  by_cases e0 : treeE ab ws = 0
  · have HE := hide e0
    have hok := treeE_ok e0
    have HOK := hide hok
    have hmn : m = n := by have := hok.same; rw [h.1, h'.1] at this; exact this
    subst hmn
    have HN4 : Hid (m ≤ 4096) := by have := hok.few; rw [h.1] at this; exact this
    clear h h' e0 hok hbn
    go_enter Try.func17, Try.ntmps17
    go_wp2_with (first
      | (go_at_call 31; refine HA.out.mono ?_; rintro e w1 ⟨⟨_, hans⟩, hb⟩; obtain ⟨L, v, rfl, hbel⟩ := hans HE.out; have HB1 := hide hb; have HBL := hide hbel; clear hans hb hbel)
      | (go_at_call 33; refine (sort_box HBL.out HOK.out HL.out HB1.out (HW.out.below HB1.out) HBN.out).mono ?_; rintro e w2 ⟨rfl, ⟨T, bl, hsr, hbl2⟩, hb2, hc0, hc1, hcz⟩; have HB2 := hide hb2; have HSR := hide hsr; have HBL2 := hide hbl2; clear hsr hbl2 hb2)
      | (go_at_call 34; refine (order_any w.heap.size L m v T b cap' w2 HBL2.out HN4.out (HSR.out.t_lt HL.out) (HSR.out.t_len HL.out) (HSR.out.t_all HL.out)).mono ?_; rintro e w3 ⟨⟨u3, rfl, hown⟩, hb3⟩; have HB3 := hide hb3; have hd0 := (hb3.cell (p := ⟨w1.heap.size, 0, none⟩) hcz).trans hc0; have hd1 := (hb3.cell (p := ⟨w1.heap.size, 1, none⟩) hcz).trans hc1; have hdz := Nat.lt_of_lt_of_le hcz hb3.size; obtain ⟨X, c, hu, hin⟩ := ints_of_ownN hown (by rw [HSR.out.t_is HL.out]; have := HN4.out; omega) (fun x hx => by have h1 := HSR.out.small x (by rw [HL.out]; exact hx); have h2 := HN4.out; have h3 := HL.out; omega); have HIN := hide hin; subst hu; clear hown hin hb3)
      | (go_at_call 32; refine (peakT_any w.heap.size L m v T ab ws (cI (climbAll T m)) b cap' X _ c w3 (HBL2.out.below HB3.out) (HSR.out.t_perm HL.out) HOK.out HL.out (((HW.out.below HB1.out).belowB HBN.out HB1.out HB2.out).below HB3.out) HIN.out).mono ?_; rintro e w4 ⟨rfl, hb4⟩; have HB4 := hide hb4; clear hb4))
    have HPK := climb_peak HSR.out.rows HSR.out.bey HSR.out.pos
    rw [HL.out] at HPK
    refine bodyPost_ret (v := .tuple #[.slice X (climbAll T m).length c, .int .i64 (peakV ab ws (cI (climbAll T m))).1, .int .i64 0]) (by simp [results, Try.results17, go_sem]) rfl ⟨⟨T, bl, X, (climbAll T m).length, c, fun _ => HSR.out, ?_, ?_⟩, ?_⟩
    · rw [climbN, if_pos HE.out, HE.out, HPK]
    · rw [climbL, if_pos HE.out, HL.out]
      exact HIN.out.below HB4.out
    · exact bl_on (bl_on ((bl_on HB1.out (bl_new _)).trans HB2.out) HB3.out) HB4.out
  · have HE := hide e0
    have hne : (treeE ab ws != 0) = true := by simpa using e0
    obtain ⟨E, hE⟩ : ∃ E, E = treeE ab ws := ⟨_, rfl⟩
    rw [← hE] at hne
    have HEE := hide hE
    clear h h' e0 hE
    go_enter Try.func17, Try.ntmps17
    go_wp2_with (go_at_call 31; refine HA.out.mono ?_; rintro e w1 ⟨⟨hans, _⟩, hb⟩; rw [hans HE.out, ← HEE.out]; have HB1 := hide hb; clear hans hb)
    refine bodyPost_ret (v := .tuple #[.slice none 0 0, .int .i64 0, .int .i64 E]) (by simp [results, Try.results17, go_sem]) rfl ⟨⟨fun _ => [], fun _ => 0, none, 0, 0, fun h => absurd h HE.out, ?_, ?_⟩, bl_on HB1.out (bl_new _)⟩
    · rw [climbN, if_neg HE.out, HEE.out]
    · rw [climbL, if_neg HE.out]
      exact ⟨rfl, by omega, by simp, .inl rfl⟩
end Go.Proofs.Ytnncalhpbfmgoaa.V
