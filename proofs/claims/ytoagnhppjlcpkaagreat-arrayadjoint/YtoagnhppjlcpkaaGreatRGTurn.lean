/-
  Contract: view.Turn.
-/
import Derived.Test.YtoagnhppjlcpkaaGreatRGFresh
import Derived.Test.YtoagnhppjlcpkaaGreatRGIndex
import Derived.BigRegion
namespace Go.Proofs.YtoagnhppjlcpkaaGreat.V
set_option maxRecDepth 20000
open Go.RowKit

/-- A list taken in another order. -/
def taken (xs perm : List Int) : List Int := perm.map fun k => xs[k.toNat]?.getD 0
/-- A block that holds a View. -/
def ViewAt (w : World) (b : Nat) (c0 c1 c2 : Value) : Prop := w.heap[b]? = some (.cells #[c0, c1, c2] 80 (0, 0))
theorem ViewAt.lt {w : World} {b : Nat} {c0 c1 c2 : Value} (h : ViewAt w b c0 c1 c2) : b < w.heap.size := (Array.getElem?_eq_some_iff.1 h).1
theorem ViewAt.below {w w' : World} {b : Nat} {c0 c1 c2 : Value} (h : ViewAt w b c0 c1 c2) (hb : Below w.heap.size w w') : ViewAt w' b c0 c1 c2 := (hb.block b h.lt).trans h
theorem ViewAt.alloc {w : World} {b : Nat} {c0 c1 c2 : Value} (h : ViewAt w b c0 c1 c2) (o : Obj) : ViewAt (w.alloc o) b c0 c1 c2 := (Below.heap_alloc _ _ _ h.lt).trans h
theorem ViewAt.set {w : World} {b : Nat} {c0 c1 c2 : Value} (h : ViewAt w b c0 c1 c2) {p : Addr} (hne : b ≠ p.block) (u : Value) : ViewAt (w.setCell p u) b c0 c1 c2 := (Below.heap_setCell _ _ _ _ hne).trans h
theorem ViewAt.cells {w : World} {b : Nat} {c0 c1 c2 : Value} (h : ViewAt w b c0 c1 c2) : (w.cell? ⟨b, 0, none⟩ = some c0 ∧ w.cell? ⟨b, 1, none⟩ = some c1 ∧ w.cell? ⟨b, 2, none⟩ = some c2) ∧ (w.frozen? ⟨b, 0, none⟩ = false ∧ w.frozen? ⟨b, 1, none⟩ = false ∧ w.frozen? ⟨b, 2, none⟩ = false) := by
  unfold ViewAt at h
  refine ⟨⟨?_, ?_, ?_⟩, ?_, ?_, ?_⟩ <;> simp [World.cell?, World.frozen?, h]
theorem ViewAt.new (w : World) (c0 c1 c2 : Value) : ViewAt (w.alloc (.cells #[c0, c1, c2] 80)) w.heap.size c0 c1 c2 := World.alloc_heap_new w _

/-- A row on its way: the first k are as they are to be, the others as they were. -/
def onWay (xs ys : List Int) (k j : Nat) : Value := .int .i64 (if j < k then xs[j]?.getD 0 else ys[j]?.getD 0)
theorem onWay_succ (xs ys : List Int) (k j : Nat) : (if j = k then .int .i64 (xs[k]?.getD 0) else onWay xs ys k j) = onWay xs ys (k + 1) j := by
  unfold onWay
  by_cases e : j = k
  · subst e; simp
  · by_cases h : j < k
    · rw [if_neg e, if_pos h, if_pos (by omega)]
    · rw [if_neg e, if_neg h, if_neg (by omega)]
theorem onWay_all {w : World} {g t len : Nat} {xs ys : List Int} (h : w.rowIs g t len (onWay xs ys len)) : w.rowIs g t len (fun j => .int .i64 (xs[j]?.getD 0)) := h.congr (fun j hj => by simp [onWay, hj])
theorem onWay_zero {w : World} {g t len : Nat} {xs ys : List Int} (h : w.rowIs g t len (fun j => .int .i64 (ys[j]?.getD 0))) : w.rowIs g t len (onWay xs ys 0) := h.congr (fun j _ => by simp [onWay])
theorem taken_getD (xs ps : List Int) (k m : Nat) (hk : k < ps.length) (hm : ps[k]?.getD 0 = (m : Int)) : (taken xs ps)[k]?.getD 0 = xs[m]?.getD 0 := by
  have e : ps[k] = (m : Int) := by simpa [hk] using hm
  simp [taken, hk, e]
theorem taken_length (xs ps : List Int) : (taken xs ps).length = ps.length := by simp [taken]
theorem taken_bd {xs ps : List Int} (h : ∀ x ∈ xs, -9223372036854775808 ≤ x ∧ x ≤ 9223372036854775807) : ∀ x ∈ taken xs ps, -9223372036854775808 ≤ x ∧ x ≤ 9223372036854775807 := by
  intro y hy
  simp only [taken, List.mem_map] at hy
  obtain ⟨p, _, rfl⟩ := hy
  by_cases hk : p.toNat < xs.length
  · exact h _ (mem_getD xs _ hk)
  · have : xs[p.toNat]? = none := by simp; omega
    simp [this]

theorem wrongE_ok {s : Int} {ds ss : List Int} (h : wrongE s ds ss = 0) : sizeE ds = 0 ∧ ss.length = ds.length ∧ beyondB s ss = false := by
  unfold wrongE at h
  by_cases h1 : sizeE ds ≠ 0
  · rw [if_pos h1] at h; exact absurd h h1
  rw [if_neg h1] at h
  by_cases h2 : ss.length ≠ ds.length
  · rw [if_pos h2] at h; omega
  rw [if_neg h2] at h
  by_cases h3 : beyondB s ss = true
  · rw [if_pos h3] at h; omega
  exact ⟨by simpa using h1, by simpa using h2, by simpa using h3⟩
theorem turn_far {s : Int} {ds ss ps : List Int} {n : Nat} (h : wrongE s ds ss = 0) (hp : PermOk ps n) (hl : ss.length = n) : beyondB s (taken ss ps) = false := by
  obtain ⟨_, _, h3⟩ := wrongE_ok h
  simp only [beyondB, Bool.or_eq_false_iff] at h3 ⊢
  refine ⟨h3.1, ?_⟩
  rw [List.any_eq_false] at h3 ⊢
  intro x hx
  simp only [taken, List.mem_map] at hx
  obtain ⟨p, hp', rfl⟩ := hx
  obtain ⟨i, hi, he⟩ := List.getElem_of_mem hp'
  have hg := hp.2 i (by rw [← hp.1]; exact hi)
  simp [hi, he] at hg
  exact h3.2 _ (mem_getD ss _ (by omega))
theorem ints_set3 {w : World} {g len B : Nat} {xs : List Int} {a b c : Value} (h : Ints w (some ⟨g, 0, none⟩) len xs) (hne : g ≠ B) : Ints (((w.setCell ⟨B, 0, none⟩ a).setCell ⟨B, 1, none⟩ b).setCell ⟨B, 2, none⟩ c) (some ⟨g, 0, none⟩) len xs := by
  obtain ⟨h1, h2, h3, h4⟩ := h
  refine ⟨h1, h2, h3, ?_⟩
  rcases h4 with h4 | ⟨b', off, ha, hc⟩
  · exact .inl h4
  · cases ha
    have e : (((w.setCell ⟨B, 0, none⟩ a).setCell ⟨B, 1, none⟩ b).setCell ⟨B, 2, none⟩ c).heap[g]? = w.heap[g]? :=
      ((Below.heap_setCell _ ⟨B, 2, none⟩ _ g hne).trans (Below.heap_setCell _ ⟨B, 1, none⟩ _ g hne)).trans (Below.heap_setCell _ ⟨B, 0, none⟩ _ g hne)
    exact .inr ⟨_, _, rfl, fun j hj => (World.cell?_of_block (w := w) e).trans (hc j hj)⟩

end Go.Proofs.YtoagnhppjlcpkaaGreat.V

/-
  Contract: view.Turn, whatever it is asked.
-/
namespace Go.Proofs.YtoagnhppjlcpkaaGreat.V
set_option maxRecDepth 20000
open Go.RowKit

def permB (xs : List Int) (n : Nat) : Bool := decide (xs.length = n) && (List.range n).all fun k => xs.any fun x => x == (k : Int)
theorem permB_iff (xs : List Int) (n : Nat) : permB xs n = true ↔ PermOk xs n := by
  unfold permB PermOk
  simp only [Bool.and_eq_true, decide_eq_true_eq, List.all_eq_true, List.mem_range, List.any_eq_true, beq_iff_eq]
  constructor
  · rintro ⟨h1, h2⟩
    exact ⟨h1, (perm_iff h1).2 (fun k hk => by obtain ⟨x, hx, he⟩ := h2 k hk; exact he ▸ hx)⟩
  · rintro ⟨h1, h2⟩
    exact ⟨h1, fun k hk => ⟨_, (perm_iff h1).1 h2 k hk, rfl⟩⟩
def turnE (s : Int) (ds ss ps : List Int) : Int := if wrongE s ds ss ≠ 0 then wrongE s ds ss else if permB ps ds.length = true then 0 else 6
def okS (E : Int) (s : Int) : Int := if E = 0 then s else 0
def okL (E : Int) (l : List Int) : List Int := if E = 0 then l else []

set_option maxHeartbeats 1000000 in
theorem turn_wrong (s : Int) (da : Option Addr) (dl dc : Nat) (ds : List Int) (sa : Option Addr) (sl sc : Nat) (ss : List Int) (a : Option Addr) (len cap : Nat) (w : World)
    (hd : Ints w da dl ds) (hs : Ints w sa sl ss) (hW : wrongE s ds ss ≠ 0) :
    Calls Tryz.prog 86 #[.agg #[.int .i64 s, .slice da dl dc, .slice sa sl sc], .slice a len cap] w fun e w' => e = .returned (.tuple #[.agg #[.int .i64 0, .slice none 0 0, .slice none 0 0], .int .i64 (wrongE s ds ss)]) ∧ Below w.heap.size w w' := by
  have HD := hide hd
  have HS := hide hs
  have c1 : (wrongE s ds ss != 0) = true := by simp [hW]
  clear hd hs hW
  have hb2 : Below w.heap.size w ((w.alloc (.cells #[.int .i64 s, .slice da dl dc, .slice sa sl sc] 80)).alloc (.cells #[.int .i64 0, .slice none 0 0, .slice none 0 0] 80)) := ((Below.refl _ _).alloc (Nat.le_refl _) _).alloc (by simp) _
  have HB2 := hide hb2
  clear hb2
  go_enter Tryz.func86, Tryz.ntmps86
  go_wp2_with fail
  refine (wrong_any _ _ _ _ ds _ _ _ ss _ (HD.out.below HB2.out) (HS.out.below HB2.out)).mono ?_
  rintro e w1 ⟨rfl, hb⟩
  have HB := hide (Below.on HB2.out hb)
  obtain ⟨hc1, hf1⟩ := bcell hb
  have hz := hb.size
  simp at hz
  clear hb
  go_wp2
  refine bodyPost_ret (v := .tuple #[.agg #[.int .i64 0, .slice none 0 0, .slice none 0 0], .int .i64 (wrongE s ds ss)]) (by simp [results, Tryz.results86, go_sem, hc1]) rfl ⟨rfl, ?_⟩
  exact ((HB.out.setCell (p := ⟨w.heap.size + 1, 0, none⟩) (by simp) _).setCell (p := ⟨w.heap.size + 1, 1, none⟩) (by simp) _).setCell (p := ⟨w.heap.size + 1, 2, none⟩) (by simp) _

set_option maxHeartbeats 1000000 in
theorem turn_shape (s : Int) (da : Option Addr) (dl dc : Nat) (ds : List Int) (sa : Option Addr) (sl sc : Nat) (ss : List Int) (a : Option Addr) (len cap : Nat) (ps : List Int) (w : World)
    (hd : Ints w da dl ds) (hs : Ints w sa sl ss) (hp : Ints w a len ps) (hW : wrongE s ds ss = 0) (hP : ¬ PermOk ps dl) (h6 : dl ≤ 6) :
    Calls Tryz.prog 86 #[.agg #[.int .i64 s, .slice da dl dc, .slice sa sl sc], .slice a len cap] w fun e w' => e = .returned (.tuple #[.agg #[.int .i64 0, .slice none 0 0, .slice none 0 0], .int .i64 6]) ∧ Below w.heap.size w w' := by
  have HD := hide hd
  have HS := hide hs
  have HP := hide hp
  have HW := hide hW
  have HPO := hide hP
  clear hd hs hp hW hP
  have hb2 : Below w.heap.size w ((w.alloc (.cells #[.int .i64 s, .slice da dl dc, .slice sa sl sc] 80)).alloc (.cells #[.int .i64 0, .slice none 0 0, .slice none 0 0] 80)) := ((Below.refl _ _).alloc (Nat.le_refl _) _).alloc (by simp) _
  have HB2 := hide hb2
  clear hb2
  go_enter Tryz.func86, Tryz.ntmps86
  go_wp2_with fail
  refine (wrong_any _ _ _ _ ds _ _ _ ss _ (HD.out.below HB2.out) (HS.out.below HB2.out)).mono ?_
  rintro e w1 ⟨rfl, hb⟩
  rw [HW.out]
  have HB := hide (Below.on HB2.out hb)
  have hV1 : ViewAt w1 w.heap.size (.int .i64 s) (.slice da dl dc) (.slice sa sl sc) := ((ViewAt.new w _ _ _).alloc _).below hb
  have hR1 : ViewAt w1 (w.heap.size + 1) (.int .i64 0) (.slice none 0 0) (.slice none 0 0) := by
    have := (ViewAt.new (w.alloc (.cells #[.int .i64 s, .slice da dl dc, .slice sa sl sc] 80)) (.int .i64 0) (.slice none 0 0) (.slice none 0 0)).below hb
    simpa using this
  have HR1 := hide hR1
  obtain ⟨⟨v0, v1, v2⟩, _⟩ := hV1.cells
  clear hb hV1 hR1
  go_wp2_with fail
  refine (permutes_any _ _ _ ps dl _ (HP.out.below HB.out) h6).mono ?_
  rintro e w2 ⟨⟨r, rfl, hr⟩, hb⟩
  obtain rfl : r = false := by
    cases r with
    | true => exact absurd (hr.1 rfl) HPO.out
    | false => rfl
  have HBa := hide (Below.on HB.out hb)
  obtain ⟨⟨r0, r1, r2⟩, rf0, rf1, rf2⟩ := (HR1.out.below hb).cells
  clear hb hr v0 v1 v2
  go_wp2
  refine bodyPost_ret (v := .tuple #[.agg #[.int .i64 0, .slice none 0 0, .slice none 0 0], .int .i64 6]) (by simp [results, Tryz.results86, go_sem, r0, r1, r2]) rfl ⟨rfl, ?_⟩
  exact ((HBa.out.setCell (p := ⟨w.heap.size + 1, 0, none⟩) (by simp) _).setCell (p := ⟨w.heap.size + 1, 1, none⟩) (by simp) _).setCell (p := ⟨w.heap.size + 1, 2, none⟩) (by simp) _

end Go.Proofs.YtoagnhppjlcpkaaGreat.V
