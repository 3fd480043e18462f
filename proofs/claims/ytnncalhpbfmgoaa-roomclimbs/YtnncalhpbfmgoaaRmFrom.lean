/-
  Contract: room.byFrom: the numbers of lives, in the order in which they are laid.
-/
import Derived.Test.YtnncalhpbfmgoaaRmWrong
import Derived.Test.YtnncalhpbfmgoaaCmp
import Derived.Test.YtnncalhpbfmgoaaRw
import Derived.Test.YtnncalhpbfmgoaaSoSta
import Derived.Deep.RegionHeld3
namespace Go.Proofs.Ytnncalhpbfmgoaa.V
open Go Go.Shelf Go.RowKit Go.Lib Go.Sort Go.Proofs Go.Proofs.Ytnncalhpbfmgoaa.S Go.Proofs.Ytnncalhpbfmgoaa.S1
set_option linter.unusedVariables false

/-- One life is laid ahead of another. -/
def befL (ls : List Lf) (a b : Nat) : Prop := (ls[a]?.getD lfD).fr < (ls[b]?.getD lfD).fr ∨ (ls[a]?.getD lfD).fr = (ls[b]?.getD lfD).fr ∧ a < b
/-- All lives in the order in which they are laid. -/
structure Ord (ls : List Lf) (os : List Nat) : Prop where
  perm : os.Perm (List.range ls.length)
  sorted : os.Pairwise (befL ls)
theorem stp1 : S1.StP Try.prog where
  mixed := by kernel_rfl
  t3 := Try.underlying3
  a3 := Try.isAgg3
  z3 := Try.sizeOf3
  v3 := Try.zeroValue3
  t4 := Try.underlying4
  a4 := Try.isAgg4
  z4 := Try.sizeOf4
  v4 := Try.zeroValue4
  t22 := Try.underlying27
  a22 := Try.isAgg27
  z22 := Try.sizeOf27
  v22 := Try.zeroValue27
  t25 := Try.underlying66
  a25 := Try.isAgg66
  z25 := Try.sizeOf66
  v25 := Try.zeroValue66
  tU := Try.underlying81
  aU := Try.isAgg81
  zU := Try.sizeOf81
  vU := Try.zeroValue81
theorem stf1 : S1.StF Try.prog where
  fSwap := Try.func76
  eSwap := enters_of Try.func76 (by kernel_rfl) rfl
  fRot := Try.func74
  eRot := enters_of Try.func74 (by kernel_rfl) rfl
  fSym := Try.func68
  eSym := enters_of Try.func68 (by kernel_rfl) rfl
  fSta := Try.func54
  eSta := enters_of Try.func54 (by kernel_rfl) rfl
  fIns := Try.func67
  eIns := enters_of Try.func67 (by kernel_rfl) rfl
def encN {n : Nat} (k : Fin n) : Value := .int .i64 (k.1 : Int)
set_option maxRecDepth 100000 in
set_option maxHeartbeats 1000000 in
theorem from1_any (a : Option Addr) (len cap : Nat) (ls : List Lf) (x y : Fin len) (B : Nat) (w : World) (h : Lives w a len ls) (hB : w.cell? ⟨B, 0, none⟩ = some (.slice a len cap)) :
    Calls Try.prog 42 #[.int .i64 (x.1 : Int), .int .i64 (y.1 : Int), .pointer (some ⟨B, 0, none⟩)] w fun e w' => e = .returned (.int .i64 (cmpI (ls[x.1]?.getD lfD).fr (ls[y.1]?.getD lfD).fr)) ∧ ∃ q os', w' = grow (w.drewN q) os' := by
  obtain ⟨b, off, rfl, c1, _, _⟩ := h.at x.2
  obtain ⟨b', off', e', c2, _, _⟩ := h.at y.2
  cases e'
  have hx := x.2
  have hy := y.2
  have hm := h.2.1
  have H1 := hide (fun W' => cmp_any (ls[x.1]?.getD lfD).fr (ls[y.1]?.getD lfD).fr W')
  generalize (ls[x.1]?.getD lfD).fr = p at c1 H1 ⊢
  generalize (ls[y.1]?.getD lfD).fr = q at c2 H1 ⊢
  have zb := lt_of_cell hB
  have z1 := lt_of_cell c1
  simp only at zb z1
  clear h
  go_enter Try.func42, Try.ntmps42
  go_wp2_with fail
  go_region_held3 (fun w' => w'.cell? ⟨B, 0, none⟩ = some (.slice (some ⟨b, off, none⟩) len cap) ∧ w'.cell? ⟨b, off + x.1 * 3, none⟩ = some (.int .i64 p) ∧ w'.cell? ⟨b, off + y.1 * 3, none⟩ = some (.int .i64 q)) (refine ⟨?_, ?_, ?_⟩ <;> with_reducible (repeat (first | assumption | apply drew_cell | apply alloc_cell))) ((go_at_call 39; refine (H1.out _).mono ?_; rintro e w1 ⟨rfl, hw⟩; obtain rfl := hw.symm))
  go_wp2
  go_ret
  exact ⟨rfl, 1, #[], by rw [grow_empty]; rfl⟩
/-- Numbers below n, in order, as the sort's row. -/
def numF (n : Nat) : Array (Fin n) := (List.finRange n).toArray
theorem ext_all {α : Type} (d : Array α) (n : Nat) (h : d.size = n) : d.extract 0 n = d := by subst h; exact Array.extract_size
def ltL (ls : List Lf) {n : Nat} (x y : Fin n) : Bool := decide ((ls[x.1]?.getD lfD).fr < (ls[y.1]?.getD lfD).fr) || (decide ((ls[x.1]?.getD lfD).fr = (ls[y.1]?.getD lfD).fr) && decide (x.1 < y.1))
theorem swoL (ls : List Lf) (n : Nat) : SWO (ltL ls (n := n)) where
  irrefl x := by unfold ltL; simp
  trans x y z h1 h2 := by
    unfold ltL at *
    simp only [Bool.or_eq_true, Bool.and_eq_true, decide_eq_true_eq] at *
    omega
  ntrans x y z h1 h2 := by
    unfold ltL at *
    simp only [Bool.or_eq_false_iff, Bool.and_eq_false_iff, decide_eq_false_iff_not] at *
    omega
theorem nil_ins1 (a : Option Addr) (cap : Nat) (fv : Value) (w : World) : Calls Try.prog 67 #[.slice a 0 cap, .int .i64 0, .int .i64 0, fv] w fun e w' => e = .returned (.tuple #[]) ∧ w' = w := by
  go_enter Try.func67, Try.ntmps67
  go_wp2
  go_loopw [8] (fun v wr => v = .int .i64 1 ∧ wr = w) (fun _ _ => 0)
  case atStart => exact ⟨rfl, rfl⟩
  case round =>
    obtain ⟨rfl, rfl⟩ := hrel
    go_wp2
    go_end0
    exact ⟨rfl, rfl⟩
theorem nil_sta1 (a : Option Addr) (cap : Nat) (fv : Value) (w : World) : Calls Try.prog 54 #[.slice a 0 cap, .int .i64 0, fv] w fun e w' => e = .returned (.tuple #[]) ∧ w' = w := by
  have hc := nil_ins1 a cap fv w
  go_enter Try.func54, Try.ntmps54
  go_wp2
  go_loopw [7, 8] (fun v v2 wr => v = .int .i64 0 ∧ v2 = .int .i64 20 ∧ wr = w) (fun _ _ _ => 0)
  case atStart => exact ⟨rfl, rfl, rfl⟩
  case round =>
    obtain ⟨rfl, rfl, rfl⟩ := hrel
    go_wp2_with (go_at_call 67; refine hc.mono ?_; rintro e w1 ⟨rfl, rfl⟩)
    go_loopw [6] (fun v wr => v = .int .i64 20 ∧ wr = w1) (fun _ _ => 0)
    case atStart => exact ⟨rfl, rfl⟩
    case round =>
      obtain ⟨rfl, rfl⟩ := hrel
      go_wp2
      go_end0
      exact ⟨rfl, rfl⟩
theorem nil_sort1 (a : Option Addr) (cap : Nat) (fv : Value) (w : World) : Calls Try.prog 41 #[.slice a 0 cap, fv] w fun e w' => e = .returned (.tuple #[]) ∧ w' = w := by
  have hc := nil_sta1 a cap fv w
  go_enter Try.func41, Try.ntmps41
  go_wp2_with (go_at_call 54; refine hc.mono ?_; rintro e w1 ⟨rfl, rfl⟩)
  go_end0
  exact ⟨rfl, rfl⟩
theorem ord_of (ls : List Lf) {n : Nat} (hn : ls.length = n) (D : List (Fin n)) (hp : D.Perm (List.finRange n)) (hs : D.Pairwise (fun a b => ltL ls b a = false)) : Ord ls (D.map (·.1)) := by
  refine ⟨?_, ?_⟩
  · have := hp.map (·.1)
    rw [hn]
    refine this.trans (List.Perm.of_eq ?_)
    apply List.ext_getElem?
    intro i
    by_cases h : i < n <;> simp [h]
  · have hnd : D.Nodup := hp.nodup_iff.2 (List.nodup_finRange n)
    rw [List.pairwise_map]
    refine List.Pairwise.imp₂ (fun {a b} h1 h2 => ?_) hs hnd
    unfold ltL at h1
    simp only [Bool.or_eq_false_iff, Bool.and_eq_false_iff, decide_eq_false_iff_not] at h1
    unfold befL
    have h3 : a.1 ≠ b.1 := fun e => h2 (Fin.ext e)
    omega
set_option maxHeartbeats 2000000 in
/-- The library's stable sort, at numbers of lives. -/
theorem sortL_any (a : Option Addr) (len cap : Nat) (ls : List Lf) (B g c : Nat) (w : World) (h : Lives w a len ls) (hl : len ≤ 4096) (hB : w.cell? ⟨B, 0, none⟩ = some (.slice a len cap)) (hg : RowI w g len ((List.range len).map (fun (k : Nat) => (k : Int)))) (hgB : g ≠ B) (hga : ∀ x, a = some x → len ≠ 0 → x.block ≠ g) :
    Calls Try.prog 41 #[.slice (some ⟨g, 0, none⟩) len c, .func (.func 42) #[] #[.pointer (some ⟨B, 0, none⟩)]] w fun e w' => e = .returned (.tuple #[]) ∧ (∃ os, Ord ls os ∧ Ints w' (some ⟨g, 0, none⟩) len (os.map (fun (k : Nat) => (k : Int)))) ∧ Rw g w w' := by
  by_cases h0 : len = 0
  · subst h0
    have hls : ls = [] := List.length_eq_zero_iff.1 h.1
    refine (nil_sort1 (some ⟨g, 0, none⟩) c _ w).mono ?_
    rintro e w' ⟨rfl, rfl⟩
    exact ⟨rfl, ⟨[], ⟨by rw [hls]; simp, by simp⟩, ⟨rfl, by omega, by simp, .inl rfl⟩⟩, Rw.refl _ _⟩
  have hpos : 0 < len := by omega
  letI : Inhabited (Fin len) := ⟨⟨0, hpos⟩⟩
  have hsz : (numF len).size = len := by simp [numF]
  have hge : ∀ t, (ht : t < len) → (numF len)[t]! = ⟨t, ht⟩ := fun t ht => by
    rw [getElem!_pos (numF len) t (by rw [hsz]; exact ht)]
    simp [numF]
  have hfz : ∀ i, w.frozen? ⟨g, i, none⟩ = false := fun i => by
    obtain ⟨cc, e, _⟩ := hg
    simp [World.frozen?, e]
  have R : Row1 (encN (n := len)) w g 0 (numF len) := {
    hO := fun _ => rfl
    hH := fun t ht => ⟨by rw [hsz] at ht; rw [Nat.zero_add, hg.cell ht, hge t ht]; simp [encN, ht], by rw [Nat.zero_add]; exact hfz t⟩
    hblk := hg.lt }
  have hcmp : CmpLays1 Try.prog 42 #[.pointer (some ⟨B, 0, none⟩)] (encN (n := len)) (fun x y => cmpI (ls[x.1]?.getD lfD).fr (ls[y.1]?.getD lfD).fr) g 0 (numF len).size w := fun m os dk hs x y => by
    have hrw : Rw g w (sortWorld encN w g 0 m dk os) := Rw.sw ⟨m, os, rfl⟩ hg.lt
    refine from1_any a len cap ls x y B (sortWorld encN w g 0 m dk os) ?_ ?_
    · obtain ⟨h1, h2, h3⟩ := h
      refine ⟨h1, h2, ?_⟩
      rcases h3 with h3 | ⟨b, off, e, h3⟩
      · exact .inl h3
      · have hne : b ≠ g := hga _ e h0
        exact .inr ⟨b, off, e, fun j hj => ⟨(hrw.cell (lt_of_cell (h3 j hj).1) hne).trans (h3 j hj).1, (hrw.cell (lt_of_cell (h3 j hj).2.1) hne).trans (h3 j hj).2.1, (hrw.cell (lt_of_cell (h3 j hj).2.2) hne).trans (h3 j hj).2.2⟩⟩
    · exact (hrw.cell (lt_of_cell hB) hgB.symm).trans hB
  have hc := S1.stable_k Try.prog stp1 stf1 (encN (n := len)) (fun x y => cmpI (ls[x.1]?.getD lfD).fr (ls[y.1]?.getD lfD).fr) (ltL ls) (swoL ls len) 42 #[.pointer (some ⟨B, 0, none⟩)] (enters_of Try.func42 (by kernel_rfl) rfl) g 0 c (numF len) w hcmp R (fun x => x.1) (fun x y hxy => by
    unfold ltOf ltL cmpI
    have e1 : decide (y.1 < x.1) = false := decide_eq_false (by omega)
    rw [e1, Bool.and_false, Bool.or_false]
    by_cases h1 : (ls[y.1]?.getD lfD).fr < (ls[x.1]?.getD lfD).fr
    · simp [h1]
    · by_cases h2 : (ls[x.1]?.getD lfD).fr < (ls[y.1]?.getD lfD).fr <;> simp [h1, h2]) (fun t ht => by
    rw [hsz] at ht
    rw [hge t ht]) w (SW.start R.hH) (by rw [hsz]; omega)
  rw [hsz] at hc
  have HR := hide R
  have HG := hide hg
  have HL := hide h.1
  clear R h hB hg hga hcmp hge hfz
  go_enter Try.func41, Try.ntmps41
  go_wp2_with (go_at_call 54; refine hc.mono ?_; rintro e w1 ⟨rfl, d, sw, hp, ho⟩)
  go_end0
  have hd : d.size = len := by rw [hp.1, hsz]
  have hD : d.toList.Perm (List.finRange len) := by
    have := hp.2.2
    rw [ext_all (numF len) len hsz, ext_all d len hd] at this
    simpa [numF] using this
  have hP : d.toList.Pairwise (fun a b => ltL ls b a = false) := by
    rw [List.pairwise_iff_getElem]
    intro i j hi hj hij
    have hi' : i < d.size := by simpa using hi
    have hj' : j < d.size := by simpa using hj
    have := ho i j (Nat.zero_le _) hij (by omega)
    rw [getElem!_pos d i hi', getElem!_pos d j hj'] at this
    simpa using this
  have hrw := Rw.sw sw HG.out.lt
  refine ⟨rfl, ⟨_, ord_of ls HL.out d.toList hD hP, ?_⟩, hrw⟩
  refine ⟨by simp [hd], by omega, fun x hx => ?_, .inr ⟨g, 0, rfl, fun j hj => ?_⟩⟩
  · simp only [List.map_map, List.mem_map] at hx
    obtain ⟨y, _, rfl⟩ := hx
    have := y.2
    simp only [Function.comp_apply]
    omega
  · have hj' : j < d.size := by omega
    have hh := (sw.holds HG.out.lt HR.out.hH (by rw [hd, hsz])) j hj'
    rw [hh.1, getElem!_pos d j hj']
    simp [encN, hj']
theorem rowI_nums (w : World) (g len : Nat) (h : w.rowIs g 3 len (fun j => .int .i64 (j : Int))) : RowI w g len ((List.range len).map (fun (k : Nat) => (k : Int))) := by
  obtain ⟨c, h1, h2, h3⟩ := h
  exact ⟨c, h1, h2, fun i hi => by rw [h3 i hi]; simp [hi]⟩
set_option maxHeartbeats 2000000 in
theorem byFrom_any (a : Option Addr) (len cap : Nat) (ls : List Lf) (w : World) (h : Lives w a len ls) (hl : len ≤ 4096) :
    Calls Try.prog 26 #[.slice a len cap] w fun e w' => (∃ g os, e = .returned (.slice (some ⟨g, 0, none⟩) len len) ∧ Ord ls os ∧ Ints w' (some ⟨g, 0, none⟩) len (os.map (fun (k : Nat) => (k : Int))) ∧ w.heap.size ≤ g ∧ g < w'.heap.size) ∧ Below w.heap.size w w' := by
  have hmk := run_make_row' (P := Try.prog) 27 3 (.int .i64 0) 8 Try.underlying27 info_int rfl .i64 .i64 len (by omega) (by omega) (w.alloc (.cells #[.slice a len cap] 22))
  have hB1 := bl_on (bl_new (w := w) (.cells #[.slice a len cap] 22)) (bl_new (.cells (madeCells #[.int .i64 0] len) 3))
  have hR1 := World.rowIs_made (w.alloc (.cells #[.slice a len cap] 22)) (.int .i64 0) len 3
  rw [World.size_alloc] at hR1
  have hc1 : ((w.alloc (.cells #[.slice a len cap] 22)).alloc (.cells (madeCells #[.int .i64 0] len) 3)).cell? ⟨w.heap.size, 0, none⟩ = some (.slice a len cap) := by simp
  have H := hide h
  have HB1 := hide hB1
  have HR1 := hide hR1
  have HC1 := hide hc1
  clear h hB1 hR1 hc1
  go_enter Try.func26, Try.ntmps26
  go_wp2
  go_loopw [10] (fun i wr => ∃ k : Nat, k ≤ len ∧ i = .int .i64 k ∧ wr.rowIs (w.heap.size + 1) 3 len (fun j => .int .i64 (if j < k then (j : Int) else 0)) ∧ wr.cell? ⟨w.heap.size, 0, none⟩ = some (.slice a len cap) ∧ Below w.heap.size w wr) (fun i _ => len - (intOf i).toNat)
  case atStart => exact ⟨0, Nat.zero_le _, rfl, HR1.out.congr (fun i hi => by simp), HC1.out, HB1.out⟩
  case round =>
    obtain ⟨k, hk, rfl, hr, hc, hB⟩ := hrel
    have HB := hide hB
    have HC := hide hc
    have HR := hide hr
    have zr := hr.lt
    clear hB hc hr hmk
    by_cases hlt : k < len
    · have f1 := HR.out.frozen k
      have c1 := HR.out.cell hlt
      have HR2 := hide (HR.out.set k (.int .i64 (k : Int)))
      have HC2 : Hid ((wr.setCell ⟨w.heap.size + 1, k, none⟩ (.int .i64 (k : Int))).cell? ⟨w.heap.size, 0, none⟩ = some (.slice a len cap)) := by
        rw [Hid, World.cell?_setCell_other _ _ _ _ (by intro e; simp at e)]; exact HC.out
      have HB2 := hide (HB.out.setCell (p := ⟨w.heap.size + 1, k, none⟩) (by simp) (.int .i64 (k : Int)))
      go_wp2
      go_roundw
      case rel => exact ⟨k + 1, by omega, by go_num, HR2.out.congr (fun i hi => by
        by_cases e : i = k
        · subst e; simp
        · have : i < k + 1 ↔ i < k := by omega
          simp [e, this]), HC2.out, HB2.out⟩
      case measure => simp [intOf]; omega
    · obtain rfl : k = len := by omega
      have hrow := rowI_nums wr (w.heap.size + 1) k (HR.out.congr (fun i hi => by simp [hi]))
      have HS := hide (sortL_any a k cap ls w.heap.size (w.heap.size + 1) k wr (H.out.below HB.out) hl HC.out hrow (by omega) (fun x e hk0 => by
        obtain ⟨b, off, e2, c1, _, _⟩ := H.out.at (show 0 < k by omega)
        rw [e] at e2
        cases e2
        have := lt_of_cell c1
        simp only at this ⊢
        omega))
      clear hrow
      go_wp2_with (go_at_call 41; refine HS.out.mono ?_; rintro e w2 ⟨rfl, ⟨os, o1, o2⟩, hr⟩; have HO := hide (⟨o1, o2⟩ : Ord ls os ∧ Ints w2 (some ⟨w.heap.size + 1, 0, none⟩) k (os.map (fun (k : Nat) => (k : Int)))); have HRW := hide hr; clear o1 o2 hr)
      go_ret
      have hsz := HRW.out.grown.size
      exact ⟨⟨_, os, rfl, HO.out.1, HO.out.2, by omega, by omega⟩, HB.out.trans (HRW.out.below (by omega) HB.out.size)⟩
end Go.Proofs.Ytnncalhpbfmgoaa.V
