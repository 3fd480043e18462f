/-
  Contract: the stable sort of those below a node (room.tree.sort$1, slices.SortStableFunc).
-/
import Derived.Test.YtnncalhpbfmgoaaRmBel
import Derived.Test.YtnncalhpbfmgoaaRmFrom
namespace Go.Proofs.Ytnncalhpbfmgoaa.V
open Go Go.Shelf Go.RowKit Go.Lib Go.Sort Go.Proofs Go.Proofs.Ytnncalhpbfmgoaa.S Go.Proofs.Ytnncalhpbfmgoaa.S1
set_option linter.unusedVariables false

def atK (l : List Nat) (i : Nat) : Nat := l[i]?.getD 0
def ltK (bl : Nat → Int) (l : List Nat) {n : Nat} (x y : Fin n) : Bool := decide (bl (atK l y.1) < bl (atK l x.1)) || (decide (bl (atK l x.1) = bl (atK l y.1)) && decide (x.1 < y.1))
theorem swoK (bl : Nat → Int) (l : List Nat) (n : Nat) : SWO (ltK bl l (n := n)) where
  irrefl x := by unfold ltK; simp
  trans x y z h1 h2 := by
    unfold ltK at *
    simp only [Bool.or_eq_true, Bool.and_eq_true, decide_eq_true_eq] at *
    omega
  ntrans x y z h1 h2 := by
    unfold ltK at *
    simp only [Bool.or_eq_false_iff, Bool.and_eq_false_iff, decide_eq_false_iff_not] at *
    omega
set_option maxRecDepth 100000 in
set_option maxHeartbeats 1000000 in
theorem sort1_any (bl : Nat → Int) (n C G x y : Nat) (w : World) (hx : x < n) (hy : y < n) (hn : n ≤ 4096) (hC : w.cell? ⟨C, 0, none⟩ = some (.slice (some ⟨G, 0, none⟩) n n)) (hG : ∀ j, j < n → w.cell? ⟨G, j, none⟩ = some (.int .i64 (bl j))) :
    Calls Try.prog 49 #[nv x, nv y, .pointer (some ⟨C, 0, none⟩)] w fun e w' => e = .returned (.int .i64 (cmpI (bl y) (bl x))) ∧ ∃ q os', w' = grow (w.drewN q) os' := by
  have c1 := hG x hx
  have c2 := hG y hy
  have H1 := hide (fun W' => cmp_any (bl y) (bl x) W')
  generalize bl x = p at c1 H1 ⊢
  generalize bl y = q at c2 H1 ⊢
  have zb := lt_of_cell hC
  have z1 := lt_of_cell c1
  simp only at zb z1
  have hxz : (x : Int) < (n : Int) := by omega
  have hyz : (y : Int) < (n : Int) := by omega
  unfold nv
  clear hG
  go_enter Try.func49, Try.ntmps49
  go_wp2_with fail
  go_region_held3 (fun w' => w'.cell? ⟨C, 0, none⟩ = some (.slice (some ⟨G, 0, none⟩) n n) ∧ w'.cell? ⟨G, x, none⟩ = some (.int .i64 p) ∧ w'.cell? ⟨G, y, none⟩ = some (.int .i64 q)) (refine ⟨?_, ?_, ?_⟩ <;> with_reducible (repeat (first | assumption | apply drew_cell | apply alloc_cell))) ((go_at_call 39; refine (H1.out _).mono ?_; rintro e w1 ⟨rfl, hw⟩; obtain rfl := hw.symm))
  go_wp2
  go_ret
  exact ⟨rfl, 1, #[], by rw [grow_empty]; rfl⟩
theorem sw_size {α : Type} [Inhabited α] {enc : α → Value} {w0 W : World} {g off : Nat} {d : Array α} {cur : Array Value} {t : TypeId} {z : Nat × Nat} (h : SW enc w0 g off d W) (e : w0.heap[g]? = some (.cells cur t z)) : ∃ cur', W.heap[g]? = some (.cells cur' t z) ∧ cur'.size = cur.size := by
  have hg := (Array.getElem?_eq_some_iff.1 e).1
  obtain ⟨n, os, rfl⟩ := h
  refine ⟨putCells enc off d cur, ?_, by simp [putCells]⟩
  unfold sortWorld putRow mapBlock
  show (w0.heap.modify g _ ++ os)[g]? = _
  rw [Array.getElem?_append_left (by simpa using hg), Array.getElem?_modify, if_pos rfl, e]
  rfl
set_option maxRecDepth 100000 in
set_option maxHeartbeats 2000000 in
/-- The library's stable sort, at those below a node. -/
theorem sortK_any (bl : Nat → Int) (n C G g c len : Nat) (l : List Nat) (w : World) (hlen : l.length = len) (hrow : ∀ j, j < len → w.cell? ⟨g, j, none⟩ = some (nv (atK l j))) (hfz : ∀ i, w.frozen? ⟨g, i, none⟩ = false) (hgl : g < w.heap.size) (hl : len ≤ 4096) (hk : ∀ j, j < len → atK l j < n) (hn : n ≤ 4096)
    (hC : w.cell? ⟨C, 0, none⟩ = some (.slice (some ⟨G, 0, none⟩) n n)) (hG : ∀ j, j < n → w.cell? ⟨G, j, none⟩ = some (.int .i64 (bl j))) (hgC : g ≠ C) (hgG : g ≠ G) (hpos : 0 < len) :
    Calls Try.prog 41 #[.slice (some ⟨g, 0, none⟩) len c, .func (.func 49) #[] #[.pointer (some ⟨C, 0, none⟩)]] w fun e w' => e = .returned (.tuple #[]) ∧ (∃ D : List (Fin len), D.Perm (List.finRange len) ∧ D.Pairwise (fun a b => ltK bl l b a = false) ∧ ∀ j, j < len → w'.cell? ⟨g, j, none⟩ = some (nv (atK (D.map fun i => atK l i.1) j))) ∧ Rw g w w' ∧ ∀ cur t z, w.heap[g]? = some (.cells cur t z) → ∃ cur', w'.heap[g]? = some (.cells cur' t z) ∧ cur'.size = cur.size := by
  letI : Inhabited (Fin len) := ⟨⟨0, hpos⟩⟩
  have hsz : (numF len).size = len := by simp [numF]
  have hge : ∀ t, (ht : t < len) → (numF len)[t]! = ⟨t, ht⟩ := fun t ht => by
    rw [getElem!_pos (numF len) t (by rw [hsz]; exact ht)]
    simp [numF]
  have R : Row1 (fun k : Fin len => nv (atK l k.1)) w g 0 (numF len) := {
    hO := fun _ => rfl
    hH := fun t ht => ⟨by rw [hsz] at ht; rw [Nat.zero_add, hrow t ht, hge t ht], by rw [Nat.zero_add]; exact hfz t⟩
    hblk := hgl }
  have hcmp : CmpLays1 Try.prog 49 #[.pointer (some ⟨C, 0, none⟩)] (fun k : Fin len => nv (atK l k.1)) (fun x y => cmpI (bl (atK l y.1)) (bl (atK l x.1))) g 0 (numF len).size w := fun m os dk hs x y => by
    have hrw : Rw g w (sortWorld (fun k : Fin len => nv (atK l k.1)) w g 0 m dk os) := Rw.sw ⟨m, os, rfl⟩ hgl
    refine sort1_any bl n C G _ _ (sortWorld (fun k : Fin len => nv (atK l k.1)) w g 0 m dk os) (hk _ x.2) (hk _ y.2) hn ?_ ?_
    · exact (hrw.cell (lt_of_cell hC) hgC.symm).trans hC
    · exact fun j hj => (hrw.cell (lt_of_cell (hG j hj)) hgG.symm).trans (hG j hj)
  have hc := S1.stable_k Try.prog stp1 stf1 (fun k : Fin len => nv (atK l k.1)) (fun x y => cmpI (bl (atK l y.1)) (bl (atK l x.1))) (ltK bl l) (swoK bl l len) 49 #[.pointer (some ⟨C, 0, none⟩)] (enters_of Try.func49 (by kernel_rfl) rfl) g 0 c (numF len) w hcmp R (fun x => x.1) (fun x y hxy => by
    unfold ltOf ltK cmpI
    have e1 : decide (y.1 < x.1) = false := decide_eq_false (by omega)
    rw [e1, Bool.and_false, Bool.or_false]
    by_cases h1 : bl (atK l x.1) < bl (atK l y.1)
    · simp [h1]
    · by_cases h2 : bl (atK l y.1) < bl (atK l x.1) <;> simp [h1, h2]) (fun t ht => by
    rw [hsz] at ht
    rw [hge t ht]) w (SW.start R.hH) (by rw [hsz]; omega)
  rw [hsz] at hc
  have HR := hide R
  have HGL := hide hgl
  clear R hC hG hrow hcmp hge hfz hk
  go_enter Try.func41, Try.ntmps41
  go_wp2_with (go_at_call 54; refine hc.mono ?_; rintro e w1 ⟨rfl, d, sw, hp, ho⟩)
  go_end0
  have hd : d.size = len := by rw [hp.1, hsz]
  have hD : d.toList.Perm (List.finRange len) := by
    have := hp.2.2
    rw [ext_all (numF len) len hsz, ext_all d len hd] at this
    simpa [numF] using this
  have hP : d.toList.Pairwise (fun a b => ltK bl l b a = false) := by
    rw [List.pairwise_iff_getElem]
    intro i j hi hj hij
    have hi' : i < d.size := by simpa using hi
    have hj' : j < d.size := by simpa using hj
    have := ho i j (Nat.zero_le _) hij (by omega)
    rw [getElem!_pos d i hi', getElem!_pos d j hj'] at this
    simpa using this
  refine ⟨rfl, ⟨d.toList, hD, hP, fun j hj => ?_⟩, Rw.sw sw HGL.out, fun cur t z e => sw_size sw e⟩
  have hj' : j < d.size := by omega
  have hh := (sw.holds HGL.out HR.out.hH (by rw [hd, hsz])) j hj'
  rw [Nat.zero_add] at hh
  rw [hh.1, getElem!_pos d j hj']
  simp [atK, hj']
end Go.Proofs.Ytnncalhpbfmgoaa.V
