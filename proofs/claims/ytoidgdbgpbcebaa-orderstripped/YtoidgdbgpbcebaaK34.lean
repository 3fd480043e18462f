/-
  A row of spots in a block of its own: read, written, sorted. slices.SortStableFunc at the program's spots, by their times.
-/
import Derived.Test.YtoidgdbgpbcebaaK27
import Derived.Test.YtoidgdbgpbcebaaK31
import Derived.Test.YtoidgdbgpbcebaaK32
import Derived.Test.YtoidgdbgpbcebaaK33
import Derived.Lib.LazyBuf
import Derived.Deep.Upon
namespace Go.Proofs.Ytoidgdbgpbcebaa.V
open Go Go.Shelf Go.RowKit Go.Lib Go.Sort Go.Proofs Go.Proofs.Ytoidgdbgpbcebaa.S
set_option linter.unusedVariables false

theorem Rw.keepF {g N : Nat} {W V : World} (h : Rw g W V) {cur : Array Value} {z : Nat × Nat} (hg : W.heap[g]? = some (.cells cur 59 z)) : KeepF N W V := by
  refine ⟨fun b c t _ h2 h3 => h.grown.block b (Array.getElem?_eq_some_iff.1 h3).1 (fun e => ?_), h.grown.size⟩
  cases e
  rw [hg] at h3
  cases h3
  exact absurd h2 (by decide)
/-- A row of n spots in block g. -/
structure RowS (W : World) (g n : Nat) (us : Nat → TW) : Prop where
  blk : ∃ cur, W.heap[g]? = some (.cells cur 59 (0, 0))
  at_ : ∀ j, j < n → ∀ i, i < 15 → W.cell? ⟨g, j * 15 + i, none⟩ = (us j).cs[i]?
theorem RowS.lt {W : World} {g n : Nat} {us : Nat → TW} (h : RowS W g n us) : g < W.heap.size := by
  obtain ⟨cur, e⟩ := h.blk
  exact (Array.getElem?_eq_some_iff.1 e).1
theorem RowS.free {W : World} {g n : Nat} {us : Nat → TW} (h : RowS W g n us) (i : Nat) : W.frozen? ⟨g, i, none⟩ = false := by
  obtain ⟨cur, e⟩ := h.blk
  simp [World.frozen?, e]
theorem RowS.below {W V : World} {g n : Nat} {us : Nat → TW} (h : RowS W g n us) (hb : Below W.heap.size W V) : RowS V g n us := by
  have e := hb.block g h.lt
  obtain ⟨cur, e1⟩ := h.blk
  exact ⟨⟨cur, e.trans e1⟩, fun j hj i hi => (World.cell?_of_block (w := W) (w' := V) (a := ⟨g, j * 15 + i, none⟩) e).trans (h.at_ j hj i hi)⟩
theorem RowS.rw_ {W V : World} {g g2 n : Nat} {us : Nat → TW} (h : RowS W g n us) (hb : Rw g2 W V) (hne : g ≠ g2) : RowS V g n us := by
  have e := hb.grown.block g h.lt (fun e => hne (Option.some.inj e))
  obtain ⟨cur, e1⟩ := h.blk
  exact ⟨⟨cur, e.trans e1⟩, fun j hj i hi => (World.cell?_of_block (w := W) (w' := V) (a := ⟨g, j * 15 + i, none⟩) e).trans (h.at_ j hj i hi)⟩
theorem RowS.congr {W : World} {g n : Nat} {us vs : Nat → TW} (h : RowS W g n us) (e : ∀ j, j < n → us j = vs j) : RowS W g n vs := ⟨h.blk, fun j hj i hi => by rw [← e j hj]; exact h.at_ j hj i hi⟩
theorem RowS.tat {W : World} {g n o : Nat} {us : Nat → TW} (h : RowS W g n us) {j : Nat} (hj : o + j < n) : ∀ i, i < 15 → W.cell? ⟨g, o * 15 + j * 15 + i, none⟩ = (us (o + j)).cs[i]? := fun i hi => by
  have := h.at_ (o + j) hj i hi
  rw [Nat.add_mul] at this
  exact this
theorem RowS.cell {W : World} {g n : Nat} {us : Nat → TW} (h : RowS W g n us) {t : Nat} (ht : t < n * 15) : ∃ v, W.cell? ⟨g, t, none⟩ = some v := by
  have h1 := h.at_ (t / 15) (by omega) (t % 15) (by omega)
  rw [show t / 15 * 15 + t % 15 = t by omega] at h1
  exact ⟨(us (t / 15)).cs[t % 15]'(by show t % 15 < 15; omega), h1.trans (Array.getElem?_eq_getElem _)⟩
/-- Spots written into the row. -/
theorem RowS.set {W : World} {g n : Nat} {us : Nat → TW} (h : RowS W g n us) (o : Nat) (l : List TW) (hl : o + l.length ≤ n) : RowS (W.setCells g (o * 15) (l.flatMap twCs)) g n (fun j => if o ≤ j ∧ j < o + l.length then l[j - o]?.getD twD else us j) := by
  obtain ⟨cur, e⟩ := h.blk
  refine ⟨setCells_heap g _ _ W cur _ _ e, fun j hj i hi => ?_⟩
  have hlen := flat_len l
  by_cases c : o ≤ j ∧ j < o + l.length
  · rw [if_pos c]
    have hin := World.cell?_setCells_in g (l.flatMap twCs) (o * 15) W (fun t ht => by
      obtain ⟨v, hv⟩ := h.cell (t := o * 15 + t) (by rw [hlen] at ht; omega)
      rw [hv]
      rfl) ((j - o) * 15 + i) (by rw [hlen]; omega)
    rw [show o * 15 + ((j - o) * 15 + i) = j * 15 + i by omega] at hin
    rw [hin]
    have e2 := flat_get l (j - o) i hi (by omega)
    rw [← e2]
    simp [hlen, show (j - o) * 15 + i < l.length * 15 by omega]
  · rw [if_neg c, World.cell?_setCells_out g (l.flatMap twCs) (o * 15) W ⟨g, j * 15 + i, none⟩ (fun _ _ => by simp only [hlen]; omega)]
    exact h.at_ j hj i hi
end Go.Proofs.Ytoidgdbgpbcebaa.V
namespace Go.Proofs.Ytoidgdbgpbcebaa.V
open Go Go.Shelf Go.RowKit Go.Lib Go.Sort Go.Proofs Go.Proofs.Ytoidgdbgpbcebaa.S
set_option linter.unusedVariables false

theorem stp : StP Try.prog 15 where
  mixed := by kernel_rfl
  t3 := Try.underlying3
  a3 := Try.isAgg3
  z3 := Try.sizeOf3
  v3 := Try.zeroValue3
  t4 := Try.underlying4
  a4 := Try.isAgg4
  z4 := Try.sizeOf4
  v4 := Try.zeroValue4
  t22 := Try.underlying48
  a22 := Try.isAgg48
  z22 := Try.sizeOf48
  v22 := Try.zeroValue48
  t25 := Try.underlying84
  a25 := Try.isAgg84
  z25 := Try.sizeOf84
  v25 := Try.zeroValue84
  tU := Try.underlying166
  aU := Try.isAgg166
  zU := Try.sizeOf166
  vU := Try.zeroValue166
  aE := Try.isAgg59
  zE := Try.sizeOf59
theorem stf : StF Try.prog where
  fSwap := Try.func118
  eSwap := enters_of Try.func118 (by kernel_rfl) rfl
  fRot := Try.func114
  eRot := enters_of Try.func114 (by kernel_rfl) rfl
  fSym := Try.func102
  eSym := enters_of Try.func102 (by kernel_rfl) rfl
  fSta := Try.func78
  eSta := enters_of Try.func78 (by kernel_rfl) rfl
  fIns := Try.func101
  eIns := enters_of Try.func101 (by kernel_rfl) rfl
/-- A spot's words, and the spot. -/
abbrev PT := TW × Spn
def ptD : PT := (twD, spD)
instance : Inhabited PT := ⟨ptD⟩
/-- Words of the spots of a list. -/
def wds (L : List PT) (j : Nat) : TW := (L[j]?.getD ptD).1
def encT (x : PT × Nat) : List Value := twCs x.1.1
theorem cmpLaysT (blk off size : Nat) (w : World) : CmpLays Try.prog 31 #[] encT 15 (fun x y => cmpT x.1.1.tm y.1.1.tm) blk off size w := fun m os dk hs x y => by
  have h := byTime_grow x.1.1 y.1.1 (sortWorldK encT 15 w blk off m dk os)
  have e : ∀ z : PT × Nat, Value.agg (encT z).toArray = z.1.1.v := fun z => by
    unfold encT twCs TW.v
    simp
  rw [e x, e y]
  simpa using h
theorem rowK_of {w : World} {g : Nat} {L : List PT} (h : RowS w g L.length (wds L)) : RowK encT 15 w g 0 L.zipIdx.toArray where
  hk x := rfl
  h1 x v hv := by
    unfold encT twCs TW.cs at hv
    simp only [List.mem_cons, List.not_mem_nil, or_false] at hv
    rcases hv with rfl | rfl | rfl | rfl | rfl | rfl | rfl | rfl | rfl | rfl | rfl | rfl | rfl | rfl | rfl <;> rfl
  hH := fun t ht => by
    have hs : L.zipIdx.toArray.size = L.length := by simp
    rw [size_flatK, hs] at ht
    refine ⟨?_, ?_⟩
    · rw [get_flatK _ _ _ _ (by rw [hs]; exact ht)]
      have hj : t / 15 < L.length := by omega
      have h1 := h.at_ (t / 15) hj (t % 15) (by omega)
      rw [show t / 15 * 15 + t % 15 = t by omega] at h1
      rw [Nat.zero_add, h1]
      have e1 : L.zipIdx.toArray[t / 15]! = (L[t / 15], t / 15) := by
        rw [getElem!_pos _ _ (by rw [hs]; exact hj)]
        simp [List.getElem_zipIdx]
      rw [e1]
      unfold encT twCs wds
      have e2 : L[t / 15]?.getD ptD = L[t / 15] := by simp [hj]
      rw [e2]
      have h15 : t % 15 < 15 := by omega
      show (L[t / 15].1.cs)[t % 15]? = some (L[t / 15].1.cs.toList)[t % 15]!
      rw [Array.getElem?_eq_getElem (show t % 15 < L[t / 15].1.cs.size from h15), getElem!_pos _ _ (by show t % 15 < 15; exact h15)]
      simp
    · rw [Nat.zero_add]
      exact h.free t
  hblk := h.lt
theorem cmpT_lt (f g : Nat → Int) : decide (cmpT f g < 0) = befB f g := cmpT_neg f g
set_option maxRecDepth 100000 in
theorem sort_any (g cap : Nat) (L : List PT) (w : World) (h : RowS w g L.length (wds L)) (hsz : L.length ≤ 1000000) :
    Calls Try.prog 49 #[.slice (some ⟨g, 0, none⟩) L.length cap, .func (.func 31) #[] #[]] w fun e w' => e = .returned (.tuple #[]) ∧ ∃ L' : List PT, RowS w' g L.length (wds L') ∧ Rw g w w' ∧ L.Perm L' ∧ (∀ τ, L.filter (fun x => eq8 x.1.tm τ) = L'.filter (fun x => eq8 x.1.tm τ)) ∧ L'.Pairwise (fun a b => befB b.1.tm a.1.tm = false) := by
  have R := rowK_of h
  have hs : L.zipIdx.toArray.size = L.length := by simp
  have hc := stable_k Try.prog 15 stp stf encT (fun x y => cmpT x.1.1.tm y.1.1.tm) (ltI (fun x : PT => x.1.tm)) (swo_ltI _) 31 #[] (enters_of Try.func31 (by kernel_rfl) rfl) g 0 cap L.zipIdx.toArray w (cmpLaysT g 0 _ w) R (fun x => x.2) (fun x y hxy => by
    unfold ltOf ltI
    rw [cmpT_lt]
    have : decide (y.2 < x.2) = false := decide_eq_false (by omega)
    rw [this, Bool.and_false, Bool.or_false]) (fun t ht => by
    rw [getElem!_pos L.zipIdx.toArray t ht]
    simp [List.getElem_zipIdx]) w (SWK.start R.hH) (by rw [hs]; omega)
  rw [hs] at hc
  have HR := hide R
  have HH := hide h
  have hL : (L.length : Int) ≤ 1000000 := by omega
  clear R h
  go_enter Try.func49, Try.ntmps49
  go_wp2_with (go_at_call 78; refine hc.mono ?_; rintro e w1 ⟨rfl, d, sw, hp, ho⟩)
  go_end0
  have hd : d.size = L.length := by rw [hp.1, hs]
  have hD : L.zipIdx.Perm d.toList := by
    have := hp.2.2
    rw [show (L.zipIdx.toArray.extract 0 L.length).toList = L.zipIdx by rw [← hs, Array.extract_size], show d.extract 0 L.length = d by rw [← hd, Array.extract_size]] at this
    exact this.symm
  have hP : d.toList.Pairwise (fun a b => ltI (fun x : PT => x.1.tm) b a = false) := by
    rw [List.pairwise_iff_getElem]
    intro i j hi hj hij
    have hi' : i < d.size := by simpa using hi
    have hj' : j < d.size := by simpa using hj
    have := ho i j (Nat.zero_le _) hij (by omega)
    rw [getElem!_pos d i hi', getElem!_pos d j hj'] at this
    simpa using this
  obtain ⟨s1, s2, s3⟩ := stab_of (fun x : PT => x.1.tm) L d.toList hD hP
  refine ⟨rfl, d.toList.map (·.1), ⟨?_, fun j hj i hi => ?_⟩, Rw.swk sw HH.out.lt, s1, s2, s3⟩
  · obtain ⟨cur, e⟩ := HH.out.blk
    exact (Rw.swk sw HH.out.lt).blk cur _ _ e
  · have hj' : j < d.size := by omega
    have hc := (HoldsK.cell (sw.holds HH.out.lt HR.out.hH (by rw [hd, hs])) hj' hi).1
    rw [Nat.zero_add] at hc
    rw [hc, getElem!_pos d j hj']
    unfold wds encT twCs
    have e2 : (d.toList.map (·.1))[j]?.getD ptD = d[j].1 := by simp [hj']
    rw [e2, getElem!_pos _ _ (by show i < 15; exact hi), Array.getElem?_eq_getElem (show i < d[j].1.1.cs.size from hi)]
    simp
set_option maxRecDepth 100000 in
theorem ins_nil (a : Option Addr) (cap : Nat) (fv : Value) (w : World) : Calls Try.prog 101 #[.slice a 0 cap, .int .i64 0, .int .i64 0, fv] w fun e w' => e = .returned (.tuple #[]) ∧ w' = w := by
  go_enter Try.func101, Try.ntmps101
  go_wp2
  go_loopw [8] (fun v wr => v = .int .i64 1 ∧ wr = w) (fun _ _ => 0)
  case atStart => exact ⟨rfl, rfl⟩
  case round =>
    obtain ⟨rfl, rfl⟩ := hrel
    go_wp2
    go_end0
    exact ⟨rfl, rfl⟩
set_option maxRecDepth 100000 in
theorem sta_nil (a : Option Addr) (cap : Nat) (fv : Value) (w : World) : Calls Try.prog 78 #[.slice a 0 cap, .int .i64 0, fv] w fun e w' => e = .returned (.tuple #[]) ∧ w' = w := by
  have hc := ins_nil a cap fv w
  go_enter Try.func78, Try.ntmps78
  go_wp2
  go_loopw [7, 8] (fun v v2 wr => v = .int .i64 0 ∧ v2 = .int .i64 20 ∧ wr = w) (fun _ _ _ => 0)
  case atStart => exact ⟨rfl, rfl, rfl⟩
  case round =>
    obtain ⟨rfl, rfl, rfl⟩ := hrel
    go_wp2_with (go_at_call 101; refine hc.mono ?_; rintro e w1 ⟨rfl, rfl⟩)
    go_loopw [6] (fun v wr => v = .int .i64 20 ∧ wr = w1) (fun _ _ => 0)
    case atStart => exact ⟨rfl, rfl⟩
    case round =>
      obtain ⟨rfl, rfl⟩ := hrel
      go_wp2
      go_end0
      exact ⟨rfl, rfl⟩
set_option maxRecDepth 100000 in
theorem sort_nil (a : Option Addr) (cap : Nat) (fv : Value) (w : World) : Calls Try.prog 49 #[.slice a 0 cap, fv] w fun e w' => e = .returned (.tuple #[]) ∧ w' = w := by
  have hc := sta_nil a cap fv w
  go_enter Try.func49, Try.ntmps49
  go_wp2_with (go_at_call 78; refine hc.mono ?_; rintro e w1 ⟨rfl, rfl⟩)
  go_end0
  exact ⟨rfl, rfl⟩
end Go.Proofs.Ytoidgdbgpbcebaa.V
