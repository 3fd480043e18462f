/-
  A row of spots in a block of its own: read, written, sorted. slices.SortStableFunc at the program's spots, by their times. slices.Delete at the program's spots: one is taken out of a part of a row. Who is next: order.picker and what it hands back. order.inTurn: what stands while spots are taken out one by one. order.inTurn: the spots in the order in which they are done. order.inTurn: its contract. Statements that do what is done at spots. slices.Chunk of the program's spots. Towards order.Run: memory, its box, spots beside it. order.Run: where something is wrong; the spots as they are handed on. order.inTurn on the list that order.spots hands back. order.Run where nothing is wrong: what its loop rests on. order.Run where nothing is wrong. order.Run: its contract. Contract: the law's alive.
-/
import Derived.Test.YtkbdnhchlkafnaaK24
import Derived.Test.YtkbdnhchlkafnaaK25
import Derived.Test.YtkbdnhchlkafnaaK20
import Derived.Lib.LazyBuf
import Derived.Deep.Upon
import Derived.Deep.AppendSrc
import Derived.Test.YtkbdnhchlkafnaaK12
import Derived.OwnWalk
import Derived.Test.YtkbdnhchlkafnaaK16
import Derived.Test.YtkbdnhchlkafnaaK19
import Derived.Test.YtkbdnhchlkafnaaK10
namespace Go.Proofs.Ytkbdnhchlkafnaa.V
open Go Go.Shelf Go.RowKit Go.Lib Go.Sort Go.Proofs Go.Proofs.Ytkbdnhchlkafnaa.S
set_option linter.unusedVariables false

/-- Block g alone may have been written, and new blocks laid. -/
structure Rw (g : Nat) (W V : World) : Prop where
  grown : W.grownBy V (some g)
  blk : ∀ cur t z, W.heap[g]? = some (.cells cur t z) → ∃ cur', V.heap[g]? = some (.cells cur' t z)
theorem Rw.refl (g : Nat) (W : World) : Rw g W W := ⟨World.grownBy.refl W _, fun cur t z h => ⟨cur, h⟩⟩
theorem Rw.trans {g : Nat} {W V U : World} (h : Rw g W V) (k : Rw g V U) : Rw g W U := by
  refine ⟨⟨k.grown.os.trans h.grown.os, k.grown.tape.trans h.grown.tape, k.grown.output.trans h.grown.output, Nat.le_trans h.grown.size k.grown.size, fun i hi hne => (k.grown.block i (Nat.lt_of_lt_of_le hi h.grown.size) hne).trans (h.grown.block i hi hne)⟩, fun cur t z e => ?_⟩
  obtain ⟨c1, e1⟩ := h.blk cur t z e
  exact k.blk c1 t z e1
theorem Rw.of_below {g : Nat} {W V : World} (hg : g < W.heap.size) (h : Below W.heap.size W V) : Rw g W V :=
  ⟨⟨h.os, h.tape, h.output, h.size, fun i hi _ => h.block i hi⟩, fun cur t z e => ⟨cur, (h.block g hg).trans e⟩⟩
theorem Rw.below {g N : Nat} {W V : World} (h : Rw g W V) (hN : N ≤ g) (hW : N ≤ W.heap.size) : Below N W V :=
  ⟨h.grown.os, h.grown.tape, h.grown.output, h.grown.size, fun i hi => h.grown.block i (by omega) (fun e => by cases e; omega)⟩
theorem Rw.keepF {g N : Nat} {W V : World} (h : Rw g W V) {cur : Array Value} {z : Nat × Nat} (hg : W.heap[g]? = some (.cells cur 63 z)) : KeepF N W V := by
  refine ⟨fun b c t _ h2 h3 => h.grown.block b (Array.getElem?_eq_some_iff.1 h3).1 (fun e => ?_), h.grown.size⟩
  cases e
  rw [hg] at h3
  cases h3
  exact absurd h2 (by decide)
theorem setCells_heap (g : Nat) : ∀ (vs : List Value) (o : Nat) (w : World) (cur : Array Value) (t : TypeId) (z : Nat × Nat), w.heap[g]? = some (.cells cur t z) → ∃ cur', (w.setCells g o vs).heap[g]? = some (.cells cur' t z)
  | [], o, w, cur, t, z, h => ⟨cur, h⟩
  | v :: r, o, w, cur, t, z, h => by
    rw [World.setCells]
    refine setCells_heap g r (o + 1) _ (cur.setIfInBounds o v) t z ?_
    rw [setCell_eq]
    unfold mapBlock onCells
    rw [Array.getElem?_modify, if_pos rfl, h]
    rfl
theorem Rw.set {g : Nat} (W : World) (o : Nat) (vs : List Value) (hg : g < W.heap.size) : Rw g W (W.setCells g o vs) := by
  have hb : Below g W (W.setCells g o vs) := below_setCells (Nat.le_refl g) vs o W (Below.refl _ _)
  refine ⟨⟨hb.os, hb.tape, hb.output, hb.size, fun i hi hne => World.heap_setCells_other W g o vs hi (fun e => hne (by rw [e]))⟩, fun cur t z e => setCells_heap g vs o W cur t z e⟩
theorem Rw.swk {α : Type} [Inhabited α] {enc : α → List Value} {k : Nat} {w0 W : World} {g off : Nat} {d : Array α} (h : SWK enc k w0 g off d W) (hg : g < w0.heap.size) : Rw g w0 W := by
  obtain ⟨n, os, rfl⟩ := h
  unfold sortWorldK putRowK putRow mapBlock
  refine ⟨⟨rfl, rfl, rfl, ?_, fun i hi hne => ?_⟩, fun cur t z e => ?_⟩
  · show w0.heap.size ≤ (w0.heap.modify g _ ++ os).size
    simp
  · show (w0.heap.modify g _ ++ os)[i]? = _
    rw [Array.getElem?_append_left (by simpa using hi), Array.getElem?_modify, if_neg (fun e => hne (by rw [e]))]
  · refine ⟨putCells id off (flatK enc k d) cur, ?_⟩
    show (w0.heap.modify g _ ++ os)[g]? = _
    rw [Array.getElem?_append_left (by simpa using hg), Array.getElem?_modify, if_pos rfl, e]
    rfl
/-- A row of n spots in block g. -/
structure RowS (W : World) (g n : Nat) (us : Nat → TW) : Prop where
  blk : ∃ cur, W.heap[g]? = some (.cells cur 63 (0, 0))
  at_ : ∀ j, j < n → ∀ i, i < 15 → W.cell? ⟨g, j * 15 + i, none⟩ = (us j).cs[i]?
theorem RowS.lt {W : World} {g n : Nat} {us : Nat → TW} (h : RowS W g n us) : g < W.heap.size := by
  obtain ⟨cur, e⟩ := h.blk
  exact (Array.getElem?_eq_some_iff.1 e).1
theorem RowS.free {W : World} {g n : Nat} {us : Nat → TW} (h : RowS W g n us) (i : Nat) : W.frozen? ⟨g, i, none⟩ = false := by
  obtain ⟨cur, e⟩ := h.blk
  simp [World.frozen?, e]
theorem RowS.below {W V : World} {g n : Nat} {us : Nat → TW} (h : RowS W g n us) (hb : Below W.heap.size W V) : RowS V g n us := by
  have e := hb.block g h.lt
  obtain ⟨cur, e1⟩ := h.blk
  exact ⟨⟨cur, e.trans e1⟩, fun j hj i hi => (World.cell?_of_block (w := W) (w' := V) (a := ⟨g, j * 15 + i, none⟩) e).trans (h.at_ j hj i hi)⟩
theorem RowS.rw_ {W V : World} {g g2 n : Nat} {us : Nat → TW} (h : RowS W g n us) (hb : Rw g2 W V) (hne : g ≠ g2) : RowS V g n us := by
  have e := hb.grown.block g h.lt (fun e => hne (Option.some.inj e))
  obtain ⟨cur, e1⟩ := h.blk
  exact ⟨⟨cur, e.trans e1⟩, fun j hj i hi => (World.cell?_of_block (w := W) (w' := V) (a := ⟨g, j * 15 + i, none⟩) e).trans (h.at_ j hj i hi)⟩
theorem RowS.congr {W : World} {g n : Nat} {us vs : Nat → TW} (h : RowS W g n us) (e : ∀ j, j < n → us j = vs j) : RowS W g n vs := ⟨h.blk, fun j hj i hi => by rw [← e j hj]; exact h.at_ j hj i hi⟩
theorem RowS.tat {W : World} {g n o : Nat} {us : Nat → TW} (h : RowS W g n us) {j : Nat} (hj : o + j < n) : ∀ i, i < 15 → W.cell? ⟨g, o * 15 + j * 15 + i, none⟩ = (us (o + j)).cs[i]? := fun i hi => by
  have := h.at_ (o + j) hj i hi
  rw [Nat.add_mul] at this
  exact this
theorem RowS.cell {W : World} {g n : Nat} {us : Nat → TW} (h : RowS W g n us) {t : Nat} (ht : t < n * 15) : ∃ v, W.cell? ⟨g, t, none⟩ = some v := by
  have h1 := h.at_ (t / 15) (by omega) (t % 15) (by omega)
  rw [show t / 15 * 15 + t % 15 = t by omega] at h1
  exact ⟨(us (t / 15)).cs[t % 15]'(by show t % 15 < 15; omega), h1.trans (Array.getElem?_eq_getElem _)⟩
/-- Spots written into the row. -/
theorem RowS.set {W : World} {g n : Nat} {us : Nat → TW} (h : RowS W g n us) (o : Nat) (l : List TW) (hl : o + l.length ≤ n) : RowS (W.setCells g (o * 15) (l.flatMap twCs)) g n (fun j => if o ≤ j ∧ j < o + l.length then l[j - o]?.getD twD else us j) := by
  obtain ⟨cur, e⟩ := h.blk
  refine ⟨setCells_heap g _ _ W cur _ _ e, fun j hj i hi => ?_⟩
  have hlen := flat_len l
  by_cases c : o ≤ j ∧ j < o + l.length
  · rw [if_pos c]
    have hin := World.cell?_setCells_in g (l.flatMap twCs) (o * 15) W (fun t ht => by
      obtain ⟨v, hv⟩ := h.cell (t := o * 15 + t) (by rw [hlen] at ht; omega)
      rw [hv]
      rfl) ((j - o) * 15 + i) (by rw [hlen]; omega)
    rw [show o * 15 + ((j - o) * 15 + i) = j * 15 + i by omega] at hin
    rw [hin]
    have e2 := flat_get l (j - o) i hi (by omega)
    rw [← e2]
    simp [hlen, show (j - o) * 15 + i < l.length * 15 by omega]
  · rw [if_neg c, World.cell?_setCells_out g (l.flatMap twCs) (o * 15) W ⟨g, j * 15 + i, none⟩ (fun _ _ => by simp only [hlen]; omega)]
    exact h.at_ j hj i hi
end Go.Proofs.Ytkbdnhchlkafnaa.V
namespace Go.Proofs.Ytkbdnhchlkafnaa.V
open Go Go.Shelf Go.RowKit Go.Lib Go.Sort Go.Proofs Go.Proofs.Ytkbdnhchlkafnaa.S
set_option linter.unusedVariables false

theorem stp : StP Try.prog 15 where
  mixed := by kernel_rfl
  t3 := Try.underlying3
  a3 := Try.isAgg3
  z3 := Try.sizeOf3
  v3 := Try.zeroValue3
  t4 := Try.underlying4
  a4 := Try.isAgg4
  z4 := Try.sizeOf4
  v4 := Try.zeroValue4
  t22 := Try.underlying76
  a22 := Try.isAgg76
  z22 := Try.sizeOf76
  v22 := Try.zeroValue76
  t25 := Try.underlying64
  a25 := Try.isAgg64
  z25 := Try.sizeOf64
  v25 := Try.zeroValue64
  tU := Try.underlying177
  aU := Try.isAgg177
  zU := Try.sizeOf177
  vU := Try.zeroValue177
  aE := Try.isAgg63
  zE := Try.sizeOf63
theorem stf : StF Try.prog where
  fSwap := Try.func133
  eSwap := enters_of Try.func133 (by kernel_rfl) rfl
  fRot := Try.func129
  eRot := enters_of Try.func129 (by kernel_rfl) rfl
  fSym := Try.func121
  eSym := enters_of Try.func121 (by kernel_rfl) rfl
  fSta := Try.func104
  eSta := enters_of Try.func104 (by kernel_rfl) rfl
  fIns := Try.func120
  eIns := enters_of Try.func120 (by kernel_rfl) rfl
/-- A spot's words, and the spot. -/
abbrev PT := TW × Spn
def ptD : PT := (twD, spD)
instance : Inhabited PT := ⟨ptD⟩
/-- Words of the spots of a list. -/
def wds (L : List PT) (j : Nat) : TW := (L[j]?.getD ptD).1
def encT (x : PT × Nat) : List Value := twCs x.1.1
theorem cmpLaysT (blk off size : Nat) (w : World) : CmpLays Try.prog 30 #[] encT 15 (fun x y => cmpT x.1.1.tm y.1.1.tm) blk off size w := fun m os dk hs x y => by
  have h := byTime_grow x.1.1 y.1.1 (sortWorldK encT 15 w blk off m dk os)
  have e : ∀ z : PT × Nat, Value.agg (encT z).toArray = z.1.1.v := fun z => by
    unfold encT twCs TW.v
    simp
  rw [e x, e y]
  simpa using h
theorem rowK_of {w : World} {g : Nat} {L : List PT} (h : RowS w g L.length (wds L)) : RowK encT 15 w g 0 L.zipIdx.toArray where
  hk x := rfl
  h1 x v hv := by
    unfold encT twCs TW.cs at hv
    simp only [List.mem_cons, List.not_mem_nil, or_false] at hv
    rcases hv with rfl | rfl | rfl | rfl | rfl | rfl | rfl | rfl | rfl | rfl | rfl | rfl | rfl | rfl | rfl <;> rfl
  hH := fun t ht => by
    have hs : L.zipIdx.toArray.size = L.length := by simp
    rw [size_flatK, hs] at ht
    refine ⟨?_, ?_⟩
    · rw [get_flatK _ _ _ _ (by rw [hs]; exact ht)]
      have hj : t / 15 < L.length := by omega
      have h1 := h.at_ (t / 15) hj (t % 15) (by omega)
      rw [show t / 15 * 15 + t % 15 = t by omega] at h1
      rw [Nat.zero_add, h1]
      have e1 : L.zipIdx.toArray[t / 15]! = (L[t / 15], t / 15) := by
        rw [getElem!_pos _ _ (by rw [hs]; exact hj)]
        simp [List.getElem_zipIdx]
      rw [e1]
      unfold encT twCs wds
      have e2 : L[t / 15]?.getD ptD = L[t / 15] := by simp [hj]
      rw [e2]
      have h15 : t % 15 < 15 := by omega
      show (L[t / 15].1.cs)[t % 15]? = some (L[t / 15].1.cs.toList)[t % 15]!
      rw [Array.getElem?_eq_getElem (show t % 15 < L[t / 15].1.cs.size from h15), getElem!_pos _ _ (by show t % 15 < 15; exact h15)]
      simp
    · rw [Nat.zero_add]
      exact h.free t
  hblk := h.lt
theorem cmpT_lt (f g : Nat → Int) : decide (cmpT f g < 0) = befB f g := cmpT_neg f g
set_option maxRecDepth 100000 in
theorem sort_any (g cap : Nat) (L : List PT) (w : World) (h : RowS w g L.length (wds L)) (hsz : L.length ≤ 1000000) :
    Calls Try.prog 77 #[.slice (some ⟨g, 0, none⟩) L.length cap, .func (.func 30) #[] #[]] w fun e w' => e = .returned (.tuple #[]) ∧ ∃ L' : List PT, RowS w' g L.length (wds L') ∧ Rw g w w' ∧ L.Perm L' ∧ (∀ τ, L.filter (fun x => eq8 x.1.tm τ) = L'.filter (fun x => eq8 x.1.tm τ)) ∧ L'.Pairwise (fun a b => befB b.1.tm a.1.tm = false) := by
  have R := rowK_of h
  have hs : L.zipIdx.toArray.size = L.length := by simp
  have hc := stable_k Try.prog 15 stp stf encT (fun x y => cmpT x.1.1.tm y.1.1.tm) (ltI (fun x : PT => x.1.tm)) (swo_ltI _) 30 #[] (enters_of Try.func30 (by kernel_rfl) rfl) g 0 cap L.zipIdx.toArray w (cmpLaysT g 0 _ w) R (fun x => x.2) (fun x y hxy => by
    unfold ltOf ltI
    rw [cmpT_lt]
    have : decide (y.2 < x.2) = false := decide_eq_false (by omega)
    rw [this, Bool.and_false, Bool.or_false]) (fun t ht => by
    rw [getElem!_pos L.zipIdx.toArray t ht]
    simp [List.getElem_zipIdx]) w (SWK.start R.hH) (by rw [hs]; omega)
  rw [hs] at hc
  have HR := hide R
  have HH := hide h
  have hL : (L.length : Int) ≤ 1000000 := by omega
  clear R h
  go_enter Try.func77, Try.ntmps77
  go_wp2_with (go_at_call 104; refine hc.mono ?_; rintro e w1 ⟨rfl, d, sw, hp, ho⟩)
  go_end0
  have hd : d.size = L.length := by rw [hp.1, hs]
  have hD : L.zipIdx.Perm d.toList := by
    have := hp.2.2
    rw [show (L.zipIdx.toArray.extract 0 L.length).toList = L.zipIdx by rw [← hs, Array.extract_size], show d.extract 0 L.length = d by rw [← hd, Array.extract_size]] at this
    exact this.symm
  have hP : d.toList.Pairwise (fun a b => ltI (fun x : PT => x.1.tm) b a = false) := by
    rw [List.pairwise_iff_getElem]
    intro i j hi hj hij
    have hi' : i < d.size := by simpa using hi
    have hj' : j < d.size := by simpa using hj
    have := ho i j (Nat.zero_le _) hij (by omega)
    rw [getElem!_pos d i hi', getElem!_pos d j hj'] at this
    simpa using this
  obtain ⟨s1, s2, s3⟩ := stab_of (fun x : PT => x.1.tm) L d.toList hD hP
  refine ⟨rfl, d.toList.map (·.1), ⟨?_, fun j hj i hi => ?_⟩, Rw.swk sw HH.out.lt, s1, s2, s3⟩
  · obtain ⟨cur, e⟩ := HH.out.blk
    exact (Rw.swk sw HH.out.lt).blk cur _ _ e
  · have hj' : j < d.size := by omega
    have hc := (HoldsK.cell (sw.holds HH.out.lt HR.out.hH (by rw [hd, hs])) hj' hi).1
    rw [Nat.zero_add] at hc
    rw [hc, getElem!_pos d j hj']
    unfold wds encT twCs
    have e2 : (d.toList.map (·.1))[j]?.getD ptD = d[j].1 := by simp [hj']
    rw [e2, getElem!_pos _ _ (by show i < 15; exact hi), Array.getElem?_eq_getElem (show i < d[j].1.1.cs.size from hi)]
    simp
set_option maxRecDepth 100000 in
theorem ins_nil (a : Option Addr) (cap : Nat) (fv : Value) (w : World) : Calls Try.prog 120 #[.slice a 0 cap, .int .i64 0, .int .i64 0, fv] w fun e w' => e = .returned (.tuple #[]) ∧ w' = w := by
  go_enter Try.func120, Try.ntmps120
  go_wp2
  go_loopw [8] (fun v wr => v = .int .i64 1 ∧ wr = w) (fun _ _ => 0)
  case atStart => exact ⟨rfl, rfl⟩
  case round =>
    obtain ⟨rfl, rfl⟩ := hrel
    go_wp2
    go_end0
    exact ⟨rfl, rfl⟩
set_option maxRecDepth 100000 in
theorem sta_nil (a : Option Addr) (cap : Nat) (fv : Value) (w : World) : Calls Try.prog 104 #[.slice a 0 cap, .int .i64 0, fv] w fun e w' => e = .returned (.tuple #[]) ∧ w' = w := by
  have hc := ins_nil a cap fv w
  go_enter Try.func104, Try.ntmps104
  go_wp2
  go_loopw [7, 8] (fun v v2 wr => v = .int .i64 0 ∧ v2 = .int .i64 20 ∧ wr = w) (fun _ _ _ => 0)
  case atStart => exact ⟨rfl, rfl, rfl⟩
  case round =>
    obtain ⟨rfl, rfl, rfl⟩ := hrel
    go_wp2_with (go_at_call 120; refine hc.mono ?_; rintro e w1 ⟨rfl, rfl⟩)
    go_loopw [6] (fun v wr => v = .int .i64 20 ∧ wr = w1) (fun _ _ => 0)
    case atStart => exact ⟨rfl, rfl⟩
    case round =>
      obtain ⟨rfl, rfl⟩ := hrel
      go_wp2
      go_end0
      exact ⟨rfl, rfl⟩
set_option maxRecDepth 100000 in
theorem sort_nil (a : Option Addr) (cap : Nat) (fv : Value) (w : World) : Calls Try.prog 77 #[.slice a 0 cap, fv] w fun e w' => e = .returned (.tuple #[]) ∧ w' = w := by
  have hc := sta_nil a cap fv w
  go_enter Try.func77, Try.ntmps77
  go_wp2_with (go_at_call 104; refine hc.mono ?_; rintro e w1 ⟨rfl, rfl⟩)
  go_end0
  exact ⟨rfl, rfl⟩
end Go.Proofs.Ytkbdnhchlkafnaa.V
namespace Go.Proofs.Ytkbdnhchlkafnaa.V
open Go Go.Shelf Go.RowKit Go.Lib Go.Sort Go.Proofs Go.Proofs.Ytkbdnhchlkafnaa.S
set_option linter.unusedVariables false

theorem tw_one (u : TW) : ∀ v ∈ twCs u, v.oneCell' = true := fun v hv => by
  unfold twCs TW.cs at hv
  simp only [List.mem_cons, List.not_mem_nil, or_false] at hv
  rcases hv with rfl | rfl | rfl | rfl | rfl | rfl | rfl | rfl | rfl | rfl | rfl | rfl | rfl | rfl | rfl <;> rfl
theorem tws_one (l : List TW) : ∀ v ∈ l.flatMap twCs, v.oneCell' = true := fun v hv => by
  rw [List.mem_flatMap] at hv
  obtain ⟨u, _, h⟩ := hv
  exact tw_one u v h
/-- The words of a part of a row. -/
theorem RowS.read {W : World} {g n : Nat} {us : Nat → TW} (h : RowS W g n us) (o : Nat) (l : List TW) (hl : o + l.length ≤ n) (e : ∀ j, j < l.length → l[j]?.getD twD = us (o + j)) : ∀ j v, (l.flatMap twCs)[j]? = some v → W.cell? ((⟨g, o * 15, none⟩ : Addr).add j) = some v := fun j v hv => by
  have hj : j < l.length * 15 := by rw [← flat_len]; exact (List.getElem?_eq_some_iff.1 hv).1
  rw [Go.WideShapes.add_plain]
  have h1 := flat_get l (j / 15) (j % 15) (by omega) (by omega)
  rw [show j / 15 * 15 + j % 15 = j by omega, hv, e _ (by omega)] at h1
  have h2 := h.at_ (o + j / 15) (by omega) (j % 15) (by omega)
  rw [show (o + j / 15) * 15 + j % 15 = o * 15 + j by omega] at h2
  rw [h2, ← h1]
/-- append(s, t...), where there is room, at the operation. -/
theorem app_room {w : World} {ops : Array Oper} {rest : List Oper} {op : Oper} {a : Act} {Q : Exit → Act → World → Prop} (hgd : op.guard = none) (s x : Operand)
    (ho : op.op = .call { callee := .builtin .append, args := #[s, x], argTypes := #[76, 76] }) (g n : Nat) (us : Nat → TW) (hrow : RowS w g n us) (o sl sc : Nat) (hs : a.eval s = .slice (some ⟨g, o * 15, none⟩) sl sc)
    (ax : Addr) (l : List TW) (c : Nat) (hx : a.eval x = .slice (some ax) l.length c) (hnews : ∀ j u, (l.flatMap twCs)[j]? = some u → w.cell? (ax.add j) = some u) (hroom : sl + l.length ≤ sc) (hn : o + sl + l.length ≤ n)
    (h : wpList Try.prog ops Q rest (a.put op.dst (.slice (some ⟨g, o * 15, none⟩) (sl + l.length) sc)) (w.setCells g ((o + sl) * 15) (l.flatMap twCs))) : wpList Try.prog ops Q (op :: rest) a w := by
  obtain ⟨i0, hi, hz0, hz1, hz2⟩ := info_parts info_T
  refine wpList_plain hgd fun K hK => ?_
  have hl := flat_len l
  have hr := run_append_room_src (P := Try.prog) w 76 76 op.type 63 i0 Try.underlying76 hi g (o * 15) sl sc (.slice (some ax) l.length c) l.length (l.flatMap twCs) (Src.ofSlice w Try.underlying76 ax l.length c _ (by rw [hz1]; exact hl) hnews (tws_one l)) hroom (fun j hj => by
    rw [hz1, show o * 15 + sl * 15 + j = (o + sl) * 15 + j by omega]
    obtain ⟨v, hv⟩ := hrow.cell (t := (o + sl) * 15 + j) (by rw [hl] at hj; omega)
    rw [hv]
    rfl) (fun j _ => hrow.free _)
  rw [hz1, show o * 15 + sl * 15 = (o + sl) * 15 by omega] at hr
  unfold Oper.wp execOp
  simp only [ho, resolve, invoke, builtin, Sem.run_bind, Sem.run_pure, Result.andThen_ok, List.map_toArray, List.map_cons, List.map_nil, hs, hx, hr]
  exact hK _ _ h
/-- clear of one spot. -/
theorem clear_run {w : World} (ty : TypeId) (g n : Nat) (us : Nat → TW) (hrow : RowS w g n us) (p c q : Nat) (hq : q = p * 15) (hp : p < n) : (Builtin.clear_ #[76] ty #[.slice (some ⟨g, q, none⟩) 1 c]).run Try.prog w = .ok (.tuple #[]) (w.setCells g (p * 15) (twCs twD)) := by
  subst hq
  have hst := run_storeCells_cells (P := Try.prog) g (p * 15) (twCs twD) 0 w (fun j hj => by
    obtain ⟨v, hv⟩ := hrow.cell (t := p * 15 + j) (by rw [twCs_len] at hj; omega)
    simpa using by rw [hv]; rfl) (fun j _ => by simpa using hrow.free _) (tw_one twD)
  simp only [Nat.add_zero] at hst
  have hzd : (Builtin.zeroCells (Value.agg #[.int .i64 0, .slice none 0 0, .int .i64 0, .int .i64 0, .int .i64 0, .int .i64 0, .int .i64 0, .int .i64 0, .int .i64 0, .int .i64 0, .int .i64 0, .int .i64 0, .int .i64 0, .int .i64 0, .slice none 0 0]).cells 1).toList = twCs twD := by kernel_rfl
  simp [Builtin.clear_, run_underlying Try.underlying76, hzd, hst]
/-- A row out of which one has been taken. -/
def outU (us : Nat → TW) (o k m : Nat) (j : Nat) : TW := if o + k ≤ j ∧ j + 1 < o + m then us (j + 1) else if j + 1 = o + m then twD else us j
set_option maxRecDepth 100000 in
set_option maxHeartbeats 4000000 in
theorem delete_any (g n : Nat) (us : Nat → TW) (o m c k : Nat) (w : World) (h : RowS w g n us) (ho : o + m ≤ n) (hk : k < m) (hmc : m ≤ c) (hc : c ≤ 9223372036854775807) :
    Calls Try.prog 80 #[.slice (some ⟨g, o * 15, none⟩) m c, .int .i64 k, .int .i64 ((k : Int) + 1)] w fun e w' => e = .returned (.slice (some ⟨g, o * 15, none⟩) (m - 1) c) ∧ RowS w' g n (outU us o k m) ∧ Rw g w w' := by
  have HR := hide h
  have hg := h.lt
  clear h
  obtain ⟨M, rfl⟩ : ∃ M, m = M + 1 := ⟨m - 1, by omega⟩
  rw [Nat.add_sub_cancel]
  obtain ⟨L0, hL0⟩ : ∃ L0, L0 = (List.range (M - k)).map (fun j => us (o + k + 1 + j)) := ⟨_, rfl⟩
  have hL : M - k = L0.length := by rw [hL0]; simp
  have HL0 : Hid (∀ j, j < L0.length → L0[j]?.getD twD = us (o + k + 1 + j)) := fun j hj => by
    rw [← hL] at hj
    rw [hL0]
    simp [hj]
  have hLM : k + L0.length = M := by omega
  have hLM2 : M + 1 - (k + 1) = L0.length := by omega
  have hne : ((k : Int) == (k : Int) + 1) = false := by
    rw [Bool.eq_false_iff]
    intro h
    have := eq_of_beq h
    omega
  have hcM : c ≠ M := by omega
  clear hL0
  have i1 : (k : Int) ≤ (k : Int) + 1 := by omega
  have i8 : (0 : Int) ≤ (k : Int) + 1 := by omega
  have i9 : (0 : Int) ≤ (M : Int) + 1 := by omega
  have i2 : (k : Int) + 1 ≤ (M : Int) + 1 := by omega
  have i3 : k ≤ c := by omega
  have i4 : (M : Int) + 1 ≤ (c : Int) := by omega
  have i5 : M ≤ c := by omega
  by_cases hck : c = k + 1
  · have hz : L0 = [] := List.eq_nil_of_length_eq_zero (by omega)
    have hMk : M = k := by omega
    subst hz
    subst hMk
    subst hck
    clear hL hLM hLM2 i2 i3 i4 i5 hmc
    go_enter Try.func80, Try.ntmps80
    go_wp2_with fail
    refine region_made 6 8 [fIs (.slice (some ⟨g, o * 15, none⟩) (M + 1) (M + 1)), fIs (.int .i64 (M : Int)), fIs (.slice (some ⟨g, o * 15, none⟩) M (M + 1)), fIs (.slice (some ⟨g, o * 15, none⟩) (M + 1) (M + 1)), fIs (.int .i64 ((M : Int) + 1)), fIs (.slice (some ⟨g, o * 15, none⟩) 0 (0))] (by kernel_rfl) (by kernel_rfl) (by kernel_rfl) (fun _ ⟨_, _⟩ ⟨_, _⟩ _ e h => by cases e; exact h) ⟨fIs_good _, fIs_good _, fIs_good _, fIs_good _, fIs_good _, fIs_good _, trivial⟩ ?mk ?rest
    case mk =>
      refine ⟨fun u wz hb hd => ?_, fun u wz hb hd => ?_, fun u wz hb hd => ?_, fun u wz hb hd => ?_, fun u wz hb hd => ?_, fun u wz hb hd => ?_, trivial⟩
      all_goals simp only [Act.put, List.setIfInBounds_toArray, List.set_cons_zero, List.set_cons_succ]
      · go_simp
        exact ⟨rfl, Below.refl _ _, fun h => by cases h⟩
      · go_simp
        exact ⟨rfl, Below.refl _ _, fun h => by cases h⟩
      · have e0 : u 0 = .slice (some ⟨g, o * 15, none⟩) (M + 1) (M + 1) := hd 0 (by omega) (by kernel_rfl)
        have e1 : u 1 = .int .i64 (M : Int) := hd 1 (by omega) (by kernel_rfl)
        rw [e0, e1]
        go_simp
        exact ⟨rfl, Below.refl _ _, fun h => by cases h⟩
      · go_simp
        exact ⟨rfl, Below.refl _ _, fun h => by cases h⟩
      · go_simp
        exact ⟨rfl, Below.refl _ _, fun h => by cases h⟩
      · have e3 : u 3 = .slice (some ⟨g, o * 15, none⟩) (M + 1) (M + 1) := hd 3 (by omega) (by kernel_rfl)
        have e4 : u 4 = .int .i64 ((M : Int) + 1) := hd 4 (by omega) (by kernel_rfl)
        rw [e3, e4]
        go_simp
        exact ⟨rfl, Below.refl _ _, fun h => by cases h⟩
    case rest =>
      intro u wz hb hf hp
      have f0 : u 0 = .slice (some ⟨g, o * 15, none⟩) (M + 1) (M + 1) := hf 0 (by omega)
      have f1 : u 1 = .int .i64 (M : Int) := hf 1 (by omega)
      have f2 : u 2 = .slice (some ⟨g, o * 15, none⟩) M (M + 1) := hf 2 (by omega)
      have f3 : u 3 = .slice (some ⟨g, o * 15, none⟩) (M + 1) (M + 1) := hf 3 (by omega)
      have f4 : u 4 = .int .i64 ((M : Int) + 1) := hf 4 (by omega)
      have f5 : u 5 = .slice (some ⟨g, o * 15, none⟩) 0 (0) := hf 5 (by omega)
      refine UptoW.rest 2 6 (by rfl) (by kernel_rfl) ?_
      simp only [List.take, List.drop, putOps, Act.put, List.setIfInBounds_toArray, List.set_cons_zero, List.set_cons_succ, Nat.reduceAdd, f0, f1, f2, f3, f4, f5]
      clear f0 f1 f2 f3 f4 f5 hf hp
      have HRz := hide (HR.out.below hb)
      have HRW := hide ((Rw.refl g w).trans (Rw.of_below hg hb))
      have hgz := HRz.out.lt
      have hcl := fun ty => clear_run ty g n _ (HRz.out) (o + M) (1) (o * 15 + M * 15) (by omega) (by omega)
      have hse : ∀ q, wz.setCells g q [] = wz := fun _ => rfl
      clear hb
      go_wp2_with (first
        | (at_builtin; refine app_room rfl (.tmp 22) (.tmp 25) rfl g n us HRz.out o M (M + 1) rfl ⟨g, o * 15, none⟩ ([] : List TW) (0) rfl (fun j v hv => by simp at hv) (by first | omega | (simp; omega) | simp) (by first | omega | (simp; omega) | simp) ?_; skip)
        | fail)
      go_ret
      have h2 := HRz.out.set (o + M) [twD] (by simp; omega)
      have e2 : [twD].flatMap twCs = twCs twD := by simp
      rw [e2] at h2
      refine ⟨rfl, h2.congr fun j hj => ?_, HRW.out.trans (Rw.set _ _ _ hgz)⟩
      unfold outU
      by_cases c1 : j = o + M
      · subst c1
        rw [if_pos (by simp), if_neg (by omega), if_pos (by omega)]
        simp
      · rw [if_neg (by simp; omega), if_neg (by omega), if_neg (by omega)]
  · have hckb : ¬ c = k + 1 := hck
    go_enter Try.func80, Try.ntmps80
    go_wp2_with fail
    refine region_made 6 8 [fIs (.slice (some ⟨g, o * 15, none⟩) (M + 1) (c)), fIs (.int .i64 (k : Int)), fIs (.slice (some ⟨g, o * 15, none⟩) k (c)), fIs (.slice (some ⟨g, o * 15, none⟩) (M + 1) (c)), fIs (.int .i64 ((k : Int) + 1)), fIs (.slice (some ⟨g, o * 15 + (k + 1) * 15, none⟩) L0.length (c - (k + 1)))] (by kernel_rfl) (by kernel_rfl) (by kernel_rfl) (fun _ ⟨_, _⟩ ⟨_, _⟩ _ e h => by cases e; exact h) ⟨fIs_good _, fIs_good _, fIs_good _, fIs_good _, fIs_good _, fIs_good _, trivial⟩ ?mk ?rest
    case mk =>
      refine ⟨fun u wz hb hd => ?_, fun u wz hb hd => ?_, fun u wz hb hd => ?_, fun u wz hb hd => ?_, fun u wz hb hd => ?_, fun u wz hb hd => ?_, trivial⟩
      all_goals simp only [Act.put, List.setIfInBounds_toArray, List.set_cons_zero, List.set_cons_succ]
      · go_simp
        exact ⟨rfl, Below.refl _ _, fun h => by cases h⟩
      · go_simp
        exact ⟨rfl, Below.refl _ _, fun h => by cases h⟩
      · have e0 : u 0 = .slice (some ⟨g, o * 15, none⟩) (M + 1) (c) := hd 0 (by omega) (by kernel_rfl)
        have e1 : u 1 = .int .i64 (k : Int) := hd 1 (by omega) (by kernel_rfl)
        rw [e0, e1]
        go_simp
        exact ⟨rfl, Below.refl _ _, fun h => by cases h⟩
      · go_simp
        exact ⟨rfl, Below.refl _ _, fun h => by cases h⟩
      · go_simp
        exact ⟨rfl, Below.refl _ _, fun h => by cases h⟩
      · have e3 : u 3 = .slice (some ⟨g, o * 15, none⟩) (M + 1) (c) := hd 3 (by omega) (by kernel_rfl)
        have e4 : u 4 = .int .i64 ((k : Int) + 1) := hd 4 (by omega) (by kernel_rfl)
        rw [e3, e4]
        go_simp
        exact ⟨rfl, Below.refl _ _, fun h => by cases h⟩
    case rest =>
      intro u wz hb hf hp
      have f0 : u 0 = .slice (some ⟨g, o * 15, none⟩) (M + 1) (c) := hf 0 (by omega)
      have f1 : u 1 = .int .i64 (k : Int) := hf 1 (by omega)
      have f2 : u 2 = .slice (some ⟨g, o * 15, none⟩) k (c) := hf 2 (by omega)
      have f3 : u 3 = .slice (some ⟨g, o * 15, none⟩) (M + 1) (c) := hf 3 (by omega)
      have f4 : u 4 = .int .i64 ((k : Int) + 1) := hf 4 (by omega)
      have f5 : u 5 = .slice (some ⟨g, o * 15 + (k + 1) * 15, none⟩) L0.length (c - (k + 1)) := hf 5 (by omega)
      refine UptoW.rest 2 6 (by rfl) (by kernel_rfl) ?_
      simp only [List.take, List.drop, putOps, Act.put, List.setIfInBounds_toArray, List.set_cons_zero, List.set_cons_succ, Nat.reduceAdd, f0, f1, f2, f3, f4, f5]
      clear f0 f1 f2 f3 f4 f5 hf hp
      have HRz := hide (HR.out.below hb)
      have HRW := hide ((Rw.refl g w).trans (Rw.of_below hg hb))
      have hgz := HRz.out.lt
      have hcl := fun ty => clear_run ty g n _ (HRz.out.set (o + k) L0 (by omega)) (o + M) (c - M) (o * 15 + M * 15) (by omega) (by omega)
      have hse : ∀ q, wz.setCells g q [] = wz := fun _ => rfl
      clear hb
      go_wp2_with (first
        | (at_builtin; refine app_room rfl (.tmp 22) (.tmp 25) rfl g n us HRz.out o k (c) rfl ⟨g, o * 15 + (k + 1) * 15, none⟩ L0 (c - (k + 1)) rfl (by rw [show o * 15 + (k + 1) * 15 = (o + (k + 1)) * 15 by omega]; exact HRz.out.read (o + (k + 1)) L0 (by omega) (fun j hj => by rw [HL0.out j hj]; rfl)) (by first | omega | (simp; omega) | simp) (by first | omega | (simp; omega) | simp) ?_; rw [hLM])
        | fail)
      go_ret
      have h1 := HRz.out.set (o + k) L0 (by first | omega | (simp; omega) | simp)
      have h2 := h1.set (o + M) [twD] (by first | omega | (simp; omega) | simp)
      have e2 : [twD].flatMap twCs = twCs twD := by simp
      rw [e2] at h2
      refine ⟨rfl, h2.congr fun j hj => ?_, HRW.out.trans ((Rw.set _ _ _ hgz).trans (Rw.set _ _ _ h1.lt))⟩
      unfold outU
      by_cases c1 : j = o + M
      · subst c1
        rw [if_pos (by simp), if_neg (by omega), if_pos (by omega)]
        simp
      · rw [if_neg (by first | omega | (simp; omega) | simp)]
        by_cases c2 : o + k ≤ j ∧ j + 1 < o + (M + 1)
        · rw [if_pos (by first | omega | (simp; omega) | simp), if_pos c2, HL0.out (j - (o + k)) (by first | omega | (simp; omega) | simp)]
          congr 1
          omega
        · rw [if_neg (by first | omega | (simp; omega) | simp), if_neg c2, if_neg (by omega)]
end Go.Proofs.Ytkbdnhchlkafnaa.V
namespace Go.Proofs.Ytkbdnhchlkafnaa.V
open Go Go.Shelf Go.RowKit Go.Lib Go.Sort Go.Proofs Go.Proofs.Ytkbdnhchlkafnaa.S
set_option linter.unusedVariables false

theorem tmod_twice (a : Int) {m : Nat} (hm : 0 < m) : Int.tmod (Int.tmod a m + m) m = a % m := by
  have hm' : (0 : Int) < (m : Int) := by omega
  have h1 := Int.lt_tmod_of_pos a hm'
  rw [Int.tmod_eq_emod_of_nonneg (by omega), Int.add_emod_right]
  have h2 := Int.mul_tdiv_add_tmod a m
  conv => rhs; rw [← h2]
  rw [Int.mul_add_emod_self_left]
theorem tmod_nat (a b : Nat) : Int.tmod (a : Int) (b : Int) = ((a % b : Nat) : Int) := by
  rw [Int.tmod_eq_emod_of_nonneg (by omega)]
  rfl
/-- What has been asked. -/
def askT (mix : List Int) (turn : Nat) : Nat := if mix = [] then 0 else turn
theorem bl_setCell {w : World} {p : Addr} (hp : p.block < w.heap.size) (v : Value) : Rw p.block w (w.setCell p v) := by
  refine ⟨⟨rfl, rfl, rfl, by rw [World.size_setCell]; exact Nat.le_refl _, fun i hi hne => Below.heap_setCell _ p _ i (fun e => hne (by rw [e]))⟩, fun cur t z e => ?_⟩
  unfold World.setCell
  simp only [Array.getElem?_modify, e]
  simp
theorem lt_of_heap {w : World} {g : Nat} {o : Obj} (h : w.heap[g]? = some o) : g < w.heap.size := (Array.getElem?_eq_some_iff.1 h).1
set_option maxRecDepth 100000 in
theorem pick1 (N1 N2 : Nat) (xa : Option Addr) (xl xc : Nat) (mix : List Int) (turn many : Nat) (w : World) (h1 : w.cell? ⟨N1, 0, none⟩ = some (.slice xa xl xc)) (hx : Ints w xa xl mix) (h2 : w.heap[N2]? = some (.cells #[.int .i64 (askT mix turn)] 3 (0, 0))) (hm : 0 < many) (hm2 : many ≤ 1000000) (ht : turn ≤ 1000000000) :
    Calls Try.prog 105 #[.int .i64 many, .pointer (some ⟨N1, 0, none⟩), .pointer (some ⟨N2, 0, none⟩)] w fun e w' => e = .returned (.int .i64 (pickK mix turn many)) ∧ w'.heap[N2]? = some (.cells #[.int .i64 (askT mix (turn + 1))] 3 (0, 0)) ∧ Rw N2 w w' := by
  obtain ⟨hl, h64, hrg, hat⟩ := hx
  have z1 := lt_of_cell h1
  have c2 : w.cell? ⟨N2, 0, none⟩ = some (.int .i64 (askT mix turn)) := by simp [World.cell?, h2]
  have g2 : w.frozen? ⟨N2, 0, none⟩ = false := by simp [World.frozen?, h2]
  have z2 := lt_of_cell c2
  have mixed : Try.prog.follows .mixedOrders = true := by kernel_rfl
  by_cases hmx : mix = []
  · have hxl : xl = 0 := by rw [← hl, hmx]; rfl
    subst hxl
    have hK : pickK mix turn many = 0 := by unfold pickK; rw [if_pos hmx]
    have hA : askT mix (turn + 1) = askT mix turn := by unfold askT; rw [if_pos hmx, if_pos hmx]
    rw [hK, hA]
    clear hat hl h64
    have H2 := hide h2
    clear h2 hmx hK hA hrg
    go_enter Try.func105, Try.ntmps105
    go_wp2
    go_ret
    exact ⟨rfl, H2.out, Rw.refl _ _⟩
  · have hA : askT mix turn = turn := by unfold askT; rw [if_neg hmx]
    have hA2 : askT mix (turn + 1) = turn + 1 := by unfold askT; rw [if_neg hmx]
    rw [hA] at h2 c2
    rw [hA2]
    have hxl : 0 < xl := by rw [← hl]; exact List.length_pos_iff.2 hmx
    obtain ⟨b, off, rfl, hat2⟩ := hat.resolve_left (by omega)
    obtain ⟨q, hq⟩ : ∃ q, q = turn % xl := ⟨_, rfl⟩
    have hqx : q < xl := by rw [hq]; exact Nat.mod_lt _ hxl
    have hc := hat2 q hqx
    obtain ⟨z, hz⟩ : ∃ z, z = mix[q]?.getD 0 := ⟨_, rfl⟩
    rw [← hz] at hc
    have zc := lt_of_cell hc
    have hK : pickK mix turn many = (z % (many : Int)).toNat := by unfold pickK; rw [if_neg hmx, hl, ← hq, ← hz]
    have hKz : ((pickK mix turn many : Nat) : Int) = z % (many : Int) := by
      rw [hK]
      have := Int.emod_nonneg z (show (many : Int) ≠ 0 by omega)
      omega
    have hrem : Int.tmod (turn : Int) (xl : Int) = (q : Int) := by rw [tmod_nat, hq]
    obtain ⟨r, hr⟩ : ∃ r, r = Int.tmod z (many : Int) := ⟨_, rfl⟩
    have hr1 : Int.tmod z (many : Int) = r := hr.symm
    have hr2 := Int.lt_tmod_of_pos z (show (0 : Int) < (many : Int) by omega)
    have hr3 := Int.tmod_lt_of_pos z (show (0 : Int) < (many : Int) by omega)
    rw [hr1] at hr2 hr3
    have hfin : Int.tmod (r + (many : Int)) (many : Int) = z % (many : Int) := by rw [hr]; exact tmod_twice z hm
    have hxne : ¬ (xl : Int) = 0 := by omega
    have hxneb : ((xl : Int) == 0) = false := by simpa using hxne
    have hmne : ¬ (many : Int) = 0 := by omega
    have hmneb : ((many : Int) == 0) = false := by simpa using hmne
    have hxn : ¬ xl = 0 := by omega
    have hmn : ¬ many = 0 := by omega
    have hrem2 : turn % xl = q := hq.symm
    have hrem3 : (turn : Int) % (xl : Int) = (q : Int) := by rw [← hrem, tmod_nat]; rfl
    have hw1 : IntKind.i64.wrap (r + (many : Int)) = r + (many : Int) := by rw [IntKind.wrap_i64]; omega
    have hqz : (q : Int) < (xl : Int) := by omega
    have hw2 : IntKind.i64.wrap (q : Int) = (q : Int) := by rw [IntKind.wrap_i64]; omega
    have hw3 : IntKind.i64.wrap r = r := by rw [IntKind.wrap_i64]; omega
    have hw4 : IntKind.i64.wrap (z % (many : Int)) = z % (many : Int) := by
      have e1 := Int.emod_nonneg z (show (many : Int) ≠ 0 by omega)
      have e2 := Int.emod_lt_of_pos z (show (0 : Int) < (many : Int) by omega)
      rw [IntKind.wrap_i64]
      omega
    have H2 := hide h2
    rw [hKz]
    clear hat hat2 hl h64 hq hz hr hK hKz hmx hA hA2 h2 hrg
    go_enter Try.func105, Try.ntmps105
    go_wp2_with fail
    have l1 : ∀ n os, (grow (w.drewN n) os).cell? ⟨N1, 0, none⟩ = some (.slice (some ⟨b, off, none⟩) xl xc) := fun n os => (World.cell?_of_block (a := ⟨N1, 0, none⟩) ((bl_grow w n os).block N1 z1)).trans h1
    have l2 : ∀ n os, (grow (w.drewN n) os).cell? ⟨N2, 0, none⟩ = some (.int .i64 turn) := fun n os => (World.cell?_of_block (a := ⟨N2, 0, none⟩) ((bl_grow w n os).block N2 z2)).trans c2
    have l3 : ∀ n os, (grow (w.drewN n) os).cell? ⟨b, off + q, none⟩ = some (.int .i64 z) := fun n os => (World.cell?_of_block (a := ⟨b, off + q, none⟩) ((bl_grow w n os).block b zc)).trans hc
    go_quiet_grown (fail)
    clear l1 l2 l3
    have z2' : N2 < (grow (w.drewN nq) osq).heap.size := by rw [size_grow]; exact Nat.lt_of_lt_of_le z2 (Nat.le_add_right _ _)
    have hB := bl_grow w nq osq
    have e2 := hB.block N2 z2
    have c2' : (grow (w.drewN nq) osq).cell? ⟨N2, 0, none⟩ = some (.int .i64 turn) := (World.cell?_of_block (a := ⟨N2, 0, none⟩) e2).trans c2
    have g2' : (grow (w.drewN nq) osq).frozen? ⟨N2, 0, none⟩ = false := (World.frozen?_of_block (a := ⟨N2, 0, none⟩) e2).trans g2
    have HB := hide hB
    have HE2 := hide e2
    clear hB e2 c2 g2 z2 h1 hc zc z1
    generalize grow (w.drewN nq) osq = w2 at *
    go_wp2_with fail
    go_ret
    have hh := HE2.out.trans H2.out
    refine ⟨rfl, ?_, (Rw.of_below (Nat.lt_of_lt_of_le (lt_of_heap H2.out) (Nat.le_refl _)) HB.out).trans (bl_setCell (p := ⟨N2, 0, none⟩) (lt_of_heap hh) _)⟩
    unfold World.setCell
    simp only [Array.getElem?_modify, hh]
    simp
set_option maxRecDepth 100000 in
theorem picker_any (xa : Option Addr) (xl xc : Nat) (w : World) : Calls Try.prog 78 #[.slice xa xl xc] w fun e w' => e = .returned (.func (.func 105) #[] #[.pointer (some ⟨w.heap.size, 0, none⟩), .pointer (some ⟨w.heap.size + 1, 0, none⟩)]) ∧ w'.cell? ⟨w.heap.size, 0, none⟩ = some (.slice xa xl xc) ∧ w'.heap[w.heap.size + 1]? = some (.cells #[.int .i64 0] 3 (0, 0)) ∧ Below w.heap.size w w' ∧ w.heap.size + 1 < w'.heap.size := by
  go_enter Try.func78, Try.ntmps78
  go_wp2
  go_ret
  have e1 := World.alloc_heap_new (w.alloc (.cells #[.slice xa xl xc] 22)) (.cells #[.int .i64 0] 3)
  rw [World.size_alloc] at e1
  refine ⟨rfl, ?_, ?_, ?_, ?_⟩
  · have e2 : ((w.alloc (.cells #[.slice xa xl xc] 22)).alloc (.cells #[.int .i64 0] 3)).cell? ⟨w.heap.size, 0, none⟩ = some (.slice xa xl xc) := by
      rw [Lib.cell?_alloc_some _ (v := .slice xa xl xc)]
      unfold World.cell?
      rw [World.alloc_heap_new]
      rfl
    exact e2
  · exact e1
  · exact bl_on (bl_new _) (bl_new _)
  · rw [World.size_alloc, World.size_alloc]
    omega
set_option maxRecDepth 100000 in
set_option maxHeartbeats 4000000 in
/-- The first place at which p holds. -/
theorem idxT_any (G : Nat) (eG : ∀ args w, (callFunc G args).run Try.prog w = .ok (.enter G args) w) (cb : Value) (p : Nat → Bool) (g n : Nat) (us : Nat → TW) (o m c : Nat) (w : World) (h : RowS w g n us) (hom : o + m ≤ n) (hm : m ≤ 1000000) (hp : ∀ j, j < m → ∀ W, Below w.heap.size w W → Calls Try.prog G #[(us (o + j)).v, cb] W fun e w' => e = .returned (.bool (p j)) ∧ Below W.heap.size W w') :
    Calls Try.prog 106 #[.slice (some ⟨g, o * 15, none⟩) m c, .func (.func G) #[] #[cb]] w fun e w' => (∃ k, k ≤ m ∧ (∀ j, j < k → p j = false) ∧ (k < m → p k = true) ∧ e = .returned (.int .i64 (if k < m then (k : Int) else -1))) ∧ Below w.heap.size w w' := by
  have HR := hide h
  have HP := hide hp
  clear h hp
  obtain ⟨off, hoff⟩ : ∃ off, off = o * 15 := ⟨_, rfl⟩
  rw [← hoff]
  have HOFF := hide hoff
  clear hoff
  go_enter Try.func106, Try.ntmps106
  go_wp2
  go_loopw [8] (fun v wr => ∃ j : Nat, j ≤ m ∧ v = .int .i64 j ∧ (∀ i, i < j → p i = false) ∧ Below w.heap.size w wr) (fun v _ => m - (intOf v).toNat)
  case atStart => exact ⟨0, Nat.zero_le _, rfl, fun i hi => by omega, Below.refl _ _⟩
  case round =>
    obtain ⟨j, hj, rfl, hno, hB⟩ := hrel
    have HNO := hide hno
    have HB := hide hB
    clear hno hB
    by_cases hlt : j < m
    · have hltz : (j : Int) < (m : Int) := by omega
      have hcs : ∀ i, i < 15 → wr.cell? ⟨g, off + j * 15 + i, none⟩ = (us (o + j)).cs[i]? := by
        have := (HR.out.below HB.out).tat (o := o) (j := j) (by omega)
        rw [← HOFF.out] at this
        exact this
      have hc := HP.out j hlt wr HB.out
      obtain ⟨u, hu⟩ : ∃ u, u = us (o + j) := ⟨_, rfl⟩
      rw [← hu] at hcs hc
      clear hu
      have c0 : wr.cell? ⟨g, off + j * 15, none⟩ = some (.int .i64 u.stm) := hcs 0 (by omega)
      have cz0 := lt_of_cell c0
      have c1 : wr.cell? ⟨g, off + j * 15 + 1, none⟩ = some (.slice u.xa u.xl u.xc) := hcs 1 (by omega)
      have cz1 := lt_of_cell c1
      have c2 : wr.cell? ⟨g, off + j * 15 + 2, none⟩ = some (.int .i64 (u.tm 0)) := hcs 2 (by omega)
      have cz2 := lt_of_cell c2
      have c3 : wr.cell? ⟨g, off + j * 15 + 3, none⟩ = some (.int .i64 (u.tm 1)) := hcs 3 (by omega)
      have cz3 := lt_of_cell c3
      have c4 : wr.cell? ⟨g, off + j * 15 + 4, none⟩ = some (.int .i64 (u.tm 2)) := hcs 4 (by omega)
      have cz4 := lt_of_cell c4
      have c5 : wr.cell? ⟨g, off + j * 15 + 5, none⟩ = some (.int .i64 (u.tm 3)) := hcs 5 (by omega)
      have cz5 := lt_of_cell c5
      have c6 : wr.cell? ⟨g, off + j * 15 + 6, none⟩ = some (.int .i64 (u.tm 4)) := hcs 6 (by omega)
      have cz6 := lt_of_cell c6
      have c7 : wr.cell? ⟨g, off + j * 15 + 7, none⟩ = some (.int .i64 (u.tm 5)) := hcs 7 (by omega)
      have cz7 := lt_of_cell c7
      have c8 : wr.cell? ⟨g, off + j * 15 + 8, none⟩ = some (.int .i64 (u.tm 6)) := hcs 8 (by omega)
      have cz8 := lt_of_cell c8
      have c9 : wr.cell? ⟨g, off + j * 15 + 9, none⟩ = some (.int .i64 (u.tm 7)) := hcs 9 (by omega)
      have cz9 := lt_of_cell c9
      have c10 : wr.cell? ⟨g, off + j * 15 + 10, none⟩ = some (.int .i64 u.kd) := hcs 10 (by omega)
      have cz10 := lt_of_cell c10
      have c11 : wr.cell? ⟨g, off + j * 15 + 11, none⟩ = some (.int .i64 u.va) := hcs 11 (by omega)
      have cz11 := lt_of_cell c11
      have c12 : wr.cell? ⟨g, off + j * 15 + 12, none⟩ = some (.int .i64 u.pu.arr) := hcs 12 (by omega)
      have cz12 := lt_of_cell c12
      have c13 : wr.cell? ⟨g, off + j * 15 + 13, none⟩ = some (.int .i64 u.pu.pos) := hcs 13 (by omega)
      have cz13 := lt_of_cell c13
      have c14 : wr.cell? ⟨g, off + j * 15 + 14, none⟩ = some (.slice u.ga u.gl u.gc) := hcs 14 (by omega)
      have cz14 := lt_of_cell c14
      have HCL := hide hc
      unfold TW.v TW.cs at HCL
      cases hpj : p j with
      | true =>
        rw [hpj] at HCL
        clear hc hcs
        go_wp2_with (first | (go_at_fn G; refine HCL.out.mono ?_; rintro e w1 ⟨rfl, hb1⟩) | fail)
        go_ret
        exact ⟨⟨j, hj, HNO.out, fun _ => hpj, by rw [if_pos hlt]; rfl⟩, bl_on HB.out hb1⟩
      | false =>
        rw [hpj] at HCL
        clear hc hcs
        go_wp2_with (first | (go_at_fn G; refine HCL.out.mono ?_; rintro e w1 ⟨rfl, hb1⟩) | fail)
        refine ⟨⟨j + 1, by omega, rfl, fun i hi => ?_, bl_on HB.out hb1⟩, by simp [intOf]; omega⟩
        rcases Nat.lt_or_ge i j with k | k
        · exact HNO.out i k
        · obtain rfl : i = j := by omega
          exact hpj
    · have hltz : ¬ (j : Int) < (m : Int) := by omega
      obtain rfl : j = m := by omega
      go_wp2
      go_ret
      exact ⟨⟨j, Nat.le_refl _, HNO.out, fun k => by omega, by rw [if_neg (Nat.lt_irrefl _)]; rfl⟩, HB.out⟩
set_option maxRecDepth 100000 in
set_option maxHeartbeats 4000000 in
/-- Has a spot another time than the first one? -/
theorem once1 (q p : TW) (bx g off m c : Nat) (w : World) (hm : 0 < m) (hbx : w.cell? ⟨bx, 0, none⟩ = some (.slice (some ⟨g, off, none⟩) m c)) (hcs : ∀ i, i < 15 → w.cell? ⟨g, off + i, none⟩ = p.cs[i]?) :
    Calls Try.prog 107 #[q.v, .pointer (some ⟨bx, 0, none⟩)] w fun e w' => e = .returned (.bool (cmpT q.tm p.tm != 0)) ∧ Below w.heap.size w w' := by
  have HBT := hide (fun W => byTime_any q p W)
  obtain ⟨K, hK⟩ : ∃ K, K = cmpT q.tm p.tm := ⟨_, rfl⟩
  rw [← hK] at HBT ⊢
  clear hK
  have P0 := q.new w
  obtain ⟨W, hW⟩ : ∃ W, W = w.alloc (.cells q.cs 63) := ⟨_, rfl⟩
  have hBW : Below w.heap.size w W := by rw [hW]; exact bl_new _
  rw [← hW] at P0
  obtain ⟨d0, d1, d2, d3, d4, d5, d6, d7, d8, d9, d10, d11, d12, d13, d14⟩ := P0.cells
  have dz := P0.lt
  have hgl : g < w.heap.size := lt_of_cell (hcs 0 (by omega))
  have hbl := lt_of_cell hbx
  have b0 : W.cell? ⟨bx, 0, none⟩ = some (.slice (some ⟨g, off, none⟩) m c) := (World.cell?_of_block (a := ⟨bx, 0, none⟩) (hBW.block bx hbl)).trans hbx
  have hm' : (0 : Int) < (m : Int) := by omega
  have c0 : W.cell? ⟨g, off, none⟩ = some (.int .i64 p.stm) := (World.cell?_of_block (a := ⟨g, off, none⟩) (hBW.block g hgl)).trans (hcs 0 (by omega))
  have c1 : W.cell? ⟨g, off + 1, none⟩ = some (.slice p.xa p.xl p.xc) := (World.cell?_of_block (a := ⟨g, off + 1, none⟩) (hBW.block g hgl)).trans (hcs 1 (by omega))
  have c2 : W.cell? ⟨g, off + 2, none⟩ = some (.int .i64 (p.tm 0)) := (World.cell?_of_block (a := ⟨g, off + 2, none⟩) (hBW.block g hgl)).trans (hcs 2 (by omega))
  have c3 : W.cell? ⟨g, off + 3, none⟩ = some (.int .i64 (p.tm 1)) := (World.cell?_of_block (a := ⟨g, off + 3, none⟩) (hBW.block g hgl)).trans (hcs 3 (by omega))
  have c4 : W.cell? ⟨g, off + 4, none⟩ = some (.int .i64 (p.tm 2)) := (World.cell?_of_block (a := ⟨g, off + 4, none⟩) (hBW.block g hgl)).trans (hcs 4 (by omega))
  have c5 : W.cell? ⟨g, off + 5, none⟩ = some (.int .i64 (p.tm 3)) := (World.cell?_of_block (a := ⟨g, off + 5, none⟩) (hBW.block g hgl)).trans (hcs 5 (by omega))
  have c6 : W.cell? ⟨g, off + 6, none⟩ = some (.int .i64 (p.tm 4)) := (World.cell?_of_block (a := ⟨g, off + 6, none⟩) (hBW.block g hgl)).trans (hcs 6 (by omega))
  have c7 : W.cell? ⟨g, off + 7, none⟩ = some (.int .i64 (p.tm 5)) := (World.cell?_of_block (a := ⟨g, off + 7, none⟩) (hBW.block g hgl)).trans (hcs 7 (by omega))
  have c8 : W.cell? ⟨g, off + 8, none⟩ = some (.int .i64 (p.tm 6)) := (World.cell?_of_block (a := ⟨g, off + 8, none⟩) (hBW.block g hgl)).trans (hcs 8 (by omega))
  have c9 : W.cell? ⟨g, off + 9, none⟩ = some (.int .i64 (p.tm 7)) := (World.cell?_of_block (a := ⟨g, off + 9, none⟩) (hBW.block g hgl)).trans (hcs 9 (by omega))
  have c10 : W.cell? ⟨g, off + 10, none⟩ = some (.int .i64 p.kd) := (World.cell?_of_block (a := ⟨g, off + 10, none⟩) (hBW.block g hgl)).trans (hcs 10 (by omega))
  have c11 : W.cell? ⟨g, off + 11, none⟩ = some (.int .i64 p.va) := (World.cell?_of_block (a := ⟨g, off + 11, none⟩) (hBW.block g hgl)).trans (hcs 11 (by omega))
  have c12 : W.cell? ⟨g, off + 12, none⟩ = some (.int .i64 p.pu.arr) := (World.cell?_of_block (a := ⟨g, off + 12, none⟩) (hBW.block g hgl)).trans (hcs 12 (by omega))
  have c13 : W.cell? ⟨g, off + 13, none⟩ = some (.int .i64 p.pu.pos) := (World.cell?_of_block (a := ⟨g, off + 13, none⟩) (hBW.block g hgl)).trans (hcs 13 (by omega))
  have c14 : W.cell? ⟨g, off + 14, none⟩ = some (.slice p.ga p.gl p.gc) := (World.cell?_of_block (a := ⟨g, off + 14, none⟩) (hBW.block g hgl)).trans (hcs 14 (by omega))
  have HW := hide hW
  have HBW := hide hBW
  clear hcs hbx hW hBW P0
  unfold TW.v TW.cs at HBT
  unfold TW.cs at HW
  unfold TW.v TW.cs
  go_enter Try.func107, Try.ntmps107
  go_wp2_with fail
  rw [← HW.out]
  refine region_made 6 7 [fIs (.agg #[.int .i64 q.stm, .slice q.xa q.xl q.xc, .int .i64 (q.tm 0), .int .i64 (q.tm 1), .int .i64 (q.tm 2), .int .i64 (q.tm 3), .int .i64 (q.tm 4), .int .i64 (q.tm 5), .int .i64 (q.tm 6), .int .i64 (q.tm 7), .int .i64 q.kd, .int .i64 q.va, .int .i64 q.pu.arr, .int .i64 q.pu.pos, .slice q.ga q.gl q.gc]), fIs (.slice (some ⟨g, off, none⟩) m c), fIs (.pointer (some ⟨g, off, none⟩)), fIs (.agg #[.int .i64 p.stm, .slice p.xa p.xl p.xc, .int .i64 (p.tm 0), .int .i64 (p.tm 1), .int .i64 (p.tm 2), .int .i64 (p.tm 3), .int .i64 (p.tm 4), .int .i64 (p.tm 5), .int .i64 (p.tm 6), .int .i64 (p.tm 7), .int .i64 p.kd, .int .i64 p.va, .int .i64 p.pu.arr, .int .i64 p.pu.pos, .slice p.ga p.gl p.gc]), fIs (.int .i64 K), fIs (.bool (K != 0))] (by kernel_rfl) (by kernel_rfl) (by kernel_rfl) (fun _ ⟨_, _⟩ ⟨_, _⟩ _ e h => by cases e; exact h) ⟨fIs_good _, fIs_good _, fIs_good _, fIs_good _, fIs_good _, fIs_good _, trivial⟩ ?mk ?rest
  case mk =>
    refine ⟨fun u wz hb hd => ?_, fun u wz hb hd => ?_, fun u wz hb hd => ?_, fun u wz hb hd => ?_, fun u wz hb hd => ?_, fun u wz hb hd => ?_, trivial⟩
    all_goals simp only [Act.put, List.setIfInBounds_toArray, List.set_cons_zero, List.set_cons_succ]
    · have d0' := (hb.cell (p := ⟨w.heap.size, 0, none⟩) (lt_of_cell d0)).trans d0
      have d1' := (hb.cell (p := ⟨w.heap.size, 1, none⟩) (lt_of_cell d1)).trans d1
      have d2' := (hb.cell (p := ⟨w.heap.size, 2, none⟩) (lt_of_cell d2)).trans d2
      have d3' := (hb.cell (p := ⟨w.heap.size, 3, none⟩) (lt_of_cell d3)).trans d3
      have d4' := (hb.cell (p := ⟨w.heap.size, 4, none⟩) (lt_of_cell d4)).trans d4
      have d5' := (hb.cell (p := ⟨w.heap.size, 5, none⟩) (lt_of_cell d5)).trans d5
      have d6' := (hb.cell (p := ⟨w.heap.size, 6, none⟩) (lt_of_cell d6)).trans d6
      have d7' := (hb.cell (p := ⟨w.heap.size, 7, none⟩) (lt_of_cell d7)).trans d7
      have d8' := (hb.cell (p := ⟨w.heap.size, 8, none⟩) (lt_of_cell d8)).trans d8
      have d9' := (hb.cell (p := ⟨w.heap.size, 9, none⟩) (lt_of_cell d9)).trans d9
      have d10' := (hb.cell (p := ⟨w.heap.size, 10, none⟩) (lt_of_cell d10)).trans d10
      have d11' := (hb.cell (p := ⟨w.heap.size, 11, none⟩) (lt_of_cell d11)).trans d11
      have d12' := (hb.cell (p := ⟨w.heap.size, 12, none⟩) (lt_of_cell d12)).trans d12
      have d13' := (hb.cell (p := ⟨w.heap.size, 13, none⟩) (lt_of_cell d13)).trans d13
      have d14' := (hb.cell (p := ⟨w.heap.size, 14, none⟩) (lt_of_cell d14)).trans d14
      go_simp
      exact ⟨rfl, Below.refl _ _, fun h => by cases h⟩
    · have b0' := (hb.cell (p := ⟨bx, 0, none⟩) (lt_of_cell b0)).trans b0
      go_simp
      exact ⟨rfl, Below.refl _ _, fun h => by cases h⟩
    · have e1 : u 1 = .slice (some ⟨g, off, none⟩) m c := hd 1 (by omega) (by kernel_rfl)
      rw [e1]
      go_simp
      exact ⟨rfl, Below.refl _ _, fun h => by cases h⟩
    · have e2 : u 2 = .pointer (some ⟨g, off, none⟩) := hd 2 (by omega) (by kernel_rfl)
      rw [e2]
      have c0' := (hb.cell (p := ⟨g, off, none⟩) (lt_of_cell c0)).trans c0
      have c1' := (hb.cell (p := ⟨g, off + 1, none⟩) (lt_of_cell c1)).trans c1
      have c2' := (hb.cell (p := ⟨g, off + 2, none⟩) (lt_of_cell c2)).trans c2
      have c3' := (hb.cell (p := ⟨g, off + 3, none⟩) (lt_of_cell c3)).trans c3
      have c4' := (hb.cell (p := ⟨g, off + 4, none⟩) (lt_of_cell c4)).trans c4
      have c5' := (hb.cell (p := ⟨g, off + 5, none⟩) (lt_of_cell c5)).trans c5
      have c6' := (hb.cell (p := ⟨g, off + 6, none⟩) (lt_of_cell c6)).trans c6
      have c7' := (hb.cell (p := ⟨g, off + 7, none⟩) (lt_of_cell c7)).trans c7
      have c8' := (hb.cell (p := ⟨g, off + 8, none⟩) (lt_of_cell c8)).trans c8
      have c9' := (hb.cell (p := ⟨g, off + 9, none⟩) (lt_of_cell c9)).trans c9
      have c10' := (hb.cell (p := ⟨g, off + 10, none⟩) (lt_of_cell c10)).trans c10
      have c11' := (hb.cell (p := ⟨g, off + 11, none⟩) (lt_of_cell c11)).trans c11
      have c12' := (hb.cell (p := ⟨g, off + 12, none⟩) (lt_of_cell c12)).trans c12
      have c13' := (hb.cell (p := ⟨g, off + 13, none⟩) (lt_of_cell c13)).trans c13
      have c14' := (hb.cell (p := ⟨g, off + 14, none⟩) (lt_of_cell c14)).trans c14
      go_simp
      exact ⟨rfl, Below.refl _ _, fun h => by cases h⟩
    · have e0 : u 0 = .agg #[.int .i64 q.stm, .slice q.xa q.xl q.xc, .int .i64 (q.tm 0), .int .i64 (q.tm 1), .int .i64 (q.tm 2), .int .i64 (q.tm 3), .int .i64 (q.tm 4), .int .i64 (q.tm 5), .int .i64 (q.tm 6), .int .i64 (q.tm 7), .int .i64 q.kd, .int .i64 q.va, .int .i64 q.pu.arr, .int .i64 q.pu.pos, .slice q.ga q.gl q.gc] := hd 0 (by omega) (by kernel_rfl)
      have e3 : u 3 = .agg #[.int .i64 p.stm, .slice p.xa p.xl p.xc, .int .i64 (p.tm 0), .int .i64 (p.tm 1), .int .i64 (p.tm 2), .int .i64 (p.tm 3), .int .i64 (p.tm 4), .int .i64 (p.tm 5), .int .i64 (p.tm 6), .int .i64 (p.tm 7), .int .i64 p.kd, .int .i64 p.va, .int .i64 p.pu.arr, .int .i64 p.pu.pos, .slice p.ga p.gl p.gc] := hd 3 (by omega) (by kernel_rfl)
      rw [e0, e3]
      go_simp
      refine (HBT.out wz).mono ?_
      rintro e w2 ⟨rfl, hb2⟩
      exact ⟨rfl, hb2, fun h => by cases h⟩
    · have e4 : u 4 = .int .i64 K := hd 4 (by omega) (by kernel_rfl)
      rw [e4]
      go_simp
      exact ⟨rfl, Below.refl _ _, fun h => by cases h⟩
  case rest =>
    intro u wz hb hf hp
    have f0 : u 0 = .agg #[.int .i64 q.stm, .slice q.xa q.xl q.xc, .int .i64 (q.tm 0), .int .i64 (q.tm 1), .int .i64 (q.tm 2), .int .i64 (q.tm 3), .int .i64 (q.tm 4), .int .i64 (q.tm 5), .int .i64 (q.tm 6), .int .i64 (q.tm 7), .int .i64 q.kd, .int .i64 q.va, .int .i64 q.pu.arr, .int .i64 q.pu.pos, .slice q.ga q.gl q.gc] := hf 0 (by omega)
    have f1 : u 1 = .slice (some ⟨g, off, none⟩) m c := hf 1 (by omega)
    have f2 : u 2 = .pointer (some ⟨g, off, none⟩) := hf 2 (by omega)
    have f3 : u 3 = .agg #[.int .i64 p.stm, .slice p.xa p.xl p.xc, .int .i64 (p.tm 0), .int .i64 (p.tm 1), .int .i64 (p.tm 2), .int .i64 (p.tm 3), .int .i64 (p.tm 4), .int .i64 (p.tm 5), .int .i64 (p.tm 6), .int .i64 (p.tm 7), .int .i64 p.kd, .int .i64 p.va, .int .i64 p.pu.arr, .int .i64 p.pu.pos, .slice p.ga p.gl p.gc] := hf 3 (by omega)
    have f4 : u 4 = .int .i64 K := hf 4 (by omega)
    have f5 : u 5 = .bool (K != 0) := hf 5 (by omega)
    refine UptoW.rest 1 6 (by rfl) (by kernel_rfl) ?_
    simp only [List.take, List.drop, putOps, Act.put, List.setIfInBounds_toArray, List.set_cons_zero, List.set_cons_succ, Nat.reduceAdd, f0, f1, f2, f3, f4, f5]
    clear f0 f1 f2 f3 f4 f5 hf hp
    have HB1 := hide (bl_on HBW.out hb)
    clear hb
    go_wp2_with fail
    go_ret
    exact ⟨rfl, HB1.out⟩
set_option maxRecDepth 100000 in
/-- How many have the time of the first one. -/
theorem atOnce_any (g n : Nat) (us : Nat → TW) (o m c : Nat) (w : World) (h : RowS w g n us) (hom : o + m ≤ n) (hm : 0 < m) (hm2 : m ≤ 1000000) :
    Calls Try.prog 79 #[.slice (some ⟨g, o * 15, none⟩) m c] w fun e w' => (∃ k : Nat, e = .returned (.int .i64 k) ∧ 0 < k ∧ k ≤ m ∧ (∀ j, j < k → cmpT (us (o + j)).tm (us o).tm = 0) ∧ (k < m → cmpT (us (o + k)).tm (us o).tm ≠ 0)) ∧ Below w.heap.size w w' := by
  obtain ⟨W, hW⟩ : ∃ W, W = w.alloc (.cells #[.slice (some ⟨g, o * 15, none⟩) m c] 76) := ⟨_, rfl⟩
  have hBW : Below w.heap.size w W := by rw [hW]; exact bl_new _
  have hB0 : W.heap[w.heap.size]? = some (.cells #[.slice (some ⟨g, o * 15, none⟩) m c] 76 (0, 0)) := by rw [hW]; exact World.alloc_heap_new _ _
  have hbx : W.cell? ⟨w.heap.size, 0, none⟩ = some (.slice (some ⟨g, o * 15, none⟩) m c) := by simp [World.cell?, hB0]
  have hR := h.below hBW
  have hc := idxT_any 107 (enters_of Try.func107 (by kernel_rfl) rfl) (.pointer (some ⟨w.heap.size, 0, none⟩)) (fun j => cmpT (us (o + j)).tm (us o).tm != 0) g n us o m c W hR hom hm2 (fun j hj V hV => once1 (us (o + j)) (us o) w.heap.size g (o * 15) m c V hm ((World.cell?_of_block (a := ⟨w.heap.size, 0, none⟩) (hV.block _ (lt_of_cell hbx))).trans hbx) (fun i hi => (hR.below hV).at_ o (by omega) i hi))
  have hz := lt_of_cell hbx
  have HW := hide hW
  have HBW := hide hBW
  clear h hR hW hBW hB0
  go_enter Try.func79, Try.ntmps79
  go_wp2_with fail
  rw [← HW.out]
  refine hc.mono ?_
  rintro e w1 ⟨⟨k, hk, hno, hyes, rfl⟩, hb1⟩
  have hbx1 := (World.cell?_of_block (a := ⟨w.heap.size, 0, none⟩) (hb1.block _ hz)).trans hbx
  have hz1 := lt_of_cell hbx1
  have HB1 := hide (bl_on HBW.out hb1)
  have h0 : 0 < k := by
    rcases Nat.eq_zero_or_pos k with e | e
    · subst e
      have := hyes hm
      rw [Nat.add_zero, cmpT_same (fun _ _ => rfl)] at this
      simp at this
    · exact e
  have HNO : Hid (∀ j, j < k → cmpT (us (o + j)).tm (us o).tm = 0) := fun j hj => by simpa using hno j hj
  have HYES : Hid (k < m → cmpT (us (o + k)).tm (us o).tm ≠ 0) := fun hj => by simpa using hyes hj
  clear hb1 hno hyes hc hbx
  by_cases hkm : k < m
  · rw [if_pos hkm]
    have hkz : ¬ (k : Int) < 0 := by omega
    go_wp2_with fail
    go_ret
    exact ⟨⟨k, rfl, h0, hk, HNO.out, HYES.out⟩, HB1.out⟩
  · rw [if_neg hkm]
    obtain rfl : k = m := by omega
    go_wp2_with fail
    go_ret
    exact ⟨⟨k, rfl, h0, hk, HNO.out, HYES.out⟩, HB1.out⟩
end Go.Proofs.Ytkbdnhchlkafnaa.V
namespace Go.Proofs.Ytkbdnhchlkafnaa.V
open Go Go.Shelf Go.RowKit Go.Lib Go.Sort Go.Proofs Go.Proofs.Ytkbdnhchlkafnaa.S
set_option linter.unusedVariables false

theorem map_erase {β γ : Type} (f : β → γ) : ∀ (l : List β) (k : Nat), (l.map f).eraseIdx k = (l.eraseIdx k).map f
  | [], k => by simp
  | x :: l, 0 => by simp
  | x :: l, k + 1 => by simp [map_erase f l k]
theorem wds_erase (F : List PT) (k j : Nat) (hk : k < F.length) (hj : j + 1 < F.length) : wds (F.eraseIdx k) j = if k ≤ j then wds F (j + 1) else wds F j := by
  unfold wds
  rw [List.getElem?_eraseIdx]
  by_cases h : j < k
  · rw [if_pos h, if_neg (by omega)]
  · rw [if_neg h, if_pos (by omega)]
theorem wds_snoc (D : List PT) (x : PT) (j : Nat) (hj : j < (D ++ [x]).length) : wds (D ++ [x]) j = if j < D.length then wds D j else x.1 := by
  unfold wds
  by_cases h : j < D.length
  · rw [if_pos h, List.getElem?_append_left h]
  · rw [if_neg h, List.getElem?_append_right (by omega)]
    simp at hj
    have : j - D.length = 0 := by omega
    simp [this]
/-- The row of what is still to be done: those of the first time from o on, the others from o2 on. -/
structure RowF (W : World) (g n : Nat) (F R : List PT) (o o2 : Nat) (us : Nat → TW) : Prop where
  row : RowS W g n us
  front : ∀ j, j < F.length → us (o + j) = wds F j
  rest : ∀ j, j < R.length → us (o2 + j) = wds R j
  fit : o + F.length ≤ o2
  all : o2 + R.length = n
/-- The row of what has been done. -/
structure RowD (W : World) (h n : Nat) (D : List PT) : Prop where
  row : ∃ vs, RowS W h n vs ∧ ∀ j, j < D.length → vs j = wds D j
theorem RowF.del {W V : World} {g n : Nat} {F R : List PT} {o o2 : Nat} {us : Nat → TW} (h : RowF W g n F R o o2 us) {k : Nat} (hk : k < F.length) (hV : RowS V g n (outU us o k F.length)) : RowF V g n (F.eraseIdx k) R o o2 (outU us o k F.length) := by
  have hl : (F.eraseIdx k).length = F.length - 1 := by rw [List.length_eraseIdx, if_pos hk]
  have hf := h.fit
  refine ⟨hV, fun j hj => ?_, fun j hj => ?_, by omega, h.all⟩
  · rw [hl] at hj
    rw [wds_erase F k j hk (by omega)]
    unfold outU
    by_cases c : k ≤ j
    · rw [if_pos (by omega), if_pos c, show o + j + 1 = o + (j + 1) by omega]
      exact h.front (j + 1) (by omega)
    · rw [if_neg (by omega), if_neg (by omega), if_neg c]
      exact h.front j (by omega)
  · unfold outU
    rw [if_neg (by omega), if_neg (by omega)]
    exact h.rest j hj
theorem RowD.app {W V : World} {h n : Nat} {D : List PT} (hd : RowD W h n D) (x : PT) (hn : D.length < n) (us : Nat → TW) (hV : ∀ vs, RowS W h n vs → RowS V h n (fun j => if D.length ≤ j ∧ j < D.length + 1 then x.1 else vs j)) : RowD V h n (D ++ [x]) := by
  obtain ⟨vs, h1, h2⟩ := hd.row
  refine ⟨_, hV vs h1, fun j hj => ?_⟩
  rw [wds_snoc D x j hj]
  simp only [List.length_append, List.length_cons, List.length_nil] at hj
  by_cases c : j < D.length
  · rw [if_pos c]
    show (if _ then _ else _) = _
    rw [if_neg (by omega)]
    exact h2 j c
  · rw [if_neg c]
    show (if _ then _ else _) = _
    rw [if_pos (by omega)]
/-- What is known of the spots. -/
structure TS (T : Tms) (mix : List Int) (L D F R : List PT) (C : List Spn) : Prop where
  play : D.map (·.2) ++ playL T mix (F.length + R.length) D.length (F.map (·.2) ++ R.map (·.2)) = C
  perm : (D ++ (F ++ R)).Perm L
  tm : ∀ x ∈ L, x.1.tm = spT T x.2
theorem TS.front {T : Tms} {mix : List Int} {L D F R : List PT} {C : List Spn} (h : TS T mix L D F R C) {x : PT} (hx : x ∈ F) : x.1.tm = spT T x.2 := h.tm x (h.perm.mem_iff.1 (by simp [hx]))
theorem TS.rest {T : Tms} {mix : List Int} {L D F R : List PT} {C : List Spn} (h : TS T mix L D F R C) {x : PT} (hx : x ∈ R) : x.1.tm = spT T x.2 := h.tm x (h.perm.mem_iff.1 (by simp [hx]))
theorem TS.pick {T : Tms} {mix : List Int} {L D F R : List PT} {C : List Spn} (h : TS T mix L D F R C) (hF : F ≠ []) {τ : Nat → Int} (h1 : ∀ x ∈ F, eq8 x.1.tm τ = true) (h2 : ∀ x ∈ R, befB τ x.1.tm = true) :
    TS T mix L (D ++ [F[pickK mix D.length F.length]?.getD ptD]) (F.eraseIdx (pickK mix D.length F.length)) R C := by
  have hk := pickK_lt mix D.length (List.length_pos_iff.2 hF)
  obtain ⟨k, hkk⟩ : ∃ k, k = pickK mix D.length F.length := ⟨_, rfl⟩
  rw [← hkk] at hk ⊢
  have hx : F[k]? = some (F[k]?.getD ptD) := by simp [hk]
  have hl : (F.eraseIdx k).length = F.length - 1 := by rw [List.length_eraseIdx, if_pos hk]
  refine ⟨?_, ?_, h.tm⟩
  · have hp := play_front (T := T) (f := F.map (·.2)) (r := R.map (·.2)) (τ := τ) mix (F.length - 1 + R.length) D.length (by simpa using hF) (fun y hy => by
      obtain ⟨x, hxm, rfl⟩ := List.mem_map.1 hy
      rw [← h.front hxm]
      exact h1 x hxm) (fun y hy => by
      obtain ⟨x, hxm, rfl⟩ := List.mem_map.1 hy
      rw [← h.rest hxm]
      exact h2 x hxm)
    rw [List.length_map, ← hkk, show F.length - 1 + R.length + 1 = F.length + R.length by omega] at hp
    rw [← h.play, hp, hl]
    simp only [List.map_append, List.map_cons, List.map_nil, List.append_assoc, List.singleton_append, List.length_append, List.length_cons, List.length_nil, Nat.zero_add]
    congr 2
    · simp [hk]
    · rw [map_erase]
  · refine List.Perm.trans ?_ h.perm
    rw [List.append_assoc]
    refine List.Perm.append_left D ?_
    rw [List.singleton_append, ← List.cons_append]
    exact (perm_erase F k _ hx).append_right R
/-- The next ones of one time. -/
theorem TS.next {T : Tms} {mix : List Int} {L D R : List PT} {C : List Spn} (h : TS T mix L D [] R C) (k : Nat) : TS T mix L D (R.take k) (R.drop k) C := by
  refine ⟨?_, by rw [List.take_append_drop]; simpa using h.perm, h.tm⟩
  rw [← h.play, ← List.map_append, List.take_append_drop]
  simp only [List.length_take, List.length_drop, List.map_nil, List.nil_append, List.length_nil, Nat.zero_add]
  congr 2
  omega
theorem TS.done {T : Tms} {mix : List Int} {L D : List PT} {C : List Spn} (h : TS T mix L D [] [] C) : D.map (·.2) = C ∧ D.Perm L := by
  refine ⟨?_, by simpa using h.perm⟩
  have := h.play
  simpa [playL] using this
/-- In a sorted list those of the first time stand in front. -/
theorem split_times {R : List PT} (hs : R.Pairwise (fun a b => befB b.1.tm a.1.tm = false)) {k : Nat} (hk0 : 0 < k) (hk : k ≤ R.length) (h1 : ∀ j, j < k → cmpT (wds R j).tm (wds R 0).tm = 0) (h2 : k < R.length → cmpT (wds R k).tm (wds R 0).tm ≠ 0) :
    (∀ x ∈ R.take k, eq8 x.1.tm (wds R 0).tm = true) ∧ ∀ x ∈ R.drop k, befB (wds R 0).tm x.1.tm = true := by
  constructor
  · intro x hx
    obtain ⟨j, hj, rfl⟩ := List.mem_iff_getElem.1 hx
    rw [List.length_take] at hj
    have := h1 j (by omega)
    have e : wds R j = ((R.take k)[j]'(by rw [List.length_take]; omega)).1 := by
      unfold wds
      simp [show j < R.length by omega]
    rw [e] at this
    rw [← cmpT_zero]
    have h3 := cmpT_zero (wds R 0).tm ((R.take k)[j]'(by rw [List.length_take]; omega)).1.tm
    rw [this] at h3
    have h4 := (eq8_iff _ _).1 h3.symm
    rw [cmpT_same (fun i hi => (h4 i hi))]
    rfl
  · intro x hx
    obtain ⟨j, hj, rfl⟩ := List.mem_iff_getElem.1 hx
    rw [List.length_drop] at hj
    have hkR : k < R.length := by omega
    have hp := List.pairwise_iff_getElem.1 hs
    rw [List.getElem_drop]
    have e0 : wds R 0 = (R[0]'(by omega)).1 := by unfold wds; simp [show 0 < R.length by omega]
    have ek : wds R k = R[k].1 := by unfold wds; simp [hkR]
    have hne := h2 hkR
    have hle : befB R[k].1.tm (R[0]'(by omega)).1.tm = false := hp 0 k (by omega) hkR hk0
    have hlt : befB (R[0]'(by omega)).1.tm R[k].1.tm = true := by
      rw [e0, ek] at hne
      rcases befB_tri (R[0]'(by omega)).1.tm R[k].1.tm with c | c | c
      · exact c
      · rw [c] at hle; cases hle
      · exact absurd (cmpT_same (fun i hi => (c i hi).symm)) hne
    rw [e0]
    rcases Nat.eq_zero_or_pos j with c | c
    · subst c
      exact hlt
    · have h5 : befB R[k + j].1.tm R[k].1.tm = false := hp k (k + j) hkR (by omega) (by omega)
      exact befB_mid2 hlt h5
end Go.Proofs.Ytkbdnhchlkafnaa.V
namespace Go.Proofs.Ytkbdnhchlkafnaa.V
open Go Go.Shelf Go.RowKit Go.Lib Go.Sort Go.Proofs Go.Proofs.Ytkbdnhchlkafnaa.S
set_option linter.unusedVariables false

theorem setCells_heap2 (g : Nat) : ∀ (vs : List Value) (o : Nat) (w : World) (cur : Array Value) (t : TypeId) (z : Nat × Nat), w.heap[g]? = some (.cells cur t z) → ∃ cur', (w.setCells g o vs).heap[g]? = some (.cells cur' t z) ∧ cur'.size = cur.size
  | [], o, w, cur, t, z, h => ⟨cur, h, rfl⟩
  | v :: r, o, w, cur, t, z, h => by
    rw [World.setCells]
    obtain ⟨c2, e1, e2⟩ := setCells_heap2 g r (o + 1) (w.setCell ⟨g, o, none⟩ v) (cur.setIfInBounds o v) t z (by
      rw [setCell_eq]
      unfold mapBlock onCells
      rw [Array.getElem?_modify, if_pos rfl, h]
      rfl)
    exact ⟨c2, e1, by rw [e2]; simp⟩
/-- A row with room for n spots, of which the first are known. -/
structure RowO (W : World) (h n : Nat) (D : List PT) : Prop where
  blk : ∃ cur, W.heap[h]? = some (.cells cur 63 (0, 0)) ∧ n * 15 ≤ cur.size
  at_ : ∀ j, j < D.length → ∀ i, i < 15 → W.cell? ⟨h, j * 15 + i, none⟩ = (wds D j).cs[i]?
theorem RowO.lt {W : World} {h n : Nat} {D : List PT} (r : RowO W h n D) : h < W.heap.size := by
  obtain ⟨cur, e, _⟩ := r.blk
  exact lt_of_heap e
theorem RowO.move {W V : World} {h n : Nat} {D : List PT} (r : RowO W h n D) (e : V.heap[h]? = W.heap[h]?) : RowO V h n D := by
  obtain ⟨cur, e1, e2⟩ := r.blk
  exact ⟨⟨cur, e.trans e1, e2⟩, fun j hj i hi => (World.cell?_of_block (w := W) (w' := V) (a := ⟨h, j * 15 + i, none⟩) e).trans (r.at_ j hj i hi)⟩
theorem RowO.below {W V : World} {h n : Nat} {D : List PT} (r : RowO W h n D) (hb : Below W.heap.size W V) : RowO V h n D := r.move (hb.block h r.lt)
theorem RowO.rw_ {W V : World} {h n g : Nat} {D : List PT} (r : RowO W h n D) (hb : Rw g W V) (hne : h ≠ g) : RowO V h n D := r.move (hb.grown.block h r.lt (fun e => hne (Option.some.inj e)))
theorem RowO.some_ {W : World} {h n : Nat} {D : List PT} (r : RowO W h n D) {t : Nat} (ht : t < n * 15) : (W.cell? ⟨h, t, none⟩).isSome = true := by
  obtain ⟨cur, e, e2⟩ := r.blk
  have : t < cur.size := by omega
  simp [World.cell?, e, this]
theorem RowO.free {W : World} {h n : Nat} {D : List PT} (r : RowO W h n D) (t : Nat) : W.frozen? ⟨h, t, none⟩ = false := by
  obtain ⟨cur, e, e2⟩ := r.blk
  simp [World.frozen?, e]
theorem RowO.app {W : World} {h n : Nat} {D : List PT} (r : RowO W h n D) (x : PT) (hn : D.length < n) : RowO (W.setCells h (D.length * 15) (twCs x.1)) h n (D ++ [x]) := by
  obtain ⟨cur, e, e2⟩ := r.blk
  obtain ⟨c2, e3, e4⟩ := setCells_heap2 h (twCs x.1) (D.length * 15) W cur _ _ e
  refine ⟨⟨c2, e3, by omega⟩, fun j hj i hi => ?_⟩
  rw [wds_snoc D x j hj]
  simp only [List.length_append, List.length_cons, List.length_nil] at hj
  by_cases c : j < D.length
  · rw [if_pos c, World.cell?_setCells_out h (twCs x.1) (D.length * 15) W ⟨h, j * 15 + i, none⟩ (fun _ _ => by simp only [twCs_len]; omega)]
    exact r.at_ j c i hi
  · rw [if_neg c]
    obtain rfl : j = D.length := by omega
    have hin := World.cell?_setCells_in h (twCs x.1) (D.length * 15) W (fun t ht => r.some_ (by rw [twCs_len] at ht; omega)) i (by rw [twCs_len]; exact hi)
    rw [hin]
    unfold twCs
    simp
theorem RowO.full {W : World} {h n : Nat} {D : List PT} (r : RowO W h n D) (hn : D.length = n) : RowS W h n (wds D) := by
  obtain ⟨cur, e, _⟩ := r.blk
  exact ⟨⟨cur, e⟩, fun j hj i hi => r.at_ j (by omega) i hi⟩
/-- append(out, spot), where there is room. -/
theorem app_out {w : World} {ops : Array Oper} {rest : List Oper} {op : Oper} {a : Act} {Q : Exit → Act → World → Prop} (hgd : op.guard = none) (s x : Operand)
    (ho : op.op = .call { callee := .builtin .append, args := #[s, x], argTypes := #[76, 76] }) (h n : Nat) (D : List PT) (y : PT) (hrow : RowO w h n D) (hs : a.eval s = .slice (some ⟨h, 0, none⟩) D.length n)
    (X : Nat) (hx : a.eval x = .slice (some ⟨X, 0, none⟩) 1 1) (hX : w.heap[X]? = some (.cells y.1.cs 63 (0, 0))) (hn : D.length < n)
    (hK : wpList Try.prog ops Q rest (a.put op.dst (.slice (some ⟨h, 0, none⟩) (D.length + 1) n)) (w.setCells h (D.length * 15) (twCs y.1))) : wpList Try.prog ops Q (op :: rest) a w := by
  obtain ⟨i0, hi, hz0, hz1, hz2⟩ := info_parts info_T
  refine wpList_plain hgd fun K hK' => ?_
  have hr := run_append_room_src (P := Try.prog) w 76 76 op.type 63 i0 Try.underlying76 hi h 0 D.length n (.slice (some ⟨X, 0, none⟩) 1 1) 1 (twCs y.1) (Src.ofSlice w Try.underlying76 ⟨X, 0, none⟩ 1 1 _ (by rw [hz1]; rfl) (fun j u hj => by
    rw [Go.WideShapes.add_plain]
    unfold World.cell?
    rw [hX]
    have : y.1.cs[0 + j]? = some u := by
      rw [Nat.zero_add, ← hj]
      exact Array.getElem?_toList.symm
    simpa using this) (tw_one y.1)) (by omega) (fun j hj => by
    rw [hz1, Nat.zero_add]
    exact hrow.some_ (by rw [twCs_len] at hj; omega)) (fun j _ => hrow.free _)
  rw [hz1, Nat.zero_add] at hr
  unfold Oper.wp execOp
  simp only [ho, resolve, invoke, builtin, Sem.run_bind, Sem.run_pure, Result.andThen_ok, List.map_toArray, List.map_cons, List.map_nil, hs, hx, hr]
  exact hK' _ _ hK
theorem ints_rw {W V : World} {g : Nat} {xa : Option Addr} {xl : Nat} {mix : List Int} (h : Ints W xa xl mix) (hb : Rw g W V) (hne : 0 < xl → ∀ b o, xa = some ⟨b, o, none⟩ → b ≠ g) : Ints V xa xl mix := by
  obtain ⟨h1, h2, h3, h4⟩ := h
  refine ⟨h1, h2, h3, ?_⟩
  rcases h4 with e | ⟨b, off, e, h5⟩
  · exact .inl e
  · exact .inr ⟨b, off, e, fun j hj => (World.cell?_of_block (w := W) (w' := V) (a := ⟨b, off + j, none⟩) (hb.grown.block b (lt_of_cell (h5 j hj)) (fun k => hne (by omega) b off e (Option.some.inj k)))).trans (h5 j hj)⟩
/-- What stands of memory while spots are taken out one by one. -/
structure MS (W0 W : World) (g N h n : Nat) (xa : Option Addr) (xl xc : Nat) (mix : List Int) (D : List PT) : Prop where
  out : RowO W h n D
  ask : W.heap[N + 1]? = some (.cells #[.int .i64 (askT mix D.length)] 3 (0, 0))
  bx : W.cell? ⟨N, 0, none⟩ = some (.slice xa xl xc)
  mix_ : Ints W xa xl mix
  rw_ : Rw g W0 W
/-- Which blocks these are. -/
structure Places (W0 : World) (g N h : Nat) (xa : Option Addr) (xl : Nat) : Prop where
  gN : g < W0.heap.size
  N0 : W0.heap.size ≤ N
  hN : N + 2 ≤ h
  xg : 0 < xl → ∀ b o, xa = some ⟨b, o, none⟩ → b ≠ g ∧ b < W0.heap.size
theorem MS.below {W0 W V : World} {g N h n : Nat} {xa : Option Addr} {xl xc : Nat} {mix : List Int} {D : List PT} (m : MS W0 W g N h n xa xl xc mix D) (p : Places W0 g N h xa xl) (hb : Below W.heap.size W V) : MS W0 V g N h n xa xl xc mix D :=
  ⟨m.out.below hb, (hb.block _ (lt_of_heap m.ask)).trans m.ask, (World.cell?_of_block (a := ⟨N, 0, none⟩) (hb.block N (lt_of_cell m.bx))).trans m.bx, m.mix_.below hb, m.rw_.trans (Rw.of_below (Nat.lt_of_lt_of_le p.gN m.rw_.grown.size) hb)⟩
/-- The row that is emptied has been written. -/
theorem MS.rowg {W0 W V : World} {g N h n : Nat} {xa : Option Addr} {xl xc : Nat} {mix : List Int} {D : List PT} (m : MS W0 W g N h n xa xl xc mix D) (p : Places W0 g N h xa xl) (hb : Rw g W V) : MS W0 V g N h n xa xl xc mix D := by
  have h1 := p.gN
  have h2 := p.N0
  have h3 := p.hN
  exact ⟨m.out.rw_ hb (by omega), (hb.grown.block _ (lt_of_heap m.ask) (fun e => by have := Option.some.inj e; omega)).trans m.ask, (World.cell?_of_block (a := ⟨N, 0, none⟩) (hb.grown.block N (lt_of_cell m.bx) (fun e => by have := Option.some.inj e; omega))).trans m.bx, ints_rw m.mix_ hb (fun q b o e => (p.xg q b o e).1), m.rw_.trans hb⟩
theorem Rw.far {g g2 : Nat} {W0 W V : World} (h : Rw g W0 W) (hb : Rw g2 W V) (h2 : W0.heap.size ≤ g2) (hg : g < W0.heap.size) : Rw g W0 V := by
  refine ⟨⟨hb.grown.os.trans h.grown.os, hb.grown.tape.trans h.grown.tape, hb.grown.output.trans h.grown.output, Nat.le_trans h.grown.size hb.grown.size, fun i hi hne => (hb.grown.block i (Nat.lt_of_lt_of_le hi h.grown.size) (fun e => by have := Option.some.inj e; omega)).trans (h.grown.block i hi hne)⟩, fun cur t z e => ?_⟩
  obtain ⟨c1, e1⟩ := h.blk cur t z e
  exact ⟨c1, (hb.grown.block g (lt_of_heap e1) (fun k => by have := Option.some.inj k; omega)).trans e1⟩
/-- It has been asked who is next. -/
theorem MS.asked {W0 W V : World} {g N h n : Nat} {xa : Option Addr} {xl xc : Nat} {mix : List Int} {D : List PT} (m : MS W0 W g N h n xa xl xc mix D) (p : Places W0 g N h xa xl) (hb : Rw (N + 1) W V) (ha : V.heap[N + 1]? = some (.cells #[.int .i64 (askT mix (D.length + 1))] 3 (0, 0))) (x : PT) (hn : D.length < n) {U : World} (hU : Below V.heap.size V U) :
    MS W0 (U.setCells h (D.length * 15) (twCs x.1)) g N h n xa xl xc mix (D ++ [x]) := by
  have h1 := p.gN
  have h2 := p.N0
  have h3 := p.hN
  have o1 := (m.out.rw_ hb (by omega)).below hU
  have rs := Rw.set (g := h) U (D.length * 15) (twCs x.1) o1.lt
  have m1 : Ints U xa xl mix := (ints_rw m.mix_ hb (fun q b o e => by have := (p.xg q b o e).2; omega)).below hU
  have b1 : U.cell? ⟨N, 0, none⟩ = some (.slice xa xl xc) := (World.cell?_of_block (a := ⟨N, 0, none⟩) ((hU.block N (Nat.lt_of_lt_of_le (lt_of_cell m.bx) hb.grown.size)).trans (hb.grown.block N (lt_of_cell m.bx) (fun e => by have := Option.some.inj e; omega)))).trans m.bx
  have a1 := (hU.block (N + 1) (lt_of_heap ha)).trans ha
  refine ⟨o1.app x hn, ?_, ?_, ints_rw m1 rs (fun q b o e => by have := (p.xg q b o e).2; omega), ?_⟩
  · rw [List.length_append]
    exact (rs.grown.block (N + 1) (lt_of_heap a1) (fun e => by have := Option.some.inj e; omega)).trans a1
  · exact (World.cell?_of_block (a := ⟨N, 0, none⟩) (rs.grown.block N (lt_of_cell b1) (fun e => by have := Option.some.inj e; omega))).trans b1
  · exact ((m.rw_.far hb (by omega) h1).trans (Rw.of_below (Nat.lt_of_lt_of_le h1 (m.rw_.far hb (by omega) h1).grown.size) hU)).far rs (by omega) h1
end Go.Proofs.Ytkbdnhchlkafnaa.V
namespace Go.Proofs.Ytkbdnhchlkafnaa.V
open Go Go.Shelf Go.RowKit Go.Lib Go.Sort Go.Proofs Go.Proofs.Ytkbdnhchlkafnaa.S
set_option linter.unusedVariables false

theorem stab_pt {T : Tms} {L L' : List PT} (hp : L.Perm L') (hc : ∀ τ, L.filter (fun x => eq8 x.1.tm τ) = L'.filter (fun x => eq8 x.1.tm τ)) (ht : ∀ x ∈ L, x.1.tm = spT T x.2) : Stab T (L.map (·.2)) (L'.map (·.2)) := by
  refine ⟨hp.map _, fun τ => ?_⟩
  have e : ∀ M : List PT, (∀ x ∈ M, x.1.tm = spT T x.2) → (M.map (·.2)).filter (fun y => eq8 (spT T y) τ) = (M.filter (fun x => eq8 x.1.tm τ)).map (·.2) := fun M hM => by
    rw [List.filter_map]
    congr 1
    refine List.filter_congr fun x hx => ?_
    show eq8 (spT T x.2) τ = _
    rw [← hM x hx]
  rw [e L ht, e L' (fun x hx => ht x (hp.mem_iff.2 hx)), hc]
set_option maxRecDepth 100000 in
set_option maxHeartbeats 8000000 in
theorem inTurn_any (T : Tms) (mix : List Int) (xa : Option Addr) (xl xc : Nat) (g cap : Nat) (L : List PT) (w : World) (hne : L ≠ []) (h : RowS w g L.length (wds L)) (hx : Ints w xa xl mix) (hxg : 0 < xl → ∀ b o, xa = some ⟨b, o, none⟩ → b ≠ g) (hcap : L.length ≤ cap) (hc9 : cap ≤ 9223372036854775807) (hsz : L.length ≤ 100000) (htm : ∀ x ∈ L, x.1.tm = spT T x.2) :
    Calls Try.prog 39 #[.slice (some ⟨g, 0, none⟩) L.length cap, .slice xa xl xc] w fun e w' => ∃ (hh : Nat) (D : List PT), e = .returned (.slice (some ⟨hh, 0, none⟩) L.length L.length) ∧ w.heap.size ≤ hh ∧ RowS w' hh L.length (wds D) ∧ D.map (·.2) = playL T mix L.length 0 (L.map (·.2)) ∧ D.Perm L ∧ Rw g w w' := by
  have HS := hide (sort_any g cap L w h (by omega))
  have hgw := h.lt
  have HX := hide hx
  have HXG : Hid (0 < xl → ∀ b o, xa = some ⟨b, o, none⟩ → b ≠ g ∧ b < w.heap.size) := fun q b o e => by
    refine ⟨hxg q b o e, ?_⟩
    obtain ⟨b2, off, e2, h5⟩ := hx.2.2.2.resolve_left (by omega)
    rw [e] at e2
    cases e2
    exact lt_of_cell (h5 0 q)
  have HTM := hide htm
  have hLpos := List.length_pos_iff.2 hne
  obtain ⟨n, hn⟩ : ∃ n, n = L.length := ⟨_, rfl⟩
  have HN := hide hn
  rw [← hn] at HS hcap hsz hLpos ⊢
  obtain ⟨C, hC⟩ : ∃ C, C = playL T mix n 0 (L.map (·.2)) := ⟨_, rfl⟩
  rw [← hC]
  have HCC := hide hC
  clear h hx hxg htm hne hn hC
  obtain ⟨i0, hi, hz0, hz1, hz2⟩ := info_parts info_T
  go_enter Try.func39, Try.ntmps39
  go_wp2_with fail
  refine HS.out.mono ?_
  rintro e w1 ⟨rfl, L', hrow, hrw, hperm, hcls, hsort⟩
  have HR1 := hide hrow
  have HRW1 := hide hrw
  have HSORT := hide hsort
  have HPERM := hide hperm
  have HST := hide (stab_pt hperm hcls HTM.out)
  have hl' : L'.length = n := by rw [← hperm.length_eq]; exact HN.out.symm
  clear hrow hrw hsort hperm hcls HS
  go_wp2_with fail
  refine (picker_any xa xl xc w1).mono ?_
  rintro e w2 ⟨rfl, hbx, hask, hb2, hz2'⟩
  have HBX := hide hbx
  have HASK := hide hask
  have HB2 := hide hb2
  have HR2 := hide (HR1.out.below hb2)
  clear hbx hask hb2
  go_wp2_with (first | (at_make; refine wpList_make_own _ rfl _ _ 76 rfl w2.heap.size 63 i0 (.agg twD.cs) 15 Try.underlying76 hi hz0 hz1 .i64 .i64 _ n rfl rfl rfl (by rw [hz2]; omega) (by unfold maxLen; omega) (Nat.le_refl _) ?_; intro w3 hown hgr) | fail)
  obtain ⟨N, hN⟩ : ∃ N, N = w1.heap.size := ⟨_, rfl⟩
  obtain ⟨hh, hhh⟩ : ∃ hh, hh = w2.heap.size := ⟨_, rfl⟩
  rw [← hN] at HBX HASK hz2'
  rw [← hhh] at hown hz2'
  rw [← hN, ← hhh]
  have HP : Hid (Places w g N hh xa xl) := ⟨hgw, by rw [hN]; exact HRW1.out.grown.size, by omega, HXG.out⟩
  have B3 : Below w2.heap.size w2 w3 := ⟨hgr.os, hgr.tape, hgr.output, hgr.size, fun i hi => hgr.block i hi (by simp)⟩
  have HR3 := hide (HR2.out.below B3)
  have HM3 : Hid (MS w w3 g N hh n xa xl xc mix []) := by
    refine ⟨⟨?_, fun j hj => by simp at hj⟩, ?_, ?_, ?_, ?_⟩
    · rcases hown.2 with ⟨e, _⟩ | ⟨g', cp, cur, e, _, e2, _, _, e5, _⟩
      · cases e
      · cases e
        exact ⟨cur, e2, by omega⟩
    · have e : askT mix ([] : List PT).length = 0 := by unfold askT; simp
      rw [e]
      exact (B3.block _ (lt_of_heap HASK.out)).trans HASK.out
    · exact (World.cell?_of_block (a := ⟨N, 0, none⟩) (B3.block N (lt_of_cell HBX.out))).trans HBX.out
    · exact ((ints_rw HX.out HRW1.out (fun q b o e => (HXG.out q b o e).1)).below HB2.out).below B3
    · exact (HRW1.out.trans (Rw.of_below HR1.out.lt HB2.out)).trans (Rw.of_below HR2.out.lt B3)
  have HT3 : Hid (TS T mix L [] [] L' C) := by
    refine ⟨?_, by simpa using HPERM.out.symm, HTM.out⟩
    rw [HCC.out, play_stab T mix n 0 _ _ HST.out]
    simp [hl']
  have HF3 : Hid (RowF w3 g n [] L' 0 0 (wds L')) := ⟨HR3.out, fun j hj => by simp at hj, fun j _ => by rw [Nat.zero_add], Nat.le_refl _, by omega⟩
  clear hown hgr B3 HB2 HBX HASK HR1 HR2 HR3 HST HX hN hhh HXG HTM HRW1 hz2' hi hz0 hz1 hz2 hgw
  have eP : ∀ args w, (callFunc 105 args).run Try.prog w = .ok (.enter 105 args) w := enters_of Try.func105 (by kernel_rfl) rfl
  have HAT := hide (fun (us : Nat → TW) (o m c : Nat) (W : World) (h : RowS W g n us) => atOnce_any g n us o m c W h)
  go_loopg [0, 6] n (fun kx va vo wr => ∃ (A : Option Addr) (o c : Nat) (D R : List PT) (us : Nat → TW), va = .slice A R.length c ∧ vo = .slice (some ⟨hh, 0, none⟩) D.length n ∧ Hid (0 < R.length → A = some ⟨g, o * 15, none⟩) ∧ R.length ≤ c ∧ c ≤ 9223372036854775807 ∧ D.length + R.length = n ∧ R.length ≤ kx ∧ Hid (MS w wr g N hh n xa xl xc mix D) ∧ Hid (RowF wr g n [] R o o us) ∧ Hid (TS T mix L D [] R C) ∧ Hid (R.Pairwise (fun a b => befB b.1.tm a.1.tm = false)))
  case atStart => exact ⟨some ⟨g, 0, none⟩, 0, cap, [], L', wds L', by rw [hl'], rfl, fun _ => by rw [Nat.zero_mul], by omega, hc9, by simpa using hl', by omega, HM3, HF3, HT3, HSORT⟩
  case round =>
    clear HM3 HF3 HT3 HSORT HPERM hl'
    obtain ⟨A, o, c, D, R, us, rfl, rfl, HA, hRc, hcm, hDR, hRk, HM, HF, HT, HSO⟩ := hrel
    obtain ⟨rl, hrl⟩ : ∃ rl, rl = R.length := ⟨_, rfl⟩
    obtain ⟨dl, hdl⟩ : ∃ dl, dl = D.length := ⟨_, rfl⟩
    have HRL := hide hrl
    have HDL := hide hdl
    rw [← hrl] at HA hRc hDR hRk ⊢
    rw [← hdl] at hDR ⊢
    have hall := HF.out.all
    rw [← hrl] at hall
    clear hrl hdl
    by_cases hR : 0 < rl
    · have hA := HA.out hR
      subst hA
      have hRz : (rl : Int) > 0 := by omega
      have hRz' : (0 : Int) < (rl : Int) := by omega
      clear HA
      go_wp2_with fail
      refine (HAT.out us o rl c wr HF.out.row (by omega) hR (by omega)).mono ?_
      rintro e w4 ⟨⟨k, rfl, hk0, hkR, ht1, ht2⟩, hb4⟩
      have HM4 := hide (HM.out.below HP.out hb4)
      have hrest := HF.out.rest
      have e0 : us o = wds R 0 := by have := hrest 0 (by rw [← HRL.out]; exact hR); rwa [Nat.add_zero] at this
      have hsp := split_times HSO.out (k := k) hk0 (by rw [← HRL.out]; exact hkR) (fun j hj => by have := ht1 j hj; rw [hrest j (by rw [← HRL.out]; omega), e0] at this; exact this) (fun hj => by have := ht2 (by rw [HRL.out]; exact hj); rw [hrest k hj, e0] at this; exact this)
      obtain ⟨R2, hR2⟩ : ∃ R2, R2 = R.drop k := ⟨_, rfl⟩
      obtain ⟨τ, hτ⟩ : ∃ τ, τ = (wds R 0).tm := ⟨_, rfl⟩
      rw [← hR2, ← hτ] at hsp
      have HSP2 := hide hsp.2
      have hFk : (R.take k).length = k := by rw [List.length_take, ← HRL.out]; omega
      have hR2l : R2.length = rl - k := by rw [hR2, List.length_drop, ← HRL.out]
      have HTF : Hid (TS T mix L D (R.take k) R2 C) := by rw [hR2]; exact HT.out.next k
      have HRF : Hid (RowF w4 g n (R.take k) R2 o (o + k) us) := by
        refine ⟨HF.out.row.below hb4, fun j hj => ?_, fun j hj => ?_, by rw [hFk]; exact Nat.le_refl _, by omega⟩
        · rw [hFk] at hj
          rw [hrest j (by rw [← HRL.out]; omega)]
          unfold wds
          rw [List.getElem?_take, if_pos hj]
        · rw [hR2l] at hj
          rw [Nat.add_assoc, hrest (k + j) (by rw [← HRL.out]; omega), hR2]
          unfold wds
          rw [List.getElem?_drop]
      have HSO2 : Hid (R2.Pairwise (fun a b => befB b.1.tm a.1.tm = false)) := by rw [hR2]; exact HSO.out.sublist (List.drop_sublist k R)
      have HSP1 : Hid (∀ x ∈ R.take k, eq8 x.1.tm τ = true) := hsp.1
      have hkz : (k : Int) ≤ (c : Int) := by omega
      have hkc : k ≤ c := by omega
      obtain ⟨F0, hF0⟩ : ∃ F0, F0 = R.take k := ⟨_, rfl⟩
      rw [← hF0] at hFk HTF HRF HSP1
      clear ht1 ht2 hb4 HM HF HT HSO hrest e0 hsp hR2 hτ hF0 hRz hRz'
      go_wp2_with fail
      go_loopg [8, 6] k (fun kx vl vo wr => ∃ (D2 F : List PT) (us2 : Nat → TW), vl = .slice (some ⟨g, o * 15, none⟩) F.length c ∧ vo = .slice (some ⟨hh, 0, none⟩) D2.length n ∧ F.length ≤ k ∧ F.length ≤ kx ∧ D2.length + F.length + (rl - k) = n ∧ Hid (MS w wr g N hh n xa xl xc mix D2) ∧ Hid (RowF wr g n F R2 o (o + k) us2) ∧ Hid (TS T mix L D2 F R2 C) ∧ Hid (∀ x ∈ F, eq8 x.1.tm τ = true))
      case atStart => exact ⟨D, F0, us, by rw [hFk], by rw [← HDL.out], by omega, by omega, by rw [hFk, ← HDL.out]; omega, HM4, HRF, HTF, HSP1⟩
      case round =>
        clear HM4 HRF HTF HSP1 hFk
        obtain ⟨D2, F, us2, rfl, rfl, hFk, hFx, hcnt, HM, HRF, HTF, HSP1⟩ := hrel
        obtain ⟨fl, hfl⟩ : ∃ fl, fl = F.length := ⟨_, rfl⟩
        obtain ⟨d2, hd2⟩ : ∃ d2, d2 = D2.length := ⟨_, rfl⟩
        have HFL := hide hfl
        have HD2 := hide hd2
        rw [← hfl] at hFk hFx hcnt ⊢
        rw [← hd2] at hcnt ⊢
        have hfit := HRF.out.fit
        rw [← hfl] at hfit
        by_cases hf0 : 0 < fl
        · have hFz : (fl : Int) > 0 := by omega
          have hFz' : (0 : Int) < (fl : Int) := by omega
          have hFne : F ≠ [] := List.length_pos_iff.1 (by rw [← hfl]; exact hf0)
          have hask := HM.out.ask
          rw [← hd2] at hask
          have hp := pick1 N (N + 1) xa xl xc mix d2 fl wr HM.out.bx HM.out.mix_ hask hf0 (by omega) (by omega)
          obtain ⟨q, hq⟩ : ∃ q, q = pickK mix d2 fl := ⟨_, rfl⟩
          have hqf : q < fl := by rw [hq]; exact pickK_lt mix d2 hf0
          rw [← hq] at hp
          have HPK : Hid (q = pickK mix D2.length F.length) := by rw [Hid, ← hd2, ← hfl]; exact hq
          clear hask hq hfl hd2
          go_wp2_with fail
          refine hp.mono ?_
          rintro e wp ⟨rfl, hap, hrwp⟩
          obtain ⟨x, hxx⟩ : ∃ x, x = F[q]?.getD ptD := ⟨_, rfl⟩
          have hPg := HP.out.gN
          have hPN := HP.out.N0
          have hPh := HP.out.hN
          have hrp := HRF.out.row.rw_ hrwp (by omega)
          have hcs : ∀ i, i < 15 → wp.cell? ⟨g, o * 15 + q * 15 + i, none⟩ = x.1.cs[i]? := by
            have h1 := hrp.tat (o := o) (j := q) (by omega)
            rw [HRF.out.front q (by rw [← HFL.out]; exact hqf)] at h1
            rw [hxx]
            exact h1
          have c0 : wp.cell? ⟨g, o * 15 + q * 15, none⟩ = some (.int .i64 x.1.stm) := hcs 0 (by omega)
          have cz0 := lt_of_cell c0
          have c1 : wp.cell? ⟨g, o * 15 + q * 15 + 1, none⟩ = some (.slice x.1.xa x.1.xl x.1.xc) := hcs 1 (by omega)
          have cz1 := lt_of_cell c1
          have c2 : wp.cell? ⟨g, o * 15 + q * 15 + 2, none⟩ = some (.int .i64 (x.1.tm 0)) := hcs 2 (by omega)
          have cz2 := lt_of_cell c2
          have c3 : wp.cell? ⟨g, o * 15 + q * 15 + 3, none⟩ = some (.int .i64 (x.1.tm 1)) := hcs 3 (by omega)
          have cz3 := lt_of_cell c3
          have c4 : wp.cell? ⟨g, o * 15 + q * 15 + 4, none⟩ = some (.int .i64 (x.1.tm 2)) := hcs 4 (by omega)
          have cz4 := lt_of_cell c4
          have c5 : wp.cell? ⟨g, o * 15 + q * 15 + 5, none⟩ = some (.int .i64 (x.1.tm 3)) := hcs 5 (by omega)
          have cz5 := lt_of_cell c5
          have c6 : wp.cell? ⟨g, o * 15 + q * 15 + 6, none⟩ = some (.int .i64 (x.1.tm 4)) := hcs 6 (by omega)
          have cz6 := lt_of_cell c6
          have c7 : wp.cell? ⟨g, o * 15 + q * 15 + 7, none⟩ = some (.int .i64 (x.1.tm 5)) := hcs 7 (by omega)
          have cz7 := lt_of_cell c7
          have c8 : wp.cell? ⟨g, o * 15 + q * 15 + 8, none⟩ = some (.int .i64 (x.1.tm 6)) := hcs 8 (by omega)
          have cz8 := lt_of_cell c8
          have c9 : wp.cell? ⟨g, o * 15 + q * 15 + 9, none⟩ = some (.int .i64 (x.1.tm 7)) := hcs 9 (by omega)
          have cz9 := lt_of_cell c9
          have c10 : wp.cell? ⟨g, o * 15 + q * 15 + 10, none⟩ = some (.int .i64 x.1.kd) := hcs 10 (by omega)
          have cz10 := lt_of_cell c10
          have c11 : wp.cell? ⟨g, o * 15 + q * 15 + 11, none⟩ = some (.int .i64 x.1.va) := hcs 11 (by omega)
          have cz11 := lt_of_cell c11
          have c12 : wp.cell? ⟨g, o * 15 + q * 15 + 12, none⟩ = some (.int .i64 x.1.pu.arr) := hcs 12 (by omega)
          have cz12 := lt_of_cell c12
          have c13 : wp.cell? ⟨g, o * 15 + q * 15 + 13, none⟩ = some (.int .i64 x.1.pu.pos) := hcs 13 (by omega)
          have cz13 := lt_of_cell c13
          have c14 : wp.cell? ⟨g, o * 15 + q * 15 + 14, none⟩ = some (.slice x.1.ga x.1.gl x.1.gc) := hcs 14 (by omega)
          have cz14 := lt_of_cell c14
          have hbA : Below wp.heap.size wp (wp.alloc (.cells x.1.cs 63)) := bl_new _
          have HOW := hide ((HM.out.out.rw_ hrwp (by omega)).below hbA)
          have HNX := hide (World.alloc_heap_new wp (.cells x.1.cs 63))
          have HMA : Hid (MS w ((wp.alloc (.cells x.1.cs 63)).setCells hh (d2 * 15) (twCs x.1)) g N hh n xa xl xc mix (D2 ++ [x])) := by
            have := HM.out.asked HP.out hrwp (by rw [← HD2.out]; exact hap) x (by rw [← HD2.out]; omega) hbA
            rw [← HD2.out] at this
            exact this
          have hRA : RowS ((wp.alloc (.cells x.1.cs 63)).setCells hh (d2 * 15) (twCs x.1)) g n us2 := (hrp.below hbA).rw_ (Rw.set _ _ _ HOW.out.lt) (by omega)
          have HDE := hide (delete_any g n us2 o fl c q _ hRA (by omega) hqf (by omega) hcm)
          have HRFA : Hid (∀ V, RowS V g n (outU us2 o q fl) → RowF V g n (F.eraseIdx q) R2 o (o + k) (outU us2 o q fl)) := fun V hV => by
            have := HRF.out.del (k := q) (by rw [← HFL.out]; exact hqf) (V := V) (by rw [← HFL.out]; exact hV)
            rw [← HFL.out] at this
            exact this
          have HTN : Hid (TS T mix L (D2 ++ [x]) (F.eraseIdx q) R2 C) := by
            have := HTF.out.pick hFne HSP1.out HSP2.out
            rw [← HPK.out, ← hxx] at this
            exact this
          have HSPN : Hid (∀ y ∈ F.eraseIdx q, eq8 y.1.tm τ = true) := fun y hy => HSP1.out y (List.mem_of_mem_eraseIdx hy)
          have hel : (F.eraseIdx q).length = fl - 1 := by rw [List.length_eraseIdx, if_pos (by rw [← HFL.out]; exact hqf), ← HFL.out]
          have hql : (q : Int) < (fl : Int) := by omega
          have hdn : d2 < n := by omega
          clear hap hrwp hrp hcs hbA hRA hxx HRF HTF HSP1 HM hFne hp
          go_wp2_with (first | (at_builtin; refine app_out rfl (.tmp 32) (.tmp 37) rfl hh n D2 x HOW.out (by rw [← HD2.out]; rfl) wp.heap.size rfl HNX.out (by rw [← HD2.out]; exact hdn) ?_; rw [← HD2.out]) | fail)
          refine HDE.out.mono ?_
          rintro e w6 ⟨rfl, hrow6, hrw6⟩
          have HM6 := hide (HMA.out.rowg HP.out hrw6)
          have HF6 := hide (HRFA.out w6 hrow6)
          clear hrow6 hrw6 HMA HRFA HDE HOW HNX
          clear c0 cz0 c1 cz1 c2 cz2 c3 cz3 c4 cz4 c5 cz5 c6 cz6 c7 cz7 c8 cz8 c9 cz9 c10 cz10 c11 cz11 c12 cz12 c13 cz13 c14 cz14
          go_wp2_with fail
          go_roundg (fl - 1)
          case measure => omega
          case rel => exact ⟨D2 ++ [x], F.eraseIdx q, _, by rw [hel], by rw [List.length_append, ← HD2.out]; rfl, by omega, by omega, by rw [List.length_append, ← HD2.out, hel]; simp only [List.length_cons, List.length_nil]; omega, HM6, HF6, HTN, HSPN⟩
        · have hFz : ¬ (fl : Int) > 0 := by omega
          have hFz' : ¬ (0 : Int) < (fl : Int) := by omega
          have hFe : F = [] := List.eq_nil_of_length_eq_zero (by rw [← hfl]; omega)
          have hfl0 : fl = 0 := by omega
          have HTE : Hid (TS T mix L D2 [] R2 C) := by have := HTF.out; rw [hFe] at this; exact this
          have HRE : Hid (RowF wr g n [] R2 (o + k) (o + k) us2) := ⟨HRF.out.row, fun j hj => by simp at hj, HRF.out.rest, Nat.le_refl _, HRF.out.all⟩
          have hkr : (k : Int) ≤ (rl : Int) := by omega
          have hkr' : k ≤ rl := by omega
          clear hfl hd2 HFL hFe HTF HRF
          subst hfl0
          by_cases hck : c = k
          · subst hck
            go_wp2_with fail
            go_roundg (rl - c)
            case measure => omega
            case rel => exact ⟨some ⟨g, o * 15, none⟩, o + c, 0, D2, R2, us2, by rw [hR2l]; first | rfl | (congr 1; omega), by rw [← HD2.out], fun h9 => absurd h9 (by omega), by omega, by omega, by rw [hR2l, ← HD2.out]; omega, by rw [hR2l]; exact Nat.le_refl _, HM, HRE, HTE, HSO2⟩
          · have hckb : ¬ c = k := hck
            go_wp2_with fail
            go_roundg (rl - k)
            case measure => omega
            case rel => exact ⟨_, o + k, c - k, D2, R2, us2, by rw [hR2l], by rw [← HD2.out], fun h9 => by rw [Nat.add_mul], by omega, by omega, by rw [hR2l, ← HD2.out]; omega, by rw [hR2l]; exact Nat.le_refl _, HM, HRE, HTE, HSO2⟩
    · have hRz : ¬ (rl : Int) > 0 := by omega
      have hRz' : ¬ (0 : Int) < (rl : Int) := by omega
      have hrl0 : rl = 0 := by omega
      have hRe : R = [] := List.eq_nil_of_length_eq_zero (by rw [← HRL.out]; exact hrl0)
      have HTE : Hid (TS T mix L D [] [] C) := by have := HT.out; rw [hRe] at this; exact this
      clear HRL hRe HT HF HA HSO
      subst hrl0
      go_wp2_with fail
      go_ret
      obtain ⟨t1, t2⟩ := HTE.out.done
      have hdn : dl = n := by omega
      refine ⟨hh, by rw [hdn]; rfl, ?_, D, HM.out.out.full (by rw [← HDL.out]; omega), t1, t2, HM.out.rw_⟩
      have h1 := HP.out.N0
      have h2 := HP.out.hN
      omega
end Go.Proofs.Ytkbdnhchlkafnaa.V
namespace Go.Proofs.Ytkbdnhchlkafnaa.V
open Go Go.RowKit
set_option linter.unusedVariables false

set_option maxRecDepth 100000 in
set_option maxHeartbeats 4000000 in
theorem eachTS (a : Option Addr) (len cap : Nat) (qs : Nat → TW) (g : Nat) (bs : Array Value) (eg : ∀ args w, (callFunc g args).run Try.prog w = .ok (.enter g args) w) (Q : Nat → SW → World → Prop) (w : World) (hlen : len * 128 ≤ 281474976710656)
    (hin : len = 0 ∨ ∃ b off, a = some ⟨b, off, none⟩ ∧ ∀ j, j < len → w.cell? ⟨b, off + j * 15, none⟩ = some (.int .i64 (qs j).stm) ∧ w.cell? ⟨b, off + j * 15 + 1, none⟩ = some (.slice (qs j).xa (qs j).xl (qs j).xc) ∧ w.cell? ⟨b, off + j * 15 + 2, none⟩ = some (.int .i64 ((qs j).tm 0)) ∧ w.cell? ⟨b, off + j * 15 + 3, none⟩ = some (.int .i64 ((qs j).tm 1)) ∧ w.cell? ⟨b, off + j * 15 + 4, none⟩ = some (.int .i64 ((qs j).tm 2)) ∧ w.cell? ⟨b, off + j * 15 + 5, none⟩ = some (.int .i64 ((qs j).tm 3)) ∧ w.cell? ⟨b, off + j * 15 + 6, none⟩ = some (.int .i64 ((qs j).tm 4)) ∧ w.cell? ⟨b, off + j * 15 + 7, none⟩ = some (.int .i64 ((qs j).tm 5)) ∧ w.cell? ⟨b, off + j * 15 + 8, none⟩ = some (.int .i64 ((qs j).tm 6)) ∧ w.cell? ⟨b, off + j * 15 + 9, none⟩ = some (.int .i64 ((qs j).tm 7)) ∧ w.cell? ⟨b, off + j * 15 + 10, none⟩ = some (.int .i64 (qs j).kd) ∧ w.cell? ⟨b, off + j * 15 + 11, none⟩ = some (.int .i64 (qs j).va) ∧ w.cell? ⟨b, off + j * 15 + 12, none⟩ = some (.int .i64 (qs j).pu.arr) ∧ w.cell? ⟨b, off + j * 15 + 13, none⟩ = some (.int .i64 (qs j).pu.pos) ∧ w.cell? ⟨b, off + j * 15 + 14, none⟩ = some (.slice (qs j).ga (qs j).gl (qs j).gc))
    (hcall : ∀ (j : Nat) (W : World), j < len → Below w.heap.size w W → w.heap.size < W.heap.size → Calls Try.prog g (#[(qs j).v] ++ bs) W fun e w' => (∃ u : SW, e = .returned u.v ∧ Lies W.heap.size (Q j u) w') ∧ Below W.heap.size W w') :
    Calls Try.prog 40 #[.slice a len cap, .func (.func g) #[] bs] w fun e w' => (∃ us : Nat → SW, e = .returned (.slice (some ⟨w.heap.size, 0, none⟩) len len) ∧ OutS8 w' w.heap.size len us len ∧ ∀ j, j < len → Lies (w.heap.size + 1) (Q j (us j)) w') ∧ Below w.heap.size w w' := by
  have HIN := hide hin
  have HCALL := hide hcall
  obtain ⟨i0, hi, hz0, hz1, hz2⟩ := info_parts info_S
  have hmk : ∀ W : World, (Instr.makeSlice 23 (.int .i64 (len : Int)) (.int .i64 (len : Int))).run Try.prog W = .ok (.slice (some ⟨W.heap.size, 0, none⟩) len len) (W.alloc (.cells (madeCells #[.slice none 0 0, .slice none 0 0, .int .i64 0, .int .i64 0, .int .i64 0, .slice none 0 0, .int .i64 0, .slice none 0 0] (len * 8)) 75)) := fun W => by
    have := run_make (P := Try.prog) W 23 75 i0 (.agg #[.slice none 0 0, .slice none 0 0, .int .i64 0, .int .i64 0, .int .i64 0, .slice none 0 0, .int .i64 0, .slice none 0 0]) Try.underlying23 hi hz0 .i64 .i64 len len (by omega) (by omega) (by rw [hz2]; omega) (by omega)
    simpa [hz1, Value.cells] using this
  have HROW : Hid (OutS8 (w.alloc (.cells (madeCells #[.slice none 0 0, .slice none 0 0, .int .i64 0, .int .i64 0, .int .i64 0, .slice none 0 0, .int .i64 0, .slice none 0 0] (len * 8)) 75)) w.heap.size len (fun _ => swD) 0) := ⟨fun i => (#[.slice none 0 0, .slice none 0 0, .int .i64 0, .int .i64 0, .int .i64 0, .slice none 0 0, .int .i64 0, .slice none 0 0] : Array Value)[i % 8]!, ⟨_, World.alloc_heap_new _ _, size_madeCells _ _, fun i hi => by simp [madeCells, hi]⟩, fun j hj => by omega⟩
  have HB0 : Hid (Below w.heap.size w (w.alloc (.cells (madeCells #[.slice none 0 0, .slice none 0 0, .int .i64 0, .int .i64 0, .int .i64 0, .slice none 0 0, .int .i64 0, .slice none 0 0] (len * 8)) 75))) := bl_new _
  clear hin hcall hi hz0 hz1 hz2
  go_enter Try.func40, Try.ntmps40
  go_wp2_with fail
  clear hmk
  go_loopw [13] (fun i wr => ∃ k : Nat, k ≤ len ∧ i = .int .i64 k ∧ (∃ us, OutS8 wr w.heap.size len us k ∧ ∀ j, j < k → Lies (w.heap.size + 1) (Q j (us j)) wr) ∧ Below w.heap.size w wr) (fun i _ => len - (intOf i).toNat)
  case atStart => exact ⟨0, Nat.zero_le _, rfl, ⟨_, HROW.out, fun j hj => by omega⟩, HB0.out⟩
  case round =>
    obtain ⟨k, hk, rfl, ⟨us, hT, hL⟩, hB⟩ := hrel
    have HT := hide hT
    have HL := hide hL
    have HB := hide hB
    clear HROW HB0 hL
    by_cases hlt : k < len
    · obtain ⟨b, off, rfl, hat⟩ := HIN.out.resolve_left (by omega)
      obtain ⟨c0, c1, c2, c3, c4, c5, c6, c7, c8, c9, c10, c11, c12, c13, c14⟩ := hat k hlt
      have HC0 := hide (HCALL.out k)
      obtain ⟨q, hq⟩ : ∃ q, q = qs k := ⟨_, rfl⟩
      rw [← hq] at HC0 c0 c1 c2 c3 c4 c5 c6 c7 c8 c9 c10 c11 c12 c13 c14
      have c0' := (HB.out.cell (p := ⟨b, off + k * 15, none⟩) (lt_of_cell c0)).trans c0
      have z0 := lt_of_cell c0'
      have c1' := (HB.out.cell (p := ⟨b, off + k * 15 + 1, none⟩) (lt_of_cell c1)).trans c1
      have z1 := lt_of_cell c1'
      have c2' := (HB.out.cell (p := ⟨b, off + k * 15 + 2, none⟩) (lt_of_cell c2)).trans c2
      have z2 := lt_of_cell c2'
      have c3' := (HB.out.cell (p := ⟨b, off + k * 15 + 3, none⟩) (lt_of_cell c3)).trans c3
      have z3 := lt_of_cell c3'
      have c4' := (HB.out.cell (p := ⟨b, off + k * 15 + 4, none⟩) (lt_of_cell c4)).trans c4
      have z4 := lt_of_cell c4'
      have c5' := (HB.out.cell (p := ⟨b, off + k * 15 + 5, none⟩) (lt_of_cell c5)).trans c5
      have z5 := lt_of_cell c5'
      have c6' := (HB.out.cell (p := ⟨b, off + k * 15 + 6, none⟩) (lt_of_cell c6)).trans c6
      have z6 := lt_of_cell c6'
      have c7' := (HB.out.cell (p := ⟨b, off + k * 15 + 7, none⟩) (lt_of_cell c7)).trans c7
      have z7 := lt_of_cell c7'
      have c8' := (HB.out.cell (p := ⟨b, off + k * 15 + 8, none⟩) (lt_of_cell c8)).trans c8
      have z8 := lt_of_cell c8'
      have c9' := (HB.out.cell (p := ⟨b, off + k * 15 + 9, none⟩) (lt_of_cell c9)).trans c9
      have z9 := lt_of_cell c9'
      have c10' := (HB.out.cell (p := ⟨b, off + k * 15 + 10, none⟩) (lt_of_cell c10)).trans c10
      have z10 := lt_of_cell c10'
      have c11' := (HB.out.cell (p := ⟨b, off + k * 15 + 11, none⟩) (lt_of_cell c11)).trans c11
      have z11 := lt_of_cell c11'
      have c12' := (HB.out.cell (p := ⟨b, off + k * 15 + 12, none⟩) (lt_of_cell c12)).trans c12
      have z12 := lt_of_cell c12'
      have c13' := (HB.out.cell (p := ⟨b, off + k * 15 + 13, none⟩) (lt_of_cell c13)).trans c13
      have z13 := lt_of_cell c13'
      have c14' := (HB.out.cell (p := ⟨b, off + k * 15 + 14, none⟩) (lt_of_cell c14)).trans c14
      have z14 := lt_of_cell c14'
      have hRl := hT.lt
      have B2 : Below wr.heap.size wr (wr.alloc (.cells #[.int .i64 q.stm, .slice q.xa q.xl q.xc, .int .i64 (q.tm 0), .int .i64 (q.tm 1), .int .i64 (q.tm 2), .int .i64 (q.tm 3), .int .i64 (q.tm 4), .int .i64 (q.tm 5), .int .i64 (q.tm 6), .int .i64 (q.tm 7), .int .i64 q.kd, .int .i64 q.va, .int .i64 q.pu.arr, .int .i64 q.pu.pos, .slice q.ga q.gl q.gc] 63)) := bl_new _
      have HC := hide (HC0.out (wr.alloc (.cells #[.int .i64 q.stm, .slice q.xa q.xl q.xc, .int .i64 (q.tm 0), .int .i64 (q.tm 1), .int .i64 (q.tm 2), .int .i64 (q.tm 3), .int .i64 (q.tm 4), .int .i64 (q.tm 5), .int .i64 (q.tm 6), .int .i64 (q.tm 7), .int .i64 q.kd, .int .i64 q.va, .int .i64 q.pu.arr, .int .i64 q.pu.pos, .slice q.ga q.gl q.gc] 63)) hlt (bl_on HB.out B2) (by rw [World.size_alloc]; omega))
      have HB2 := hide B2
      unfold TW.v  TW.cs at HC
      clear hat hq B2 hT hB HC0 c0 c1 c2 c3 c4 c5 c6 c7 c8 c9 c10 c11 c12 c13 c14
      go_wp2_with fail
      refine HC.out.mono ?_
      rintro e w2 ⟨⟨u, rfl, hl⟩, hb2⟩
      have T2 := HT.out.below (bl_on HB2.out hb2)
      obtain ⟨f, r1, r2⟩ := T2
      have d0 := r1.cell (i := k * 8) (by omega)
      have y0 := r1.frozen (k * 8)
      have d1 := r1.cell (i := k * 8 + 1) (by omega)
      have y1 := r1.frozen (k * 8 + 1)
      have d2 := r1.cell (i := k * 8 + 2) (by omega)
      have y2 := r1.frozen (k * 8 + 2)
      have d3 := r1.cell (i := k * 8 + 3) (by omega)
      have y3 := r1.frozen (k * 8 + 3)
      have d4 := r1.cell (i := k * 8 + 4) (by omega)
      have y4 := r1.frozen (k * 8 + 4)
      have d5 := r1.cell (i := k * 8 + 5) (by omega)
      have y5 := r1.frozen (k * 8 + 5)
      have d6 := r1.cell (i := k * 8 + 6) (by omega)
      have y6 := r1.frozen (k * 8 + 6)
      have d7 := r1.cell (i := k * 8 + 7) (by omega)
      have y7 := r1.frozen (k * 8 + 7)
      have z3 := r1.lt
      have hsz := HB.out.size
      have HT2 := hide (OutS8.snoc ⟨f, r1, r2⟩ u)
      have HLn := hide (hl.mono (N := w.heap.size + 1) (by rw [World.size_alloc]; omega))
      have HLo := hide (fun j (hj : j < k) => (HL.out j hj).below (bl_on HB2.out hb2))
      have HBb := hide (bl_on HB.out (bl_on HB2.out hb2))
      clear hb2 r1 r2 hl
      try unfold SW.v  SW.cs
      go_wp2_with fail
      go_roundw
      case rel =>
        refine ⟨k + 1, by omega, by go_num, ⟨_, HT2.out, fun j hj => ?_⟩, ((((((((HBb.out.setCell (p := ⟨w.heap.size, k * 8, none⟩) (Nat.le_refl _) _).setCell (p := ⟨w.heap.size, k * 8 + 1, none⟩) (Nat.le_refl _) _).setCell (p := ⟨w.heap.size, k * 8 + 2, none⟩) (Nat.le_refl _) _).setCell (p := ⟨w.heap.size, k * 8 + 3, none⟩) (Nat.le_refl _) _).setCell (p := ⟨w.heap.size, k * 8 + 4, none⟩) (Nat.le_refl _) _).setCell (p := ⟨w.heap.size, k * 8 + 5, none⟩) (Nat.le_refl _) _).setCell (p := ⟨w.heap.size, k * 8 + 6, none⟩) (Nat.le_refl _) _).setCell (p := ⟨w.heap.size, k * 8 + 7, none⟩) (Nat.le_refl _) _)⟩
        by_cases e : k = j
        · subst e
          simp only [if_true]
          have hl := HLn.out
          exact (((((((((hl).set (p := ⟨w.heap.size, k * 8, none⟩) (by simp only; omega) _).set (p := ⟨w.heap.size, k * 8 + 1, none⟩) (by simp only; omega) _).set (p := ⟨w.heap.size, k * 8 + 2, none⟩) (by simp only; omega) _).set (p := ⟨w.heap.size, k * 8 + 3, none⟩) (by simp only; omega) _).set (p := ⟨w.heap.size, k * 8 + 4, none⟩) (by simp only; omega) _).set (p := ⟨w.heap.size, k * 8 + 5, none⟩) (by simp only; omega) _).set (p := ⟨w.heap.size, k * 8 + 6, none⟩) (by simp only; omega) _).set (p := ⟨w.heap.size, k * 8 + 7, none⟩) (by simp only; omega) _)
        · simp only [if_neg (fun e' : j = k => e e'.symm)]
          have hl := HLo.out j (by omega)
          exact (((((((((hl).set (p := ⟨w.heap.size, k * 8, none⟩) (by simp only; omega) _).set (p := ⟨w.heap.size, k * 8 + 1, none⟩) (by simp only; omega) _).set (p := ⟨w.heap.size, k * 8 + 2, none⟩) (by simp only; omega) _).set (p := ⟨w.heap.size, k * 8 + 3, none⟩) (by simp only; omega) _).set (p := ⟨w.heap.size, k * 8 + 4, none⟩) (by simp only; omega) _).set (p := ⟨w.heap.size, k * 8 + 5, none⟩) (by simp only; omega) _).set (p := ⟨w.heap.size, k * 8 + 6, none⟩) (by simp only; omega) _).set (p := ⟨w.heap.size, k * 8 + 7, none⟩) (by simp only; omega) _)
      case measure => simp [intOf]; omega
    · obtain rfl : k = len := by omega
      clear hT hB
      go_wp2_with fail
      go_ret
      exact ⟨⟨us, rfl, HT.out, HL.out⟩, HB.out⟩

theorem stmts_any (h n o m c : Nat) (us : Nat → TW) (ps : Nat → Sp) (w : World) (hr : RowS w h n us) (ho : o + m ≤ n) (hm : m ≤ 1000000) (hg : ∀ j, j < m → TG w (us (o + j)) (ps j) ∧ SpB (ps j) ∧ (us (o + j)).gl ≤ 1000) :
    Calls Try.prog 40 #[.slice (some ⟨h, o * 15, none⟩) m c, .func (.func 41) #[] #[]] w fun e w' => (e = .returned (.slice (some ⟨w.heap.size, 0, none⟩) m m) ∧ Lies w.heap.size (fun V => Stms V (some ⟨w.heap.size, 0, none⟩) m ((List.range m).map (fun j => stmOf (ps j)))) w') ∧ Below w.heap.size w w' := by
  refine (eachTS (some ⟨h, o * 15, none⟩) m c (fun j => us (o + j)) 41 #[] (enters_of Try.func41 (by kernel_rfl) rfl) (fun j u V => SG V u (stmOf (ps j))) w (by omega) (.inr ⟨h, o * 15, rfl, fun j hj => ?_⟩) (fun j W hj hb _ => ?_)).mono ?_
  · have hc := hr.tat (o := o) (j := j) (by omega)
    exact ⟨hc 0 (by omega), hc 1 (by omega), hc 2 (by omega), hc 3 (by omega), hc 4 (by omega), hc 5 (by omega), hc 6 (by omega), hc 7 (by omega), hc 8 (by omega), hc 9 (by omega), hc 10 (by omega), hc 11 (by omega), hc 12 (by omega), hc 13 (by omega), hc 14 (by omega)⟩
  · obtain ⟨g1, g2, g3⟩ := hg j hj
    exact stmt1 (ps j) (us (o + j)) W (g1.below hb) g2 g3
  rintro e w' ⟨⟨vs, rfl, k1, k2⟩, hb'⟩
  refine ⟨⟨rfl, fun V hV => ?_⟩, hb'⟩
  have e1 := (k1.lies (Nat.le_refl _)) V hV
  refine stms_out e1 (by simp) (by omega) (fun j hj => ?_)
  have e2 : ((List.range m).map (fun j => stmOf (ps j)))[j]?.getD stmD = stmOf (ps j) := by simp [hj]
  rw [e2]
  exact ((k2 j hj).mono (Nat.le_refl _)) V (hV.mono (by omega))
end Go.Proofs.Ytkbdnhchlkafnaa.V
namespace Go.Proofs.Ytkbdnhchlkafnaa.V
open Go Go.RowKit Go.Shelf
attribute [local go_sem] Oper.semAt_some
set_option linter.unusedVariables false

/-- A chunk of a row of N spots in block h. -/
def chunkV (h N j : Nat) : Value := .slice (some ⟨h, 256 * j * 15, none⟩) (min 256 (N - 256 * j)) (min 256 (N - 256 * j))
def chunksV (h N : Nat) : List Value := (List.range ((N + 255) / 256)).map (chunkV h N)
theorem chunks_here (h N : Nat) {j : Nat} (hj : 256 * j < N) : ∃ post, chunksV h N = (List.range j).map (chunkV h N) ++ chunkV h N j :: post := by
  unfold chunksV
  have hc : j < (N + 255) / 256 := by omega
  obtain ⟨d, hd⟩ : ∃ d, (N + 255) / 256 = j + (d + 1) := ⟨(N + 255) / 256 - j - 1, by omega⟩
  rw [hd, List.range_add, List.map_append, List.range_succ_eq_map]
  refine ⟨List.map (chunkV h N) (List.map (fun x => j + x) (List.map Nat.succ (List.range d))), ?_⟩
  simp only [List.map_cons, Nat.add_zero]
theorem chunks_all (h N : Nat) {j : Nat} (hj : N ≤ 256 * j) (hj2 : 256 * j < N + 256) : chunksV h N = (List.range j).map (chunkV h N) := by
  unfold chunksV
  rw [show (N + 255) / 256 = j by omega]
set_option maxRecDepth 100000 in
theorem chunk_any (A : Option Addr) (N cap : Nat) (w : World) : Calls Try.prog 38 #[.slice A N cap, .int .i64 256] w fun e w' => e = .returned (.func (.func 76) #[] #[.pointer (some ⟨w.heap.size, 0, none⟩), .pointer (some ⟨w.heap.size + 1, 0, none⟩)]) ∧ w' = (w.alloc (.cells #[.slice A N cap] 76)).alloc (.cells #[.int .i64 256] 3) := by
  go_enter Try.func38, Try.ntmps38
  go_wp2
  go_ret
  exact ⟨rfl, rfl⟩
set_option maxRecDepth 100000 in
set_option maxHeartbeats 4000000 in
theorem chunk1_tells (n : Nat) (hn : 1 ≤ n) (b1 b2 h N : Nat) (hNN : N ≤ 1000000) (Kp : World → World → Prop) (Good : World → Prop) (hGP : ∀ A, Good A → A.cell? ⟨b1, 0, none⟩ = some (.slice (some ⟨h, 0, none⟩) N N) ∧ A.cell? ⟨b2, 0, none⟩ = some (.int .i64 256)) (hGB : ∀ A B, Good A → Below A.heap.size A B → Good B)
    (hKs : ∀ A B, Kp A B → A.heap.size ≤ B.heap.size) (hKG : ∀ A B, Kp A B → Good A → Good B) (w : World) (hG : Good w) :
    TellsV FW n Try.prog 76 #[.pointer (some ⟨b1, 0, none⟩), .pointer (some ⟨b2, 0, none⟩)] (chunksV h N) Kp w := by
  intro l J Jx W hW hJ hJx hY h0
  have hro : FW.round = none := rfl
  have Hg1 := hide (hGB _ _ hG hW)
  have hf := fun w => pt_func_nil (P := Try.prog) w _ _ _ _ Try.underlying124 (.yield l) #[] #[]
  have HGP := hide hGP
  have HGB := hide hGB
  have HY := hide hY
  have HJ := hide hJ
  have H0 := hide h0
  have HKG := hide hKG
  have HKS := hide hKs
  clear hG hY hJ hJx h0 hKG hKs hGP hGB
  refine callsIn_of_wp Try.func76 rfl trivial ?_ hro
  simp only [Try.ntmps76, List.size_toArray, List.length_cons, List.length_nil, Nat.reduceAdd, Nat.reduceSub, Array.replicate_succ, Array.replicate_zero, List.push_toArray, List.append_toArray, List.nil_append, List.cons_append]
  gi_wp2_with fail
  gi_loopw [4] (fun v wr => ∃ j i : Nat, v = .int .i64 i ∧ Hid (i = 256 * j) ∧ i < N + 256 ∧ J ((List.range j).map (chunkV h N)) wr ∧ Good wr ∧ W.heap.size ≤ wr.heap.size) (fun v _ => N - (intOf v).toNat)
  case atStart => exact ⟨0, 0, rfl, rfl, by omega, H0.out, Hg1.out, Nat.le_refl _⟩
  case round =>
    obtain ⟨j, i, rfl, HI, hiN, hJs, hgr, hsz⟩ := hrel
    obtain ⟨c1, c2⟩ := HGP.out _ hgr
    have z1 := lt_of_cell c1
    have z2 := lt_of_cell c2
    have HJS := hide hJs
    have Hgr := hide hgr
    have HSZ := hide hsz
    clear hJs hgr hsz
    by_cases hlt : i < N
    · have hltz : (i : Int) < (N : Int) := by omega
      obtain ⟨e, he⟩ : ∃ e, e = min 256 (N - i) := ⟨_, rfl⟩
      obtain ⟨d, hd⟩ : ∃ d, d = N - i := ⟨_, rfl⟩
      have hdz : (N : Int) - (i : Int) = (d : Int) := by omega
      have hmin : min (256 : Int) (d : Int) = (e : Int) := by omega
      have hmin2 : min 256 d = e := by omega
      have he0 : 0 < e := by omega
      have heN : i + e ≤ N := by omega
      have hNi : ¬ N = i := by omega
      have hile : (i : Int) ≤ (N : Int) := by omega
      have hile' : i ≤ N := by omega
      have hd2 : N - i = d := hd.symm
      have HE := hide he
      clear he hd
      gi_wp2_with fail
      refine wpIn_wide.2 ?_
      refine region_made 6 7 [fIs (.int .i64 256), fIs (.slice (some ⟨h, 0, none⟩) N N), fIs (.int .i64 (i : Int)), fIs (.slice (some ⟨h, i * 15, none⟩) d d), fIs (.int .i64 (d : Int)), fIs (.int .i64 (e : Int))] (by kernel_rfl) (by kernel_rfl) (by kernel_rfl) (fun _ ⟨_, _⟩ ⟨_, _⟩ _ e h => by cases e; exact h) ⟨fIs_good _, fIs_good _, fIs_good _, fIs_good _, fIs_good _, fIs_good _, trivial⟩ ?mk ?rest
      case mk =>
        refine ⟨fun u wz hb hd => ?_, fun u wz hb hd => ?_, fun u wz hb hd => ?_, fun u wz hb hd => ?_, fun u wz hb hd => ?_, fun u wz hb hd => ?_, trivial⟩
        all_goals simp only [Act.put, List.setIfInBounds_toArray, List.set_cons_zero, List.set_cons_succ]
        · have c2' := (hb.cell (p := ⟨b2, 0, none⟩) (lt_of_cell c2)).trans c2
          go_simp
          exact ⟨rfl, Below.refl _ _, fun h => by cases h⟩
        · have c1' := (hb.cell (p := ⟨b1, 0, none⟩) (lt_of_cell c1)).trans c1
          go_simp
          exact ⟨rfl, Below.refl _ _, fun h => by cases h⟩
        · go_simp
          exact ⟨rfl, Below.refl _ _, fun h => by cases h⟩
        · have e1 : u 1 = .slice (some ⟨h, 0, none⟩) N N := hd 1 (by omega) (by kernel_rfl)
          have e2 : u 2 = .int .i64 (i : Int) := hd 2 (by omega) (by kernel_rfl)
          rw [e1, e2]
          go_simp
          exact ⟨rfl, Below.refl _ _, fun h => by cases h⟩
        · have e3 : u 3 = .slice (some ⟨h, i * 15, none⟩) d d := hd 3 (by omega) (by kernel_rfl)
          rw [e3]
          go_simp
          exact ⟨rfl, Below.refl _ _, fun h => by cases h⟩
        · have e0 : u 0 = .int .i64 256 := hd 0 (by omega) (by kernel_rfl)
          have e4 : u 4 = .int .i64 (d : Int) := hd 4 (by omega) (by kernel_rfl)
          rw [e0, e4]
          go_simp
          exact ⟨rfl, Below.refl _ _, fun h => by cases h⟩
      case rest =>
        intro u wz hb hf hp
        have f0 : u 0 = .int .i64 256 := hf 0 (by omega)
        have f1 : u 1 = .slice (some ⟨h, 0, none⟩) N N := hf 1 (by omega)
        have f2 : u 2 = .int .i64 (i : Int) := hf 2 (by omega)
        have f3 : u 3 = .slice (some ⟨h, i * 15, none⟩) d d := hf 3 (by omega)
        have f4 : u 4 = .int .i64 (d : Int) := hf 4 (by omega)
        have f5 : u 5 = .int .i64 (e : Int) := hf 5 (by omega)
        refine UptoW.rest 1 6 (by rfl) (by kernel_rfl) ?_
        simp only [List.take, List.drop, putOps, Act.put, List.setIfInBounds_toArray, List.set_cons_zero, List.set_cons_succ, Nat.reduceAdd, f0, f1, f2, f3, f4, f5]
        clear f0 f1 f2 f3 f4 f5 hf hp
        have Hgz := hide (HGB.out _ _ Hgr.out hb)
        have HJZ := hide (abides_below HJ.out HJS.out hb)
        have HSZ2 : Hid (W.heap.size ≤ wz.heap.size) := Nat.le_trans HSZ.out hb.size
        obtain ⟨x1, x2⟩ := HGP.out _ Hgz.out
        have y1 := lt_of_cell x1
        have y2 := lt_of_cell x2
        have hi := HI.out
        obtain ⟨post, hpost⟩ := chunks_here h N (j := j) (by omega)
        have hcv : chunkV h N j = .slice (some ⟨h, i * 15, none⟩) e e := by
          unfold chunkV
          rw [← hi, ← HE.out]
        rw [hcv] at hpost
        obtain ⟨fn, tmps, assign, body, hy, hR⟩ := HY.out _ _ post wz hpost HJZ.out
        have HR := hide hR
        have HCV := hide hcv
        have hez : (i : Int) + (e : Int) ≤ (N : Int) := by omega
        have hne : ¬ i + e = i := by omega
        clear hb hR hpost hcv hi c1 c2 z1 z2
        go_wp2_with fail
        gi_wp2_with fail
        refine HR.out.mono ?_
        rintro ex w4 (⟨rfl, j4, k4⟩ | ⟨rfl, jx4⟩)
        · have HJ4 := hide j4
          have Hg4 := hide (HKG.out _ _ k4 Hgz.out)
          have HS4 := hide (HKS.out _ _ k4)
          obtain ⟨q1, q2⟩ := HGP.out _ Hg4.out
          have r1 := lt_of_cell q1
          have r2 := lt_of_cell q2
          clear HR hy j4 k4 x1 x2 y1 y2
          gi_wp2
          go_roundw
          case rel => exact ⟨j + 1, i + 256, by go_num, by rw [Hid, HI.out]; omega, by omega, by rw [List.range_succ, List.map_append, List.map_cons, List.map_nil, HCV.out]; exact HJ4.out, Hg4.out, Nat.le_trans HSZ2.out HS4.out⟩
          case measure => simp [intOf]; omega
        · have HJ4 := hide jx4
          clear HR hy jx4
          gi_wp2
          refine bodyPost_ret (results_none rfl _ _ _) rfl ?_
          exact ⟨⟨_, rfl⟩, .inr HJ4.out⟩
    · have hltz : ¬ (i : Int) < (N : Int) := by omega
      gi_wp2
      go_end0
      refine ⟨⟨_, rfl⟩, .inl ?_⟩
      have hi := HI.out
      rw [chunks_all h N (j := j) (by omega) (by omega)]
      exact HJS.out
end Go.Proofs.Ytkbdnhchlkafnaa.V
namespace Go.Proofs.Ytkbdnhchlkafnaa.V
open Go Go.RowKit
set_option linter.unusedVariables false

/-- Block OB alone may have another cell. -/
def ButFor (OB : Nat) (W V : World) : Prop := W.heap.size ≤ V.heap.size ∧ ∀ b, b < W.heap.size → b ≠ OB → V.heap[b]? = W.heap[b]?
theorem ButFor.refl (OB : Nat) (W : World) : ButFor OB W W := ⟨Nat.le_refl _, fun _ _ _ => rfl⟩
theorem ButFor.trans {OB : Nat} {W V U : World} (h : ButFor OB W V) (k : ButFor OB V U) : ButFor OB W U := ⟨Nat.le_trans h.1 k.1, fun b hb hn => (k.2 b (Nat.lt_of_lt_of_le hb h.1) hn).trans (h.2 b hb hn)⟩
theorem ButFor.below {OB : Nat} {W V : World} (h : Below W.heap.size W V) : ButFor OB W V := ⟨h.size, fun b hb _ => h.block b hb⟩
theorem ButFor.set {OB : Nat} (W : World) (v : Value) : ButFor OB W (W.setCell ⟨OB, 0, none⟩ v) := ⟨by rw [World.size_setCell]; exact Nat.le_refl _, fun b _ hn => Below.heap_setCell _ ⟨OB, 0, none⟩ _ b hn⟩
/-- A box with a list of arrays. -/
def MBox (W : World) (OB : Nat) (A : Option Addr) (n c : Nat) : Prop := W.heap[OB]? = some (.cells #[.slice A n c] 38 (0, 0))
theorem MBox.cell {W : World} {OB n c : Nat} {A : Option Addr} (h : MBox W OB A n c) : W.cell? ⟨OB, 0, none⟩ = some (.slice A n c) := by
  unfold MBox at h
  simp [World.cell?, h]
theorem MBox.free {W : World} {OB n c : Nat} {A : Option Addr} (h : MBox W OB A n c) : W.frozen? ⟨OB, 0, none⟩ = false := by
  unfold MBox at h
  simp [World.frozen?, h]
theorem MBox.lt {W : World} {OB n c : Nat} {A : Option Addr} (h : MBox W OB A n c) : OB < W.heap.size := lt_of_heap h
theorem MBox.below {W V : World} {OB n c : Nat} {A : Option Addr} (h : MBox W OB A n c) (hb : Below W.heap.size W V) : MBox V OB A n c := (hb.block OB h.lt).trans h
theorem MBox.put {W : World} {OB n c : Nat} {A : Option Addr} (h : MBox W OB A n c) (A' : Option Addr) (n' c' : Nat) : MBox (W.setCell ⟨OB, 0, none⟩ (.slice A' n' c')) OB A' n' c' := by
  unfold MBox at *
  unfold World.setCell
  simp only [Array.getElem?_modify, h]
  simp
theorem MBox.num {W : World} {OB n c : Nat} {A : Option Addr} (h : MBox W OB A n c) {b o : Nat} {x : Int} (hc : W.cell? ⟨b, o, none⟩ = some (.int .i64 x)) : b ≠ OB := by
  intro e
  subst e
  unfold MBox at h
  unfold World.cell? at hc
  rw [h] at hc
  simp only [Option.isSome_none, Bool.false_eq_true, if_false] at hc
  rcases o with _ | o
  · simp at hc
  · simp at hc
theorem ints_but {W V : World} {OB n c : Nat} {A : Option Addr} (h : MBox W OB A n c) (hk : ButFor OB W V) {xa : Option Addr} {xl : Nat} {xs : List Int} (hx : Ints W xa xl xs) : Ints V xa xl xs := by
  obtain ⟨h1, h2, h3, h4⟩ := hx
  refine ⟨h1, h2, h3, ?_⟩
  rcases h4 with e | ⟨b, off, e, h5⟩
  · exact .inl e
  · exact .inr ⟨b, off, e, fun j hj => (World.cell?_of_block (w := W) (w' := V) (a := ⟨b, off + j, none⟩) (hk.2 b (lt_of_cell (h5 j hj)) (h.num (h5 j hj)))).trans (h5 j hj)⟩
theorem TG.but {W V : World} {OB n c : Nat} {A : Option Addr} (h : MBox W OB A n c) (hk : ButFor OB W V) {q : TW} {p : Sp} (hg : TG W q p) : TG V q p := by
  refine ⟨hg.stm, ⟨ints_but h hk hg.pt.1, hg.pt.2⟩, hg.tm, hg.kd, hg.va, hg.put, ?_, hg.cap, fun b o e => ?_⟩
  · obtain ⟨h1, h2, h3⟩ := hg.gets
    refine ⟨h1, h2, ?_⟩
    rcases h3 with e | ⟨b, off, e, h5⟩
    · exact .inl e
    · exact .inr ⟨b, off, e, fun j hj => ⟨(World.cell?_of_block (w := W) (w' := V) (a := ⟨b, off + j * 2, none⟩) (hk.2 b (lt_of_cell (h5 j hj).1) (h.num (h5 j hj).1))).trans (h5 j hj).1, (World.cell?_of_block (w := W) (w' := V) (a := ⟨b, off + j * 2 + 1, none⟩) (hk.2 b (lt_of_cell (h5 j hj).1) (h.num (h5 j hj).1))).trans (h5 j hj).2⟩⟩
  · obtain ⟨cur, fz, h1⟩ := hg.num b o e
    refine ⟨cur, fz, (hk.2 b (lt_of_heap h1) (fun k => ?_)).trans h1⟩
    subst k
    unfold MBox at h
    rw [h1] at h
    simp only [Option.some.injEq, Obj.cells.injEq] at h
    exact absurd h.2.1 (by decide)
theorem RowS.but {W V : World} {OB g n : Nat} {us : Nat → TW} (h : RowS W g n us) (hk : ButFor OB W V) (hne : g ≠ OB) : RowS V g n us := by
  obtain ⟨cur, e⟩ := h.blk
  have e2 := hk.2 g h.lt hne
  exact ⟨⟨cur, e2.trans e⟩, fun j hj i hi => (World.cell?_of_block (w := W) (w' := V) (a := ⟨g, j * 15 + i, none⟩) e2).trans (h.at_ j hj i hi)⟩
/-- nest.Run where nothing is wrong; the list that it hands back may be put into a box that was there. -/
theorem nestRun_put (za : Option Addr) (zl zc : Nat) (zs : List Int) (ta : Option Addr) (tl tc : Nat) (ss : List Stm) (a : Option Addr) (len cap : Nat) (L : Mem) (w : World) (hz : Ints w za zl zs) (hs : Stms w ta tl ss) (hA : MemA w a len L) (hb24 : 24 * len ≤ 281474976710656) (hE : runE zs ss L = 0) (OB n0 c0 : Nat) (hB : MBox w OB a n0 c0) :
    Calls Try.prog 27 #[.agg #[.slice za zl zc, .slice ta tl tc], .slice a len cap] w fun e w' => (∃ A, e = .returned (.tuple #[.slice A len len, .int .i64 0]) ∧ MemA w' A len (runM ss L) ∧ MemA (w'.setCell ⟨OB, 0, none⟩ (.slice A len len)) A len (runM ss L)) ∧ Below w.heap.size w w' := by
  refine (callsIn_wide.1 (nestRun_ok za zl zc zs ta tl tc ss a len cap L w hz hs hA hb24 hE)).mono ?_
  rintro e w' ⟨⟨R, G, C, rfl, hM⟩, hb⟩
  have hlen : (runM ss L).length = len := by rw [runM_len]; exact hA.1
  have hm := hM.memA hlen hA.2.1
  refine ⟨⟨_, rfl, hm, ?_⟩, hb⟩
  obtain ⟨m1, m2, m3⟩ := hm
  refine ⟨m1, m2, ?_⟩
  rcases hM.head with h0 | ⟨b, off, e, h1⟩
  · exact .inl (by omega)
  · cases e
    by_cases hl0 : len = 0
    · exact .inl hl0
    · refine .inr ⟨R, 0, rfl, fun i hi => ?_⟩
      have hBw := hB.below hb
      have hOl := hB.lt
      have hRO : R ≠ OB := by
        intro k
        obtain ⟨c1, c2⟩ := h1 0 (by omega)
        rw [k] at c1
        have c3 := hBw.cell
        rw [show (0 : Nat) + 0 = 0 from rfl, c3] at c1
        obtain ⟨a0, o0, ha0, h5⟩ := hA.at (by omega)
        obtain ⟨x, l, c, h6, _⟩ := h5 0 (by omega)
        have h7 := lt_of_cell h6
        rw [ha0] at c1
        simp only [Option.some.injEq, Value.slice.injEq, Addr.mk.injEq] at c1
        have h8 := hM.lo 0 (by omega)
        simp only at h7
        omega
      obtain ⟨c1, c2⟩ := h1 i (by omega)
      have hG := hM.lo i (by omega)
      have hrow := (hM.rows i (by omega)).setO (p := ⟨OB, 0, none⟩) (by show G i ≠ OB; omega) (.slice (some ⟨R, 0, none⟩) len len)
      refine ⟨some ⟨G i, 0, none⟩, _, C i, (World.cell?_setCell_other _ _ _ _ (by intro k; simp only [Addr.mk.injEq] at k; exact hRO k.1.symm)).trans c1, hrow.ints (fun j => hM.bd i j) (by have := hM.small i; omega), ?_, fun k => by cases k⟩
      obtain ⟨cur, _, k2, k3, _⟩ := hM.rows i (by omega)
      omega
end Go.Proofs.Ytkbdnhchlkafnaa.V
namespace Go.Proofs.Ytkbdnhchlkafnaa.V
open Go Go.RowKit
set_option linter.unusedVariables false

theorem out_pt {W : World} {B : Nat} {v : Value} {l : List (Nat × List Int)} {f : Nat × List Int → Sp} (h : OutT W B v (l.map f)) (hl : l ≠ []) : ∃ (g cap : Nat) (us : List TW), v = .slice (some ⟨g, 0, none⟩) l.length cap ∧ B ≤ g ∧ l.length ≤ cap ∧ cap ≤ 9223372036854775807 ∧ us.length = l.length ∧ RowS W g l.length (wds (us.zip l)) ∧ ∀ x ∈ us.zip l, Lies B (fun V => TG V x.1 (f x.2)) W := by
  obtain ⟨us, h1, h2, h3⟩ := h
  rw [List.length_map] at h1
  have hpos := List.length_pos_iff.2 hl
  rcases h2.2 with ⟨_, e⟩ | ⟨g, cap, cur, e, e2, e3, e4, e5, e6, e7⟩
  · omega
  · have hat : ∀ j, j < l.length → wds (us.zip l) j = us[j]?.getD twD := fun j hj => by
      unfold wds
      have hj' : j < us.length := by omega
      rw [List.getElem?_eq_getElem (by rw [List.length_zip]; omega)]
      simp [hj']
    refine ⟨g, cap, us, by rw [← h1]; exact e, e2, by omega, by simpa [maxLen] using e5, h1, ⟨⟨cur, e3⟩, fun j hj i hi => ?_⟩, fun x hx => ?_⟩
    · rw [hat j hj]
      have hs : (us[j]?.getD twD).cs[i]? = some ((us[j]?.getD twD).cs[i]'(by simpa [TW.cs] using hi)) := Array.getElem?_eq_getElem _
      have := h2.cells (g := g) (by rw [e]; rfl) (j * 15 + i) _ ((flat_get us j i hi (by omega)).trans hs)
      rw [Go.WideShapes.add_plain] at this
      rw [hs, ← this]
      congr 2
      omega
    · obtain ⟨j, hj, rfl⟩ := List.mem_iff_getElem.1 hx
      rw [List.length_zip] at hj
      have hj1 : j < us.length := by omega
      have hj2 : j < l.length := by omega
      have := h3 j (by rw [List.length_map]; exact hj2)
      have e8 : us[j]?.getD twD = ((us.zip l)[j]'(by rw [List.length_zip]; omega)).1 := by simp [hj1]
      have e9 : (l.map f)[j]?.getD spDD = f ((us.zip l)[j]'(by rw [List.length_zip]; omega)).2 := by simp [hj2]
      rw [e8, e9] at this
      exact this
set_option maxRecDepth 100000 in
set_option maxHeartbeats 2000000 in
theorem oRun_bad1 (za : Option Addr) (zl zc : Nat) (zs : List Int) (ta : Option Addr) (tl tc : Nat) (ss : List Stm) (ma : Option Addr) (ml mc : Nat) (T : Tms) (mv xv : Value) (w : World) (hz : Ints w za zl zs) (hs : Stms w ta tl ss) (hT : TimesA w ma ml T) (hE : rightE zs ss T ≠ 0) :
    Calls Try.prog 16 #[.agg #[.slice za zl zc, .slice ta tl tc], .slice ma ml mc, mv, xv] w fun e w' => e = .returned (.tuple #[.slice none 0 0, .int .i64 (rightE zs ss T)]) ∧ Below w.heap.size w w' := by
  have B1 : Below w.heap.size w (w.alloc (.cells #[.slice za zl zc, .slice ta tl tc] 25)) := bl_new _
  have P0 := NsBlk.new w za zl zc ta tl tc
  obtain ⟨p0, p1⟩ := P0.cells
  have zn := P0.lt
  have HW := hide (spots_bad za zl zc zs ta tl tc ss ma ml mc T _ (hz.below B1) (hs.below B1) (hT.below B1) hE)
  obtain ⟨E, hEE⟩ : ∃ E, E = rightE zs ss T := ⟨_, rfl⟩
  rw [← hEE] at HW hE ⊢
  have hEb : (E != 0) = true := by simpa using hE
  have HB := hide B1
  clear hz hs hT P0 B1 hEE hE
  go_enter Try.func16, Try.ntmps16
  go_wp2_with fail
  refine HW.out.mono ?_
  rintro e w1 ⟨rfl, hb⟩
  have HB1 := hide (bl_on HB.out hb)
  clear hb
  go_wp2_with fail
  go_ret2
  exact ⟨rfl, HB1.out⟩
theorem run_nil {zs : List Int} {L : Mem} (hz : ∀ z ∈ zs, 0 ≤ z ∧ z ≤ 65536) : runE zs [] L = fitsE zs L := by
  unfold runE
  have : nestE zs [] = 0 := by
    unfold nestE
    rw [if_neg (by simp), any_none hz, if_neg (by simp)]
    rfl
  rw [this, if_neg (by simp)]
set_option maxRecDepth 100000 in
set_option maxHeartbeats 2000000 in
theorem oRun_bad2 (za : Option Addr) (zl zc : Nat) (zs : List Int) (ta : Option Addr) (tl tc : Nat) (ss : List Stm) (ma : Option Addr) (ml mc : Nat) (T : Tms) (a : Option Addr) (len cap : Nat) (L : Mem) (xv : Value) (w : World) (hz : Ints w za zl zs) (hs : Stms w ta tl ss) (hT : TimesA w ma ml T) (hA : MemA w a len L) (hE : rightE zs ss T = 0) (hF : fitsE zs L ≠ 0) :
    Calls Try.prog 16 #[.agg #[.slice za zl zc, .slice ta tl tc], .slice ma ml mc, .slice a len cap, xv] w fun e w' => e = .returned (.tuple #[.slice none 0 0, .int .i64 (fitsE zs L)]) ∧ Below w.heap.size w w' := by
  have B1 : Below w.heap.size w (w.alloc (.cells #[.slice za zl zc, .slice ta tl tc] 25)) := bl_new _
  have P0 := NsBlk.new w za zl zc ta tl tc
  obtain ⟨p0, p1⟩ := P0.cells
  have zn := P0.lt
  have hzz := (nestE_ok (rightE_ok hE).ord.nest).sizes
  have HW := hide (spots_good za zl zc zs ta tl tc ss ma ml mc T _ (hz.below B1) (hs.below B1) (hT.below B1) hE)
  have HNR := hide (fun V (hb : Below w.heap.size w V) => nestRun_no za zl zc zs none 0 0 [] a len cap L V (hz.below hb) ⟨rfl, by omega, .inl rfl⟩ (hA.below hb) (by rw [run_nil hzz]; exact hF))
  rw [run_nil hzz] at HNR
  obtain ⟨E, hEE⟩ : ∃ E, E = fitsE zs L := ⟨_, rfl⟩
  rw [← hEE] at HNR hF ⊢
  have hEb : (E != 0) = true := by simpa using hF
  have HB := hide B1
  have HP0 := hide P0
  clear hz hs hT P0 B1 hEE hE hA hF hzz
  go_enter Try.func16, Try.ntmps16
  go_wp2_with fail
  refine HW.out.mono ?_
  rintro e w1 ⟨⟨v, B, rfl, hB, hO⟩, hb⟩
  have HB1 := hide (bl_on HB.out hb)
  have P1 := HP0.out.below hb
  obtain ⟨q0, q1⟩ := P1.cells
  have zq := P1.lt
  clear hb P1 hO
  go_wp2_with fail
  refine (HNR.out w1 HB1.out).mono ?_
  rintro e w2 ⟨rfl, hb2⟩
  have HB2 := hide (bl_on HB1.out hb2)
  clear hb2
  go_wp2_with fail
  go_ret2
  exact ⟨rfl, bl_on HB2.out (bl_new _)⟩
end Go.Proofs.Ytkbdnhchlkafnaa.V
namespace Go.Proofs.Ytkbdnhchlkafnaa.V
open Go Go.Shelf Go.RowKit Go.Lib Go.Sort Go.Proofs Go.Proofs.Ytkbdnhchlkafnaa.S
set_option linter.unusedVariables false

set_option maxRecDepth 100000 in
set_option maxHeartbeats 4000000 in
theorem inTurn_nil (a : Option Addr) (cap : Nat) (hcap : cap ≤ 9223372036854775807) (xa : Option Addr) (xl xc : Nat) (w : World) :
    Calls Try.prog 39 #[.slice a 0 cap, .slice xa xl xc] w fun e w' => (∃ hh, e = .returned (.slice (some ⟨hh, 0, none⟩) 0 0) ∧ w.heap.size ≤ hh ∧ RowS w' hh 0 (wds [])) ∧ Below w.heap.size w w' := by
  obtain ⟨i0, hi, hz0, hz1, hz2⟩ := info_parts info_T
  go_enter Try.func39, Try.ntmps39
  go_wp2_with fail
  refine (sort_nil _ _ _ w).mono ?_
  rintro e w1 ⟨rfl, rfl⟩
  go_wp2_with fail
  refine (picker_any xa xl xc w1).mono ?_
  rintro e w2 ⟨rfl, -, -, hb2, hz2'⟩
  have HB2 := hide hb2
  clear hb2
  go_wp2_with (first | (at_make; refine wpList_make_own _ rfl _ _ 76 rfl w2.heap.size 63 i0 (.agg twD.cs) 15 Try.underlying76 hi hz0 hz1 .i64 .i64 _ 0 rfl rfl rfl (by rw [hz2]; omega) (by unfold maxLen; omega) (Nat.le_refl _) ?_; intro w3 hown hgr) | fail)
  have B3 : Below w2.heap.size w2 w3 := ⟨hgr.os, hgr.tape, hgr.output, hgr.size, fun i hi => hgr.block i hi (by simp)⟩
  have HR : Hid (RowS w3 w2.heap.size 0 (wds [])) := by
    refine ⟨?_, fun j hj => by omega⟩
    rcases hown.2 with ⟨e, _⟩ | ⟨g', cp, cur, e, _, e2, _, _, e5, _⟩
    · cases e
    · cases e
      exact ⟨cur, e2⟩
  have HB3 := hide (bl_on HB2.out B3)
  clear hown hgr B3 HB2
  go_loopw [0, 6] (fun va vo wr => va = .slice a 0 cap ∧ vo = .slice (some ⟨w2.heap.size, 0, none⟩) 0 0 ∧ wr = w3) (fun _ _ _ => 0)
  case atStart => exact ⟨rfl, rfl, rfl⟩
  case round =>
    obtain ⟨rfl, rfl, rfl⟩ := hrel
    go_wp2
    go_ret
    exact ⟨⟨_, rfl, by omega, HR.out⟩, HB3.out⟩
theorem Mems.memK {W V : World} {N g n : Nat} {R : Nat} {G C : Nat → Nat} {M : Mem} {us : Nat → TW} (h : Mems W N (some ⟨R, 0, none⟩) G C M) (hr : RowS W g n us) (hn : 0 < n) (hg : g < N) (k : Rw g W V) : Mems V N (some ⟨R, 0, none⟩) G C M := by
  have hat : ∀ b, b < W.heap.size → b ≠ g → V.heap[b]? = W.heap[b]? := fun b hb hne => k.grown.block b hb (fun e => hne (by cases e; rfl))
  refine ⟨?_, fun i hi => ?_, h.apart, h.lo, h.bd, h.small⟩
  · rcases h.head with h0 | ⟨b, off, e, h1⟩
    · exact .inl h0
    · cases e
      by_cases c : M.length = 0
      · exact .inl c
      · have hR : R ≠ g := fun e => by
          have c1 := (h1 0 (by omega)).1
          have c2 := hr.at_ 0 hn 0 (by omega)
          rw [e] at c1
          have e3 : ((us 0).cs[0]? : Option Value) = some (.int .i64 (us 0).stm) := rfl
          simp only [Nat.zero_mul, Nat.add_zero] at c1 c2
          rw [c2, e3] at c1
          cases c1
        refine .inr ⟨R, 0, rfl, fun i hi => ⟨?_, (h1 i hi).2⟩⟩
        have c1 := (h1 i hi).1
        exact (World.cell?_of_block (w := W) (w' := V) (a := ⟨R, 0 + i, none⟩) (hat R (lt_of_cell c1) hR)).trans c1
  · have hl := h.lo i hi
    exact (h.rows i hi).of_block (hat _ (h.rows i hi).lt (by omega))
theorem playL_nil (T : Tms) (mix : List Int) (n t : Nat) : playL T mix n t [] = [] := by
  cases n with
  | zero => rfl
  | succ n => unfold playL; rw [if_pos rfl]
/-- inTurn on the list that spots hands back; OB and the memory M lie beside. -/
theorem inTurn_all (T : Tms) (mix : List Int) (xa : Option Addr) (xl xc : Nat) (f : Nat × List Int → Sp) (l : List (Nat × List Int)) (v : Value) (B N0 N : Nat) (w1 W : World) (hO : OutT w1 B v (l.map f)) (h1 : Below w1.heap.size w1 W) (hB : N0 ≤ B) (hN0 : N0 ≤ W.heap.size) (hN : N = w1.heap.size) (hx : Ints W xa xl mix) (hxb : 0 < xl → ∀ b o, xa = some ⟨b, o, none⟩ → b < N0) (hf : ∀ p, (f p).tm = spT T p) (hl : l.length ≤ 1024)
    (R : Nat) (G C : Nat → Nat) (M : Mem) (hM : Mems W N (some ⟨R, 0, none⟩) G C M) (OB : Nat) (hOB : N ≤ OB) (hOB2 : OB < W.heap.size) :
    Calls Try.prog 39 #[v, .slice xa xl xc] W fun e w' => ∃ (hh : Nat) (D : List PT), e = .returned (.slice (some ⟨hh, 0, none⟩) l.length l.length) ∧ W.heap.size ≤ hh ∧ RowS w' hh l.length (wds D) ∧ D.length = l.length ∧ D.map (·.2) = playL T mix l.length 0 l ∧ (∀ x ∈ D, x.2 ∈ l ∧ Lies B (fun V => TG V x.1 (f x.2)) w') ∧ Mems w' N (some ⟨R, 0, none⟩) G C M ∧ w'.heap[OB]? = W.heap[OB]? ∧ Below N0 W w' := by
  by_cases hnil : l = []
  · subst hnil
    obtain ⟨us, e1, e2, e3⟩ := hO
    have hv : ∃ a cap, v = .slice a 0 cap ∧ cap ≤ 9223372036854775807 := by
      have e4 : us = [] := by simpa using e1
      subst e4
      rcases e2.2 with ⟨e, _⟩ | ⟨g, cap, cur, e, _, _, _, e5, _⟩
      · exact ⟨none, 0, e, by omega⟩
      · exact ⟨_, cap, e, by simpa [maxLen] using e5⟩
    obtain ⟨a, cap, rfl, hcap⟩ := hv
    refine (inTurn_nil a cap hcap xa xl xc W).mono ?_
    rintro e w' ⟨⟨hh, rfl, k1, k2⟩, hb⟩
    exact ⟨hh, [], rfl, k1, k2, rfl, by rw [playL_nil]; rfl, fun x hx => (by cases hx), hM.below hb, hb.block OB hOB2, hb.mono hN0⟩
  · obtain ⟨g, cap, us, rfl, k1, k2, k3, k4, k5, k6⟩ := out_pt hO hnil
    have hlen : (us.zip l).length = l.length := by rw [List.length_zip]; omega
    have hpos := List.length_pos_iff.2 hnil
    have hgl := k5.lt
    have k5' := k5.below h1
    have hsnd : (us.zip l).map (·.2) = l := List.map_snd_zip (by omega)
    have := inTurn_any T mix xa xl xc g cap (us.zip l) W (fun e => by rw [e] at hlen; simp at hlen; omega) (by rw [hlen]; exact k5') hx (fun q b o e => by have := hxb q b o e; omega) (by rw [hlen]; exact k2) k3 (by rw [hlen]; omega) (fun x hx => by have := (k6 x hx).out.tm; rw [this]; exact hf _)
    rw [hlen, hsnd] at this
    refine this.mono ?_
    rintro e w' ⟨hh, D, rfl, j1, j2, j3, j4, j5⟩
    obtain ⟨cur, hcur⟩ := k5'.blk
    refine ⟨hh, D, rfl, j1, j2, by rw [j4.length_eq, hlen], j3, fun x hx => ?_, hM.memK k5' hpos (by omega) j5, j5.grown.block OB hOB2 (fun e => by cases e; omega), j5.below (by omega) hN0⟩
    have hx' := j4.mem_iff.1 hx
    exact ⟨(List.of_mem_zip (a := x.1) (b := x.2) hx').2, ((k6 x hx').below h1).keep (j5.keepF hcur)⟩
end Go.Proofs.Ytkbdnhchlkafnaa.V
namespace Go.Proofs.Ytkbdnhchlkafnaa.V
open Go Go.RowKit Go.Shelf
set_option linter.unusedVariables false

theorem MemA.cells {W V : World} {a : Option Addr} {len : Nat} {L : Mem} (h : MemA W a len L) (hk : ∀ p v, W.cell? p = some v → V.cell? p = some v) : MemA V a len L := by
  obtain ⟨h1, h2, h3⟩ := h
  refine ⟨h1, h2, ?_⟩
  rcases h3 with h3 | ⟨b, off, e, h⟩
  · exact .inl h3
  · refine .inr ⟨b, off, e, fun i hi => ?_⟩
    obtain ⟨x, l, c, k1, ⟨k2, k3, k4, k5⟩, k6⟩ := h i hi
    refine ⟨x, l, c, hk _ _ k1, ⟨k2, k3, k4, ?_⟩, k6⟩
    rcases k5 with k5 | ⟨b2, o2, e2, h5⟩
    · exact .inl k5
    · exact .inr ⟨b2, o2, e2, fun j hj => hk _ _ (h5 j hj)⟩
/-- Blocks below N, but for OB, are as they were. -/
def ButN (N OB : Nat) (A B : World) : Prop := A.heap.size ≤ B.heap.size ∧ ∀ b, b < N → b ≠ OB → B.heap[b]? = A.heap[b]?
theorem ButN.trans {N OB : Nat} {A B C : World} (h : ButN N OB A B) (k : ButN N OB B C) : ButN N OB A C := ⟨Nat.le_trans h.1 k.1, fun b hb hn => (k.2 b hb hn).trans (h.2 b hb hn)⟩
theorem ButN.put {N OB : Nat} (W : World) (l : Nat) (o' : Obj) (hl : N ≤ l) : ButN N OB W (W.putObj l o') := ⟨by simp [World.putObj], fun b hb _ => World.putObj_heap_other (by omega)⟩
/-- What is so when some chunks are done. -/
def RInv (w W5 : World) (OB len : Nat) (Ms : Nat → Mem) (pre : List Value) (W : World) : Prop := ∃ A, MBox W OB A len len ∧ MemA W A len (Ms pre.length) ∧ ButFor OB W5 W ∧ Below w.heap.size w W
theorem RInv.own {w W5 : World} {OB len : Nat} {Ms : Nat → Mem} (hO : OB < W5.heap.size) (hw : w.heap.size ≤ W5.heap.size) : OwnFrom W5.heap.size (RInv w W5 OB len Ms) := by
  rintro s W W' row ⟨A, h1, h2, h3, h4⟩ hg hr
  have hat : ∀ b, b < W5.heap.size → W'.heap[b]? = W.heap[b]? := fun b hb => hg.block b (by have := h3.1; omega) (fun e => by have := (hr b e.symm).1; omega)
  refine ⟨A, (hat OB hO).trans h1, h2.cells (fun p v hv => ?_), ⟨Nat.le_trans h3.1 hg.size, fun b hb hn => (hat b hb).trans (h3.2 b hb hn)⟩, ?_⟩
  · obtain ⟨o, ho, hc⟩ := cells_of_cell hv
    refine (World.cell?_of_block (w := W) (w' := W') (hg.block p.block (lt_of_cell hv) (fun e => ?_))).trans hv
    obtain ⟨_, o', ho', hc'⟩ := hr p.block e.symm
    rw [ho] at ho'
    cases ho'
    rw [hc] at hc'
    cases hc'
  · exact h4.grown hg h4.size (fun k e => Nat.le_trans hw (hr k e).1)
theorem fit_of {zs : List Int} {L : Mem} (h : fitsE zs L = 0) : FitM zs L := by
  unfold fitsE at h
  by_cases c : L.length ≠ zs.length
  · rw [if_pos c] at h; omega
  rw [if_neg c] at h
  by_cases d : ((List.range L.length).any fun k => decide (((arrM L k).length : Int) ≠ zs[k]?.getD 0)) = true
  · rw [if_pos d] at h; omega
  refine ⟨by omega, fun k hk => ?_⟩
  have d2 : ((List.range L.length).any fun k => decide (((arrM L k).length : Int) ≠ zs[k]?.getD 0)) = false := by simpa using d
  rw [List.any_eq_false] at d2
  have := d2 k (by simpa using hk)
  simpa using this
theorem stms_val {w : World} {a : Option Addr} {len : Nat} {ss : List Stm} (h : Stms w a len ss) : ∀ s ∈ ss, B64 s.val := by
  obtain ⟨h1, h2, h3⟩ := h
  intro s hs
  obtain ⟨j, hj, rfl⟩ := List.mem_iff_getElem.1 hs
  rcases h3 with h0 | ⟨b, off, e, h4⟩
  · omega
  · obtain ⟨q, h5, _⟩ := h4 j (by omega)
    have e2 : ss[j]?.getD stmD = ss[j] := by simp [hj]
    rw [e2] at h5
    exact h5.bd.2
theorem chunk_at {h N : Nat} {pre post : List Value} {x : Value} (e : chunksV h N = pre ++ x :: post) : x = chunkV h N pre.length ∧ 256 * pre.length < N := by
  have h1 : (chunksV h N)[pre.length]? = some x := by rw [e]; simp
  have h2 : pre.length < (N + 255) / 256 := by
    have : (chunksV h N).length = (N + 255) / 256 := by unfold chunksV; simp
    rw [← this, e]
    simp
  unfold chunksV at h1
  rw [List.getElem?_map, List.getElem?_range h2] at h1
  simp only [Option.map_some, Option.some.injEq] at h1
  exact ⟨h1.symm, by omega⟩
def fChSt (m : Nat) (S : List Stm) : Fact := ⟨fun v w => ∃ R : Nat, v = .slice (some ⟨R, 0, none⟩) m m ∧ Stms w (some ⟨R, 0, none⟩) m S, false⟩
theorem fChSt_good (m : Nat) (S : List Stm) : (fChSt m S).Good := ⟨fun _ _ _ ⟨R, h1, h2⟩ hb => ⟨R, h1, h2.below hb⟩, fun h => by cases h⟩
def fChNe (za : Option Addr) (zl zc m : Nat) (S : List Stm) : Fact := ⟨fun v w => ∃ R : Nat, v = .agg #[.slice za zl zc, .slice (some ⟨R, 0, none⟩) m m] ∧ Stms w (some ⟨R, 0, none⟩) m S, false⟩
theorem fChNe_good (za : Option Addr) (zl zc m : Nat) (S : List Stm) : (fChNe za zl zc m S).Good := ⟨fun _ _ _ ⟨R, h1, h2⟩ hb => ⟨R, h1, h2.below hb⟩, fun h => by cases h⟩
/-- The spots of a chunk. -/
def segL (D : List PT) (j : Nat) : List (Nat × List Int) := ((D.map (·.2)).drop (256 * j)).take 256
theorem segL_len (D : List PT) (j : Nat) : (segL D j).length = min 256 (D.length - 256 * j) := by unfold segL; simp
theorem segL_take (D : List PT) (j : Nat) : (D.map (·.2)).take (256 * (j + 1)) = (D.map (·.2)).take (256 * j) ++ segL D j := by
  unfold segL
  rw [Nat.mul_add, Nat.mul_one, List.take_add]
theorem segL_at (D : List PT) (j i : Nat) (hi : i < (segL D j).length) : (segL D j)[i] = (D[256 * j + i]?.getD ptD).2 := by
  have hi' := hi
  rw [segL_len] at hi'
  unfold segL at hi ⊢
  rw [List.getElem_take, List.getElem_drop, List.getElem_map, List.getElem?_eq_getElem (by omega)]
  rfl
theorem segL_mem {D : List PT} {j : Nat} {p : Nat × List Int} (h : p ∈ segL D j) : ∃ x ∈ D, x.2 = p := by
  unfold segL at h
  have := List.mem_of_mem_drop (List.mem_of_mem_take h)
  rwa [List.mem_map] at this
theorem each_chunk (zs : List Int) (ss : List Stm) (T : Tms) (D : List PT) (hh N j : Nat) (U : World) (hr : RowS U hh N (wds D)) (hD : D.length = N) (hN : N ≤ 1024) (hj : 256 * j < N) (hg : ∀ x ∈ D, TG U x.1 (spOf zs ss T x.2) ∧ SpB (spOf zs ss T x.2) ∧ (spOf zs ss T x.2).gets.length ≤ 3) :
    Calls Try.prog 40 #[chunkV hh N j, .func (.func 41) #[] #[]] U fun e w' => (∃ R : Nat, e = .returned (.slice (some ⟨R, 0, none⟩) (min 256 (N - 256 * j)) (min 256 (N - 256 * j))) ∧ Stms w' (some ⟨R, 0, none⟩) (min 256 (N - 256 * j)) ((segL D j).map fun p => stmOf (spOf zs ss T p))) ∧ Below U.heap.size U w' := by
  refine (stmts_any hh N (256 * j) (min 256 (N - 256 * j)) _ (wds D) (fun i => spOf zs ss T (D[256 * j + i]?.getD ptD).2) U hr (by omega) (by omega) (fun i hi => ?_)).mono ?_
  · have hl : 256 * j + i < D.length := by omega
    have e1 : wds D (256 * j + i) = D[256 * j + i].1 := by unfold wds; simp [hl]
    have e2 : (D[256 * j + i]?.getD ptD).2 = D[256 * j + i].2 := by simp [hl]
    obtain ⟨g1, g2, g3⟩ := hg _ (List.getElem_mem hl)
    rw [e1, e2]
    refine ⟨g1, g2, ?_⟩
    have := g1.gets.1
    omega
  · rintro e w' ⟨⟨rfl, hl⟩, hb⟩
    refine ⟨⟨_, rfl, ?_⟩, hb⟩
    have := hl.out
    have e : (List.range (min 256 (N - 256 * j))).map (fun i => stmOf (spOf zs ss T (D[256 * j + i]?.getD ptD).2)) = (segL D j).map fun p => stmOf (spOf zs ss T p) := by
      refine List.ext_getElem (by simp [segL_len, hD]) (fun i h1 h2 => ?_)
      rw [List.getElem_map, List.getElem_map, List.getElem_range, segL_at]
    rwa [e] at this
/-- The memory when some chunks are done. -/
def chM (ss : List Stm) (D : List PT) (L : Mem) (k : Nat) : Mem := ((D.map (·.2)).take (256 * k)).foldl (spM ss) L
theorem chM_zero (ss : List Stm) (D : List PT) (L : Mem) : chM ss D L 0 = L := by unfold chM; simp
theorem run_chunk {zs : List Int} {ss : List Stm} (T : Tms) (hok : NestOk zs ss) {L : Mem} (hF : fitsE zs L = 0) (D : List PT) (hD : ∀ x ∈ D, x.2.1 < ss.length) (j : Nat) :
    runE zs ((segL D j).map fun p => stmOf (spOf zs ss T p)) (chM ss D L j) = 0 ∧ runM ((segL D j).map fun p => stmOf (spOf zs ss T p)) (chM ss D L j) = chM ss D L (j + 1) := by
  have hall : ∀ p ∈ (D.map (·.2)).take (256 * j), p.1 < ss.length := fun p hp => by
    have := List.mem_of_mem_take hp
    rw [List.mem_map] at this
    obtain ⟨x, hx, rfl⟩ := this
    exact hD x hx
  have hseg : ∀ p ∈ segL D j, p.1 < ss.length := fun p hp => by
    obtain ⟨x, hx, rfl⟩ := segL_mem hp
    exact hD x hx
  have hfit : FitM zs (chM ss D L j) := (run_spots T hok.stms _ L (fit_of hF) hall).2
  obtain ⟨h1, _⟩ := run_spots T hok.stms (segL D j) _ hfit hseg
  refine ⟨?_, ?_⟩
  · unfold runE
    rw [nest_zero T hok (segL D j) hseg (by rw [segL_len]; omega), if_neg (by simp)]
    exact hfit.zero
  · rw [h1]
    unfold chM
    rw [segL_take, List.foldl_append]
/-- A chunk is done: what is so then. -/
theorem RInv.next {w W5 W U w6 : World} {OB len : Nat} {Ms : Nat → Mem} {pre : List Value} {x : Value} {A A' : Option Addr} (hO : OB < W5.heap.size) (hOw : w.heap.size ≤ OB) (hbx : MBox W OB A len len) (hbut : ButFor OB W5 W) (hB : Below w.heap.size w W) (h1 : Below W.heap.size W U) (h2 : Below U.heap.size U w6) (hM : MemA (w6.setCell ⟨OB, 0, none⟩ (.slice A' len len)) A' len (Ms (pre.length + 1))) :
    KeepsFrom W5.heap.size W (w6.setCell ⟨OB, 0, none⟩ (.slice A' len len)) ∧ ButN W5.heap.size OB W (w6.setCell ⟨OB, 0, none⟩ (.slice A' len len)) ∧ RInv w W5 OB len Ms (pre ++ [x]) (w6.setCell ⟨OB, 0, none⟩ (.slice A' len len)) := by
  have hb := bl_on h1 h2
  have hbf : ButFor OB W (w6.setCell ⟨OB, 0, none⟩ (.slice A' len len)) := (ButFor.below hb).trans (ButFor.set _ _)
  have hW := hbut.1
  refine ⟨⟨hbf.1, fun k o hk hko _ => (hbf.2 k (lt_of_heap hko) (by omega)).trans hko⟩, ⟨hbf.1, fun b hb hn => hbf.2 b (by omega) hn⟩, A', (hbx.below hb).put _ _ _, ?_, hbut.trans hbf, ?_⟩
  · simpa using hM
  · exact (bl_on hB hb).setCell (p := ⟨OB, 0, none⟩) (by simpa using hOw) _
end Go.Proofs.Ytkbdnhchlkafnaa.V
namespace Go.Proofs.Ytkbdnhchlkafnaa.V
open Go Go.RowKit Go.Shelf
attribute [local go_sem] Oper.semAt_some
set_option linter.unusedVariables false

set_option maxRecDepth 100000 in
set_option maxHeartbeats 8000000 in
theorem oRun_ok (za : Option Addr) (zl zc : Nat) (zs : List Int) (ta : Option Addr) (tl tc : Nat) (ss : List Stm) (ma : Option Addr) (ml mc : Nat) (T : Tms) (a : Option Addr) (len cap : Nat) (L : Mem) (xa : Option Addr) (xl xc : Nat) (mix : List Int) (w : World) (hz : Ints w za zl zs) (hs : Stms w ta tl ss) (hT : TimesA w ma ml T) (hA : MemA w a len L) (hb24 : len * 24 ≤ 140737488355328) (hx : Ints w xa xl mix) (hE : rightE zs ss T = 0) (hF : fitsE zs L = 0) :
    CallsIn FW 9 Try.prog 16 #[.agg #[.slice za zl zc, .slice ta tl tc], .slice ma ml mc, .slice a len cap, .slice xa xl xc] w fun e w' => (∃ A n c, e = .returned (.tuple #[.slice A n c, .int .i64 0]) ∧ MemA w' A n ((playL T mix (spK ss ss.length).length 0 (spK ss ss.length)).foldl (spM ss) L)) ∧ Below w.heap.size w w' := by
  have hro : FW.round = none := rfl
  have B1 : Below w.heap.size w (w.alloc (.cells #[.slice za zl zc, .slice ta tl tc] 25)) := bl_new _
  have P0 := NsBlk.new w za zl zc ta tl tc
  obtain ⟨p0, p1⟩ := P0.cells
  have zn := P0.lt
  have hR := rightE_ok hE
  have hok := nestE_ok hR.ord.nest
  have hzz := hok.sizes
  have HW := hide (spots_good za zl zc zs ta tl tc ss ma ml mc T _ (hz.below B1) (hs.below B1) (hT.below B1) hE)
  have HNR := hide (fun V (hb : Below w.heap.size w V) => callsIn_wide.1 (nestRun_ok za zl zc zs none 0 0 [] a len cap L V (hz.below hb) ⟨rfl, by omega, .inl rfl⟩ (hA.below hb) (by omega) (by rw [run_nil hzz]; exact hF)))
  have HB := hide B1
  have HP0 := hide P0
  have HZ := hide hz
  have HA := hide hA
  have HXX := hide hx
  have HOK := hide hok
  have HF := hide hF
  have HS := hide hs
  obtain ⟨l, hl⟩ : ∃ l, l = spK ss ss.length := ⟨_, rfl⟩
  have HFEW : Hid (l.length ≤ 1024) := by rw [hl]; exact hR.few
  have HFST : Hid (∀ p ∈ l, p.1 < ss.length) := fun p hp => by rw [hl] at hp; exact spK_fst ss ss.length p hp
  rw [← hl] at HW ⊢
  clear hz hs hT P0 B1 hE hA hF hzz hok hR hx hl
  refine callsIn_of_wp_marks Try.func16 rfl trivial ?_ hro
  simp only [Try.ntmps16, List.size_toArray, List.length_cons, List.length_nil, Nat.reduceAdd, Nat.reduceSub, Array.replicate_succ, Array.replicate_zero, List.push_toArray, List.append_toArray, List.nil_append, List.cons_append]
  gi_wp2_with fail
  refine ⟨trivial, ?_⟩
  refine (callsIn_wide.2 HW.out).mono ?_
  rintro e w1 ⟨⟨v, B, rfl, hB, hO⟩, hb⟩
  have HO := hide hO
  have HB1 := hide (bl_on HB.out hb)
  have P1 := HP0.out.below hb
  have hBw : w.heap.size < B := by have := HP0.out.lt; omega
  obtain ⟨q0, q1⟩ := P1.cells
  have zq := P1.lt
  have HP1 := hide P1
  clear hb P1 hO p0 p1 zn HW HB HP0
  gi_wp2_with fail
  refine ⟨trivial, ?_⟩
  refine (callsIn_wide.2 (HNR.out w1 HB1.out)).mono ?_
  rintro e w2 ⟨⟨R, G, C, rfl, hM⟩, hb2⟩
  have HB2 := hide (bl_on HB1.out hb2)
  have HB12 := hide hb2
  have HM2 := hide hM
  have HP2 := hide (HP1.out.below hb2)
  have z12 := hb2.size
  clear hb2 hM q0 q1 HNR
  gi_wp2_with fail
  refine ⟨trivial, ?_⟩
  obtain ⟨W3, hW3⟩ : ∃ W3, W3 = w2.alloc (.cells #[.slice (some ⟨R, 0, none⟩) len len] 38) := ⟨_, rfl⟩
  have B23 : Below w2.heap.size w2 W3 := by rw [hW3]; exact bl_new _
  have hOB3 : W3.heap[w2.heap.size]? = some (.cells #[.slice (some ⟨R, 0, none⟩) len len] 38 (0, 0)) := by rw [hW3]; exact World.alloc_heap_new _ _
  rw [← hW3]
  have HB3 := hide (bl_on HB2.out B23)
  have hOs := lt_of_heap hOB3
  have HP3 := hide (HP2.out.below B23)
  refine (callsIn_wide.2 (inTurn_all T mix xa xl xc (spOf zs ss T) l v B (w.heap.size + 1) w1.heap.size w1 W3 HO.out (bl_on HB12.out B23) (by omega) (by omega) rfl (HXX.out.below HB3.out) (fun q b o e => ?_) (fun p => rfl) HFEW.out R G C (runM [] L) (HM2.out.below B23) w2.heap.size z12 hOs)).mono ?_
  · obtain ⟨b2, off, e2, h5⟩ := HXX.out.2.2.2.resolve_left (by omega)
    rw [e] at e2
    cases e2
    have := lt_of_cell (h5 0 q)
    simp only at this
    omega
  rintro e w4 ⟨hh, D, rfl, hh3, hrow, hDl, hDm, hDT, hM4, hO4, hb4⟩
  have HP4 : Hid (NsBlk w4 w.heap.size za zl zc ta tl tc) := (hb4.block _ (by omega)).trans HP3.out
  have HB4 := hide (HB3.out.trans (hb4.mono (by omega)))
  have HBX4 : Hid (MBox w4 w2.heap.size (some ⟨R, 0, none⟩) len len) := hO4.trans hOB3
  have z34 := hb4.size
  have HMM4 := hide (hM4.memA (show (runM [] L).length = len from HA.out.1) HA.out.2.1)
  have HROW4 := hide hrow
  have HDT := hide hDT
  have HDM := hide hDm
  have HDL := hide hDl
  clear hrow hDl hDm hDT hM4 hO4 hb4 hOB3 B23 HP3 HP2 HB2 HB12 HM2 hW3
  gi_wp2_with fail
  refine ⟨trivial, ?_⟩
  refine (callsIn_wide.2 (chunk_any _ _ _ w4)).mono ?_
  rintro e W5 ⟨rfl, hW5⟩
  have B45 : Below w4.heap.size w4 W5 := by rw [hW5]; exact bl_on (bl_new _) (bl_new _)
  have HP5 := hide (HP4.out.below B45)
  have HB5 := hide (bl_on HB4.out B45)
  have HBX5 := hide (HBX4.out.below B45)
  have HMM5 := hide (HMM4.out.below B45)
  have HROW5 := hide (HROW4.out.below B45)
  have HDT5 : Hid (∀ x ∈ D, x.2 ∈ l ∧ Lies B (fun V => TG V x.1 (spOf zs ss T x.2)) W5) := fun x hx => ⟨(HDT.out x hx).1, (HDT.out x hx).2.below B45⟩
  have hs5 : W5.heap.size = w4.heap.size + 2 := by rw [hW5]; simp
  have HC1 : Hid (W5.heap[w4.heap.size]? = some (.cells #[.slice (some ⟨hh, 0, none⟩) l.length l.length] 76 (0, 0))) := by
    rw [hW5]; exact (Below.heap_alloc _ _ _ (by simp)).trans (World.alloc_heap_new _ _)
  have HC2 : Hid (W5.heap[w4.heap.size + 1]? = some (.cells #[.int .i64 256] 3 (0, 0))) := by
    rw [hW5]
    have := World.alloc_heap_new (w4.alloc (.cells #[.slice (some ⟨hh, 0, none⟩) l.length l.length] 76)) (.cells #[.int .i64 256] 3)
    rwa [World.size_alloc] at this
  have hO4 := HBX4.out.lt
  clear B45 hW5 HP4 HB4 HBX4 HMM4 HROW4 HDT
  gi_wp2_with fail
  refine rangeFunc_vals (F := FW) (n := 9) hro (by omega) (gf := 76) (lb := #[.pointer (some ⟨w4.heap.size, 0, none⟩), .pointer (some ⟨w4.heap.size + 1, 0, none⟩)]) rfl trivial (enters_of Try.func76 (by kernel_rfl) rfl)
    (L := chunksV hh l.length) (Kp := ButN W5.heap.size w2.heap.size)
    (chunk1_tells 8 (by omega) w4.heap.size (w4.heap.size + 1) hh l.length (by have := HFEW.out; omega) (ButN W5.heap.size w2.heap.size) (ButFor w2.heap.size W5) (fun A hA => ⟨cell_of_one ((hA.2 _ (by omega) (by omega)).trans HC1.out), cell_of_one ((hA.2 _ (by omega) (by omega)).trans HC2.out)⟩) (fun A A' hA hb => hA.trans (ButFor.below hb)) (fun A A' hk => hk.1) (fun A A' hk hA => ⟨Nat.le_trans hA.1 hk.1, fun b hb hn => (hk.2 b hb hn).trans (hA.2 b hb hn)⟩) W5 (ButFor.refl _ _))
    (fun h1 h2 => h1.trans h2) (fun W l o o' hl ho hc _ => ButN.put W l o' hl) (Below.refl _ _) rfl
    (RInv w W5 w2.heap.size len (chM ss D L)) (fun _ _ => False)
    (RInv.own (by omega) HB5.out.size) (fun _ _ _ _ hs _ _ => hs) ⟨_, HBX5.out, (by rw [List.length_nil, chM_zero]; exact HMM5.out), ButFor.refl _ _, HB5.out⟩ ?a1 ?assign ?body ?done ?stop
  case assign =>
    intro l gx W K hK
    gi_wp2
    exact hK
  case stop =>
    rintro D c W _ h _
    exact h.elim
  case done =>
    rintro DD W hD hI hK
    have hI2 := (RInv.own (w := w) (len := len) (Ms := chM ss D L) (by omega) HB5.out.size).putObj (.deferred none) hI hD hK rfl
    obtain ⟨A, hb, _, _, _⟩ := hI
    obtain ⟨A2, hb2, hM2, _, hBB2⟩ := hI2
    have hA2 : A2 = A := by
      have h1 : (W.putObj DD (.deferred none)).heap[w2.heap.size]? = W.heap[w2.heap.size]? := World.putObj_heap_other (by omega)
      unfold MBox at hb hb2
      rw [h1, hb] at hb2
      simp only [Option.some.injEq, Obj.cells.injEq] at hb2
      have h3 := congrArg (fun a : Array Value => a[0]?) hb2.1
      simpa using h3.symm
    subst hA2
    have hcC := hb.cell
    have HK := hide hK
    have HM : Hid (MemA (W.putObj DD (.deferred none)) A2 len ((playL T mix l.length 0 l).foldl (spM ss) L)) := by
      have e : chM ss D L (chunksV hh l.length).length = (playL T mix l.length 0 l).foldl (spM ss) L := by
        unfold chM
        rw [List.take_of_length_le (by have := HDL.out; unfold chunksV; simp; omega), HDM.out]
      rw [Hid, ← e]
      exact hM2
    have HBB := hide hBB2
    clear hb hb2 hM2 hBB2 hK
    gi_wp2
    refine ⟨by simp, .inl ⟨_, _, rfl, run_takeDeferred HK.out, ?_⟩⟩
    exact ⟨_, results_tmp2 rfl _ _ _, ⟨A2, len, len, rfl, HM.out⟩, HBB.out⟩
  case body =>
    rintro lp pre x post W hL ⟨A, hbx, hM, hbut, hB⟩
    obtain ⟨hx, hj⟩ := chunk_at hL
    obtain ⟨j, hjj⟩ : ∃ j, j = pre.length := ⟨_, rfl⟩
    rw [← hjj] at hx hj hM
    obtain ⟨hr1, hr2⟩ := run_chunk T HOK.out HF.out D (fun y hy => HFST.out _ (HDT5.out y hy).1) j
    have HEA := hide (fun U (hb : Below W.heap.size W U) => each_chunk zs ss T D hh l.length j U ((HROW5.out.but hbut (by omega)).below hb) HDL.out HFEW.out hj (fun y hy => ⟨((HDT5.out y hy).2.out.but HBX5.out hbut).below hb, sp_b T HOK.out (by rw [HZ.out.1]; exact HZ.out.2.1) (stms_val HS.out) y.2 (HFST.out _ (HDT5.out y hy).1), gets_len HOK.out T y.2⟩))
    rw [← hx] at HEA
    obtain ⟨m, hm⟩ : ∃ m, m = min 256 (l.length - 256 * j) := ⟨_, rfl⟩
    obtain ⟨S, hS⟩ : ∃ S, S = (segL D j).map fun p => stmOf (spOf zs ss T p) := ⟨_, rfl⟩
    rw [← hm, ← hS] at HEA
    rw [← hS] at hr1 hr2
    have HRN := hide (fun (U : World) (R : Nat) (hb : Below W.heap.size W U) (hs : Stms U (some ⟨R, 0, none⟩) m S) => nestRun_put za zl zc zs (some ⟨R, 0, none⟩) m m S A len len _ U (HZ.out.below (bl_on hB hb)) hs (hM.below hb) (by omega) hr1 w2.heap.size len len (hbx.below hb))
    rw [hr2] at HRN
    have HNX := hide (fun (U w6 : World) (A' : Option Addr) (h1 : Below W.heap.size W U) (h2 : Below U.heap.size U w6) hM => RInv.next (Ms := chM ss D L) (pre := pre) (x := x) (A' := A') (by omega) (by omega) hbx hbut hB h1 h2 hM)
    rw [← hjj] at HNX
    have cO := hbx.cell
    have hns : NsBlk W w.heap.size za zl zc ta tl tc := (hbut.2 _ (by omega) (by omega)).trans HP5.out
    obtain ⟨n0, n1⟩ := hns.cells
    have zO := hbx.lt
    have zN := hns.lt
    have HBX := hide hbx
    clear hx hj hr1 hr2 hM hbut hB hL hbx hns hm hS hjj
    gi_wp2_with fail
    refine region_madeIn 6 11 [fIs (.pointer (some ⟨w.heap.size, 0, none⟩)), fIs (.slice za zl zc), fIs x, fChSt m S, fChNe za zl zc m S, fIs (.slice A len len)] (by kernel_rfl) (by kernel_rfl) (by kernel_rfl) (by kernel_rfl) (fun ⟨_, _, h⟩ => h) (fun _ ⟨_, _⟩ ⟨_, _⟩ _ e h => by cases e; exact h) ⟨fIs_good _, fIs_good _, fIs_good _, fChSt_good _ _, fChNe_good _ _ _ _ _, fIs_good _, trivial⟩ ?mk ?rest
    case mk =>
      refine ⟨fun u wz hb hd => ?_, fun u wz hb hd => ?_, fun u wz hb hd => ?_, fun u wz hb hd => ?_, fun u wz hb hd => ?_, fun u wz hb hd => ?_, trivial⟩
      all_goals simp only [Act.put, List.setIfInBounds_toArray, List.set_cons_zero, List.set_cons_succ]
      · go_simp
        exact ⟨rfl, Below.refl _ _, fun h => by cases h⟩
      · have e0 : u 0 = .pointer (some ⟨w.heap.size, 0, none⟩) := hd 0 (by omega) (by kernel_rfl)
        rw [e0]
        have n0' := (hb.cell (p := ⟨w.heap.size, 0, none⟩) (lt_of_cell n0)).trans n0
        go_simp
        exact ⟨rfl, Below.refl _ _, fun h => by cases h⟩
      · go_simp
        exact ⟨rfl, Below.refl _ _, fun h => by cases h⟩
      · have e2 : u 2 = x := hd 2 (by omega) (by kernel_rfl)
        rw [e2]
        go_simp
        refine (HEA.out wz hb).mono ?_
        rintro e w6 ⟨⟨R, rfl, hl⟩, hb2⟩
        exact ⟨⟨R, rfl, hl⟩, hb2, fun h => by cases h⟩
      · have e1 : u 1 = .slice za zl zc := hd 1 (by omega) (by kernel_rfl)
        obtain ⟨R3, e3, h3⟩ := hd 3 (by omega) (by kernel_rfl)
        rw [e1, e3]
        go_simp
        exact ⟨⟨R3, rfl, h3⟩, Below.refl _ _, fun h => by cases h⟩
      · have cO' := (hb.cell (p := ⟨w2.heap.size, 0, none⟩) (lt_of_cell cO)).trans cO
        go_simp
        exact ⟨rfl, Below.refl _ _, fun h => by cases h⟩
    case rest =>
      intro u wz hb hf hp
      have f0 : u 0 = .pointer (some ⟨w.heap.size, 0, none⟩) := hf 0 (by omega)
      have f1 : u 1 = .slice za zl zc := hf 1 (by omega)
      have f2 : u 2 = x := hf 2 (by omega)
      obtain ⟨R3, f3, _⟩ := hf 3 (by omega)
      obtain ⟨R4, f4, h4⟩ := hf 4 (by omega)
      have f5 : u 5 = .slice A len len := hf 5 (by omega)
      simp only [List.take, putOps, Act.put, List.setIfInBounds_toArray, List.set_cons_zero, List.set_cons_succ, Nat.reduceAdd, f0, f1, f2, f3, f4, f5]
      clear f0 f1 f2 f3 f4 f5 hf hp
      have H4 := hide h4
      have HBZ := hide hb
      clear h4 hb
      refine UptoW.one 6 (by kernel_rfl) (by kernel_rfl) rfl rfl (.inl ?_)
      go_simp
      refine (HRN.out wz R4 HBZ.out H4.out).mono ?_
      rintro e w6 ⟨⟨A', rfl, _, hM6⟩, hb6⟩
      have hbx6 := HBX.out.below (bl_on HBZ.out hb6)
      have c6 := hbx6.cell
      have fz6 := hbx6.free
      have z6 := hbx6.lt
      have HN := hide (HNX.out wz w6 A' HBZ.out hb6 hM6)
      clear hM6 hb6 hbx6
      simp only
      refine UptoW.one 7 (by kernel_rfl) (by kernel_rfl) rfl rfl (.inl ?_)
      go_simp
      refine UptoW.three 8 rfl rfl rfl rfl rfl rfl rfl (by kernel_rfl) (by kernel_rfl) (by kernel_rfl) (by kernel_rfl) (by kernel_rfl) (by kernel_rfl) (by kernel_rfl) (by kernel_rfl) (by kernel_rfl) ?_ ?_
      · go_simp
        refine ⟨?_, ?_⟩
        · go_wp2
          exact HN.out
        · go_wp2
          exact HN.out
      · go_wp2
        exact HN.out
end Go.Proofs.Ytkbdnhchlkafnaa.V
namespace Go.Proofs.Ytkbdnhchlkafnaa.V
open Go.RowKit

theorem oRun_any (za : Option Addr) (zl zc : Nat) (zs : List Int) (ta : Option Addr) (tl tc : Nat) (ss : List Stm) (ma : Option Addr) (ml mc : Nat) (T : Tms) (a : Option Addr) (len cap : Nat) (L : Mem) (xa : Option Addr) (xl xc : Nat) (mix : List Int) (w : World) (hz : Ints w za zl zs) (hs : Stms w ta tl ss) (hT : TimesA w ma ml T) (hA : MemA w a len L) (hb24 : len * 24 ≤ 140737488355328) (hx : Ints w xa xl mix) :
    Calls Try.prog 16 #[.agg #[.slice za zl zc, .slice ta tl tc], .slice ma ml mc, .slice a len cap, .slice xa xl xc] w fun e w' => (∃ A n c, e = .returned (.tuple #[.slice A n c, .int .i64 (ordRunE zs ss T L)]) ∧ MemA w' A n (ordM zs ss T mix L)) ∧ Below w.heap.size w w' := by
  by_cases h1 : rightE zs ss T = 0
  · by_cases h2 : fitsE zs L = 0
    · have e : ordRunE zs ss T L = 0 := by unfold ordRunE; rw [if_neg (by simpa using h1)]; exact h2
      unfold ordM
      rw [if_pos e, e]
      exact callsIn_wide.1 (oRun_ok za zl zc zs ta tl tc ss ma ml mc T a len cap L xa xl xc mix w hz hs hT hA hb24 hx h1 h2)
    · have e : ordRunE zs ss T L = fitsE zs L := by unfold ordRunE; rw [if_neg (by simpa using h1)]
      unfold ordM
      rw [if_neg (by rw [e]; exact h2), e]
      refine (oRun_bad2 za zl zc zs ta tl tc ss ma ml mc T a len cap L _ w hz hs hT hA h1 h2).mono ?_
      rintro e w' ⟨rfl, hb⟩
      exact ⟨⟨none, 0, 0, rfl, rfl, by omega, .inl rfl⟩, hb⟩
  · have e : ordRunE zs ss T L = rightE zs ss T := by unfold ordRunE; rw [if_pos (by simpa using h1)]
    unfold ordM
    rw [if_neg (by rw [e]; exact h1), e]
    refine (oRun_bad1 za zl zc zs ta tl tc ss ma ml mc T _ _ w hz hs hT h1).mono ?_
    rintro e w' ⟨rfl, hb⟩
    exact ⟨⟨none, 0, 0, rfl, rfl, by omega, .inl rfl⟩, hb⟩
end Go.Proofs.Ytkbdnhchlkafnaa.V
namespace Go.Proofs.Ytkbdnhchlkafnaa.V
open Go.RowKit
set_option linter.unusedVariables false

def aliveS : Stm := ⟨[], [], 1, 7, (0, ([], 0)), []⟩
theorem alive_E : ordRunE [1] [aliveS] [[]] [[0]] = 0 := by decide +kernel
theorem alive_M : ordM [1] [aliveS] [[]] [] [[0]] = [[7]] := by decide +kernel
set_option maxRecDepth 100000 in
set_option maxHeartbeats 4000000 in
theorem alive11_ok (w : World) : Calls Try.prog 26 #[] w fun e w' => e = .returned (.bool true) ∧ Below w.heap.size w w' := by
  obtain ⟨W, hW⟩ : ∃ W, W = ((((w.alloc (.cells #[.int .i64 1] 3)).alloc (.cells #[.slice none 0 0, .slice none 0 0, .int .i64 1, .int .i64 7, .int .i64 0, .slice none 0 0, .int .i64 0, .slice none 0 0] 75)).alloc (.cells #[.slice none 0 0] 48)).alloc (.cells #[.int .i64 0] 2)).alloc (.cells #[.slice (some ⟨w.heap.size + 1 + 1 + 1, 0, none⟩) 1 1] 93) := ⟨_, rfl⟩
  have BW : Below w.heap.size w W := by rw [hW]; exact bl_on (bl_new _) (bl_on (bl_new _) (bl_on (bl_new _) (bl_on (bl_new _) (bl_new _))))
  have G0 : W.heap[w.heap.size]? = some (.cells #[.int .i64 1] 3 (0, 0)) := by
    rw [hW]
    exact (Below.heap_alloc _ _ _ (by simp <;> omega)).trans ((Below.heap_alloc _ _ _ (by simp <;> omega)).trans ((Below.heap_alloc _ _ _ (by simp <;> omega)).trans ((Below.heap_alloc _ _ _ (by simp)).trans (World.alloc_heap_new w _))))
  have G1 : W.heap[w.heap.size + 1]? = some (.cells #[.slice none 0 0, .slice none 0 0, .int .i64 1, .int .i64 7, .int .i64 0, .slice none 0 0, .int .i64 0, .slice none 0 0] 75 (0, 0)) := by
    rw [hW]
    refine (Below.heap_alloc _ _ _ (by simp <;> omega)).trans ((Below.heap_alloc _ _ _ (by simp <;> omega)).trans ((Below.heap_alloc _ _ _ (by simp)).trans ?_))
    have := World.alloc_heap_new (w.alloc (.cells #[.int .i64 1] 3)) (.cells #[.slice none 0 0, .slice none 0 0, .int .i64 1, .int .i64 7, .int .i64 0, .slice none 0 0, .int .i64 0, .slice none 0 0] 75)
    rw [World.size_alloc] at this
    exact this
  have G2 : W.heap[w.heap.size + 1 + 1]? = some (.cells #[.slice none 0 0] 48 (0, 0)) := by
    rw [hW]
    refine (Below.heap_alloc _ _ _ (by simp <;> omega)).trans ((Below.heap_alloc _ _ _ (by simp)).trans ?_)
    have := World.alloc_heap_new ((w.alloc (.cells #[.int .i64 1] 3)).alloc (.cells #[.slice none 0 0, .slice none 0 0, .int .i64 1, .int .i64 7, .int .i64 0, .slice none 0 0, .int .i64 0, .slice none 0 0] 75)) (.cells #[.slice none 0 0] 48)
    rw [World.size_alloc, World.size_alloc] at this
    exact this
  have G3 : W.heap[w.heap.size + 1 + 1 + 1]? = some (.cells #[.int .i64 0] 2 (0, 0)) := by
    rw [hW]
    refine (Below.heap_alloc _ _ _ (by simp)).trans ?_
    have := World.alloc_heap_new (((w.alloc (.cells #[.int .i64 1] 3)).alloc (.cells #[.slice none 0 0, .slice none 0 0, .int .i64 1, .int .i64 7, .int .i64 0, .slice none 0 0, .int .i64 0, .slice none 0 0] 75)).alloc (.cells #[.slice none 0 0] 48)) (.cells #[.int .i64 0] 2)
    rw [World.size_alloc, World.size_alloc, World.size_alloc] at this
    exact this
  have G4 : W.heap[w.heap.size + 1 + 1 + 1 + 1]? = some (.cells #[.slice (some ⟨w.heap.size + 1 + 1 + 1, 0, none⟩) 1 1] 93 (0, 0)) := by
    rw [hW]
    have := World.alloc_heap_new ((((w.alloc (.cells #[.int .i64 1] 3)).alloc (.cells #[.slice none 0 0, .slice none 0 0, .int .i64 1, .int .i64 7, .int .i64 0, .slice none 0 0, .int .i64 0, .slice none 0 0] 75)).alloc (.cells #[.slice none 0 0] 48)).alloc (.cells #[.int .i64 0] 2)) (.cells #[.slice (some ⟨w.heap.size + 1 + 1 + 1, 0, none⟩) 1 1] 93)
    rw [World.size_alloc, World.size_alloc, World.size_alloc, World.size_alloc] at this
    exact this
  have hno : ∀ (w : World), Ints w none 0 [] := fun w => ⟨rfl, by omega, fun x h => (by simp at h), .inl rfl⟩
  have hz : Ints W (some ⟨w.heap.size, 0, none⟩) 1 [1] := ⟨rfl, by omega, fun x h => (by simp at h; omega), .inr ⟨_, _, rfl, fun j hj => by obtain rfl : j = 0 := (by omega); simp [World.cell?, G0]⟩⟩
  have hs : Stms W (some ⟨w.heap.size + 1, 0, none⟩) 1 [aliveS] := by
    refine ⟨rfl, by omega, .inr ⟨_, _, rfl, fun j hj => ?_⟩⟩
    obtain rfl : j = 0 := by omega
    refine ⟨⟨none, 0, 0, none, 0, 0, 1, 7, ⟨0, none, 0, 0, 0⟩, none, 0, 0⟩, ⟨⟨hno _, Nat.le_refl _, fun _ => rfl⟩, ⟨rfl, Nat.zero_le _, .inl rfl⟩, rfl, rfl, ⟨rfl, rfl, hno _, ⟨Nat.le_refl _, fun _ => rfl⟩, by simp [aliveS, B64], by simp [aliveS, B64]⟩, ⟨rfl, Nat.zero_le _, .inl rfl⟩, by simp [aliveS, B64], by simp [aliveS, B64]⟩, ?_⟩
    simp [World.cell?, G1]
  have hT : TimesA W (some ⟨w.heap.size + 1 + 1, 0, none⟩) 1 [[]] := ⟨rfl, by omega, .inr ⟨_, _, rfl, fun i hi => by obtain rfl : i = 0 := (by omega); exact ⟨none, 0, 0, by simp [World.cell?, G2], ⟨rfl, by omega, .inl rfl⟩⟩⟩⟩
  have hL : Ints W (some ⟨w.heap.size + 1 + 1 + 1, 0, none⟩) 1 [0] := ⟨rfl, by omega, fun x h => (by simp at h; omega), .inr ⟨_, _, rfl, fun j hj => by obtain rfl : j = 0 := (by omega); simp [World.cell?, G3]⟩⟩
  have c4 : W.cell? ⟨w.heap.size + 1 + 1 + 1 + 1, 0, none⟩ = some (.slice (some ⟨w.heap.size + 1 + 1 + 1, 0, none⟩) 1 1) := by simp [World.cell?, G4]
  have hA : MemA W (some ⟨w.heap.size + 1 + 1 + 1 + 1, 0, none⟩) 1 [[0]] := by
    refine ⟨rfl, by omega, .inr ⟨_, _, rfl, fun i hi => ?_⟩⟩
    obtain rfl : i = 0 := by omega
    exact ⟨_, 1, 1, c4, hL, Nat.le_refl _, fun e => by cases e⟩
  have HC := hide (oRun_any (some ⟨w.heap.size, 0, none⟩) 1 1 [1] (some ⟨w.heap.size + 1, 0, none⟩) 1 1 [aliveS] (some ⟨w.heap.size + 1 + 1, 0, none⟩) 1 1 [[]] (some ⟨w.heap.size + 1 + 1 + 1 + 1, 0, none⟩) 1 1 [[0]] none 0 0 [] W hz hs hT hA (by omega) (hno W))
  rw [alive_E, alive_M] at HC
  have HW := hide hW
  have HB := hide BW
  clear hz hs hT hA hL c4 G0 G1 G2 G3 G4 hno hW BW
  go_enter Try.func26, Try.ntmps26
  go_wp2_with fail
  rw [← HW.out]
  refine HC.out.mono ?_
  rintro e w1 ⟨⟨A, n, c, rfl, hm⟩, hb⟩
  have HB1 := hide (bl_on HB.out hb)
  obtain ⟨h1, h2, h3⟩ := hm
  obtain rfl : n = 1 := by simpa using h1.symm
  obtain ⟨b, off, rfl, h4⟩ := h3.resolve_left (by omega)
  obtain ⟨x, l, c2, k1, k2⟩ := h4 0 (by omega)
  rw [Nat.add_zero] at k1
  have hl : l = 1 := by have := k2.1.1; simpa [arrM] using this.symm
  subst hl
  obtain ⟨b2, off2, rfl, k3⟩ := k2.1.2.2.2.resolve_left (by omega)
  have k4 := k3 0 (by omega)
  have e7 : (arrM [[7]] 0)[0]?.getD 0 = 7 := by decide
  rw [Nat.add_zero, e7] at k4
  have z1 := lt_of_cell k1
  have z2 := lt_of_cell k4
  simp only at z1 z2
  clear hb h1 h2 h3 h4 k2 k3
  go_wp2_with fail
  go_ret
  exact ⟨rfl, HB1.out⟩
end Go.Proofs.Ytkbdnhchlkafnaa.V
